
/- The model's squares. -/
import Derived.Test.YtlchcnngikgjjaaSS3
import Derived.Test.YtlchcnngikgjjaaSpecA
namespace Go.Proofs.Ytlchcnngikgjjaa
open Go.RowKit Go.Maps
theorem AccS.new0 (W : World) (gs caps : Nat → Nat) (F : Nat → List Int) {base : Nat} (hb : base ≤ W.heap.size) : AccS (W.alloc (.cells #[] 36)) base (.slice (some ⟨W.heap.size, 0, none⟩) 0 0) 0 gs caps F :=
  ⟨⟨rfl, .inr ⟨W.heap.size, 0, #[], rfl, hb, World.alloc_heap_new W _, Nat.le_refl _, Nat.zero_le _, rfl, rfl⟩⟩, fun k hk => by omega, fun k hk => by omega, fun j k _ hk => by omega, fun k hk => by omega⟩
set_option maxRecDepth 100000 in
set_option maxHeartbeats 1000000 in
theorem l02Made_any (N : Nat) (h1 : 2 ≤ N) (h2 : N ≤ 5) (w : World) : Calls Try.prog 140 #[.int .i64 (N : Int)] w (fun e w' => ∃ G cap gs caps, e = .returned (.slice (some ⟨G, 0, none⟩) N cap) ∧ Below w.heap.size w w' ∧ w.heap.size ≤ G ∧ SSR w' w.heap.size G gs caps N (rowF N)) := by
  have hnw := AccS.new0 w (fun _ => 0) (fun _ => 0) (rowF N) (Nat.le_refl _)
  have HNW := Lib.hid hnw
  clear hnw
  go_enter Try.func140, Try.ntmps140
  go_wp2_with fail
  go_loopw [3, 4] (fun o t wr => ∃ (k : Nat) (gs caps : Nat → Nat), k ≤ N ∧ t = .int .i64 k ∧ Below w.heap.size w wr ∧ AccS wr w.heap.size o k gs caps (rowF N) ∧ ∃ a c, o = .slice a k c) (fun _ t _ => N - (intOf t).toNat)
  case atStart => exact ⟨0, fun _ => 0, fun _ => 0, Nat.zero_le _, rfl, (Below.refl _ _).alloc (Nat.le_refl _) _, HNW.out, _, _, rfl⟩
  case round =>
    obtain ⟨k, gs, caps, hk, rfl, hB, hA, a3, c3, rfl⟩ := hrel
    obtain ⟨W0, rfl⟩ : ∃ W0, W0 = wr := ⟨_, rfl⟩
    have hz := hB.size
    have HA := Lib.hid hA
    clear hA
    by_cases hkl : k < N
    · have g0 : (0 : Int) ≤ (k : Int) := by omega
      have g1 : (k : Int) < (N : Int) := by omega
      have HO0 := Lib.hid (OwnJ.new0 W0 (Nat.le_refl _))
      go_wp2_with fail
      go_loopw [5, 6] (fun o t wx => ∃ j : Nat, j ≤ N ∧ t = .int .i64 j ∧ Below W0.heap.size W0 wx ∧ W0.heap.size < wx.heap.size ∧ OwnJ wx W0.heap.size o (rowP N k j) ∧ ∃ a c, o = .slice (some a) j c) (fun _ t _ => N - (intOf t).toNat)
      case atStart => exact ⟨0, Nat.zero_le _, rfl, (Below.refl _ _).alloc (Nat.le_refl _) _, by simp, HO0.out, _, _, rfl⟩
      case round =>
        obtain ⟨j, hj, rfl, hb, hzz, ho, a4, c4, rfl⟩ := hrel
        have HO := Lib.hid ho
        clear ho
        by_cases hjl : j < N
        · have i0 : (0 : Int) ≤ (j : Int) := by omega
          have i1 : (j : Int) < (N : Int) := by omega
          have n0 : ((N : Int) == 0) = false := by simp; omega
          obtain ⟨σ, hσ⟩ : ∃ σ, ((k : Int) + (j : Int)) % (N : Int) = σ := ⟨_, rfl⟩
          have s0 : 0 ≤ σ := by rw [← hσ]; exact Int.emod_nonneg _ (by omega)
          have s1 : σ ≤ 4 := by have := Int.emod_lt_of_pos ((k : Int) + (j : Int)) (b := (N : Int)) (by omega); omega
          have hl := rowP_len N k j
          have hsucc := rowP_succ N k j
          obtain ⟨z, hz'⟩ : ∃ z, hf N ((k : Int) + (j : Int)) = z := ⟨_, rfl⟩
          rw [hz'] at hsucc
          unfold hf at hz'
          rw [hσ] at hz'
          have HS := Lib.hid hsucc
          clear hsucc
          have tm : σ.tmod 2 = σ % 2 := Int.tmod_eq_emod_of_nonneg s0
          have td : σ.tdiv 2 = σ / 2 := Int.tdiv_eq_ediv_of_nonneg s0
          have cont : ∀ (g' cap' : Nat) (w4 w5 : World), OwnJ w4 W0.heap.size (.slice (some ⟨g', 0, none⟩) (j + 1) cap') (rowP N k j ++ [z]) → wr.heap.size ≤ w5.heap.size → Below W0.heap.size W0 w5 → w5.grownBy w4 (some a4.block) → (Below W0.heap.size W0 w4 ∧ W0.heap.size < w4.heap.size ∧ OwnJ w4 W0.heap.size (.slice (some ⟨g', 0, none⟩) (j + 1) cap') (rowP N k (j + 1))) := fun g' cap' w4 w5 hO hz5 hb5 hg4 => by
            have hrow := HO.out.row a4.block rfl
            refine ⟨hb5.grown hg4 (by omega) (fun r e => by simp at e; omega), by have := hg4.size; omega, ?_⟩
            rw [HS.out]
            exact hO
          have CONT := Lib.hid cont
          clear cont
          by_cases hs2 : σ % 2 = 0
          · rw [if_pos hs2] at hz'
            rw [hs2] at tm
            rw [hz'] at td
            have z0 : -10 ≤ z := by omega
            have z1 : z ≤ 10 := by omega
            clear hz'
            go_wp2_with (at_builtin; refine wpList_append_int rfl _ _ rfl W0.heap.size _ (rowP N k j) rfl (HO.out.below ((Below.refl _ _).alloc (Nat.le_refl _) _) (Nat.le_refl _)) _ _ z rfl (by simp [go_sem]) (by rw [rowP_len]; omega) (by simp; omega) ?_; rw [hl]; intro g' cap' w4 hO4 hg4)
            obtain ⟨r1, r2, r3⟩ := CONT.out g' cap' w4 _ hO4 (by simp) (hb.trans ((Below.refl _ _).alloc (by have := hb.size; omega) _)) hg4
            go_roundw
            case rel => exact ⟨j + 1, by omega, by go_num, r1, r2, r3, _, _, rfl⟩
            case measure => simp [intOf]; omega
          · rw [if_neg hs2] at hz'
            have hs1 : σ % 2 = 1 := by omega
            rw [hs1] at tm
            by_cases hn2 : (N : Int) % 2 = 0
            · rw [if_pos hn2] at hz'
              have td2 : (σ + N - 1).tdiv 2 = z := by rw [Int.tdiv_eq_ediv_of_nonneg (by omega)]; exact hz'
              have z0 : -10 ≤ z := by omega
              have z1 : z ≤ 10 := by omega
              go_wp2_with (at_builtin; refine wpList_append_int rfl _ _ rfl W0.heap.size _ (rowP N k j) rfl (HO.out.below ((Below.refl _ _).alloc (Nat.le_refl _) _) (Nat.le_refl _)) _ _ z rfl (by simp [go_sem]) (by rw [rowP_len]; omega) (by simp; omega) ?_; rw [hl]; intro g' cap' w4 hO4 hg4)
              obtain ⟨r1, r2, r3⟩ := CONT.out g' cap' w4 _ hO4 (by simp) (hb.trans ((Below.refl _ _).alloc (by have := hb.size; omega) _)) hg4
              go_roundw
              case rel => exact ⟨j + 1, by omega, by go_num, r1, r2, r3, _, _, rfl⟩
              case measure => simp [intOf]; omega
            · rw [if_neg hn2] at hz'
              have hn1 : (N : Int) % 2 = 1 := by omega
              have td2 : (σ + N).tdiv 2 = z := by rw [Int.tdiv_eq_ediv_of_nonneg (by omega)]; exact hz'
              have z0 : -10 ≤ z := by omega
              have z1 : z ≤ 10 := by omega
              go_wp2_with (at_builtin; refine wpList_append_int rfl _ _ rfl W0.heap.size _ (rowP N k j) rfl (HO.out.below ((Below.refl _ _).alloc (Nat.le_refl _) _) (Nat.le_refl _)) _ _ z rfl (by simp [go_sem]) (by rw [rowP_len]; omega) (by simp; omega) ?_; rw [hl]; intro g' cap' w4 hO4 hg4)
              obtain ⟨r1, r2, r3⟩ := CONT.out g' cap' w4 _ hO4 (by simp) (hb.trans ((Below.refl _ _).alloc (by have := hb.size; omega) _)) hg4
              go_roundw
              case rel => exact ⟨j + 1, by omega, by go_num, r1, r2, r3, _, _, rfl⟩
              case measure => simp [intOf]; omega
        · obtain rfl : N = j := by omega
          have hlt := ownsRow_lt HA.out.own
          have hlen : (rowF N k).length = N := by simp [rowF, rowP_len]
          have hres := HO.out.res (by rw [rowP_len]; omega)
          rcases hres with ⟨e, _⟩ | ⟨g, cap0, e, hg0, hg1, hrow⟩
          · have := congrArg List.length e
            rw [rowP_len] at this
            simp at this
            omega
          · rw [rowP_len] at e
            simp at e
            obtain ⟨rfl, rfl⟩ := e
            have hrow : OwnAtI wr g (rowF N k) := hrow
            have hA2 : AccS wr w.heap.size (.slice a3 k c3) k gs caps (rowF N) := HA.out.below hb (Nat.le_refl _)
            have hgt : ∀ q, q < k → gs q < g := fun q hq => by have := (HA.out.row q hq).lt; omega
            have hng : (Value.slice a3 k c3).ownBlock ≠ some g := fun e => by have := hlt _ e; omega
            have hlow : ∀ r, (Value.slice a3 k c3).ownBlock = some r → w.heap.size ≤ r := fun r e => (hlt r e).1
            have hB2 : Below w.heap.size w wr := hB.trans (hb.mono hz)
            have hz2 := hB2.size
            have hwg : w.heap.size ≤ g := by omega
            have HA2 := Lib.hid hA2
            have HROW := Lib.hid hrow
            have HGT := Lib.hid hgt
            have HNG := Lib.hid hng
            have HLEN := Lib.hid hlen
            have HLOW := Lib.hid hlow
            clear hlt hA2 hrow hlen hgt hng hlow HA HO HO0
            go_wp2_with (at_builtin; refine wpList_append_row rfl _ _ rfl w.heap.size _ k gs caps (rowF N) rfl (HA2.out.below ((Below.refl _ _).alloc (Nat.le_refl _) _) (Nat.le_refl _)) _ _ rfl g c4 (by rw [HLEN.out]; simp [go_sem]) (HROW.out.kept (World.grownBy_alloc _ _ none) (by simp)) HGT.out HNG.out hwg (by omega) (by simp; omega) ?_; intro G cap w4 gs' caps' hA4 hg4)
            have hB4 := (hB2.trans ((Below.refl _ wr).alloc hz2 _)).grown hg4 (by simp; omega) HLOW.out
            go_roundw
            case rel => exact ⟨k + 1, gs', caps', by omega, by go_num, hB4, hA4, _, _, rfl⟩
            case measure => simp [intOf]; omega
    · obtain rfl : N = k := by omega
      obtain ⟨G, cap, hu, hG, hS⟩ := HA.out.ssr (by omega)
      cases hu
      go_wp2
      go_ret
      exact ⟨G, _, gs, caps, rfl, hB, hG, hS⟩
theorem l01In_val (n : Int) (β : Bool) (hβ : (decide ((2 : Int) ≤ n) && decide (n ≤ 5)) = β) (W : World) : Calls Try.prog 102 #[.int .i64 n, .int .i64 2, .int .i64 5] W (RS (.bool β) W) := by
  have h := l01In_any n 2 5 W
  rw [hβ] at h
  exact h
theorem specSquareOf_out (n : Int) (h : n < 2 ∨ 5 < n) (w : World) : Calls Try.prog 69 #[.int .i64 n] w (RV (.tuple #[.slice none 0 0, .int .i64 2]) w) := by
  have HL := Lib.hid fun W => l01In_val n false (by simp; omega) W
  clear h
  go_enter Try.func69, Try.ntmps69
  go_wp2_with (go_at_call 102; refine (HL.out _).mono ?_; rintro e w1 ⟨rfl, rfl⟩)
  go_ret2
  exact RV_of rfl (Below.refl _ _)
theorem specSquareOf_in (N : Nat) (h1 : 2 ≤ N) (h2 : N ≤ 5) (w : World) : Calls Try.prog 69 #[.int .i64 (N : Int)] w (RSS N (rowF N) 0 w) := by
  have HL := Lib.hid fun W => l01In_val (N : Int) true (by simp; omega) W
  have HM := Lib.hid fun W => l02Made_any N h1 h2 W
  go_enter Try.func69, Try.ntmps69
  go_wp2_with (first | (go_at_call 102; refine (HL.out _).mono ?_; rintro e w1 ⟨rfl, rfl⟩) | (go_at_call 140; refine (HM.out _).mono ?_; rintro e w1 ⟨G, cap, gs, caps, rfl, hB, hG, hS⟩))
  go_ret2
  exact ⟨_, G, cap, gs, caps, rfl, hB, rfl, hG, hS⟩
end Go.Proofs.Ytlchcnngikgjjaa


/- impl.SquareOf makes the square of its number. -/
import Derived.Test.YtlchcnngikgjjaaSS2
namespace Go.Proofs.Ytlchcnngikgjjaa
open Go.RowKit Go.Maps
theorem mkRow (n : Nat) (hn : n ≤ 1100000) (W : World) : (Instr.makeSlice 36 (.int .i64 (n : Int)) (.int .i64 (n : Int))).run Try.prog W = .ok (.slice (some ⟨W.heap.size, 0, none⟩) n n) (W.alloc (.cells (madeCells #[.int .i64 0] n) 2)) := by
  obtain ⟨i0, hi, hz0, hz1, hz2⟩ := info_parts infoInt64
  have hr := run_make (P := Try.prog) W 36 2 i0 (.int .i64 0) Try.underlying36 hi hz0 .i64 .i64 n n (by omega) (by omega) (by rw [hz2]; omega) (by omega)
  simp only [Int.toNat_natCast, hz1, Nat.mul_one] at hr
  exact hr
set_option maxRecDepth 100000 in
theorem SquareOf_out (n : Int) (h : n < 2 ∨ 5 < n) (w : World) : Calls Try.prog 70 #[.int .i64 n] w (RV (.tuple #[.slice none 0 0, .int .i64 2]) w) := by
  by_cases h1 : n < 2
  · clear h
    go_enter Try.func70, Try.ntmps70
    go_wp2
    go_ret2
    exact RV_of rfl (Below.refl _ _)
  · have h2 : 5 < n := by omega
    clear h
    go_enter Try.func70, Try.ntmps70
    go_wp2
    go_ret2
    exact RV_of rfl (Below.refl _ _)
set_option maxRecDepth 100000 in
set_option maxHeartbeats 1000000 in
theorem SquareOf_in (N : Nat) (h1 : 2 ≤ N) (h2 : N ≤ 5) (w : World) : Calls Try.prog 70 #[.int .i64 (N : Int)] w (RSS N (rowF N) 0 w) := by
  have hm := mkRow N (by omega)
  have hN2 : ¬ ((N : Int) < 2) := by omega
  have hN5 : ¬ ((N : Int) > 5) := by omega
  go_enter Try.func70, Try.ntmps70
  go_wp2_with fail
  go_loopw [4, 15] (fun o t wr => ∃ (k : Nat) (gs caps : Nat → Nat), k ≤ N ∧ t = .int .i64 k ∧ Below w.heap.size w wr ∧ AccS wr w.heap.size o k gs caps (rowF N) ∧ ∃ a c, o = .slice a k c) (fun _ t _ => N - (intOf t).toNat)
  case atStart => exact ⟨0, fun _ => 0, fun _ => 0, Nat.zero_le _, rfl, Below.refl _ _, AccS.nil _ _ _ _ _, _, _, rfl⟩
  case round =>
    obtain ⟨k, gs, caps, hk, rfl, hB, hA, a3, c3, rfl⟩ := hrel
    obtain ⟨W0, rfl⟩ : ∃ W0, W0 = wr := ⟨_, rfl⟩
    have hz := hB.size
    have HA := Lib.hid hA
    clear hA
    by_cases hkl : k < N
    · have g0 : (0 : Int) ≤ (k : Int) := by omega
      have g1 : (k : Int) < (N : Int) := by omega
      have hgr := only_refl (W0.alloc (.cells (madeCells #[.int .i64 0] N) 2)) (some W0.heap.size)
      have hmd := made_ints W0 N 2
      have HMD := Lib.hid hmd
      clear hmd
      go_wp2_with fail
      go_loopw [21] (fun t wx => ∃ j : Nat, j ≤ N ∧ t = .int .i64 j ∧ (W0.alloc (.cells (madeCells #[.int .i64 0] N) 2)).grownBy wx (some W0.heap.size) ∧ OwnAtI wx W0.heap.size (rowP N k j ++ List.replicate (N - j) 0)) (fun t _ => N - (intOf t).toNat)
      case atStart => exact ⟨0, Nat.zero_le _, rfl, hgr, by simpa [rowP] using HMD.out⟩
      case round =>
        obtain ⟨j, hj, rfl, hg, ho⟩ := hrel
        by_cases hjl : j < N
        · have hlj : j < (rowP N k j ++ List.replicate (N - j) 0).length := by rw [List.length_append, rowP_len, List.length_replicate]; omega
          have c1 := ho.at_ j hlj
          rw [Nat.zero_add] at c1
          have f1 := ho.free
          have hs := Ints.set ho.at_ hlj (hf N ((k : Int) + (j : Int)))
          rw [rowP_next N k j hjl] at hs
          have HS := Lib.hid hs
          have hlt := ho.lt
          clear hs ho
          have HF := Lib.hid fun W => halfOf_any N ((k : Int) + (j : Int)) (by omega) (by omega) (by omega) (by omega) W
          obtain ⟨z, hzz⟩ : ∃ z, z = hf N ((k : Int) + (j : Int)) := ⟨_, rfl⟩
          rw [← hzz] at HS HF
          clear hzz
          have i0 : (0 : Int) ≤ (j : Int) := by omega
          have i1 : (j : Int) < (N : Int) := by omega
          go_wp2_with (go_at_call 141; refine (HF.out _).mono ?_; rintro e w1 ⟨rfl, rfl⟩)
          go_roundw
          case rel => exact ⟨j + 1, by omega, by go_num, only_setCell hg rfl _, ⟨by simpa [World.setCell] using hlt, HS.out, fun o => by rw [World.frozen?_setCell]; exact f1 o⟩⟩
          case measure => simp [intOf]; omega
        · obtain rfl : N = j := by omega
          have hlt := ownsRow_lt HA.out.own
          have hal : Below W0.heap.size W0 (W0.alloc (.cells (madeCells #[.int .i64 0] N) 2)) := (Below.refl _ _).alloc (Nat.le_refl _) _
          have hA2 : AccS wr w.heap.size (.slice a3 k c3) k gs caps (rowF N) := (HA.out.below hal (Nat.le_refl _)).kept hg (.inr fun e => by have := hlt _ e; omega) (fun q hq e => by
            have e' : gs q = W0.heap.size := by simpa using e
            have := (HA.out.row q hq).lt
            omega)
          have hrow : OwnAtI wr W0.heap.size (rowF N k) := by simpa [rowF] using ho
          have hlen : (rowF N k).length = N := by simp [rowF, rowP_len]
          have hgt : ∀ q, q < k → gs q < W0.heap.size := fun q hq => (HA.out.row q hq).lt
          have hng : (Value.slice a3 k c3).ownBlock ≠ some W0.heap.size := fun e => by have := hlt _ e; omega
          have hlow : ∀ r, (Value.slice a3 k c3).ownBlock = some r → w.heap.size ≤ r := fun r e => (hlt r e).1
          have hB2 : Below w.heap.size w wr := (hB.trans (hal.mono hz)).grown hg (by simp; omega) (fun r e => by simp at e; omega)
          have hz2 := hB2.size
          have HA2 := Lib.hid hA2
          have HROW := Lib.hid hrow
          have HGT := Lib.hid hgt
          have HNG := Lib.hid hng
          have HLEN := Lib.hid hlen
          have HLOW := Lib.hid hlow
          clear hlt hal hA2 hrow hlen hgt hng hlow ho HA HMD
          go_wp2_with (at_builtin; refine wpList_append_row rfl _ _ rfl w.heap.size _ k gs caps (rowF N) rfl (HA2.out.below ((Below.refl _ _).alloc (Nat.le_refl _) _) (Nat.le_refl _)) _ _ rfl W0.heap.size N (by rw [HLEN.out]; simp [go_sem]) (HROW.out.kept (World.grownBy_alloc _ _ none) (by simp)) HGT.out HNG.out hz (by omega) (by simp; omega) ?_; intro G cap w4 gs' caps' hA4 hg4)
          have hB4 := (hB2.trans ((Below.refl _ wr).alloc hz2 _)).grown hg4 (by simp; omega) HLOW.out
          go_roundw
          case rel => exact ⟨k + 1, gs', caps', by omega, by go_num, hB4, hA4, _, _, rfl⟩
          case measure => simp [intOf]; omega
    · go_wp2
      go_ret2
      have e : k = N := by omega
      subst e
      obtain ⟨G, cap, hu, hG, hS⟩ := HA.out.ssr (by omega)
      exact ⟨_, G, cap, gs, caps, rfl, hB, hu, hG, hS⟩
end Go.Proofs.Ytlchcnngikgjjaa

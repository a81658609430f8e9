
/- The model's DoubleSystem answers as dblF. -/
import Derived.Test.YtlchcnngikgjjaaDbl
import Derived.Test.YtlchcnngikgjjaaSrt4
import Derived.Test.YtlchcnngikgjjaaL01B
namespace Go.Proofs.Ytlchcnngikgjjaa
open Go.RowKit Go.Maps
theorem l01Block_is {a b c p q r : Int} (W : World) (a0 : 0 ≤ a) (a1 : a ≤ 1000) (b0 : 0 ≤ b) (b1 : b ≤ 1000) (c0 : 0 ≤ c) (c1 : c ≤ 1000) (hp : p = min (min a b) c) (hr : r = max (max a b) c) (hq : q = a + b + c - p - r) :
    Calls Try.prog 91 #[.int .i64 a, .int .i64 b, .int .i64 c] W (RV (.agg #[.int .i64 p, .int .i64 q, .int .i64 r]) W) := by
  have h := l01Block_any a b c W a0 a1 b0 b1 c0 c1
  rw [blk3_of hp hr hq] at h
  exact h
set_option maxRecDepth 100000 in
set_option maxHeartbeats 1000000 in
theorem specDoubleSystem_any (v : Int) (s : Value) (bs : List Blk) (w : World) (h : SB w s bs) :
    Calls Try.prog 24 #[.agg #[.int .i64 v, s]] w (RSys (dblF v bs) w) := by
  have hs := h.slice
  have HI := Lib.hid fun W (hb : Below w.heap.size w W) => l01Is_any v s bs W (h.below hb (Nat.le_refl _))
  have HSB := Lib.hid h
  have hlen := h.2.1
  clear h
  obtain ⟨a0, c0, rfl⟩ := hs
  cases hi : isSysImpl v bs with
  | false =>
    have hval : dblF v bs = (0, [], 1) := by simp [dblF, hi]
    rw [hval]
    rw [hi] at HI
    clear hval hi HSB
    go_enter Try.func24, Try.ntmps24
    go_wp2_with (go_at_call 89; refine (HI.out _ (below2 _ _ _ _)).mono ?_; rintro e w1 ⟨rfl, hb1⟩; obtain ⟨_, _, d0, d1, f0, f1, hbw, hlt⟩ := boxes2 hb1)
    exact bodyPost_ret (v := .tuple #[.agg #[.int .i64 0, .slice none 0 0], .int .i64 1]) (by simp [results, Try.results24, go_sem, *]) rfl ⟨_, rfl, .inl ⟨rfl, _, _, rfl⟩, below_set2 hbw (by omega) _ _⟩
  | true =>
    rw [hi] at HI
    obtain ⟨hv3, hv15, hb35⟩ := sys_size hi
    have HFU := Lib.hid fun W (_ : Below w.heap.size w W) => l01Full_any v (.slice a0 bs.length c0) bs W ⟨_, _, rfl⟩ hv3 hv15 hlen
    cases hf : fullB v bs with
    | false =>
      have hval : dblF v bs = (0, [], 5) := by simp [dblF, hi, hf]
      rw [hval]
      rw [hf] at HFU
      clear hval hi hf HSB
      go_enter Try.func24, Try.ntmps24
      go_wp2_with fail
      refine (HI.out _ (below2 _ _ _ _)).mono ?_
      rintro e w1 ⟨rfl, hb1⟩
      obtain ⟨p0, p1, d0, d1, f0, f1, hbw, hlt⟩ := boxes2 hb1
      clear hb1
      go_wp2_with fail
      refine (HFU.out _ hbw).mono ?_
      rintro e w2 ⟨rfl, hb2⟩
      obtain ⟨q0, q1, e0, e1, k0, k1⟩ : Six w2 w.heap.size v (.slice a0 bs.length c0) := keep6 (row := none) ⟨p0, p1, d0, d1, f0, f1⟩ (gb_below hb2) (by simp)
      have hz2 := hb2.size
      go_wp2
      exact bodyPost_ret (v := .tuple #[.agg #[.int .i64 0, .slice none 0 0], .int .i64 5]) (by simp [results, Try.results24, go_sem, *]) rfl ⟨_, rfl, .inl ⟨rfl, _, _, rfl⟩, below_set2 (hbw.trans (hb2.mono (by omega))) (by omega) _ _⟩
    | true =>
      rw [hf] at HFU
      by_cases h7 : 2 * v + 1 ≤ 15
      · have hval : dblF v bs = (2 * v + 1, sortB (dblL v bs), 0) := by simp [dblF, hi, hf, h7]
        rw [hval]
        have HG := Lib.hid (sys_good hi)
        have hd15 : decide (15 < 2 * v + 1) = false := by simp; omega
        clear hval hi hf
        go_enter Try.func24, Try.ntmps24
        go_wp2_with fail
        refine (HI.out _ (below2 _ _ _ _)).mono ?_
        rintro e w1 ⟨rfl, hb1⟩
        obtain ⟨p0, p1, d0, d1, f0, f1, hbw, hlt⟩ := boxes2 hb1
        clear hb1
        go_wp2_with fail
        refine (HFU.out _ hbw).mono ?_
        rintro e w2 ⟨rfl, hb2⟩
        obtain ⟨q0, q1, e0, e1, k0, k1⟩ : Six w2 w.heap.size v (.slice a0 bs.length c0) := keep6 (row := none) ⟨p0, p1, d0, d1, f0, f1⟩ (gb_below hb2) (by simp)
        have hz2 := hb2.size
        have hbw2 := hbw.trans (hb2.mono (by omega))
        have hlt2 : w.heap.size + 1 < w2.heap.size := by omega
        have hlt3 : w.heap.size < w2.heap.size := by omega
        have HO := Lib.hid (lit_own w2)
        have hsx := (HSB.out.below hbw2 (Nat.le_refl _)).sx
        have HS1 := Lib.hid (hsx.below ((Below.refl _ _).alloc (Nat.le_refl _) (.cells #[] 62)) (Nat.le_refl _))
        have HSX := Lib.hid hsx
        have l0 : ([] : List Blk).length + bs.length ≤ 2200000 := by simp; omega
        have HB2 := Lib.hid hbw2
        have HSIX := Lib.hid (show Six w2 w.heap.size v (.slice a0 bs.length c0) from ⟨q0, q1, e0, e1, k0, k1⟩)
        clear p0 p1 d0 d1 f0 f1 hb2 hsx e0 e1 k0 k1 hbw hbw2
        go_wp2_with fail
        go_region_held3 (fun w' => w'.cell? ⟨w.heap.size, 0, none⟩ = some (.int .i64 v) ∧ w'.cell? ⟨w.heap.size, 1, none⟩ = some (.slice a0 bs.length c0))
          (first
            | exact ⟨E0, E1⟩
            | go_keep)
          (first | (refine step_append_many rfl (.tmp 30) (.tmp 32) rfl w2.heap.size (.slice (some ⟨w2.heap.size, 0, none⟩) 0 0) [] (by simp [Act.eval]) (by first | exact HO.out | exact HO.out.drew | exact HO.out.drew.drew) (.slice a0 bs.length c0) bs (by simp [Act.eval]) (by first | exact HS1.out | exact HS1.out.drew | exact HS1.out.drew.drew) l0 (by simp) ?_; intro a3 c3 w3 ho3 hg3; have E0 := keep_cell (q0) (gb_trans (World.grownBy_alloc _ (.cells #[] 62) none) (by first | exact hg3 | exact gb_drewL hg3)) (fun r e => by simp [Value.ownBlock] at e; omega); have E1 := keep_cell (q1) (gb_trans (World.grownBy_alloc _ (.cells #[] 62) none) (by first | exact hg3 | exact gb_drewL hg3)) (fun r e => by simp [Value.ownBlock] at e; omega); have hG3 : w2.grownBy w3 (Value.slice (some ⟨w2.heap.size, 0, none⟩) 0 0).ownBlock := gb_trans (World.grownBy_alloc _ (.cells #[] 62) none) (by first | exact hg3 | exact gb_drewL hg3)))
        have hz3 := hG3.size
        have HB3 := Lib.hid (show Below w2.heap.size w2 w3 from (Below.refl _ _).grown hG3 (Nat.le_refl _) (fun r e => by simp [Value.ownBlock] at e; omega))
        have HO3 := Lib.hid ho3
        clear ho3 hg3 hG3
        rw [show ([] : List Blk).length + bs.length = bs.length by simp]
        go_wp2_with fail
        go_loopw [5, 6] (fun o t wr => ∃ k : Nat, k ≤ bs.length ∧ t = .int .i64 k ∧ Below w2.heap.size w2 wr ∧ OwnR wr w2.heap.size o (dblA v bs k) ∧ ∃ a n c, o = .slice a n c) (fun _ t _ => bs.length - (intOf t).toNat)
        case atStart => exact ⟨0, Nat.zero_le _, rfl, HB3.out, by simpa [dblA] using HO3.out, _, _, _, rfl⟩
        case round =>
          obtain ⟨k, hk, rfl, hB, hO, a5, n5, c5, rfl⟩ := hrel
          have hz := hB.size
          have hz1 : w.heap.size < wr.heap.size := by omega
          have r0 := (hB.cell (p := ⟨w.heap.size, 0, none⟩) hlt3).trans q0
          have r1 := (hB.cell (p := ⟨w.heap.size, 1, none⟩) hlt3).trans q1
          have HO5 := Lib.hid hO
          clear hO E0 E1
          by_cases hkl : k < bs.length
          · rcases HSX.out with ⟨_, _, _, hnil⟩ | ⟨b, off, cap, hv, hblt, hbl⟩
            · rw [hnil] at hkl; simp at hkl
            · simp at hv
              obtain ⟨rfl, rfl⟩ := hv
              have hz4 : b < wr.heap.size := by omega
              obtain ⟨x, hx, ex, x1, x2, x3⟩ := blks_at (hbl.below hB hblt) hkl
              obtain ⟨g1, g2, g3, g4, g5⟩ := dbl_bounds (HG.out x hx) hv15
              have hnx := dblA_succ (v := v) hkl ex
              have hal := dblA_len v bs hk
              obtain ⟨xa, xb, xc⟩ := x
              dsimp only at x1 x2 x3 g1 g2 g3 g4
              have HNX := Lib.hid hnx
              have hl3 : (dblA v bs k).length ≤ 1000 := by rw [hal]; omega
              obtain ⟨L, hL⟩ : ∃ L, L = dblA v bs k := ⟨_, rfl⟩
              rw [← hL] at HO5 HNX hl3
              have i0 : (0 : Int) ≤ (k : Int) := by omega
              have i1 : (k : Int) < (bs.length : Int) := by omega
              have e1 : 0 ≤ xb := by omega
              have e2 : 0 ≤ xc := by omega
              have e3 : xa ≤ 15 := by omega
              have e4 : xb ≤ 15 := by omega
              have e5 : xc ≤ 15 := by omega
              clear hx ex hbl hnx hal hL
              go_wp2
              go_quiet (fail)
              go_wp2_with fail
              refine (l01Block_is (a := xa) (b := v + xb) (c := v + xc) (p := xa) (q := v + xb) (r := v + xc) _ (by omega) (by omega) (by omega) (by omega) (by omega) (by omega) (by omega) (by omega) (by omega)).mono ?_
              rintro e w5 ⟨rfl, hb5⟩
              go_wp2_with fail
              refine (l01Block_is (a := v + xa) (b := xb) (c := v + xc) (p := xb) (q := v + xa) (r := v + xc) _ (by omega) (by omega) (by omega) (by omega) (by omega) (by omega) (by omega) (by omega) (by omega)).mono ?_
              rintro e w6 ⟨rfl, hb6⟩
              go_wp2_with fail
              refine (l01Block_is (a := v + xa) (b := v + xb) (c := xc) (p := xc) (q := v + xa) (r := v + xb) _ (by omega) (by omega) (by omega) (by omega) (by omega) (by omega) (by omega) (by omega) (by omega)).mono ?_
              rintro e w7 ⟨rfl, hb7⟩
              have hgw : wr.grownBy w7 none := gb_trans (gb_below (below_drewN (Below.refl _ _) _)) (gb_trans (gb_below hb5) (gb_trans (gb_below hb6) (gb_below hb7)))
              have HO7 := Lib.hid (HO5.out.kept hgw (by simp))
              have hz7 := hgw.size
              have HGW := Lib.hid hgw
              have S3 := sx_three w7 ⟨xa, v + xb, v + xc⟩ ⟨xb, v + xa, v + xc⟩ ⟨xc, v + xa, v + xb⟩ 62
              clear hb5 hb6 hb7 hgw
              go_wp2_with (at_builtin; refine wpList_append_many rfl _ _ rfl w2.heap.size (.slice a5 n5 c5) L rfl (by exact HO7.out.below ((Below.refl _ _).alloc (Nat.le_refl _) _) (Nat.le_refl _)) (.slice (some ⟨w7.heap.size, 0, none⟩) 3 3) (dblB v ⟨xa, xb, xc⟩) rfl S3 (by simp [dblB]; omega) (by simp; omega) ?_; intro a' c' w4 hO4 hg4)
              have hrow := HO5.out.row
              have hgo : wr.grownBy w4 (Value.slice a5 n5 c5).ownBlock := gb_trans HGW.out (gb_trans (World.grownBy_alloc _ _ none) hg4)
              clear hg4
              go_roundw
              case rel => exact ⟨k + 1, by omega, by go_num, hB.grown hgo hB.size (fun j e => hrow j e), by rw [HNX.out]; exact hO4, _, _, _, rfl⟩
              case measure => simp [intOf]; omega
          · have e : k = bs.length := by omega
            subst e
            go_wp2_with fail
            obtain ⟨wo, hwo⟩ : ∃ wo : World, wo = wr := ⟨_, rfl⟩
            rw [← hwo] at hB HO5 hz hz1 r0 r1 ⊢
            clear hwo
            have hal := dblA_len v bs (Nat.le_refl bs.length)
            have hal2 : (dblA v bs bs.length).length ≤ 1000 := by rw [hal]; omega
            clear hal
            go_loopw [5, 10] (fun o t wr => ∃ k : Nat, (k : Int) ≤ v ∧ t = .int .i64 k ∧ Below w2.heap.size w2 wr ∧ OwnR wr w2.heap.size o (dblA v bs bs.length ++ dblP v k) ∧ ∃ a n c, o = .slice a n c) (fun _ t _ => (v - intOf t).toNat)
            case atStart => exact ⟨0, by omega, rfl, hB, by simpa [dblP] using HO5.out, _, _, _, rfl⟩
            case round =>
              obtain ⟨k, hk2, rfl, hB4, hO2, a7, n7, c7, rfl⟩ := hrel
              have hz5 := hB4.size
              have HO2' := Lib.hid hO2
              have hl5 : (dblA v bs bs.length ++ dblP v k).length ≤ 1100 := by rw [List.length_append, dblP_len]; omega
              clear hO2
              by_cases hkv : (k : Int) < v
              · have hsucc : dblA v bs bs.length ++ dblP v (k + 1) = (dblA v bs bs.length ++ dblP v k) ++ [⟨(k : Int), v + (k : Int), 2 * v⟩] := by rw [dblP_succ, List.append_assoc]
                obtain ⟨L, hL⟩ : ∃ L, L = dblA v bs bs.length ++ dblP v k := ⟨_, rfl⟩
                rw [← hL] at hsucc HO2' hl5
                have HS2 := Lib.hid hsucc
                clear hsucc hL
                have i0 : (0 : Int) ≤ (k : Int) := by omega
                go_wp2_with fail
                refine (l01Block_is (a := (k : Int)) (b := v + (k : Int)) (c := 2 * v) (p := (k : Int)) (q := v + (k : Int)) (r := 2 * v) _ (by omega) (by omega) (by omega) (by omega) (by omega) (by omega) (by omega) (by omega) (by omega)).mono ?_
                rintro e w5 ⟨rfl, hb5⟩
                have HO7 := Lib.hid (HO2'.out.below hb5 (Nat.le_refl _))
                have hz7 := hb5.size
                have HGW := Lib.hid (gb_below hb5)
                clear hb5
                go_wp2_with (at_builtin; refine wpList_append_blk rfl _ _ rfl w2.heap.size (.slice a7 n7 c7) L rfl (by exact HO7.out.below ((Below.refl _ _).alloc (Nat.le_refl _) _) (Nat.le_refl _)) _ _ ⟨(k : Int), v + (k : Int), 2 * v⟩ rfl (by simp [go_sem]) (by simp [go_sem]) (by simp [go_sem]) (by omega) (by simp; omega) ?_; intro g' cap' w4 hO4 hg4)
                have hrow := HO2'.out.row
                have hgo : wr.grownBy w4 (Value.slice a7 n7 c7).ownBlock := gb_trans HGW.out (gb_trans (World.grownBy_alloc _ _ none) hg4)
                clear hg4
                go_roundw
                case rel => exact ⟨k + 1, by omega, by go_num, hB4.grown hgo hB4.size (fun j e => hrow j e), by rw [HS2.out]; exact hO4, _, _, _, rfl⟩
                case measure => simp [intOf]; omega
              · have e : k = v.toNat := by omega
                subst e
                have hdl : dblA v bs bs.length ++ dblP v v.toNat = dblL v bs := rfl
                rw [hdl] at HO2' hl5
                have hS6 := keep6 HSIX.out (only_of_below hB4 none) (by simp)
                have HS6 := Lib.hid hS6
                clear hS6 hdl
                go_wp2_with fail
                refine (l01Made_any (2 * v + 1) (.slice a7 n7 c7) (dblL v bs) _ HO2'.out.sx (by omega)).mono ?_
                rintro e w5 ⟨u, rfl, hr5, hb5⟩
                obtain ⟨E0, E1, M0, M1, M2, M3⟩ := keep6 HS6.out (gb_below hb5) (by simp)
                obtain ⟨a8, n8, hu⟩ := hr5.slice
                obtain ⟨m8, hm8⟩ : ∃ m, m = (sortB (dblL v bs)).length := ⟨_, rfl⟩
                rw [← hm8] at hu
                have hz6 := hb5.size
                have HB5 := Lib.hid ((HB2.out.trans (hB4.mono (by omega))).trans (hb5.mono (by omega)))
                clear hm8 hb5 E0 E1
                subst hu
                have HR5 := Lib.hid hr5
                clear hr5
                go_wp2
                exact bodyPost_ret (v := .tuple #[.agg #[.int .i64 (2 * v + 1), .slice a8 m8 n8], .int .i64 0]) (by simp [results, Try.results24, go_sem, *]) rfl ⟨_, rfl, (HR5.out.kept (gb_set2 w5 (w.heap.size + 1) (.int .i64 (2 * v + 1)) (.slice a8 m8 n8)) (fun r e => by cases e; exact .inl (by omega))).wide (by omega) (by simp [World.setCell]), below_set2 HB5.out (by omega) _ _⟩
      · have hval : dblF v bs = (0, [], 3) := by simp [dblF, hi, hf, h7]
        rw [hval]
        have h7' : 15 < 2 * v + 1 := by omega
        clear hval hi hf h7 HSB
        go_enter Try.func24, Try.ntmps24
        go_wp2_with fail
        refine (HI.out _ (below2 _ _ _ _)).mono ?_
        rintro e w1 ⟨rfl, hb1⟩
        obtain ⟨p0, p1, d0, d1, f0, f1, hbw, hlt⟩ := boxes2 hb1
        clear hb1
        go_wp2_with fail
        refine (HFU.out _ hbw).mono ?_
        rintro e w2 ⟨rfl, hb2⟩
        obtain ⟨q0, q1, e0, e1, k0, k1⟩ : Six w2 w.heap.size v (.slice a0 bs.length c0) := keep6 (row := none) ⟨p0, p1, d0, d1, f0, f1⟩ (gb_below hb2) (by simp)
        have hz2 := hb2.size
        go_wp2
        exact bodyPost_ret (v := .tuple #[.agg #[.int .i64 0, .slice none 0 0], .int .i64 3]) (by simp [results, Try.results24, go_sem, *]) rfl ⟨_, rfl, .inl ⟨rfl, _, _, rfl⟩, below_set2 (hbw.trans (hb2.mono (by omega))) (by omega) _ _⟩
end Go.Proofs.Ytlchcnngikgjjaa

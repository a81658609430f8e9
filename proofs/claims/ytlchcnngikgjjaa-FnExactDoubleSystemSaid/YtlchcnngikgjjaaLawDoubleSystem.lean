
/- The law FnExactDoubleSystem returns true. -/
import Derived.Test.YtlchcnngikgjjaaSpecDbl
import Derived.Test.YtlchcnngikgjjaaDblW
import Derived.Test.YtlchcnngikgjjaaStateS
import Derived.Deep.RegionWith
import Derived.Deep.DeepCutAuto
namespace Go.Proofs.Ytlchcnngikgjjaa
open Go.RowKit Go.Maps
set_option maxRecDepth 100000 in
set_option maxHeartbeats 1000000 in
theorem FnExactDoubleSystem_main (v : Int) (s : Value) (bs : List Blk) (w : World) (h : InB w s bs) (hl : bs.length ≤ 1048576) :
    Calls Try.prog 16 #[.agg #[.int .i64 v, s]] w (RV (.bool true) w) := by
  have hsl := h.slice
  have hsz := szSystem_any v s bs.length hsl (by omega) 1048576 (by omega) (by omega)
  rw [if_neg (by omega)] at hsz
  obtain ⟨m, hm⟩ : ∃ m, m = (1048576 : Int) - (bs.length : Int) := ⟨_, rfl⟩
  rw [← hm] at hsz
  have hm0 : 0 ≤ m := by omega
  have HSZ := Lib.hid hsz
  have HSB := Lib.hid (h.sb hl)
  have HWF := Lib.hid h.1
  have HBD := Lib.hid (show bs.length ≤ 1100000 by omega)
  obtain ⟨p, hpp⟩ : ∃ p, p = (dblF v bs).1 := ⟨_, rfl⟩
  obtain ⟨L, hL⟩ : ∃ L, L = (dblF v bs).2.1 := ⟨_, rfl⟩
  obtain ⟨κ, hκ⟩ : ∃ κ, κ = (dblF v bs).2.2 := ⟨_, rfl⟩
  have hp : dblF v bs = (p, L, κ) := by rw [hpp, hL, hκ]
  have LBD := Lib.hid (show L.length ≤ 1100000 by rw [hL]; exact dblF_len v bs)
  have LWF := Lib.hid (show ∀ x ∈ L, WFB x by rw [hL]; exact dblF_wf v bs)
  have HSP := Lib.hid fun (W : World) (s' : Value) (h1 : SC W s' bs) => specDoubleSystem_any v s' bs W h1.1
  have HIM := Lib.hid fun (W : World) (s' : Value) (h1 : SC W s' bs) => DoubleSystem_any v s' bs W h1.1
  rw [hp] at HSP HIM
  have hnk : (κ != κ) = false := by simp
  clear hsz hm h hl hpp hL hκ hp
  obtain ⟨a, c, rfl⟩ := hsl
  go_enter Try.func16, Try.ntmps16
  go_wp2_with fail
  refine (HSZ.out _).mono ?_
  rintro e w1 ⟨rfl, hb1⟩
  have st1 := (St1.start w v (.slice a bs.length c)).step (gb_below hb1) (by simp)
  have x0 := st1.x0
  have x1 := st1.x1
  have ST1 := Lib.hid st1
  clear hb1 st1
  go_wp2_with fail
  refine (toSystem_any v _ bs _ (HSB.out.below ST1.out.below (Nat.le_refl _))).mono ?_
  rintro e w2 ⟨s2, rfl, ho2, hb2⟩
  have st2 := ST1.out.step (gb_below hb2) (by simp)
  have hsb2 := ho2.sc HWF.out HBD.out
  have z2 := hb2.size
  have zz1 := ST1.out.big
  clear x0 x1 hb2 ho2
  have x0 := st2.x0
  have x1 := st2.x1
  have ST2 := Lib.hid st2
  clear st2
  go_wp2_with fail
  refine (HSP.out _ _ hsb2).mono ?_
  rintro e w3 ⟨sW, rfl, rW, hb3⟩
  have z3 := hb3.size
  obtain ⟨aW, nW, hsW⟩ := rW.slice
  subst hsW
  have n3 := gb_alloc1 w3 (.cells #[.int .i64 p, .slice aW L.length nW] 26)
  have st3 := (ST2.out.step (gb_below hb3) (by simp)).step n3 (by simp)
  have rW3 := rW.kept n3 (by simp)
  have vW3 := VarB.new w3 p (.slice aW L.length nW) 26
  clear x0 x1 hb3 hsb2 rW n3
  have x0 := st3.x0
  have x1 := st3.x1
  have ST3 := Lib.hid st3
  have RW := Lib.hid (And.intro rW3 vW3)
  clear st3 rW3 vW3 ST1 ST2
  go_wp2_with fail
  refine (toSystem_any v _ bs _ (HSB.out.below ST3.out.below (Nat.le_refl _))).mono ?_
  rintro e w6 ⟨s6, rfl, ho6, hb6⟩
  obtain ⟨g6, cap6, hs6, _⟩ := id ho6
  subst hs6
  have st6 := ST3.out.step (gb_below hb6) (by simp)
  have hsb6 := ho6.sc HWF.out HBD.out
  have r6 := ho6.res
  have z6 := hb6.size
  simp at z6
  have rW6 := RW.out.1.kept (gb_below hb6) (by simp)
  have vW6 := RW.out.2.step (gb_below hb6) (by simp)
  have n6 := gb_alloc1 w6 (.cells #[.int .i64 v, .slice (some ⟨g6, 0, none⟩) bs.length cap6] 26)
  have v7 := VarB.new w6 v (.slice (some ⟨g6, 0, none⟩) bs.length cap6) 26
  have st7 := st6.step n6 (by simp)
  have r7 := r6.kept n6 (by simp)
  have rW7 := rW6.kept n6 (by simp)
  have vW7 := vW6.step n6 (by simp)
  have hsb7 := hsb6.below ((Below.refl _ _).alloc (Nat.le_refl _) (.cells #[.int .i64 v, .slice (some ⟨g6, 0, none⟩) bs.length cap6] 26)) (Nat.le_refl _)
  clear x0 x1 hb6 ho6 st6 r6 rW6 vW6 hsb6
  have x0 := st7.x0
  have x1 := st7.x1
  have t0 := v7.c0
  have t1 := v7.c1
  have H7 := Lib.hid (And.intro v7 (And.intro st7 (And.intro r7 (And.intro rW7 (And.intro vW7 hsb7)))))
  clear v7 st7 r7 rW7 vW7 hsb7 n6
  go_wp2_with fail
  refine (HIM.out _ _ H7.out.2.2.2.2.2).mono ?_
  rintro e w10 ⟨s10, rfl, hr10, hb10⟩
  obtain ⟨a10, n10, hs10⟩ := hr10.slice
  subst hs10
  obtain ⟨v7, st7, r7, rW7, vW7, _⟩ := H7.out
  have z10 := hb10.size
  simp at z10
  have g10 := gb_trans (gb_below hb10) (gb_alloc1 w10 (.cells #[.int .i64 p, .slice a10 L.length n10] 26))
  have hcb : CS w v p (.slice a bs.length c) (.slice aW L.length nW) (.slice (some ⟨g6, 0, none⟩) bs.length cap6) (.slice a10 L.length n10) w3.heap.size w6.heap.size w10.heap.size w2.heap.size w3.heap.size (w3.heap.size + 1) w6.heap.size (w6.heap.size + 1) w10.heap.size L bs L (w10.alloc (.cells #[.int .i64 p, .slice a10 L.length n10] 26)) :=
    ⟨st7.step g10 (by simp), by omega, z3, Nat.le_refl _, by omega, by omega, Nat.le_refl _, by omega, by omega, Nat.le_refl _, rW7.kept g10 (by simp), vW7.step g10 (by simp), (r7.kept g10 (by simp)).wide (by simp) (Nat.le_refl _), v7.step g10 (by simp), (hr10.kept (gb_alloc1 _ _) (by simp)).wide (by simp) (Nat.le_refl _), VarB.new w10 p (.slice a10 L.length n10) 26⟩
  have HCB := Lib.hid hcb
  have u0 := hcb.vG.c0
  have u1 := hcb.vG.c1
  have y0 := hcb.vW.c0
  have y1 := hcb.vW.c1
  clear hcb v7 st7 r7 rW7 vW7 hr10 hb10 z10 g10 t0 t1 x0 x1 H7 ST3 RW
  go_wp2_with fail
  refine (eqSystem_same p _ _ L _ (HCB.out.rG.sb LWF.out LBD.out) (HCB.out.rW.sb LWF.out LBD.out)).mono ?_
  rintro e w11 ⟨rfl, hb11⟩
  have hcb := HCB.out.step (gb_below hb11)
  clear u0 u1 y0 y1
  have x0 := hcb.st.x0
  have x1 := hcb.st.x1
  have t0 := hcb.vX.c0
  have t1 := hcb.vX.c1
  have HCB1 := Lib.hid hcb
  clear hcb hb11 HCB
  go_upto_region 10 with fail
  go_cut [45] (fun sq wx => sq = .bool false ∧ CS w v p (.slice a bs.length c) (.slice aW L.length nW) (.slice (some ⟨g6, 0, none⟩) bs.length cap6) (.slice a10 L.length n10) w3.heap.size w6.heap.size w10.heap.size w2.heap.size w3.heap.size (w3.heap.size + 1) w6.heap.size (w6.heap.size + 1) w10.heap.size L bs L wx)
  case first =>
    go_region_with (first | (go_at_call 42; refine (toSystem_any v _ bs _ ?_).mono ?_; (exact HSB.out.below HCB1.out.st.below.drew (Nat.le_refl _)); rintro e w30 ⟨s30, rfl, ho30, hb30⟩; have hcb30 := (HCB1.out.step (gb_drew1 _)).step (gb_below hb30); have v0 := hcb30.vX.c0; have v1 := hcb30.vX.c1; have HCB30 := Lib.hid hcb30; clear hcb30; have hsb30 := ho30.sb HWF.out HBD.out; obtain ⟨g30, cap30, hs30, _⟩ := id ho30; subst hs30) | (go_at_call 35; refine (eqSystem_same v _ _ bs _ ?_ ?_).mono ?_; (exact HCB30.out.r8.sb HWF.out HBD.out); (exact hsb30); rintro e w31 ⟨rfl, hb31⟩))
    all_goals
      go_wp2_with fail
      go_meet
      exact ⟨rfl, HCB30.out.step (gb_below hb31)⟩
  case rest =>
  obtain ⟨rfl, hcb⟩ := hcut
  clear x0 x1 t0 t1
  have x0 := hcb.st.x0
  have x1 := hcb.st.x1
  have t0 := hcb.vX.c0
  have t1 := hcb.vX.c1
  have HCB3 := Lib.hid hcb
  clear hcb HCB1
  go_wp2_with fail
  refine (markSystem_any _ _ v _ bs 1 _ HCB3.out.r8 HBD.out (by omega) (by omega)).mono ?_
  rintro e w12 ⟨rfl, ⟨row, hg12, hrow⟩, hr12⟩
  have hcb := HCB3.out.mark8 hg12 hrow hr12
  clear x0 x1 t0 t1
  have u0 := hcb.vG.c0
  have u1 := hcb.vG.c1
  have y0 := hcb.vW.c0
  have y1 := hcb.vW.c1
  have HCB4 := Lib.hid hcb
  clear hcb hg12 hrow hr12 HCB3
  obtain ⟨m3, hm3⟩ : ∃ m3, m3 = 1 + 3 * (bs.length : Int) := ⟨_, rfl⟩
  rw [← hm3]
  have m30 : 0 ≤ m3 := by omega
  clear hm3
  go_wp2_with fail
  refine (eqSystem_same p _ _ L _ (HCB4.out.rG.sb LWF.out LBD.out) (HCB4.out.rW.sb LWF.out LBD.out)).mono ?_
  rintro e w14 ⟨rfl, hb14⟩
  have hcb := HCB4.out.step (gb_below hb14)
  clear u0 u1 y0 y1
  have u0 := hcb.vG.c0
  have u1 := hcb.vG.c1
  have HCB6 := Lib.hid hcb
  clear hcb hb14 HCB4
  go_wp2_with fail
  refine (markSystem_any _ _ p _ L 1 _ HCB6.out.rG LBD.out (by omega) (by omega)).mono ?_
  rintro e w15 ⟨rfl, ⟨row, hg15, hrow⟩, hr15⟩
  have hcb := HCB6.out.markG hg15 hrow hr15
  clear u0 u1
  have u0 := hcb.vG.c0
  have u1 := hcb.vG.c1
  have HCB7 := Lib.hid hcb
  clear hcb hg15 hrow hr15 HCB6
  obtain ⟨m5, hm5⟩ : ∃ m5, m5 = 1 + 3 * (L.length : Int) := ⟨_, rfl⟩
  have hheld := fun W (h : ResR W _ _ (Value.slice a10 L.length n10) (markL 1 L.length)) => heldSystem_any (w6.heap.size + 1) w10.heap.size p (.slice a10 L.length n10) L.length 1 W h LBD.out (by omega) (by omega)
  rw [← hm5] at hheld ⊢
  have HHELD := Lib.hid hheld
  have m50 : 0 ≤ m5 := by omega
  have hn5 : (m5 != m5) = false := by simp
  clear hm5 hheld
  go_wp2_with fail
  refine (HHELD.out _ HCB7.out.rG).mono ?_
  rintro e w16 ⟨rfl, hb16⟩
  have hcb := HCB7.out.step (gb_below hb16)
  clear u0 u1
  have x0 := hcb.st.x0
  have x1 := hcb.st.x1
  have HCB8 := Lib.hid hcb
  clear hcb hb16 HCB7
  go_wp2_with fail
  refine (toSystem_any v _ bs _ (HSB.out.below HCB8.out.st.below (Nat.le_refl _))).mono ?_
  rintro e w33 ⟨s33, rfl, ho33, hb33⟩
  have hsb33 := ho33.sc HWF.out HBD.out
  have HCB9 := Lib.hid (HCB8.out.step (gb_below hb33))
  clear hb33 ho33 x0 x1 HCB8
  go_wp2_with fail
  refine (HIM.out _ _ hsb33).mono ?_
  rintro e w34 ⟨s34, rfl, hr34, hb34⟩
  obtain ⟨a34, n34, hs34⟩ := hr34.slice
  subst hs34
  have n34' := gb_alloc1 w34 (.cells #[.int .i64 p, .slice a34 L.length n34] 26)
  have hcb := (HCB9.out.step (gb_below hb34)).step n34'
  have hsb34 := (hr34.kept n34' (by simp)).sb LWF.out LBD.out
  have v34 := VarB.new w34 p (.slice a34 L.length n34) 26
  have u0 := v34.c0
  have u1 := v34.c1
  have y0 := hcb.vW.c0
  have y1 := hcb.vW.c1
  have HCB10 := Lib.hid (And.intro hcb hsb34)
  clear hcb hsb34 v34 n34' hr34 hb34 hsb33 HCB9
  go_wp2_with fail
  refine (eqSystem_same p _ _ L _ HCB10.out.2 (HCB10.out.1.rW.sb LWF.out LBD.out)).mono ?_
  rintro e w36 ⟨rfl, hb36⟩
  have hcb := HCB10.out.1.step (gb_below hb36)
  clear u0 u1 y0 y1
  have u0 := hcb.vG.c0
  have u1 := hcb.vG.c1
  have HCB11 := Lib.hid hcb
  clear hcb hb36 HCB10
  go_wp2_with fail
  refine (HHELD.out _ HCB11.out.rG).mono ?_
  rintro e w37 ⟨rfl, hb37⟩
  go_wp2
  go_ret
  exact RV_of rfl (HCB11.out.step (gb_below hb37)).st.below

set_option maxRecDepth 100000 in
theorem FnExactDoubleSystem_long (v : Int) (s : Value) (bs : List Blk) (w : World) (h : InB w s bs) (hl : ¬ bs.length ≤ 1048576) : Calls Try.prog 16 #[.agg #[.int .i64 v, s]] w (RV (.bool true) w) := by
  have hsl := h.slice
  have hbd := h.2.1
  have hsz := szSystem_any v s bs.length hsl (by omega) 1048576 (by omega) (by omega)
  rw [if_pos (by omega)] at hsz
  have HSZ := Lib.hid hsz
  clear hsz h
  obtain ⟨a, c, rfl⟩ := hsl
  go_enter Try.func16, Try.ntmps16
  go_wp2_with (go_at_call 40; refine (HSZ.out _).mono ?_; rintro e w1 ⟨rfl, hb1⟩)
  go_ret
  exact RV_of rfl (((Below.refl _ _).alloc (Nat.le_refl _) _).trans (hb1.mono (by simp)))

theorem FnExactDoubleSystem_any (v : Int) (s : Value) (bs : List Blk) (w : World) (h : InB w s bs) : Calls Try.prog 16 #[.agg #[.int .i64 v, s]] w (RV (.bool true) w) := by
  by_cases hl : bs.length ≤ 1048576
  · exact FnExactDoubleSystem_main v s bs w h hl
  · exact FnExactDoubleSystem_long v s bs w h hl
end Go.Proofs.Ytlchcnngikgjjaa

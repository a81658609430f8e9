/- The law FnExactFreeBlocks returns true. -/
import Derived.Test.YtomcjifklggcnaaFree5
import Derived.Test.YtomcjifklggcnaaState1
import Derived.Deep.RegionWith
import Derived.Deep.DeepCutAuto
namespace Go.Proofs.Ytomcjifklggcnaa
open Go.RowKit Go.Maps
theorem freeF_len (v : Int) (bs : List Blk) : (freeF v bs).1.length ≤ 1100000 := by
  unfold freeF
  split
  · rename_i hi
    have := sys_size hi
    have h1 := rowA_len (v := v.toNat) (n := v.toNat) (by omega)
    have h2 := List.length_filter_le (okB bs) (rowA v.toNat v.toNat)
    dsimp only [restA]
    have : v.toNat * 225 ≤ 15 * 225 := Nat.mul_le_mul_right _ (by omega)
    omega
  · simp
theorem freeF_wf (v : Int) (bs : List Blk) : ∀ x ∈ (freeF v bs).1, WFB x := by
  unfold freeF
  split
  · rename_i hi
    have hv := sys_size hi
    intro x hx
    have hx' := (List.mem_filter.1 hx).1
    have hg := rowA_good hx'
    rw [goodB_iff] at hg
    obtain ⟨a, b, c⟩ := x
    dsimp only at hg
    have e : (⟨a, b, c⟩ : Blk) = ⟨((a.toNat : Nat) : Int), ((b.toNat : Nat) : Int), ((c.toNat : Nat) : Int)⟩ := by
      rw [show ((a.toNat : Nat) : Int) = a by omega, show ((b.toNat : Nat) : Int) = b by omega, show ((c.toNat : Nat) : Int) = c by omega]
    rw [e]
    exact wfb_small (by omega) (by omega) (by omega)
  · simp
structure CK (w : World) (v : Int) (s sW s8 sG : Value) (X i0 i1 i2 i5 i6 : Nat) (LW L8 LG : List Blk) (W : World) : Prop where
  st : St1 w v s W
  o0 : w.heap.size < i0
  o1 : i0 ≤ i1
  o2 : i1 ≤ i2
  oX : i2 ≤ X
  oX' : X < i5
  o6 : i5 ≤ i6
  rW : ResR W i0 i1 sW LW
  r8 : ResR W i1 i2 s8 L8
  vX : VarB W X v s8
  rG : ResR W i5 i6 sG LG
section
variable {w : World} {v : Int} {s sW s8 sG : Value} {X i0 i1 i2 i5 i6 : Nat} {LW LG : List Blk} {L8 : List Blk} {W W' : World}
theorem CK.step (h : CK w v s sW s8 sG X i0 i1 i2 i5 i6 LW L8 LG W) (hg : W.grownBy W' none) : CK w v s sW s8 sG X i0 i1 i2 i5 i6 LW L8 LG W' :=
  ⟨h.st.step hg (by simp), h.o0, h.o1, h.o2, h.oX, h.oX', h.o6, h.rW.kept hg (by simp), h.r8.kept hg (by simp), h.vX.step hg (by simp), h.rG.kept hg (by simp)⟩
theorem CK.mark8 (h : CK w v s sW s8 sG X i0 i1 i2 i5 i6 LW L8 LG W) {row : Option Nat} (hg : W.grownBy W' row) (hr : ∀ r, row = some r → i1 ≤ r ∧ r < i2) {L : List Blk} (hn : ResR W' i1 i2 s8 L) :
    CK w v s sW s8 sG X i0 i1 i2 i5 i6 LW L LG W' := by
  obtain ⟨st, o0, o1, o2, oX, oX', o6, rW, r8, vX, rG⟩ := h
  exact ⟨st.step hg (fun r e => by have := hr r e; omega), o0, o1, o2, oX, oX', o6, rW.kept hg (fun r e => by have := hr r e; omega), hn, vX.step hg (fun e => by have := hr _ e; omega), rG.kept hg (fun r e => by have := hr r e; omega)⟩
theorem CK.markG (h : CK w v s sW s8 sG X i0 i1 i2 i5 i6 LW L8 LG W) {row : Option Nat} (hg : W.grownBy W' row) (hr : ∀ r, row = some r → i5 ≤ r ∧ r < i6) {L : List Blk} (hn : ResR W' i5 i6 sG L) :
    CK w v s sW s8 sG X i0 i1 i2 i5 i6 LW L8 L W' := by
  obtain ⟨st, o0, o1, o2, oX, oX', o6, rW, r8, vX, rG⟩ := h
  exact ⟨st.step hg (fun r e => by have := hr r e; omega), o0, o1, o2, oX, oX', o6, rW.kept hg (fun r e => by have := hr r e; omega), r8.kept hg (fun r e => by have := hr r e; omega), vX.step hg (fun e => by have := hr _ e; omega), hn⟩
end
set_option maxRecDepth 100000 in
set_option maxHeartbeats 1000000 in
theorem FnExactFreeBlocks_main (v : Int) (s : Value) (bs : List Blk) (w : World) (h : InB w s bs) (hl : bs.length ≤ 1048576) :
    Calls Try.prog 15 #[.agg #[.int .i64 v, s]] w (RV (.bool true) w) := by
  have hsl := h.slice
  have hsz := szSystem_any v s bs.length hsl (by omega) 1048576 (by omega) (by omega)
  rw [if_neg (by omega)] at hsz
  obtain ⟨m, hm⟩ : ∃ m, m = (1048576 : Int) - (bs.length : Int) := ⟨_, rfl⟩
  rw [← hm] at hsz
  have hm0 : 0 ≤ m := by omega
  have HSZ := Lib.hid hsz
  have HSB := Lib.hid (h.sb hl)
  have HWF := Lib.hid h.1
  have HBD := Lib.hid (show bs.length ≤ 1100000 by omega)
  obtain ⟨L, hL⟩ : ∃ L, L = (freeF v bs).1 := ⟨_, rfl⟩
  obtain ⟨κ, hκ⟩ : ∃ κ, κ = (freeF v bs).2 := ⟨_, rfl⟩
  have hp : freeF v bs = (L, κ) := by rw [hL, hκ]
  have LBD := Lib.hid (show L.length ≤ 1100000 by rw [hL]; exact freeF_len v bs)
  have LWF := Lib.hid (show ∀ x ∈ L, WFB x by rw [hL]; exact freeF_wf v bs)
  have HSP := Lib.hid fun (W : World) (s' : Value) (h1 : SB W s' bs) => specFreeBlocks_any v s' bs W h1
  have HIM := Lib.hid fun (W : World) (s' : Value) (h1 : SB W s' bs) => FreeBlocks_any v s' bs W h1
  rw [hp] at HSP HIM
  have hnk : (κ != κ) = false := by simp
  clear hsz hm h hl hL hκ hp
  obtain ⟨a, c, rfl⟩ := hsl
  go_enter Try.func15, Try.ntmps15
  go_wp2_with fail
  refine (HSZ.out _).mono ?_
  rintro e w1 ⟨rfl, hb1⟩
  have st1 := (St1.start w v (.slice a bs.length c)).step (gb_below hb1) (by simp)
  have x0 := st1.x0
  have x1 := st1.x1
  have ST1 := Lib.hid st1
  clear hb1 st1
  go_wp2_with fail
  refine (toSystem_any v _ bs _ (HSB.out.below ST1.out.below (Nat.le_refl _))).mono ?_
  rintro e w2 ⟨s2, rfl, ho2, hb2⟩
  have st2 := ST1.out.step (gb_below hb2) (by simp)
  have hsb2 := ho2.sb HWF.out HBD.out
  have z2 := hb2.size
  have zz1 := ST1.out.big
  clear x0 x1 hb2 ho2
  have x0 := st2.x0
  have x1 := st2.x1
  have ST2 := Lib.hid st2
  clear st2
  go_wp2_with fail
  refine (HSP.out _ _ hsb2).mono ?_
  rintro e w3 ⟨sW, rfl, hoW, hb3⟩
  have z3 := hb3.size
  have rW := hoW.res
  obtain ⟨aW, nW, hsW⟩ := rW.slice
  subst hsW
  have st3 := ST2.out.step (gb_below hb3) (by simp)
  clear x0 x1 hb3 hoW hsb2
  have x0 := st3.x0
  have x1 := st3.x1
  have ST3 := Lib.hid st3
  have RW := Lib.hid rW
  clear st3 rW ST1 ST2
  go_wp2_with fail
  refine (toSystem_any v _ bs _ (HSB.out.below ST3.out.below (Nat.le_refl _))).mono ?_
  rintro e w6 ⟨s6, rfl, ho6, hb6⟩
  obtain ⟨g6, cap6, hs6, _⟩ := id ho6
  subst hs6
  have st6 := ST3.out.step (gb_below hb6) (by simp)
  have hsb6 := ho6.sb HWF.out HBD.out
  have r6 := ho6.res
  have z6 := hb6.size
  have rW6 := RW.out.below hb6 (Nat.le_refl _)
  have n6 := gb_alloc1 w6 (.cells #[.int .i64 v, .slice (some ⟨g6, 0, none⟩) bs.length cap6] 29)
  have v7 := VarB.new w6 v (.slice (some ⟨g6, 0, none⟩) bs.length cap6) 29
  have st7 := st6.step n6 (by simp)
  have r7 := r6.kept n6 (by simp)
  have rW7 := rW6.kept n6 (by simp)
  have hsb7 := hsb6.below ((Below.refl _ _).alloc (Nat.le_refl _) (.cells #[.int .i64 v, .slice (some ⟨g6, 0, none⟩) bs.length cap6] 29)) (Nat.le_refl _)
  clear x0 x1 hb6 ho6 st6 r6 rW6 hsb6
  have x0 := st7.x0
  have x1 := st7.x1
  have t0 := v7.c0
  have t1 := v7.c1
  have H7 := Lib.hid (And.intro v7 (And.intro st7 (And.intro r7 (And.intro rW7 hsb7))))
  clear v7 st7 r7 rW7 hsb7 n6
  go_wp2_with fail
  refine (HIM.out _ _ H7.out.2.2.2.2).mono ?_
  rintro e w10 ⟨s10, rfl, ho10, hb10⟩
  have hr10 := ho10.res
  obtain ⟨a10, n10, hs10⟩ := hr10.slice
  subst hs10
  obtain ⟨v7, st7, r7, rW7, _⟩ := H7.out
  have z10 := hb10.size
  simp at z10
  have g10 := gb_below hb10
  have hcb : CK w v (.slice a bs.length c) (.slice aW L.length nW) (.slice (some ⟨g6, 0, none⟩) bs.length cap6) (.slice a10 L.length n10) w6.heap.size w2.heap.size w3.heap.size w6.heap.size (w6.heap.size + 1) w10.heap.size L bs L w10 :=
    ⟨st7.step g10 (by simp), by omega, z3, z6, Nat.le_refl _, by omega, by omega, rW7.kept g10 (by simp), r7.kept g10 (by simp), v7.step g10 (by simp), hr10.wide (by simp) (Nat.le_refl _)⟩
  have HCB := Lib.hid hcb
  clear hcb v7 st7 r7 rW7 hr10 ho10 hb10 z10 g10 t0 t1 x0 x1 H7 ST3 RW
  go_wp2_with fail
  refine (eqBlockS_same _ _ L _ (HCB.out.rG.sb LWF.out LBD.out) (HCB.out.rW.sb LWF.out LBD.out)).mono ?_
  rintro e w11 ⟨rfl, hb11⟩
  have hcb := HCB.out.step (gb_below hb11)
  have x0 := hcb.st.x0
  have x1 := hcb.st.x1
  have t0 := hcb.vX.c0
  have t1 := hcb.vX.c1
  have HCB1 := Lib.hid hcb
  clear hcb hb11 HCB
  go_upto_region 10 with fail
  go_cut [45] (fun sq wx => sq = .bool false ∧ CK w v (.slice a bs.length c) (.slice aW L.length nW) (.slice (some ⟨g6, 0, none⟩) bs.length cap6) (.slice a10 L.length n10) w6.heap.size w2.heap.size w3.heap.size w6.heap.size (w6.heap.size + 1) w10.heap.size L bs L wx)
  case first =>
    go_region_with (first | (go_at_call 19; refine (toSystem_any v _ bs _ ?_).mono ?_; (exact HSB.out.below HCB1.out.st.below.drew (Nat.le_refl _)); rintro e w30 ⟨s30, rfl, ho30, hb30⟩; have hcb30 := (HCB1.out.step (gb_drew1 _)).step (gb_below hb30); have v0 := hcb30.vX.c0; have v1 := hcb30.vX.c1; have HCB30 := Lib.hid hcb30; clear hcb30; have hsb30 := ho30.sb HWF.out HBD.out; obtain ⟨g30, cap30, hs30, _⟩ := id ho30; subst hs30) | (go_at_call 21; refine (eqSystem_same v _ _ bs _ ?_ ?_).mono ?_; (exact HCB30.out.r8.sb HWF.out HBD.out); (exact hsb30); rintro e w31 ⟨rfl, hb31⟩))
    all_goals
      go_wp2_with fail
      go_meet
      exact ⟨rfl, HCB30.out.step (gb_below hb31)⟩
  case rest =>
  obtain ⟨rfl, hcb⟩ := hcut
  clear x0 x1 t0 t1
  have x0 := hcb.st.x0
  have x1 := hcb.st.x1
  have t0 := hcb.vX.c0
  have t1 := hcb.vX.c1
  have HCB3 := Lib.hid hcb
  clear hcb HCB1
  go_wp2_with fail
  refine (markSystem_any _ _ v _ bs 1 _ HCB3.out.r8 HBD.out (by omega) (by omega)).mono ?_
  rintro e w12 ⟨rfl, ⟨row, hg12, hrow⟩, hr12⟩
  have hcb := HCB3.out.mark8 hg12 hrow hr12
  clear x0 x1 t0 t1
  have x0 := hcb.st.x0
  have x1 := hcb.st.x1
  have HCB4 := Lib.hid hcb
  clear hcb hg12 hrow hr12 HCB3
  obtain ⟨m3, hm3⟩ : ∃ m3, m3 = 1 + 3 * (bs.length : Int) := ⟨_, rfl⟩
  rw [← hm3]
  have m30 : 0 ≤ m3 := by omega
  clear hm3
  go_wp2_with fail
  refine (eqBlockS_same _ _ L _ (HCB4.out.rG.sb LWF.out LBD.out) (HCB4.out.rW.sb LWF.out LBD.out)).mono ?_
  rintro e w14 ⟨rfl, hb14⟩
  have hcb := HCB4.out.step (gb_below hb14)
  clear x0 x1
  have x0 := hcb.st.x0
  have x1 := hcb.st.x1
  have HCB6 := Lib.hid hcb
  clear hcb hb14 HCB4
  go_wp2_with fail
  refine (markR _ _ _ L 1 _ HCB6.out.rG LBD.out (by omega) (by omega)).mono ?_
  rintro e w15 ⟨rfl, ⟨row, hg15, hrow⟩, hr15⟩
  have hcb := HCB6.out.markG hg15 hrow hr15
  clear x0 x1
  have x0 := hcb.st.x0
  have x1 := hcb.st.x1
  have HCB7 := Lib.hid hcb
  clear hcb hg15 hrow hr15 HCB6
  obtain ⟨m5, hm5⟩ : ∃ m5, m5 = 1 + 3 * (L.length : Int) := ⟨_, rfl⟩
  have hheld := fun W (h : ResR W _ _ (Value.slice a10 L.length n10) (markL 1 L.length)) => heldR (w6.heap.size + 1) w10.heap.size (.slice a10 L.length n10) L.length 1 W h LBD.out (by omega) (by omega)
  rw [← hm5] at hheld ⊢
  have HHELD := Lib.hid hheld
  have m50 : 0 ≤ m5 := by omega
  have hn5 : (m5 != m5) = false := by simp
  clear hm5 hheld
  go_wp2_with fail
  refine (HHELD.out _ HCB7.out.rG).mono ?_
  rintro e w16 ⟨rfl, rfl⟩
  go_wp2_with fail
  refine (toSystem_any v _ bs _ (HSB.out.below HCB7.out.st.below (Nat.le_refl _))).mono ?_
  rintro e w33 ⟨s33, rfl, ho33, hb33⟩
  have hsb33 := ho33.sb HWF.out HBD.out
  have hcb33 := HCB7.out.step (gb_below hb33)
  have HCB8 := Lib.hid hcb33
  clear hcb33 hb33 ho33 x0 x1 HCB7
  go_wp2_with fail
  refine (HIM.out _ _ hsb33).mono ?_
  rintro e w34 ⟨s34, rfl, ho34, hb34⟩
  have hr34 := ho34.res.sb LWF.out LBD.out
  obtain ⟨a34, n34, hs34⟩ := ho34.res.slice
  subst hs34
  have HCB9 := Lib.hid (HCB8.out.step (gb_below hb34))
  clear hb34 ho34 hsb33 HCB8
  go_wp2_with fail
  refine (eqBlockS_same _ _ L _ hr34 (HCB9.out.rW.sb LWF.out LBD.out)).mono ?_
  rintro e w36 ⟨rfl, hb36⟩
  have HCB10 := Lib.hid (HCB9.out.step (gb_below hb36))
  clear hb36 hr34 HCB9
  go_wp2_with fail
  refine (HHELD.out _ HCB10.out.rG).mono ?_
  rintro e w37 ⟨rfl, rfl⟩
  go_wp2
  go_ret
  exact RV_of rfl HCB10.out.st.below

set_option maxRecDepth 100000 in
theorem FnExactFreeBlocks_long (v : Int) (s : Value) (bs : List Blk)  (w : World) (h : InB w s bs) (hl : ¬ bs.length ≤ 1048576) : Calls Try.prog 15 #[.agg #[.int .i64 v, s]] w (RV (.bool true) w) := by
  have hsl := h.slice
  have hbd := h.2.1
  have hsz := szSystem_any v s bs.length hsl (by omega) 1048576 (by omega) (by omega)
  rw [if_pos (by omega)] at hsz
  have HSZ := Lib.hid hsz
  clear hsz h
  obtain ⟨a, c, rfl⟩ := hsl
  go_enter Try.func15, Try.ntmps15
  go_wp2_with (go_at_call 17; refine (HSZ.out _).mono ?_; rintro e w1 ⟨rfl, hb1⟩)
  go_ret
  exact RV_of rfl (((Below.refl _ _).alloc (Nat.le_refl _) _).trans (hb1.mono (by simp)))

theorem FnExactFreeBlocks_any (v : Int) (s : Value) (bs : List Blk)  (w : World) (h : InB w s bs) : Calls Try.prog 15 #[.agg #[.int .i64 v, s]] w (RV (.bool true) w) := by
  by_cases hl : bs.length ≤ 1048576
  · exact FnExactFreeBlocks_main v s bs w h hl
  · exact FnExactFreeBlocks_long v s bs w h hl
end Go.Proofs.Ytomcjifklggcnaa

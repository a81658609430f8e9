/- The law FnExactCommonBlocks returns true. -/
import Derived.Test.YtomcjifklggcnaaState2
import Derived.Test.YtomcjifklggcnaaSpecCommon
import Derived.Deep.RegionWith
import Derived.Deep.DeepCutAuto
namespace Go.Proofs.Ytomcjifklggcnaa
open Go.RowKit Go.Maps
theorem gb_drew (w : World) : w.grownBy w.drew none := ⟨rfl, rfl, rfl, Nat.le_refl _, fun _ _ _ => rfl⟩
theorem gb_alloc (w : World) (o : Obj) : w.grownBy (w.alloc o) none := World.grownBy_alloc w o none
theorem commonF_wf {v u : Int} {bs cs : List Blk} (h : ∀ x ∈ bs, WFB x) : ∀ x ∈ (commonF v bs u cs).1, WFB x := by
  unfold commonF
  split
  · split
    · exact commonL_wf h
    · simp
  · simp
theorem commonF_length (v u : Int) (bs cs : List Blk) : (commonF v bs u cs).1.length ≤ bs.length := by
  unfold commonF
  split
  · split
    · exact commonL_length _ _
    · simp
  · simp

set_option maxRecDepth 100000 in
set_option maxHeartbeats 4000000 in
theorem FnExactCommonBlocks_main (v : Int) (s : Value) (bs : List Blk) (u : Int) (t : Value) (cs : List Blk) (w : World) (h : InB w s bs) (k : InB w t cs) (hl : bs.length + cs.length ≤ 1048576) :
    Calls Try.prog 14 #[.agg #[.int .i64 v, s], .agg #[.int .i64 u, t]] w (RV (.bool true) w) := by
  have hsl := h.slice
  have htl := k.slice
  have hsz := szSystem_any v s bs.length hsl (by omega) 1048576 (by omega) (by omega)
  rw [if_neg (by omega)] at hsz
  obtain ⟨m, hm⟩ : ∃ m, m = (1048576 : Int) - (bs.length : Int) := ⟨_, rfl⟩
  rw [← hm] at hsz
  have hsz2 := szSystem_any u t cs.length htl (by omega) m (by omega) (by omega)
  rw [if_neg (by omega)] at hsz2
  obtain ⟨m2, hm2⟩ : ∃ m2, m2 = m - (cs.length : Int) := ⟨_, rfl⟩
  rw [← hm2] at hsz2
  have hm0 : 0 ≤ m := by omega
  have hm20 : 0 ≤ m2 := by omega
  have HSZ := Lib.hid hsz
  have HSZ2 := Lib.hid hsz2
  have HSB := Lib.hid (h.sb (by omega))
  have KSB := Lib.hid (k.sb (by omega))
  have HWF := Lib.hid h.1
  have KWF := Lib.hid k.1
  have HBD := Lib.hid (show bs.length ≤ 1100000 by omega)
  have KBD := Lib.hid (show cs.length ≤ 1100000 by omega)
  obtain ⟨L, hL⟩ : ∃ L, L = (commonF v bs u cs).1 := ⟨_, rfl⟩
  obtain ⟨κ, hκ⟩ : ∃ κ, κ = (commonF v bs u cs).2 := ⟨_, rfl⟩
  have hp : commonF v bs u cs = (L, κ) := by rw [hL, hκ]
  have LWF := Lib.hid (show ∀ x ∈ L, WFB x by rw [hL]; exact commonF_wf h.1)
  have LBD := Lib.hid (show L.length ≤ 1100000 by rw [hL]; have := commonF_length v u bs cs; omega)
  have HSP := Lib.hid fun (W : World) (s' t' : Value) (h1 : SB W s' bs) (h2 : SB W t' cs) => specCommon_any v s' bs u t' cs W h1 h2
  have HIM := Lib.hid fun (W : World) (s' t' : Value) (h1 : SB W s' bs) (h2 : SB W t' cs) => CommonBlocks_any v s' bs u t' cs W h1 h2
  rw [hp] at HSP HIM
  have hnk : (κ != κ) = false := by simp
  clear hsz hsz2 hm hm2 h k hl hL hκ hp
  obtain ⟨a, c, rfl⟩ := hsl
  obtain ⟨a', c', rfl⟩ := htl
  go_enter Try.func14, Try.ntmps14
  go_wp2_with fail
  refine (HSZ.out _).mono ?_
  rintro e w1 ⟨rfl, hb1⟩
  have st1 := (St2.start w v u (.slice a bs.length c) (.slice a' cs.length c')).step (gb_below hb1) (by simp)
  have x0 := st1.x0
  have x1 := st1.x1
  have y0 := st1.y0
  have y1 := st1.y1
  have ST1 := Lib.hid st1
  clear hb1 st1
  go_wp2_with fail
  refine (HSZ2.out _).mono ?_
  rintro e w2 ⟨rfl, hb2⟩
  have st2 := ST1.out.step (gb_below hb2) (by simp)
  clear x0 x1 y0 y1 hb2 ST1
  have x0 := st2.x0
  have x1 := st2.x1
  have y0 := st2.y0
  have y1 := st2.y1
  have ST2 := Lib.hid st2
  clear st2
  go_upto_region 8 with fail
  go_cut [6, 7] (fun s6 s7 wx => ∃ sW, s6 = sW ∧ s7 = .int .i64 κ ∧ St2 w v u (.slice a bs.length c) (.slice a' cs.length c') wx ∧ ResR wx w2.heap.size wx.heap.size sW L ∧ w.heap.size + 1 < w2.heap.size ∧ w2.heap.size ≤ wx.heap.size)
  case first =>
    go_region_with (first | (go_at_call_of 19 (Value.slice a bs.length c); refine (toSystem_any v _ bs _ ?_).mono ?_; (exact HSB.out.below ST2.out.below.drew (Nat.le_refl _)); rintro e w3 ⟨s3, rfl, ho3, hb3⟩; have st3 := (ST2.out.step (gb_drew _) (by simp)).step (gb_below hb3) (by simp); have y2 := st3.y0; have y3 := st3.y1; have hsb3 := ho3.sb HWF.out HBD.out; obtain ⟨g3, cap3, hs3, _⟩ := id ho3; subst hs3) | (go_at_call_of 19 (Value.slice a' cs.length c'); refine (toSystem_any u _ cs _ ?_).mono ?_; (exact KSB.out.below st3.below (Nat.le_refl _)); rintro e w4 ⟨s4, rfl, ho4, hb4⟩; have hsb4 := ho4.sb KWF.out KBD.out; have hsb34 := hsb3.below hb4 (Nat.le_refl _); obtain ⟨g4, cap4, hs4, _⟩ := id ho4; subst hs4) | (go_at_call 56; refine (HSP.out _ _ _ ?_ ?_).mono ?_; (exact hsb34); (exact hsb4); rintro e w5 ⟨s5, rfl, hr5, hb5⟩; obtain ⟨a5, n5, hs5⟩ := hr5.slice; subst hs5))
    all_goals
      go_wp2_with fail
      go_meet
      have z3 := hb3.size
      have z4 := hb4.size
      have z5 := hb5.size
      simp at z3
      exact ⟨_, rfl, rfl, (st3.step (gb_below hb4) (by simp)).step (gb_below hb5) (by simp), hr5.wide (by omega) (Nat.le_refl _), ST2.out.big, by omega⟩
  case rest =>
    obtain ⟨sW, rfl, rfl, st5, rW, o0, oW⟩ := hcut
    obtain ⟨i1, hi1, rW⟩ : ∃ i1, i1 = wc.heap.size ∧ ResR wc w2.heap.size i1 _ L := ⟨_, rfl, rW⟩
    rw [← hi1] at oW
    have HI1 := Lib.hid hi1
    clear hi1
    obtain ⟨aW, nW, hsW⟩ := rW.slice
    subst hsW
    clear x0 x1 y0 y1 ST2
    have x0 := st5.x0
    have x1 := st5.x1
    have y0 := st5.y0
    have y1 := st5.y1
    have ST5 := Lib.hid st5
    have RW := Lib.hid rW
    clear st5 rW
    go_wp2_with fail
    refine (toSystem_any v _ bs _ (HSB.out.below ST5.out.below (Nat.le_refl _))).mono ?_
    rintro e w6 ⟨s6, rfl, ho6, hb6⟩
    obtain ⟨g6, cap6, hs6, _⟩ := id ho6
    subst hs6
    have st6 := ST5.out.step (gb_below hb6) (by simp)
    have hsb6 := ho6.sb HWF.out HBD.out
    have r6 := ho6.res
    have z6 := hb6.size
    have rW6 := RW.out.below hb6 (Nat.le_refl _)
    have n6 := gb_alloc w6 (.cells #[.int .i64 v, .slice (some ⟨g6, 0, none⟩) bs.length cap6] 29)
    have v7 := VarB.new w6 v (.slice (some ⟨g6, 0, none⟩) bs.length cap6) 29
    have st7 := st6.step n6 (by simp)
    have r7 := r6.kept n6 (by simp)
    have rW7 := rW6.kept n6 (by simp)
    clear x0 x1 y0 y1 hb6 ho6 st6 r6 rW6
    have y0 := st7.y0
    have y1 := st7.y1
    have H7 := Lib.hid (And.intro v7 (And.intro st7 (And.intro r7 rW7)))
    clear v7 st7 r7 rW7 n6
    go_wp2_with fail
    refine (toSystem_any u _ cs _ (KSB.out.below H7.out.2.1.below (Nat.le_refl _))).mono ?_
    rintro e w8 ⟨s8, rfl, ho8, hb8⟩
    obtain ⟨g8, cap8, hs8, _⟩ := id ho8
    subst hs8
    obtain ⟨v7, st7, r7, rW7⟩ := H7.out
    have z8 := hb8.size
    simp at z8
    have n8 := gb_below hb8
    have n9 := gb_alloc w8 (.cells #[.int .i64 u, .slice (some ⟨g8, 0, none⟩) cs.length cap8] 29)
    have n89 := gb_trans n8 n9
    have v9 := VarB.new w8 u (.slice (some ⟨g8, 0, none⟩) cs.length cap8) 29
    have r9 := ho8.res.kept n9 (by simp)
    have hsb8 := ho8.sb KWF.out KBD.out
    have hsb9 := hsb8.below ((Below.refl _ _).alloc (Nat.le_refl _) (.cells #[.int .i64 u, .slice (some ⟨g8, 0, none⟩) cs.length cap8] 29)) (Nat.le_refl _)
    have hsb69 := (hsb6.below ((Below.refl _ _).alloc (Nat.le_refl _) (.cells #[.int .i64 v, .slice (some ⟨g6, 0, none⟩) bs.length cap6] 29)) (Nat.le_refl _)).below (hb8.trans (((Below.refl _ _).alloc (Nat.le_refl _) (.cells #[.int .i64 u, .slice (some ⟨g8, 0, none⟩) cs.length cap8] 29)).mono hb8.size)) (Nat.le_refl _)
    have v79 := v7.step n89 (by simp)
    have st9 := st7.step n89 (by simp)
    have r79 := r7.kept n89 (by simp)
    have rW9 := rW7.kept n89 (by simp)
    clear y0 y1 H7 v7 st7 r7 rW7 ho8 hb8 n8 n9 n89 hsb8 hsb6
    have t0 := v79.c0
    have t1 := v79.c1
    have H9 := Lib.hid (And.intro v79 (And.intro st9 (And.intro r79 (And.intro rW9 (And.intro v9 (And.intro r9 (And.intro hsb69 hsb9)))))))
    clear v79 st9 r79 rW9 v9 r9 hsb69 hsb9
    have zz : w6.heap.size < w8.heap.size := by omega
    go_wp2_with fail
    refine (HIM.out _ _ _ H9.out.2.2.2.2.2.2.1 H9.out.2.2.2.2.2.2.2).mono ?_
    rintro e w10 ⟨s10, rfl, hr10, hb10⟩
    obtain ⟨a10, n10, hs10⟩ := hr10.slice
    subst hs10
    obtain ⟨v79, st9, r79, rW9, v9, r9, hsb69, hsb9⟩ := H9.out
    have z10 := hb10.size
    simp at z10
    have g10 := gb_below hb10
    have hcb : CB w v u (.slice a bs.length c) (.slice a' cs.length c') (.slice aW L.length nW) (.slice (some ⟨g6, 0, none⟩) bs.length cap6) (.slice (some ⟨g8, 0, none⟩) cs.length cap8) (.slice a10 L.length n10) w6.heap.size w8.heap.size
        w2.heap.size i1 w6.heap.size (w6.heap.size + 1) w8.heap.size (w8.heap.size + 1) w10.heap.size L bs cs L w10 :=
      ⟨st9.step g10 (by simp), o0, oW, (by rw [HI1.out]; exact z6), Nat.le_refl _, by omega, by omega, Nat.le_refl _, by omega, by omega, rW9.kept g10 (by simp), (r79.wide (by rw [HI1.out]; exact Nat.le_refl _) (Nat.le_refl _)).kept g10 (by simp), v79.step g10 (by simp), (r9.wide (by simp) (Nat.le_refl _)).kept g10 (by simp), v9.step g10 (by simp), hr10.wide (by simp) (Nat.le_refl _)⟩
    have HCB := Lib.hid hcb
    clear hcb v79 st9 r79 rW9 v9 r9 hsb69 hsb9 hr10 hb10 z10 g10 t0 t1 H9
    go_wp2_with fail
    refine (eqBlockS_same _ _ L _ (HCB.out.rG.sb LWF.out LBD.out) (HCB.out.rW.sb LWF.out LBD.out)).mono ?_
    rintro e w11 ⟨rfl, hb11⟩
    have hcb := HCB.out.step (gb_below hb11)
    have x0 := hcb.st.x0
    have x1 := hcb.st.x1
    have y0 := hcb.st.y0
    have y1 := hcb.st.y1
    have t0 := hcb.vX.c0
    have t1 := hcb.vX.c1
    have t2 := hcb.vY.c0
    have t3 := hcb.vY.c1
    have HCB1 := Lib.hid hcb
    clear hcb hb11 HCB
    go_upto_region 14 with fail
    go_cut [58] (fun sq wx => sq = .bool false ∧ CB w v u (.slice a bs.length c) (.slice a' cs.length c') (.slice aW L.length nW) (.slice (some ⟨g6, 0, none⟩) bs.length cap6) (.slice (some ⟨g8, 0, none⟩) cs.length cap8) (.slice a10 L.length n10) w6.heap.size w8.heap.size w2.heap.size i1 w6.heap.size (w6.heap.size + 1) w8.heap.size (w8.heap.size + 1) w10.heap.size L bs cs L wx)
    case first =>
      go_region_with (first | (go_at_call 19; refine (toSystem_any v _ bs _ ?_).mono ?_; (exact HSB.out.below HCB1.out.st.below.drew (Nat.le_refl _)); rintro e w30 ⟨s30, rfl, ho30, hb30⟩; have hcb30 := (HCB1.out.step (gb_drew _)).step (gb_below hb30); have v0 := hcb30.vX.c0; have v1 := hcb30.vX.c1; have HCB30 := Lib.hid hcb30; clear hcb30; have hsb30 := ho30.sb HWF.out HBD.out; obtain ⟨g30, cap30, hs30, _⟩ := id ho30; subst hs30) | (go_at_call 21; refine (eqSystem_same v _ _ bs _ ?_ ?_).mono ?_; (exact HCB30.out.r8.sb HWF.out HBD.out); (exact hsb30); rintro e w31 ⟨rfl, hb31⟩))
      all_goals
        go_wp2_with fail
        go_meet
        exact ⟨rfl, HCB30.out.step (gb_below hb31)⟩
    case rest =>
    obtain ⟨rfl, hcb⟩ := hcut
    clear x0 x1 y0 y1 t0 t1 t2 t3
    have x0 := hcb.st.x0
    have x1 := hcb.st.x1
    have y0 := hcb.st.y0
    have y1 := hcb.st.y1
    have t0 := hcb.vX.c0
    have t1 := hcb.vX.c1
    have t2 := hcb.vY.c0
    have t3 := hcb.vY.c1
    have HCB2 := Lib.hid hcb
    clear hcb HCB1
    go_upto_region 16 with fail
    go_cut [63] (fun sq wx => sq = .bool false ∧ CB w v u (.slice a bs.length c) (.slice a' cs.length c') (.slice aW L.length nW) (.slice (some ⟨g6, 0, none⟩) bs.length cap6) (.slice (some ⟨g8, 0, none⟩) cs.length cap8) (.slice a10 L.length n10) w6.heap.size w8.heap.size w2.heap.size i1 w6.heap.size (w6.heap.size + 1) w8.heap.size (w8.heap.size + 1) w10.heap.size L bs cs L wx)
    case first =>
      go_region_with (first | (go_at_call 19; refine (toSystem_any u _ cs _ ?_).mono ?_; (exact KSB.out.below HCB2.out.st.below.drew (Nat.le_refl _)); rintro e w30 ⟨s30, rfl, ho30, hb30⟩; have hcb30 := (HCB2.out.step (gb_drew _)).step (gb_below hb30); have v0 := hcb30.vY.c0; have v1 := hcb30.vY.c1; have HCB30 := Lib.hid hcb30; clear hcb30; have hsb30 := ho30.sb KWF.out KBD.out; obtain ⟨g30, cap30, hs30, _⟩ := id ho30; subst hs30) | (go_at_call 21; refine (eqSystem_same u _ _ cs _ ?_ ?_).mono ?_; (exact HCB30.out.r9.sb KWF.out KBD.out); (exact hsb30); rintro e w31 ⟨rfl, hb31⟩))
      all_goals
        go_wp2_with fail
        go_meet
        exact ⟨rfl, HCB30.out.step (gb_below hb31)⟩
    case rest =>
    obtain ⟨rfl, hcb⟩ := hcut
    clear x0 x1 y0 y1 t0 t1 t2 t3
    have x0 := hcb.st.x0
    have x1 := hcb.st.x1
    have y0 := hcb.st.y0
    have y1 := hcb.st.y1
    have t0 := hcb.vX.c0
    have t1 := hcb.vX.c1
    have t2 := hcb.vY.c0
    have t3 := hcb.vY.c1
    have HCB3 := Lib.hid hcb
    clear hcb HCB2
    go_wp2_with fail
    refine (markSystem_any _ _ v _ bs 1 _ HCB3.out.r8 HBD.out (by omega) (by omega)).mono ?_
    rintro e w12 ⟨rfl, ⟨row, hg12, hrow⟩, hr12⟩
    have hcb := HCB3.out.mark8 hg12 hrow hr12
    clear x0 x1 y0 y1 t0 t1 t2 t3
    have x0 := hcb.st.x0
    have x1 := hcb.st.x1
    have y0 := hcb.st.y0
    have y1 := hcb.st.y1
    have t0 := hcb.vX.c0
    have t1 := hcb.vX.c1
    have t2 := hcb.vY.c0
    have t3 := hcb.vY.c1
    have HCB4 := Lib.hid hcb
    clear hcb hg12 hrow hr12 HCB3
    obtain ⟨m3, hm3⟩ : ∃ m3, m3 = 1 + 3 * (bs.length : Int) := ⟨_, rfl⟩
    rw [← hm3]
    have m30 : 0 ≤ m3 := by omega
    have m31 : m3 ≤ 4000000 := by have := HBD.out; omega
    clear hm3
    go_wp2_with fail
    refine (markSystem_any _ _ u _ cs m3 _ HCB4.out.r9 KBD.out (by omega) (by omega)).mono ?_
    rintro e w13 ⟨rfl, ⟨row, hg13, hrow⟩, hr13⟩
    have hcb := HCB4.out.mark9 hg13 hrow hr13
    clear x0 x1 y0 y1 t0 t1 t2 t3
    have x0 := hcb.st.x0
    have x1 := hcb.st.x1
    have y0 := hcb.st.y0
    have y1 := hcb.st.y1
    have t0 := hcb.vX.c0
    have t1 := hcb.vX.c1
    have t2 := hcb.vY.c0
    have t3 := hcb.vY.c1
    have HCB5 := Lib.hid hcb
    clear hcb hg13 hrow hr13 HCB4
    obtain ⟨m4, hm4⟩ : ∃ m4, m4 = m3 + 3 * (cs.length : Int) := ⟨_, rfl⟩
    rw [← hm4]
    have m40 : 0 ≤ m4 := by omega
    clear hm4
    go_wp2_with fail
    refine (eqBlockS_same _ _ L _ (HCB5.out.rG.sb LWF.out LBD.out) (HCB5.out.rW.sb LWF.out LBD.out)).mono ?_
    rintro e w14 ⟨rfl, hb14⟩
    have hcb := HCB5.out.step (gb_below hb14)
    clear x0 x1 y0 y1 t0 t1 t2 t3
    have x0 := hcb.st.x0
    have x1 := hcb.st.x1
    have y0 := hcb.st.y0
    have y1 := hcb.st.y1
    have t0 := hcb.vX.c0
    have t1 := hcb.vX.c1
    have t2 := hcb.vY.c0
    have t3 := hcb.vY.c1
    have HCB6 := Lib.hid hcb
    clear hcb hb14 HCB5
    go_wp2_with fail
    refine (markR _ _ _ L 1 _ HCB6.out.rG LBD.out (by omega) (by omega)).mono ?_
    rintro e w15 ⟨rfl, ⟨row, hg15, hrow⟩, hr15⟩
    have hcb := HCB6.out.markG hg15 hrow hr15
    clear x0 x1 y0 y1 t0 t1 t2 t3
    have x0 := hcb.st.x0
    have x1 := hcb.st.x1
    have y0 := hcb.st.y0
    have y1 := hcb.st.y1
    have t0 := hcb.vX.c0
    have t1 := hcb.vX.c1
    have t2 := hcb.vY.c0
    have t3 := hcb.vY.c1
    have HCB7 := Lib.hid hcb
    clear hcb hg15 hrow hr15 HCB6
    obtain ⟨m5, hm5⟩ : ∃ m5, m5 = 1 + 3 * (L.length : Int) := ⟨_, rfl⟩
    have hheld := fun W (h : ResR W _ _ (Value.slice a10 L.length n10) (markL 1 L.length)) => heldR w8.heap.size.succ w10.heap.size (.slice a10 L.length n10) L.length 1 W h LBD.out (by omega) (by omega)
    rw [← hm5] at hheld ⊢
    have HHELD := Lib.hid hheld
    have m50 : 0 ≤ m5 := by omega
    have hn5 : (m5 != m5) = false := by simp
    clear hm5 hheld
    go_wp2_with fail
    refine (HHELD.out _ HCB7.out.rG).mono ?_
    rintro e w16 ⟨rfl, rfl⟩
    go_upto_region 31 with fail
    go_cut [15, 16] (fun s15 s16 wx => ∃ a15 n15, s15 = .slice a15 L.length n15 ∧ s16 = .int .i64 κ ∧ CB w v u (.slice a bs.length c) (.slice a' cs.length c') (.slice aW L.length nW) (.slice (some ⟨g6, 0, none⟩) bs.length cap6) (.slice (some ⟨g8, 0, none⟩) cs.length cap8) (.slice a10 L.length n10) w6.heap.size w8.heap.size w2.heap.size i1 w6.heap.size (w6.heap.size + 1) w8.heap.size (w8.heap.size + 1) w10.heap.size L (markL 1 bs.length) (markL m3 cs.length) (markL 1 L.length) wx ∧ SB wx (.slice a15 L.length n15) L)
    case first =>
      go_region_with (first | (go_at_call_of 19 (Value.slice a bs.length c); refine (toSystem_any v _ bs _ ?_).mono ?_; (exact HSB.out.below HCB7.out.st.below.drew (Nat.le_refl _)); rintro e w33 ⟨s33, rfl, ho33, hb33⟩; have hcb33 := (HCB7.out.step (gb_drew _)).step (gb_below hb33); have y2 := hcb33.st.y0; have y3 := hcb33.st.y1; have HCB33 := Lib.hid hcb33; clear hcb33; have hsb33 := ho33.sb HWF.out HBD.out; obtain ⟨g33, cap33, hs33, _⟩ := id ho33; subst hs33) | (go_at_call_of 19 (Value.slice a' cs.length c'); refine (toSystem_any u _ cs _ ?_).mono ?_; (exact KSB.out.below HCB33.out.st.below (Nat.le_refl _)); rintro e w34 ⟨s34, rfl, ho34, hb34⟩; have hsb34 := ho34.sb KWF.out KBD.out; have hsb334 := hsb33.below hb34 (Nat.le_refl _); obtain ⟨g34, cap34, hs34, _⟩ := id ho34; subst hs34) | (go_at_call 57; refine (HIM.out _ _ _ ?_ ?_).mono ?_; (exact hsb334); (exact hsb34); rintro e w35 ⟨s35, rfl, hr35, hb35⟩; obtain ⟨a35, n35, hs35⟩ := hr35.slice; subst hs35))
      all_goals
        go_wp2_with fail
        go_meet
        exact ⟨_, _, rfl, rfl, (HCB33.out.step (gb_below hb34)).step (gb_below hb35), hr35.sb LWF.out LBD.out⟩
    case rest =>
    obtain ⟨a15, n15, rfl, rfl, hcb, hsb15⟩ := hcut
    clear x0 x1 y0 y1 t0 t1 t2 t3 HCB7
    have HCB8 := Lib.hid hcb
    clear hcb
    go_wp2_with fail
    refine (eqBlockS_same _ _ L _ hsb15 (HCB8.out.rW.sb LWF.out LBD.out)).mono ?_
    rintro e w36 ⟨rfl, hb36⟩
    have HCB9 := Lib.hid (HCB8.out.step (gb_below hb36))
    clear hb36 hsb15 HCB8
    go_wp2_with fail
    refine (HHELD.out _ HCB9.out.rG).mono ?_
    rintro e w37 ⟨rfl, rfl⟩
    go_wp2
    go_ret
    exact RV_of rfl HCB9.out.st.below

set_option maxRecDepth 100000 in
theorem FnExactCommonBlocks_long1 (v : Int) (s : Value) (bs : List Blk) (u : Int) (t : Value) (cs : List Blk) (w : World) (h : InB w s bs) (k : InB w t cs) (hl : ¬ bs.length ≤ 1048576) :
    Calls Try.prog 14 #[.agg #[.int .i64 v, s], .agg #[.int .i64 u, t]] w (RV (.bool true) w) := by
  have hsl := h.slice
  have htl := k.slice
  have hbd := h.2.1
  have hsz := szSystem_any v s bs.length hsl (by omega) 1048576 (by omega) (by omega)
  rw [if_pos (by omega)] at hsz
  have HSZ := Lib.hid hsz
  clear hsz h k
  obtain ⟨a, c, rfl⟩ := hsl
  obtain ⟨a', c', rfl⟩ := htl
  go_enter Try.func14, Try.ntmps14
  go_wp2_with (go_at_call 17; refine (HSZ.out _).mono ?_; rintro e w1 ⟨rfl, hb1⟩)
  go_ret
  exact RV_of rfl ((((Below.refl _ _).alloc (Nat.le_refl _) _).alloc (by simp) _).trans (hb1.mono (by simp; omega)))
set_option maxRecDepth 100000 in
theorem FnExactCommonBlocks_long2 (v : Int) (s : Value) (bs : List Blk) (u : Int) (t : Value) (cs : List Blk) (w : World) (h : InB w s bs) (k : InB w t cs) (hl : bs.length ≤ 1048576) (hl2 : ¬ bs.length + cs.length ≤ 1048576) :
    Calls Try.prog 14 #[.agg #[.int .i64 v, s], .agg #[.int .i64 u, t]] w (RV (.bool true) w) := by
  have hsl := h.slice
  have htl := k.slice
  have hbd := k.2.1
  have hsz := szSystem_any v s bs.length hsl (by omega) 1048576 (by omega) (by omega)
  rw [if_neg (by omega)] at hsz
  obtain ⟨m, hm⟩ : ∃ m, m = (1048576 : Int) - (bs.length : Int) := ⟨_, rfl⟩
  rw [← hm] at hsz
  have hm0 : 0 ≤ m := by omega
  have hsz2 := szSystem_any u t cs.length htl (by omega) m (by omega) (by omega)
  rw [if_pos (by omega)] at hsz2
  have HSZ := Lib.hid hsz
  have HSZ2 := Lib.hid hsz2
  clear hsz hsz2 h k hm
  obtain ⟨a, c, rfl⟩ := hsl
  obtain ⟨a', c', rfl⟩ := htl
  go_enter Try.func14, Try.ntmps14
  go_wp2_with fail
  refine (HSZ.out _).mono ?_
  rintro e w1 ⟨rfl, hb1⟩
  have st1 := (St2.start w v u (.slice a bs.length c) (.slice a' cs.length c')).step (gb_below hb1) (by simp)
  have y0 := st1.y0
  have y1 := st1.y1
  have ST1 := Lib.hid st1
  clear hb1 st1
  go_wp2_with (go_at_call 17; refine (HSZ2.out _).mono ?_; rintro e w2 ⟨rfl, hb2⟩)
  go_ret
  exact RV_of rfl (ST1.out.below.trans (hb2.mono ST1.out.below.size))

theorem FnExactCommonBlocks_any (v : Int) (s : Value) (bs : List Blk) (u : Int) (t : Value) (cs : List Blk) (w : World) (h : InB w s bs) (k : InB w t cs) :
    Calls Try.prog 14 #[.agg #[.int .i64 v, s], .agg #[.int .i64 u, t]] w (RV (.bool true) w) := by
  by_cases hl : bs.length ≤ 1048576
  · by_cases hl2 : bs.length + cs.length ≤ 1048576
    · exact FnExactCommonBlocks_main v s bs u t cs w h k hl2
    · exact FnExactCommonBlocks_long2 v s bs u t cs w h k hl hl2
  · exact FnExactCommonBlocks_long1 v s bs u t cs w h k hl
end Go.Proofs.Ytomcjifklggcnaa

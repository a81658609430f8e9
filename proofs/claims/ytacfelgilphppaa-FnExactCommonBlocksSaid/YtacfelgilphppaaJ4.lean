
/- The law FnExactCommonBlocks returns true. How the laws' arguments are read. The dump's head word by word, cheaply: what every row asks of it. -/
import Derived.Test.YtacfelgilphppaaJ3
import Derived.Deep.RegionWith
import Derived.Deep.DeepCutAuto
import Derived.Test.YtacfelgilphppaaRows
import Derived.ProofKit
import Derived.OpenShut
import Derived.Deep.Slices
import Derived.Lib.SmallJoins
import Derived.ChangeOld
namespace Go.Proofs.Ytacfelgilphppaa
open Go.RowKit Go.Maps
theorem gb_drew (w : World) : w.grownBy w.drew none := ⟨rfl, rfl, rfl, Nat.le_refl _, fun _ _ _ => rfl⟩
theorem gb_alloc (w : World) (o : Obj) : w.grownBy (w.alloc o) none := World.grownBy_alloc w o none
theorem commonF_wf {v u : Int} {bs cs : List Blk} (h : ∀ x ∈ bs, WFB x) : ∀ x ∈ (commonF v bs u cs).1, WFB x := by
  unfold commonF
  split
  · split
    · exact commonL_wf h
    · simp
  · simp
theorem commonF_length (v u : Int) (bs cs : List Blk) : (commonF v bs u cs).1.length ≤ bs.length := by
  unfold commonF
  split
  · split
    · exact commonL_length _ _
    · simp
  · simp

set_option maxRecDepth 100000 in
set_option maxHeartbeats 4000000 in
theorem FnExactCommonBlocks_main (v : Int) (s : Value) (bs : List Blk) (u : Int) (t : Value) (cs : List Blk) (w : World) (h : InB w s bs) (k : InB w t cs) (hl : bs.length + cs.length ≤ 1048576) :
    Calls Try.prog 4 #[.agg #[.int .i64 v, s], .agg #[.int .i64 u, t]] w (RV (.bool true) w) := by
  have hsl := h.slice
  have htl := k.slice
  have hsz := szSystem_any v s bs.length hsl (by omega) 1048576 (by omega) (by omega)
  rw [if_neg (by omega)] at hsz
  obtain ⟨m, hm⟩ : ∃ m, m = (1048576 : Int) - (bs.length : Int) := ⟨_, rfl⟩
  rw [← hm] at hsz
  have hsz2 := szSystem_any u t cs.length htl (by omega) m (by omega) (by omega)
  rw [if_neg (by omega)] at hsz2
  obtain ⟨m2, hm2⟩ : ∃ m2, m2 = m - (cs.length : Int) := ⟨_, rfl⟩
  rw [← hm2] at hsz2
  have hm0 : 0 ≤ m := by omega
  have hm20 : 0 ≤ m2 := by omega
  have HSZ := Lib.hid hsz
  have HSZ2 := Lib.hid hsz2
  have HSB := Lib.hid (h.sb (by omega))
  have KSB := Lib.hid (k.sb (by omega))
  have HWF := Lib.hid h.1
  have KWF := Lib.hid k.1
  have HBD := Lib.hid (show bs.length ≤ 1100000 by omega)
  have KBD := Lib.hid (show cs.length ≤ 1100000 by omega)
  obtain ⟨L, hL⟩ : ∃ L, L = (commonF v bs u cs).1 := ⟨_, rfl⟩
  obtain ⟨κ, hκ⟩ : ∃ κ, κ = (commonF v bs u cs).2 := ⟨_, rfl⟩
  have hp : commonF v bs u cs = (L, κ) := by rw [hL, hκ]
  have LWF := Lib.hid (show ∀ x ∈ L, WFB x by rw [hL]; exact commonF_wf h.1)
  have LBD := Lib.hid (show L.length ≤ 1100000 by rw [hL]; have := commonF_length v u bs cs; omega)
  have HSP := Lib.hid fun (W : World) (s' t' : Value) (h1 : SB W s' bs) (h2 : SB W t' cs) => specCommon_any v s' bs u t' cs W h1 h2
  have HIM := Lib.hid fun (W : World) (s' t' : Value) (h1 : SB W s' bs) (h2 : SB W t' cs) => CommonBlocks_any v s' bs u t' cs W h1 h2
  rw [hp] at HSP HIM
  have hnk : (κ != κ) = false := by simp
  clear hsz hsz2 hm hm2 h k hl hL hκ hp
  obtain ⟨a, c, rfl⟩ := hsl
  obtain ⟨a', c', rfl⟩ := htl
  go_enter Try.func4, Try.ntmps4
  go_wp2_with fail
  refine (HSZ.out _).mono ?_
  rintro e w1 ⟨rfl, hb1⟩
  have st1 := (St2.start w v u (.slice a bs.length c) (.slice a' cs.length c')).step (gb_below hb1) (by simp)
  have x0 := st1.x0
  have x1 := st1.x1
  have y0 := st1.y0
  have y1 := st1.y1
  have ST1 := Lib.hid st1
  clear hb1 st1
  go_wp2_with fail
  refine (HSZ2.out _).mono ?_
  rintro e w2 ⟨rfl, hb2⟩
  have st2 := ST1.out.step (gb_below hb2) (by simp)
  clear x0 x1 y0 y1 hb2 ST1
  have x0 := st2.x0
  have x1 := st2.x1
  have y0 := st2.y0
  have y1 := st2.y1
  have ST2 := Lib.hid st2
  clear st2
  go_upto_region 8 with fail
  go_cut [6, 7] (fun s6 s7 wx => ∃ sW, s6 = sW ∧ s7 = .int .i64 κ ∧ St2 w v u (.slice a bs.length c) (.slice a' cs.length c') wx ∧ ResR wx w2.heap.size wx.heap.size sW L ∧ w.heap.size + 1 < w2.heap.size ∧ w2.heap.size ≤ wx.heap.size)
  case first =>
    go_region_with (first | (go_at_call_of 26 (Value.slice a bs.length c); refine (toSystem_any v _ bs _ ?_).mono ?_; (exact HSB.out.below ST2.out.below.drew (Nat.le_refl _)); rintro e w3 ⟨s3, rfl, ho3, hb3⟩; have st3 := (ST2.out.step (gb_drew _) (by simp)).step (gb_below hb3) (by simp); have y2 := st3.y0; have y3 := st3.y1; have hsb3 := ho3.sb HWF.out HBD.out; obtain ⟨g3, cap3, hs3, _⟩ := id ho3; subst hs3) | (go_at_call_of 26 (Value.slice a' cs.length c'); refine (toSystem_any u _ cs _ ?_).mono ?_; (exact KSB.out.below st3.below (Nat.le_refl _)); rintro e w4 ⟨s4, rfl, ho4, hb4⟩; have hsb4 := ho4.sb KWF.out KBD.out; have hsb34 := hsb3.below hb4 (Nat.le_refl _); obtain ⟨g4, cap4, hs4, _⟩ := id ho4; subst hs4) | (go_at_call 33; refine (HSP.out _ _ _ ?_ ?_).mono ?_; (exact hsb34); (exact hsb4); rintro e w5 ⟨s5, rfl, hr5, hb5⟩; obtain ⟨a5, n5, hs5⟩ := hr5.slice; subst hs5))
    all_goals
      go_wp2_with fail
      go_meet
      have z3 := hb3.size
      have z4 := hb4.size
      have z5 := hb5.size
      simp at z3
      exact ⟨_, rfl, rfl, (st3.step (gb_below hb4) (by simp)).step (gb_below hb5) (by simp), hr5.wide (by omega) (Nat.le_refl _), ST2.out.big, by omega⟩
  case rest =>
    obtain ⟨sW, rfl, rfl, st5, rW, o0, oW⟩ := hcut
    obtain ⟨i1, hi1, rW⟩ : ∃ i1, i1 = wc.heap.size ∧ ResR wc w2.heap.size i1 _ L := ⟨_, rfl, rW⟩
    rw [← hi1] at oW
    have HI1 := Lib.hid hi1
    clear hi1
    obtain ⟨aW, nW, hsW⟩ := rW.slice
    subst hsW
    clear x0 x1 y0 y1 ST2
    have x0 := st5.x0
    have x1 := st5.x1
    have y0 := st5.y0
    have y1 := st5.y1
    have ST5 := Lib.hid st5
    have RW := Lib.hid rW
    clear st5 rW
    go_wp2_with fail
    refine (toSystem_any v _ bs _ (HSB.out.below ST5.out.below (Nat.le_refl _))).mono ?_
    rintro e w6 ⟨s6, rfl, ho6, hb6⟩
    obtain ⟨g6, cap6, hs6, _⟩ := id ho6
    subst hs6
    have st6 := ST5.out.step (gb_below hb6) (by simp)
    have hsb6 := ho6.sb HWF.out HBD.out
    have r6 := ho6.res
    have z6 := hb6.size
    have rW6 := RW.out.below hb6 (Nat.le_refl _)
    have n6 := gb_alloc w6 (.cells #[.int .i64 v, .slice (some ⟨g6, 0, none⟩) bs.length cap6] 31)
    have v7 := VarB.new w6 v (.slice (some ⟨g6, 0, none⟩) bs.length cap6) 31
    have st7 := st6.step n6 (by simp)
    have r7 := r6.kept n6 (by simp)
    have rW7 := rW6.kept n6 (by simp)
    clear x0 x1 y0 y1 hb6 ho6 st6 r6 rW6
    have y0 := st7.y0
    have y1 := st7.y1
    have H7 := Lib.hid (And.intro v7 (And.intro st7 (And.intro r7 rW7)))
    clear v7 st7 r7 rW7 n6
    go_wp2_with fail
    refine (toSystem_any u _ cs _ (KSB.out.below H7.out.2.1.below (Nat.le_refl _))).mono ?_
    rintro e w8 ⟨s8, rfl, ho8, hb8⟩
    obtain ⟨g8, cap8, hs8, _⟩ := id ho8
    subst hs8
    obtain ⟨v7, st7, r7, rW7⟩ := H7.out
    have z8 := hb8.size
    simp at z8
    have n8 := gb_below hb8
    have n9 := gb_alloc w8 (.cells #[.int .i64 u, .slice (some ⟨g8, 0, none⟩) cs.length cap8] 31)
    have n89 := gb_trans n8 n9
    have v9 := VarB.new w8 u (.slice (some ⟨g8, 0, none⟩) cs.length cap8) 31
    have r9 := ho8.res.kept n9 (by simp)
    have hsb8 := ho8.sb KWF.out KBD.out
    have hsb9 := hsb8.below ((Below.refl _ _).alloc (Nat.le_refl _) (.cells #[.int .i64 u, .slice (some ⟨g8, 0, none⟩) cs.length cap8] 31)) (Nat.le_refl _)
    have hsb69 := (hsb6.below ((Below.refl _ _).alloc (Nat.le_refl _) (.cells #[.int .i64 v, .slice (some ⟨g6, 0, none⟩) bs.length cap6] 31)) (Nat.le_refl _)).below (hb8.trans (((Below.refl _ _).alloc (Nat.le_refl _) (.cells #[.int .i64 u, .slice (some ⟨g8, 0, none⟩) cs.length cap8] 31)).mono hb8.size)) (Nat.le_refl _)
    have v79 := v7.step n89 (by simp)
    have st9 := st7.step n89 (by simp)
    have r79 := r7.kept n89 (by simp)
    have rW9 := rW7.kept n89 (by simp)
    clear y0 y1 H7 v7 st7 r7 rW7 ho8 hb8 n8 n9 n89 hsb8 hsb6
    have t0 := v79.c0
    have t1 := v79.c1
    have H9 := Lib.hid (And.intro v79 (And.intro st9 (And.intro r79 (And.intro rW9 (And.intro v9 (And.intro r9 (And.intro hsb69 hsb9)))))))
    clear v79 st9 r79 rW9 v9 r9 hsb69 hsb9
    have zz : w6.heap.size < w8.heap.size := by omega
    go_wp2_with fail
    refine (HIM.out _ _ _ H9.out.2.2.2.2.2.2.1 H9.out.2.2.2.2.2.2.2).mono ?_
    rintro e w10 ⟨s10, rfl, hr10, hb10⟩
    obtain ⟨a10, n10, hs10⟩ := hr10.slice
    subst hs10
    obtain ⟨v79, st9, r79, rW9, v9, r9, hsb69, hsb9⟩ := H9.out
    have z10 := hb10.size
    simp at z10
    have g10 := gb_below hb10
    have hcb : CB w v u (.slice a bs.length c) (.slice a' cs.length c') (.slice aW L.length nW) (.slice (some ⟨g6, 0, none⟩) bs.length cap6) (.slice (some ⟨g8, 0, none⟩) cs.length cap8) (.slice a10 L.length n10) w6.heap.size w8.heap.size
        w2.heap.size i1 w6.heap.size (w6.heap.size + 1) w8.heap.size (w8.heap.size + 1) w10.heap.size L bs cs L w10 :=
      ⟨st9.step g10 (by simp), o0, oW, (by rw [HI1.out]; exact z6), Nat.le_refl _, by omega, by omega, Nat.le_refl _, by omega, by omega, rW9.kept g10 (by simp), (r79.wide (by rw [HI1.out]; exact Nat.le_refl _) (Nat.le_refl _)).kept g10 (by simp), v79.step g10 (by simp), (r9.wide (by simp) (Nat.le_refl _)).kept g10 (by simp), v9.step g10 (by simp), hr10.wide (by simp) (Nat.le_refl _)⟩
    have HCB := Lib.hid hcb
    clear hcb v79 st9 r79 rW9 v9 r9 hsb69 hsb9 hr10 hb10 z10 g10 t0 t1 H9
    go_wp2_with fail
    refine (eqBlockS_same _ _ L _ (HCB.out.rG.sb LWF.out LBD.out) (HCB.out.rW.sb LWF.out LBD.out)).mono ?_
    rintro e w11 ⟨rfl, hb11⟩
    have hcb := HCB.out.step (gb_below hb11)
    have x0 := hcb.st.x0
    have x1 := hcb.st.x1
    have y0 := hcb.st.y0
    have y1 := hcb.st.y1
    have t0 := hcb.vX.c0
    have t1 := hcb.vX.c1
    have t2 := hcb.vY.c0
    have t3 := hcb.vY.c1
    have HCB1 := Lib.hid hcb
    clear hcb hb11 HCB
    go_upto_region 14 with fail
    go_cut [58] (fun sq wx => sq = .bool false ∧ CB w v u (.slice a bs.length c) (.slice a' cs.length c') (.slice aW L.length nW) (.slice (some ⟨g6, 0, none⟩) bs.length cap6) (.slice (some ⟨g8, 0, none⟩) cs.length cap8) (.slice a10 L.length n10) w6.heap.size w8.heap.size w2.heap.size i1 w6.heap.size (w6.heap.size + 1) w8.heap.size (w8.heap.size + 1) w10.heap.size L bs cs L wx)
    case first =>
      go_region_with (first | (go_at_call 26; refine (toSystem_any v _ bs _ ?_).mono ?_; (exact HSB.out.below HCB1.out.st.below.drew (Nat.le_refl _)); rintro e w30 ⟨s30, rfl, ho30, hb30⟩; have hcb30 := (HCB1.out.step (gb_drew _)).step (gb_below hb30); have v0 := hcb30.vX.c0; have v1 := hcb30.vX.c1; have HCB30 := Lib.hid hcb30; clear hcb30; have hsb30 := ho30.sb HWF.out HBD.out; obtain ⟨g30, cap30, hs30, _⟩ := id ho30; subst hs30) | (go_at_call 29; refine (eqSystem_same v _ _ bs _ ?_ ?_).mono ?_; (exact HCB30.out.r8.sb HWF.out HBD.out); (exact hsb30); rintro e w31 ⟨rfl, hb31⟩))
      all_goals
        go_wp2_with fail
        go_meet
        exact ⟨rfl, HCB30.out.step (gb_below hb31)⟩
    case rest =>
    obtain ⟨rfl, hcb⟩ := hcut
    clear x0 x1 y0 y1 t0 t1 t2 t3
    have x0 := hcb.st.x0
    have x1 := hcb.st.x1
    have y0 := hcb.st.y0
    have y1 := hcb.st.y1
    have t0 := hcb.vX.c0
    have t1 := hcb.vX.c1
    have t2 := hcb.vY.c0
    have t3 := hcb.vY.c1
    have HCB2 := Lib.hid hcb
    clear hcb HCB1
    go_upto_region 16 with fail
    go_cut [63] (fun sq wx => sq = .bool false ∧ CB w v u (.slice a bs.length c) (.slice a' cs.length c') (.slice aW L.length nW) (.slice (some ⟨g6, 0, none⟩) bs.length cap6) (.slice (some ⟨g8, 0, none⟩) cs.length cap8) (.slice a10 L.length n10) w6.heap.size w8.heap.size w2.heap.size i1 w6.heap.size (w6.heap.size + 1) w8.heap.size (w8.heap.size + 1) w10.heap.size L bs cs L wx)
    case first =>
      go_region_with (first | (go_at_call 26; refine (toSystem_any u _ cs _ ?_).mono ?_; (exact KSB.out.below HCB2.out.st.below.drew (Nat.le_refl _)); rintro e w30 ⟨s30, rfl, ho30, hb30⟩; have hcb30 := (HCB2.out.step (gb_drew _)).step (gb_below hb30); have v0 := hcb30.vY.c0; have v1 := hcb30.vY.c1; have HCB30 := Lib.hid hcb30; clear hcb30; have hsb30 := ho30.sb KWF.out KBD.out; obtain ⟨g30, cap30, hs30, _⟩ := id ho30; subst hs30) | (go_at_call 29; refine (eqSystem_same u _ _ cs _ ?_ ?_).mono ?_; (exact HCB30.out.r9.sb KWF.out KBD.out); (exact hsb30); rintro e w31 ⟨rfl, hb31⟩))
      all_goals
        go_wp2_with fail
        go_meet
        exact ⟨rfl, HCB30.out.step (gb_below hb31)⟩
    case rest =>
    obtain ⟨rfl, hcb⟩ := hcut
    clear x0 x1 y0 y1 t0 t1 t2 t3
    have x0 := hcb.st.x0
    have x1 := hcb.st.x1
    have y0 := hcb.st.y0
    have y1 := hcb.st.y1
    have t0 := hcb.vX.c0
    have t1 := hcb.vX.c1
    have t2 := hcb.vY.c0
    have t3 := hcb.vY.c1
    have HCB3 := Lib.hid hcb
    clear hcb HCB2
    go_wp2_with fail
    refine (markSystem_any _ _ v _ bs 1 _ HCB3.out.r8 HBD.out (by omega) (by omega)).mono ?_
    rintro e w12 ⟨rfl, ⟨row, hg12, hrow⟩, hr12⟩
    have hcb := HCB3.out.mark8 hg12 hrow hr12
    clear x0 x1 y0 y1 t0 t1 t2 t3
    have x0 := hcb.st.x0
    have x1 := hcb.st.x1
    have y0 := hcb.st.y0
    have y1 := hcb.st.y1
    have t0 := hcb.vX.c0
    have t1 := hcb.vX.c1
    have t2 := hcb.vY.c0
    have t3 := hcb.vY.c1
    have HCB4 := Lib.hid hcb
    clear hcb hg12 hrow hr12 HCB3
    obtain ⟨m3, hm3⟩ : ∃ m3, m3 = 1 + 3 * (bs.length : Int) := ⟨_, rfl⟩
    rw [← hm3]
    have m30 : 0 ≤ m3 := by omega
    have m31 : m3 ≤ 4000000 := by have := HBD.out; omega
    clear hm3
    go_wp2_with fail
    refine (markSystem_any _ _ u _ cs m3 _ HCB4.out.r9 KBD.out (by omega) (by omega)).mono ?_
    rintro e w13 ⟨rfl, ⟨row, hg13, hrow⟩, hr13⟩
    have hcb := HCB4.out.mark9 hg13 hrow hr13
    clear x0 x1 y0 y1 t0 t1 t2 t3
    have x0 := hcb.st.x0
    have x1 := hcb.st.x1
    have y0 := hcb.st.y0
    have y1 := hcb.st.y1
    have t0 := hcb.vX.c0
    have t1 := hcb.vX.c1
    have t2 := hcb.vY.c0
    have t3 := hcb.vY.c1
    have HCB5 := Lib.hid hcb
    clear hcb hg13 hrow hr13 HCB4
    obtain ⟨m4, hm4⟩ : ∃ m4, m4 = m3 + 3 * (cs.length : Int) := ⟨_, rfl⟩
    rw [← hm4]
    have m40 : 0 ≤ m4 := by omega
    clear hm4
    go_wp2_with fail
    refine (eqBlockS_same _ _ L _ (HCB5.out.rG.sb LWF.out LBD.out) (HCB5.out.rW.sb LWF.out LBD.out)).mono ?_
    rintro e w14 ⟨rfl, hb14⟩
    have hcb := HCB5.out.step (gb_below hb14)
    clear x0 x1 y0 y1 t0 t1 t2 t3
    have x0 := hcb.st.x0
    have x1 := hcb.st.x1
    have y0 := hcb.st.y0
    have y1 := hcb.st.y1
    have t0 := hcb.vX.c0
    have t1 := hcb.vX.c1
    have t2 := hcb.vY.c0
    have t3 := hcb.vY.c1
    have HCB6 := Lib.hid hcb
    clear hcb hb14 HCB5
    go_wp2_with fail
    refine (markR _ _ _ L 1 _ HCB6.out.rG LBD.out (by omega) (by omega)).mono ?_
    rintro e w15 ⟨rfl, ⟨row, hg15, hrow⟩, hr15⟩
    have hcb := HCB6.out.markG hg15 hrow hr15
    clear x0 x1 y0 y1 t0 t1 t2 t3
    have x0 := hcb.st.x0
    have x1 := hcb.st.x1
    have y0 := hcb.st.y0
    have y1 := hcb.st.y1
    have t0 := hcb.vX.c0
    have t1 := hcb.vX.c1
    have t2 := hcb.vY.c0
    have t3 := hcb.vY.c1
    have HCB7 := Lib.hid hcb
    clear hcb hg15 hrow hr15 HCB6
    obtain ⟨m5, hm5⟩ : ∃ m5, m5 = 1 + 3 * (L.length : Int) := ⟨_, rfl⟩
    have hheld := fun W (h : ResR W _ _ (Value.slice a10 L.length n10) (markL 1 L.length)) => heldR w8.heap.size.succ w10.heap.size (.slice a10 L.length n10) L.length 1 W h LBD.out (by omega) (by omega)
    rw [← hm5] at hheld ⊢
    have HHELD := Lib.hid hheld
    have m50 : 0 ≤ m5 := by omega
    have hn5 : (m5 != m5) = false := by simp
    clear hm5 hheld
    go_wp2_with fail
    refine (HHELD.out _ HCB7.out.rG).mono ?_
    rintro e w16 ⟨rfl, rfl⟩
    go_upto_region 31 with fail
    go_cut [15, 16] (fun s15 s16 wx => ∃ a15 n15, s15 = .slice a15 L.length n15 ∧ s16 = .int .i64 κ ∧ CB w v u (.slice a bs.length c) (.slice a' cs.length c') (.slice aW L.length nW) (.slice (some ⟨g6, 0, none⟩) bs.length cap6) (.slice (some ⟨g8, 0, none⟩) cs.length cap8) (.slice a10 L.length n10) w6.heap.size w8.heap.size w2.heap.size i1 w6.heap.size (w6.heap.size + 1) w8.heap.size (w8.heap.size + 1) w10.heap.size L (markL 1 bs.length) (markL m3 cs.length) (markL 1 L.length) wx ∧ SB wx (.slice a15 L.length n15) L)
    case first =>
      go_region_with (first | (go_at_call_of 26 (Value.slice a bs.length c); refine (toSystem_any v _ bs _ ?_).mono ?_; (exact HSB.out.below HCB7.out.st.below.drew (Nat.le_refl _)); rintro e w33 ⟨s33, rfl, ho33, hb33⟩; have hcb33 := (HCB7.out.step (gb_drew _)).step (gb_below hb33); have y2 := hcb33.st.y0; have y3 := hcb33.st.y1; have HCB33 := Lib.hid hcb33; clear hcb33; have hsb33 := ho33.sb HWF.out HBD.out; obtain ⟨g33, cap33, hs33, _⟩ := id ho33; subst hs33) | (go_at_call_of 26 (Value.slice a' cs.length c'); refine (toSystem_any u _ cs _ ?_).mono ?_; (exact KSB.out.below HCB33.out.st.below (Nat.le_refl _)); rintro e w34 ⟨s34, rfl, ho34, hb34⟩; have hsb34 := ho34.sb KWF.out KBD.out; have hsb334 := hsb33.below hb34 (Nat.le_refl _); obtain ⟨g34, cap34, hs34, _⟩ := id ho34; subst hs34) | (go_at_call 34; refine (HIM.out _ _ _ ?_ ?_).mono ?_; (exact hsb334); (exact hsb34); rintro e w35 ⟨s35, rfl, hr35, hb35⟩; obtain ⟨a35, n35, hs35⟩ := hr35.slice; subst hs35))
      all_goals
        go_wp2_with fail
        go_meet
        exact ⟨_, _, rfl, rfl, (HCB33.out.step (gb_below hb34)).step (gb_below hb35), hr35.sb LWF.out LBD.out⟩
    case rest =>
    obtain ⟨a15, n15, rfl, rfl, hcb, hsb15⟩ := hcut
    clear x0 x1 y0 y1 t0 t1 t2 t3 HCB7
    have HCB8 := Lib.hid hcb
    clear hcb
    go_wp2_with fail
    refine (eqBlockS_same _ _ L _ hsb15 (HCB8.out.rW.sb LWF.out LBD.out)).mono ?_
    rintro e w36 ⟨rfl, hb36⟩
    have HCB9 := Lib.hid (HCB8.out.step (gb_below hb36))
    clear hb36 hsb15 HCB8
    go_wp2_with fail
    refine (HHELD.out _ HCB9.out.rG).mono ?_
    rintro e w37 ⟨rfl, rfl⟩
    go_wp2
    go_ret
    exact RV_of rfl HCB9.out.st.below

set_option maxRecDepth 100000 in
theorem FnExactCommonBlocks_long1 (v : Int) (s : Value) (bs : List Blk) (u : Int) (t : Value) (cs : List Blk) (w : World) (h : InB w s bs) (k : InB w t cs) (hl : ¬ bs.length ≤ 1048576) :
    Calls Try.prog 4 #[.agg #[.int .i64 v, s], .agg #[.int .i64 u, t]] w (RV (.bool true) w) := by
  have hsl := h.slice
  have htl := k.slice
  have hbd := h.2.1
  have hsz := szSystem_any v s bs.length hsl (by omega) 1048576 (by omega) (by omega)
  rw [if_pos (by omega)] at hsz
  have HSZ := Lib.hid hsz
  clear hsz h k
  obtain ⟨a, c, rfl⟩ := hsl
  obtain ⟨a', c', rfl⟩ := htl
  go_enter Try.func4, Try.ntmps4
  go_wp2_with (go_at_call 24; refine (HSZ.out _).mono ?_; rintro e w1 ⟨rfl, hb1⟩)
  go_ret
  exact RV_of rfl ((((Below.refl _ _).alloc (Nat.le_refl _) _).alloc (by simp) _).trans (hb1.mono (by simp; omega)))
set_option maxRecDepth 100000 in
theorem FnExactCommonBlocks_long2 (v : Int) (s : Value) (bs : List Blk) (u : Int) (t : Value) (cs : List Blk) (w : World) (h : InB w s bs) (k : InB w t cs) (hl : bs.length ≤ 1048576) (hl2 : ¬ bs.length + cs.length ≤ 1048576) :
    Calls Try.prog 4 #[.agg #[.int .i64 v, s], .agg #[.int .i64 u, t]] w (RV (.bool true) w) := by
  have hsl := h.slice
  have htl := k.slice
  have hbd := k.2.1
  have hsz := szSystem_any v s bs.length hsl (by omega) 1048576 (by omega) (by omega)
  rw [if_neg (by omega)] at hsz
  obtain ⟨m, hm⟩ : ∃ m, m = (1048576 : Int) - (bs.length : Int) := ⟨_, rfl⟩
  rw [← hm] at hsz
  have hm0 : 0 ≤ m := by omega
  have hsz2 := szSystem_any u t cs.length htl (by omega) m (by omega) (by omega)
  rw [if_pos (by omega)] at hsz2
  have HSZ := Lib.hid hsz
  have HSZ2 := Lib.hid hsz2
  clear hsz hsz2 h k hm
  obtain ⟨a, c, rfl⟩ := hsl
  obtain ⟨a', c', rfl⟩ := htl
  go_enter Try.func4, Try.ntmps4
  go_wp2_with fail
  refine (HSZ.out _).mono ?_
  rintro e w1 ⟨rfl, hb1⟩
  have st1 := (St2.start w v u (.slice a bs.length c) (.slice a' cs.length c')).step (gb_below hb1) (by simp)
  have y0 := st1.y0
  have y1 := st1.y1
  have ST1 := Lib.hid st1
  clear hb1 st1
  go_wp2_with (go_at_call 24; refine (HSZ2.out _).mono ?_; rintro e w2 ⟨rfl, hb2⟩)
  go_ret
  exact RV_of rfl (ST1.out.below.trans (hb2.mono ST1.out.below.size))

theorem FnExactCommonBlocks_any (v : Int) (s : Value) (bs : List Blk) (u : Int) (t : Value) (cs : List Blk) (w : World) (h : InB w s bs) (k : InB w t cs) :
    Calls Try.prog 4 #[.agg #[.int .i64 v, s], .agg #[.int .i64 u, t]] w (RV (.bool true) w) := by
  by_cases hl : bs.length ≤ 1048576
  · by_cases hl2 : bs.length + cs.length ≤ 1048576
    · exact FnExactCommonBlocks_main v s bs u t cs w h k hl2
    · exact FnExactCommonBlocks_long2 v s bs u t cs w h k hl hl2
  · exact FnExactCommonBlocks_long1 v s bs u t cs w h k hl
end Go.Proofs.Ytacfelgilphppaa

namespace Go.Proofs.Ytacfelgilphppaa
open Go.ChangeShapes Go.WideShapes Go.ChangeAt Go.RowKit Go.Deep Go.Joins
theorem ownKnobs : ownKnob Try.prog.godebug = none := by kernel_rfl
section
variable {H : Type} {enc : TypeId × Value → H} {W : World} {base : Nat} {held : Bool}
theorem arrCells : Try.prog.cellsOf 92 = 3 := by kernel_rfl
set_option maxRecDepth 100000 in
theorem open_arr3 {fuel : Nat} {cs : List Value} {x : DataW H × List MemPlace} (h : DataW.trod enc Try.prog W base (fun _ => true) held fuel 92 cs = some x) :
    ∃ a b c : Int, cs = [.int .i64 a, .int .i64 b, .int .i64 c] ∧ (Lit.int .i64 a).wf = true ∧ (Lit.int .i64 b).wf = true ∧ (Lit.int .i64 c).wf = true := by
  obtain ⟨xs, m, rfl, rfl, hl, hx, hat⟩ := DataW.trod_array Try.underlying92 h
  rw [arrCells] at hl
  match cs, hl with
  | [c0, c1, c2], _ =>
    match xs, hx with
    | [x0, x1, x2], _ =>
      have h0 := hat 0 (by omega)
      have h1 := hat 1 (by omega)
      have h2 := hat 2 (by omega)
      rw [int64Cells] at h0 h1 h2
      simp at h0 h1 h2
      obtain ⟨a, ha, _, wa⟩ := DataW.trod_int Try.underlying2 h0
      obtain ⟨b, hb, _, wb⟩ := DataW.trod_int Try.underlying2 h1
      obtain ⟨c, hc, _, wc⟩ := DataW.trod_int Try.underlying2 h2
      simp at ha hb hc
      exact ⟨a, b, c, by rw [ha, hb, hc], wa, wb, wc⟩
theorem add_at (b off i : Nat) : (⟨b, off, none⟩ : Addr).add i = ⟨b, off + i, none⟩ := by
  unfold Addr.add
  split
  · subst_vars; rfl
  · rfl
set_option maxRecDepth 100000 in
theorem open_arrs {fuel : Nat} {s : Value} {x : DataW H × List MemPlace} (h : DataW.trod enc Try.prog W base (fun _ => true) held fuel 22 [s] = some x) : ∃ bs, InB W s bs := by
  rcases open_slice Try.underlying22 h with ⟨hcs, _⟩ | ⟨a, len, cap, m, n, D, Pl, hcs, hb, hl, hm, hmm, hx, hi⟩
  · simp at hcs
    exact ⟨[], by simp, by simp, .inl ⟨none, 0, hcs, rfl⟩⟩
  · simp at hcs
    subst hcs
    simp at hmm
    subst hmm
    have hm' : m ≤ 9223372036854775807 := by unfold maxLen at hm; exact hm
    by_cases h0 : len = 0
    · subst h0
      exact ⟨[], by simp, by simp, .inl ⟨_, _, rfl, rfl⟩⟩
    · have cell : ∀ i, i < m → ∃ y : Blk, WFB y ∧ ∀ j (v : Value), [Value.int .i64 y.a, Value.int .i64 y.b, Value.int .i64 y.c][j]? = some v → W.cell? (a.add (i * 3 + j)) = some v := fun i him => by
        obtain ⟨cs', hc, ht⟩ := hi i him
        obtain ⟨p, q, r, rfl, wp, wq, wr⟩ := open_arr3 ht
        rw [arrCells] at hc
        obtain ⟨_, _, hat⟩ := World.cells?_some hc
        refine ⟨⟨p, q, r⟩, ⟨wp, wq, wr⟩, fun j v hv => ?_⟩
        have hj : j < 3 := by
          have := (List.getElem?_eq_some_iff.1 hv).1
          simpa using this
        rw [← Go.Deep.add_add, hat j hj]
        exact hv
      obtain ⟨F, hF⟩ := choose_lt (α := Blk) cell
      obtain ⟨b, off, spot⟩ := a
      have hc0 := (hF 0 (by omega)).2 0 _ rfl
      have hspot : spot = none := by simpa [Addr.add] using World.cell?_spot hc0
      subst hspot
      refine ⟨(List.range len).map F, ?_, by simp; omega, .inr ⟨b, off, m, by simp, ?_, ?_⟩⟩
      · intro y hy
        obtain ⟨i, hi', rfl⟩ := List.mem_map.1 hy
        exact (hF i (by have := List.mem_range.1 hi'; omega)).1
      · exact block_lt_of_cell hc0
      · intro k hk
        simp at hk
        have e : ((List.range len).map F)[k]?.getD default = F k := by simp [hk]
        rw [e]
        have := (hF k (by omega)).2
        refine ⟨?_, ?_, ?_⟩
        · have h0 := this 0 _ rfl
          rw [add_at] at h0
          exact h0
        · have h1 := this 1 _ rfl
          rw [add_at, ← Nat.add_assoc] at h1
          exact h1
        · have h2 := this 2 _ rfl
          rw [add_at, ← Nat.add_assoc] at h2
          exact h2
theorem isSys : ∃ f0 f1 : Field, Try.prog.underlying 24 = some (.struct #[f0, f1]) ∧ f0.type = 2 ∧ f1.type = 22 ∧ oneCellFields Try.prog #[f0, f1] = true :=
  ⟨_, _, Try.underlying24, rfl, rfl, by kernel_rfl⟩
theorem sysCells : Try.prog.cellsOf 24 = 2 := by kernel_rfl
set_option maxRecDepth 100000 in
theorem open_system {r : Reach} {b0 : Nat} {v : Value} {d : DataW H} {p : List MemPlace} (hv : Value.okWide Try.prog W r b0 24 v) (h : DataW.Trod enc Try.prog W base (fun _ => true) held 24 v d p) :
    ∃ (n : Int) (s : Value) (bs : List Blk), v = .agg #[.int .i64 n, s] ∧ WF n ∧ InB W s bs := by
  obtain ⟨f0, f1, hu, e0, e1, hone⟩ := isSys
  obtain ⟨v0, v1, y0, y1, n, rfl, _, _, h0, h1⟩ := open_agg2 hu hone sysCells hv h
  rw [e0] at h0
  rw [e1] at h1
  obtain ⟨k, hk, _, wk⟩ := DataW.trod_int Try.underlying2 h0
  simp at hk
  subst hk
  obtain ⟨bs, hbs⟩ := open_arrs h1
  exact ⟨k, v1, bs, rfl, wk, hbs⟩
end
end Go.Proofs.Ytacfelgilphppaa

namespace Go.Proofs.Ytacfelgilphppaa
set_option maxRecDepth 100000 in
noncomputable def iniP : { L : List Char // Try.prog.initOrder = String.ofList L } := ⟨_, by unfold Try.prog; rfl⟩
theorem iniL : Try.prog.initOrder.toList = iniP.1 := (congrArg String.toList iniP.2).trans String.toList_ofList
theorem words_cons (c : Char) (r : List Char) (h : c ≠ Char.ofNat 32) : wordsSigns (c :: r) = match wordsSigns r with | w :: ws => (c :: w) :: ws | [] => [[c]] := by
  rw [wordsSigns]
  all_goals first | rfl | exact h | (intro e; exact h e)
theorem words_word : ∀ (a b : List Char), (a.all fun c => c != Char.ofNat 32) = true → wordsSigns (a ++ Char.ofNat 32 :: b) = a :: wordsSigns b
  | [], b, _ => rfl
  | c :: a, b, h => by
    simp only [List.all_cons, Bool.and_eq_true, bne_iff_ne, ne_eq] at h
    rw [List.cons_append, words_cons _ _ h.1, words_word a b (by simpa using h.2)]
set_option maxRecDepth 100000 in
theorem split1 : iniP.1 = iniP.1.take 7 ++ Char.ofNat 32 :: iniP.1.drop 8 := by kernel_rfl
set_option maxRecDepth 100000 in
theorem split2 : iniP.1.drop 8 = (iniP.1.drop 8).take 64 ++ Char.ofNat 32 :: iniP.1.drop 73 := by kernel_rfl
set_option maxRecDepth 100000 in
theorem split3 : iniP.1.drop 73 = (iniP.1.drop 73).take 3 ++ Char.ofNat 32 :: iniP.1.drop 77 := by kernel_rfl
theorem isCut : (iniP.1.drop 73).take 3 = "cut".toList := by kernel_rfl
set_option maxRecDepth 100000 in
theorem isHead : ((iniP.1.take 7 == "harness".toList || iniP.1.take 7 == "ownmain".toList) && isSumSigns ((iniP.1.drop 8).take 64)) = true := by kernel_rfl
theorem wordsL : wordsSigns iniP.1 = iniP.1.take 7 :: (iniP.1.drop 8).take 64 :: "cut".toList :: wordsSigns (iniP.1.drop 77) := by
  rw [← isCut]
  conv => lhs; rw [split1]
  rw [words_word _ _ (by kernel_rfl)]
  conv => lhs; rw [split2]
  rw [words_word _ _ (by kernel_rfl)]
  conv => lhs; rw [split3]
  rw [words_word _ _ (by kernel_rfl)]
theorem behindL : behindMainWord (wordsSigns Try.prog.initOrder.toList) = "cut".toList :: wordsSigns (iniP.1.drop 77) := by
  rw [iniL, wordsL]
  unfold behindMainWord
  simp only [isHead, if_true]
theorem stripL (ws : List (List Char)) : stripLifts liftWords ("cut".toList :: ws) = ([], "cut".toList :: ws) := by kernel_rfl
section
variable (P : Program) (ws : List (List Char)) (h : behindMainWord (wordsSigns P.initOrder.toList) = "cut".toList :: ws)
include h
theorem head_of : P.headLifts = [] := by
  unfold Program.headLifts
  rw [h]
  simp only [stripL]
  kernel_rfl
theorem make_of : P.make = some .cut := by
  unfold Program.make
  rw [h, head_of P ws h]
  kernel_rfl
theorem lifts_of : P.liftsFinal = false := by
  unfold Program.liftsFinal
  rw [h, head_of P ws h]
  kernel_rfl
theorem enter_of (h1 : P.laysLater = false) (h2 : P.bearsReflect = false) (h3 : P.doorFits [] = true) : P.mayEnter = true := by
  unfold Program.mayEnter
  rw [h]
  simp only [stripL]
  rw [h1, h2, h3]
  kernel_rfl
end
theorem mayE : Try.pinned.checked.prog.mayEnter = true := enter_of _ _ behindL (by kernel_rfl) (by kernel_rfl) (by kernel_rfl)
theorem liftsF : Try.pinned.checked.prog.liftsFinal = false := lifts_of _ _ behindL
theorem makeF : Try.pinned.checked.prog.make = some .cut := make_of _ _ behindL
theorem both {a b : Bool} (h : a = true) (k : b = true) : (a && b) = true := by rw [h, k]; rfl
end Go.Proofs.Ytacfelgilphppaa

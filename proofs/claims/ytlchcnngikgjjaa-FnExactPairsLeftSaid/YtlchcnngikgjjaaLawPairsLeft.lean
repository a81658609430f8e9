
/- The law FnExactPairsLeft returns true. -/
import Derived.Test.YtlchcnngikgjjaaPL2
import Derived.Test.YtlchcnngikgjjaaState1
import Derived.Deep.RegionWith
import Derived.Deep.DeepCutAuto
namespace Go.Proofs.Ytlchcnngikgjjaa
open Go.RowKit Go.Maps
set_option maxRecDepth 100000 in
theorem markInt64SS_none (a : Option Addr) (c : Nat) (k : Int) (w : World) : Calls Try.prog 50 #[.slice a 0 c, .int .i64 k] w (RS (.int .i64 k) w) := by
  go_enter Try.func50, Try.ntmps50
  go_wp2
  refine wp_loop_rounds 1 ?_
  rw [rounds_succ]
  go_wp2
  go_ret
  exact RS_of rfl
set_option maxRecDepth 100000 in
theorem heldInt64SS_none (a : Option Addr) (c : Nat) (k : Int) (w : World) : Calls Try.prog 51 #[.slice a 0 c, .int .i64 k] w (RS (.int .i64 k) w) := by
  go_enter Try.func51, Try.ntmps51
  go_wp2
  refine wp_loop_rounds 1 ?_
  rw [rounds_succ]
  go_wp2
  go_ret
  exact RS_of rfl
section
variable {w w' : World} {lo n : Nat} {u : Value} {F : Nat → List Int}
theorem ResSS.kept (h : ResSS w lo u n F) {row : Option Nat} (hg : w.grownBy w' row) (hr : ∀ r, row = some r → r < lo) : ResSS w' lo u n F := by
  rcases h with h | ⟨G, cap, gs, caps, rfl, hG, hS⟩
  · exact .inl h
  · exact .inr ⟨G, cap, gs, caps, rfl, hG, hS.kept hg (fun e => by have := hr _ e.symm; omega) (fun k hk e => by have := hr _ e.symm; have := hS.low k hk; omega)⟩
theorem ResSS.below (h : ResSS w lo u n F) {B : Nat} (hb : Below B w w') (hB : w.heap.size ≤ B) : ResSS w' lo u n F :=
  h.kept (only_of_below (hb.mono hB) none) (by simp)
theorem ResSS.slice (h : ResSS w lo u n F) : ∃ a c, u = .slice a n c := by
  rcases h with ⟨rfl, a, c, rfl⟩ | ⟨G, cap, gs, caps, rfl, _⟩ <;> exact ⟨_, _, rfl⟩
theorem ResSS.sb (h : ResSS w lo u n F) (hn : n ≤ 1100000) (hF : ∀ k, k < n → (F k).length ≤ 1100000) : SSB w u n F := by
  rcases h with h | ⟨G, cap, gs, caps, rfl, hG, hS⟩
  · exact ⟨hn, .inl h⟩
  · exact hS.sb hn hF
theorem ResSS.mark (h : ResSS w lo u n F) (hn : n ≤ 1100000) (hlo : lo ≤ w.heap.size) (hT : tot F n ≤ 1100000) (k0 : Int) (h0 : 0 ≤ k0) (h1 : k0 ≤ 5000000) :
    Calls Try.prog 50 #[u, .int .i64 k0] w (fun e w' => e = .returned (.int .i64 (k0 + tot F n)) ∧ Below lo w w' ∧ ResSS w' lo u n (markSS k0 F)) := by
  rcases h with ⟨rfl, a, c, rfl⟩ | ⟨G, cap, gs, caps, rfl, hG, hS⟩
  · refine (markInt64SS_none a c k0 w).mono ?_
    rintro e w' ⟨rfl, rfl⟩
    exact ⟨by simp [tot], Below.refl _ _, .inl ⟨rfl, a, c, rfl⟩⟩
  · refine (markInt64SS_any lo G cap gs caps n F k0 w hS hn hlo hT h0 h1).mono ?_
    rintro e w' ⟨rfl, hb, hS'⟩
    exact ⟨rfl, hb, .inr ⟨G, cap, gs, caps, rfl, hG, hS'⟩⟩
theorem ResSS.held (k0 : Int) (h : ResSS w lo u n (markSS k0 F)) (hn : n ≤ 1100000) (hT : tot F n ≤ 1100000) (h0 : 0 ≤ k0) (h1 : k0 ≤ 5000000) :
    Calls Try.prog 51 #[u, .int .i64 k0] w (RS (.int .i64 (k0 + tot F n)) w) := by
  rcases h with ⟨rfl, a, c, rfl⟩ | ⟨G, cap, gs, caps, rfl, hG, hS⟩
  · have e : k0 + ((tot F 0 : Nat) : Int) = k0 := by simp [tot]
    rw [e]
    exact heldInt64SS_none a c k0 w
  · exact heldInt64SS_any lo G cap gs caps n F k0 w hS hn hT h0 h1
end
structure CP (w : World) (v : Int) (s s8 sG : Value) (w3 : World) (X i1 i2 i5 n : Nat) (L8 : List Blk) (F : Nat → List Int) (W : World) : Prop where
  st : St1 w v s W
  b3 : Below w3.heap.size w3 W
  o0 : w.heap.size < w3.heap.size
  o1 : w3.heap.size ≤ i1
  o2 : i1 ≤ i2
  oX : i2 ≤ X
  oX' : X < i5
  o5 : i5 ≤ W.heap.size
  r8 : ResR W i1 i2 s8 L8
  vX : VarB W X v s8
  rG : ResSS W i5 sG n F
structure CQ (w : World) (v : Int) (s sG : Value) (w3 : World) (i5 n : Nat) (F : Nat → List Int) (W : World) : Prop where
  st : St1 w v s W
  b3 : Below w3.heap.size w3 W
  o0 : w.heap.size < w3.heap.size
  rG : ResSS W i5 sG n F
section
variable {w : World} {v : Int} {s s8 sG : Value} {w3 : World} {X i1 i2 i5 n : Nat} {L8 : List Blk} {F : Nat → List Int} {W W' : World}
theorem CP.step (h : CP w v s s8 sG w3 X i1 i2 i5 n L8 F W) (hg : W.grownBy W' none) : CP w v s s8 sG w3 X i1 i2 i5 n L8 F W' :=
  ⟨h.st.step hg (by simp), h.b3.grown hg h.b3.size (by simp), h.o0, h.o1, h.o2, h.oX, h.oX', Nat.le_trans h.o5 hg.size, h.r8.kept hg (by simp), h.vX.step hg (by simp), h.rG.kept hg (by simp)⟩
theorem CP.mark8 (h : CP w v s s8 sG w3 X i1 i2 i5 n L8 F W) {row : Option Nat} (hg : W.grownBy W' row) (hr : ∀ r, row = some r → i1 ≤ r ∧ r < i2) {L : List Blk} (hn : ResR W' i1 i2 s8 L) :
    CP w v s s8 sG w3 X i1 i2 i5 n L F W' := by
  obtain ⟨st, b3, o0, o1, o2, oX, oX', o5, r8, vX, rG⟩ := h
  exact ⟨st.step hg (fun r e => by have := hr r e; omega), b3.grown hg b3.size (fun r e => by have := hr r e; omega), o0, o1, o2, oX, oX', Nat.le_trans o5 hg.size, hn, vX.step hg (fun e => by have := hr _ e; omega), rG.kept hg (fun r e => by have := hr r e; omega)⟩
theorem CP.markG (h : CP w v s s8 sG w3 X i1 i2 i5 n L8 F W) (hb : Below i5 W W') {F' : Nat → List Int} (hn : ResSS W' i5 sG n F') : CQ w v s sG w3 i5 n F' W' := by
  obtain ⟨st, b3, o0, o1, o2, oX, oX', o5, r8, vX, rG⟩ := h
  have hb' := hb.mono (show w.heap.size ≤ i5 by omega)
  exact ⟨⟨st.below.trans hb', Nat.lt_of_lt_of_le st.big hb.size, (hb.cell (p := ⟨w.heap.size, 0, none⟩) (by show w.heap.size < _; omega)).trans st.x0, (hb.cell (p := ⟨w.heap.size, 1, none⟩) (by show w.heap.size < _; omega)).trans st.x1⟩, b3.trans (hb.mono (by omega)), o0, hn⟩
theorem CQ.step (h : CQ w v s sG w3 i5 n F W) (hg : W.grownBy W' none) : CQ w v s sG w3 i5 n F W' :=
  ⟨h.st.step hg (by simp), h.b3.grown hg h.b3.size (by simp), h.o0, h.rG.kept hg (by simp)⟩
end
theorem tot_fnL (L : List (Int × Int)) (n : Nat) : tot (fnL L) n = 2 * n := by
  induction n with
  | zero => rfl
  | succ n ih => rw [tot, ih, fnL_len]; omega
theorem pairsF_len (v : Int) (bs : List Blk) : (pairsF v bs).1.length ≤ 225 := by
  unfold pairsF
  split
  · rename_i hi
    obtain ⟨_, hv, _⟩ := sys_size hi
    have h1 := leftL_len (notIn (bs.flatMap pairsL)) v.toNat v.toNat
    have h2 : v.toNat * v.toNat ≤ 15 * 15 := Nat.mul_le_mul (by omega) (by omega)
    exact Nat.le_trans h1 h2
  · simp
set_option maxRecDepth 100000 in
set_option maxHeartbeats 1000000 in
theorem FnExactPairsLeft_main (v : Int) (s : Value) (bs : List Blk) (w : World) (h : InB w s bs) (hl : bs.length ≤ 1048576) :
    Calls Try.prog 6 #[.agg #[.int .i64 v, s]] w (RV (.bool true) w) := by
  have hsl := h.slice
  have hsz := szSystem_any v s bs.length hsl (by omega) 1048576 (by omega) (by omega)
  rw [if_neg (by omega)] at hsz
  obtain ⟨m, hm⟩ : ∃ m, m = (1048576 : Int) - (bs.length : Int) := ⟨_, rfl⟩
  rw [← hm] at hsz
  have hm0 : 0 ≤ m := by omega
  have HSZ := Lib.hid hsz
  have HSB := Lib.hid (h.sb hl)
  have HWF := Lib.hid h.1
  have HBD := Lib.hid (show bs.length ≤ 1100000 by omega)
  obtain ⟨LL, hL⟩ : ∃ LL, LL = (pairsF v bs).1 := ⟨_, rfl⟩
  obtain ⟨κ, hκ⟩ : ∃ κ, κ = (pairsF v bs).2 := ⟨_, rfl⟩
  have hp : pairsF v bs = (LL, κ) := by rw [hL, hκ]
  obtain ⟨n, hn⟩ : ∃ n, n = LL.length := ⟨_, rfl⟩
  obtain ⟨F, hF⟩ : ∃ F, F = fnL LL := ⟨_, rfl⟩
  have hn225 : n ≤ 225 := by rw [hn, hL]; exact pairsF_len v bs
  have hN : n ≤ 1100000 := by omega
  have hT : tot F n ≤ 1100000 := by rw [hF, tot_fnL]; omega
  have FBD := Lib.hid (show ∀ k, k < n → (F k).length ≤ 1100000 from fun k _ => by rw [hF, fnL_len]; omega)
  have HSP := Lib.hid fun (W : World) (s' : Value) (h1 : SB W s' bs) => specPairsLeft_any v s' bs W h1
  have HIM := Lib.hid fun (W : World) (s' : Value) (h1 : SB W s' bs) => PairsLeft_any v s' bs W h1
  rw [hp] at HSP HIM
  unfold RPL at HSP HIM
  dsimp only at HSP HIM
  rw [← hn, ← hF] at HSP HIM
  have hnk : (κ != κ) = false := by simp
  clear hsz hm h hl hL hκ hp hn hF
  obtain ⟨a, c, rfl⟩ := hsl
  go_enter Try.func6, Try.ntmps6
  go_wp2_with fail
  refine (HSZ.out _).mono ?_
  rintro e w1 ⟨rfl, hb1⟩
  have st1 := (St1.start w v (.slice a bs.length c)).step (gb_below hb1) (by simp)
  have x0 := st1.x0
  have x1 := st1.x1
  have ST1 := Lib.hid st1
  clear hb1 st1
  go_wp2_with fail
  refine (toSystem_any v _ bs _ (HSB.out.below ST1.out.below (Nat.le_refl _))).mono ?_
  rintro e w2 ⟨s2, rfl, ho2, hb2⟩
  have st2 := ST1.out.step (gb_below hb2) (by simp)
  have hsb2 := ho2.sb HWF.out HBD.out
  have z2 := hb2.size
  have zz1 := ST1.out.big
  clear x0 x1 hb2 ho2
  have x0 := st2.x0
  have x1 := st2.x1
  have ST2 := Lib.hid st2
  clear st2
  go_wp2_with fail
  refine (HSP.out _ _ hsb2).mono ?_
  rintro e w3 ⟨sW, rfl, hb3, hrW⟩
  have z3 := hb3.size
  have rW := hrW.sb hN FBD.out
  obtain ⟨aW, nW, hsW⟩ := rW.slice
  subst hsW
  have st3 := ST2.out.step (gb_below hb3) (by simp)
  clear x0 x1 hb3 hrW hsb2
  have x0 := st3.x0
  have x1 := st3.x1
  have ST3 := Lib.hid st3
  have RW := Lib.hid rW
  clear st3 rW ST1 ST2
  go_wp2_with fail
  refine (toSystem_any v _ bs _ (HSB.out.below ST3.out.below (Nat.le_refl _))).mono ?_
  rintro e w6 ⟨s6, rfl, ho6, hb6⟩
  obtain ⟨g6, cap6, hs6, _⟩ := id ho6
  subst hs6
  have st6 := ST3.out.step (gb_below hb6) (by simp)
  have hsb6 := ho6.sb HWF.out HBD.out
  have r6 := ho6.res
  have z6 := hb6.size
  have n6 := gb_alloc1 w6 (.cells #[.int .i64 v, .slice (some ⟨g6, 0, none⟩) bs.length cap6] 26)
  have v7 := VarB.new w6 v (.slice (some ⟨g6, 0, none⟩) bs.length cap6) 26
  have st7 := st6.step n6 (by simp)
  have r7 := r6.kept n6 (by simp)
  have hsb7 := hsb6.below ((Below.refl _ _).alloc (Nat.le_refl _) (.cells #[.int .i64 v, .slice (some ⟨g6, 0, none⟩) bs.length cap6] 26)) (Nat.le_refl _)
  have b36 : Below w3.heap.size w3 (w6.alloc (.cells #[.int .i64 v, .slice (some ⟨g6, 0, none⟩) bs.length cap6] 26)) := hb6.trans ((Below.refl _ _).alloc z6 _)
  clear x0 x1 hb6 ho6 st6 r6 hsb6
  have x0 := st7.x0
  have x1 := st7.x1
  have t0 := v7.c0
  have t1 := v7.c1
  have H7 := Lib.hid (And.intro v7 (And.intro st7 (And.intro r7 hsb7)))
  clear v7 st7 r7 hsb7
  go_wp2_with fail
  refine (HIM.out _ _ H7.out.2.2.2).mono ?_
  rintro e w10 ⟨s10, rfl, hb10, hr10⟩
  obtain ⟨a10, n10, hs10⟩ := hr10.slice
  subst hs10
  obtain ⟨v7, st7, r7, _⟩ := H7.out
  have z10 := hb10.size
  simp at z10
  have g10 := gb_below hb10
  have hcb : CP w v (.slice a bs.length c) (.slice (some ⟨g6, 0, none⟩) bs.length cap6) (.slice a10 n n10) w3 w6.heap.size w3.heap.size w6.heap.size (w6.heap.size + 1) n bs F w10 :=
    ⟨st7.step g10 (by simp), b36.trans (hb10.mono (by simp; omega)), by omega, Nat.le_refl _, z6, Nat.le_refl _, by omega, by omega, r7.kept g10 (by simp), v7.step g10 (by simp), by simpa using hr10⟩
  have HCB := Lib.hid hcb
  clear hcb v7 st7 r7 hr10 hb10 z10 g10 t0 t1 x0 x1 H7 ST3 b36
  go_wp2_with fail
  refine (eqInt64SS_same _ _ n F _ (HCB.out.rG.sb hN FBD.out) (RW.out.below HCB.out.b3 (Nat.le_refl _))).mono ?_
  rintro e w11 ⟨rfl, hb11⟩
  have hcb := HCB.out.step (gb_below hb11)
  have x0 := hcb.st.x0
  have x1 := hcb.st.x1
  have t0 := hcb.vX.c0
  have t1 := hcb.vX.c1
  have HCB1 := Lib.hid hcb
  clear hcb hb11 HCB
  go_upto_region 10 with fail
  go_cut [45] (fun sq wx => sq = .bool false ∧ CP w v (.slice a bs.length c) (.slice (some ⟨g6, 0, none⟩) bs.length cap6) (.slice a10 n n10) w3 w6.heap.size w3.heap.size w6.heap.size (w6.heap.size + 1) n bs F wx)
  case first =>
    go_region_with (first | (go_at_call 42; refine (toSystem_any v _ bs _ ?_).mono ?_; (exact HSB.out.below HCB1.out.st.below.drew (Nat.le_refl _)); rintro e w30 ⟨s30, rfl, ho30, hb30⟩; have hcb30 := (HCB1.out.step (gb_drew1 _)).step (gb_below hb30); have v0 := hcb30.vX.c0; have v1 := hcb30.vX.c1; have HCB30 := Lib.hid hcb30; clear hcb30; have hsb30 := ho30.sb HWF.out HBD.out; obtain ⟨g30, cap30, hs30, _⟩ := id ho30; subst hs30) | (go_at_call 35; refine (eqSystem_same v _ _ bs _ ?_ ?_).mono ?_; (exact HCB30.out.r8.sb HWF.out HBD.out); (exact hsb30); rintro e w31 ⟨rfl, hb31⟩))
    all_goals
      go_wp2_with fail
      go_meet
      exact ⟨rfl, HCB30.out.step (gb_below hb31)⟩
  case rest =>
  obtain ⟨rfl, hcb⟩ := hcut
  clear x0 x1 t0 t1
  have x0 := hcb.st.x0
  have x1 := hcb.st.x1
  have t0 := hcb.vX.c0
  have t1 := hcb.vX.c1
  have HCB3 := Lib.hid hcb
  clear hcb HCB1
  go_wp2_with fail
  refine (markSystem_any _ _ v _ bs 1 _ HCB3.out.r8 HBD.out (by omega) (by omega)).mono ?_
  rintro e w12 ⟨rfl, ⟨row, hg12, hrow⟩, hr12⟩
  have hcb := HCB3.out.mark8 hg12 hrow hr12
  clear x0 x1 t0 t1
  have x0 := hcb.st.x0
  have x1 := hcb.st.x1
  have HCB4 := Lib.hid hcb
  clear hcb hg12 hrow hr12 HCB3
  obtain ⟨m3, hm3⟩ : ∃ m3, m3 = 1 + 3 * (bs.length : Int) := ⟨_, rfl⟩
  rw [← hm3]
  have m30 : 0 ≤ m3 := by omega
  clear hm3
  go_wp2_with fail
  refine (eqInt64SS_same _ _ n F _ (HCB4.out.rG.sb hN FBD.out) (RW.out.below HCB4.out.b3 (Nat.le_refl _))).mono ?_
  rintro e w14 ⟨rfl, hb14⟩
  have hcb := HCB4.out.step (gb_below hb14)
  clear x0 x1
  have x0 := hcb.st.x0
  have x1 := hcb.st.x1
  have HCB6 := Lib.hid hcb
  clear hcb hb14 HCB4
  go_wp2_with fail
  refine (HCB6.out.rG.mark hN HCB6.out.o5 hT 1 (by omega) (by omega)).mono ?_
  rintro e w15 ⟨rfl, hb15, hr15⟩
  have hcb := HCB6.out.markG hb15 hr15
  clear x0 x1
  have x0 := hcb.st.x0
  have x1 := hcb.st.x1
  have HCB7 := Lib.hid hcb
  clear hcb hb15 hr15 HCB6
  obtain ⟨m5, hm5⟩ : ∃ m5, m5 = 1 + (tot F n : Int) := ⟨_, rfl⟩
  have hheld := fun W (h : ResSS W (w6.heap.size + 1) (Value.slice a10 n n10) n (markSS 1 F)) => h.held 1 hN hT (by omega) (by omega)
  rw [← hm5] at hheld ⊢
  have HHELD := Lib.hid hheld
  have m50 : 0 ≤ m5 := by omega
  have hn5 : (m5 != m5) = false := by simp
  clear hm5 hheld
  go_wp2_with fail
  refine (HHELD.out _ HCB7.out.rG).mono ?_
  rintro e w16 ⟨rfl, rfl⟩
  go_wp2_with fail
  refine (toSystem_any v _ bs _ (HSB.out.below HCB7.out.st.below (Nat.le_refl _))).mono ?_
  rintro e w33 ⟨s33, rfl, ho33, hb33⟩
  have hsb33 := ho33.sb HWF.out HBD.out
  have hcb33 := HCB7.out.step (gb_below hb33)
  have HCB8 := Lib.hid hcb33
  clear hcb33 hb33 ho33 x0 x1 HCB7
  go_wp2_with fail
  refine (HIM.out _ _ hsb33).mono ?_
  rintro e w34 ⟨s34, rfl, hb34, hrs34⟩
  have hr34 := hrs34.sb hN FBD.out
  obtain ⟨a34, n34, hs34⟩ := hrs34.slice
  subst hs34
  have HCB9 := Lib.hid (HCB8.out.step (gb_below hb34))
  clear hb34 hrs34 hsb33 HCB8
  go_wp2_with fail
  refine (eqInt64SS_same _ _ n F _ hr34 (RW.out.below HCB9.out.b3 (Nat.le_refl _))).mono ?_
  rintro e w36 ⟨rfl, hb36⟩
  have HCB10 := Lib.hid (HCB9.out.step (gb_below hb36))
  clear hb36 hr34 HCB9
  go_wp2_with fail
  refine (HHELD.out _ HCB10.out.rG).mono ?_
  rintro e w37 ⟨rfl, rfl⟩
  go_wp2
  go_ret
  exact RV_of rfl HCB10.out.st.below

set_option maxRecDepth 100000 in
theorem FnExactPairsLeft_long (v : Int) (s : Value) (bs : List Blk) (w : World) (h : InB w s bs) (hl : ¬ bs.length ≤ 1048576) : Calls Try.prog 6 #[.agg #[.int .i64 v, s]] w (RV (.bool true) w) := by
  have hsl := h.slice
  have hbd := h.2.1
  have hsz := szSystem_any v s bs.length hsl (by omega) 1048576 (by omega) (by omega)
  rw [if_pos (by omega)] at hsz
  have HSZ := Lib.hid hsz
  clear hsz h
  obtain ⟨a, c, rfl⟩ := hsl
  go_enter Try.func6, Try.ntmps6
  go_wp2_with (go_at_call 40; refine (HSZ.out _).mono ?_; rintro e w1 ⟨rfl, hb1⟩)
  go_ret
  exact RV_of rfl (((Below.refl _ _).alloc (Nat.le_refl _) _).trans (hb1.mono (by simp)))

theorem FnExactPairsLeft_any (v : Int) (s : Value) (bs : List Blk) (w : World) (h : InB w s bs) : Calls Try.prog 6 #[.agg #[.int .i64 v, s]] w (RV (.bool true) w) := by
  by_cases hl : bs.length ≤ 1048576
  · exact FnExactPairsLeft_main v s bs w h hl
  · exact FnExactPairsLeft_long v s bs w h hl
end Go.Proofs.Ytlchcnngikgjjaa


/- The law FnExactIsResolution returns true. The dump's head word by word, cheaply: what every row asks of it. -/
import Derived.Test.YtlkjacgpjolbdaaJ11
import Derived.Deep.RegionWith
import Derived.Deep.DeepCutAuto

namespace Go.Proofs.Ytlkjacgpjolbdaa
open Go.RowKit Go.Maps
set_option maxRecDepth 100000 in
set_option maxHeartbeats 2000000 in
theorem FnExactIsResolution_main (v0 : Int) (s0 : Value) (bs0 : List Blk) (s1 : Value) (n1 : Nat) (F1 : Nat → List Int) (w : World) (h0 : InB w s0 bs0) (h1 : InSS w s1 n1 F1) (hl : bs0.length + (n1 + tot F1 n1) ≤ 1048576) :
    Calls Try.prog 8 #[.agg #[.int .i64 v0, s0], s1] w (RV (.bool true) w) := by
  have hsl0 := h0.slice
  have hbd0 := h0.2.1
  have hsz0 := szSystem_any v0 s0 bs0.length hsl0 (by omega) 1048576 (by omega) (by omega)
  rw [if_neg (by omega)] at hsz0
  obtain ⟨m0, hm0⟩ : ∃ m, m = (1048576 : Int) - (bs0.length : Int) := ⟨_, rfl⟩
  rw [← hm0] at hsz0
  have hmp0 : 0 ≤ m0 := by omega
  have hsl1 := h1.slice
  have hsz1 := fun W (hb : Below w.heap.size w W) => szRows_any s1 n1 F1 w h1 (m0) (by omega) (by omega) W hb
  simp only [if_neg (show ¬ (m0 : Int) - ((n1 + tot F1 n1 : Nat) : Int) < 0 by omega)] at hsz1
  obtain ⟨m1, hm1⟩ : ∃ m, m = (m0 : Int) - ((n1 + tot F1 n1 : Nat) : Int) := ⟨_, rfl⟩
  simp only [← hm1] at hsz1
  have hmp1 : 0 ≤ m1 := by omega
  have HSZ0 := Lib.hid hsz0
  have HSB0 := Lib.hid (h0.sb (by omega))
  have HBD0 := Lib.hid (show bs0.length ≤ 1100000 by omega)
  have HWF0 := Lib.hid h0.1
  have HSZ1 := Lib.hid hsz1
  have HSB1 := Lib.hid (h1.sb (by omega))
  have HBD1 := Lib.hid (show n1 ≤ 1100000 by omega)
  have HTT1 := Lib.hid (show tot F1 n1 ≤ 1100000 by omega)
  obtain ⟨L, hL⟩ : ∃ L, L = (resF v0 bs0 n1 F1).1 := ⟨_, rfl⟩
  obtain ⟨κ, hκ⟩ : ∃ κ, κ = (resF v0 bs0 n1 F1).2 := ⟨_, rfl⟩
  have hp : resF v0 bs0 n1 F1 = (L, κ) := by rw [hL, hκ]
  have HSP := Lib.hid fun (W : World) (t0 : Value) (r0 : SC W t0 bs0) (t1 : Value) (r1 : SSB W t1 n1 F1) => specIsResolution_any v0 t0 bs0 t1 n1 F1 W r0.1 r1 HTT1.out
  have HIM := Lib.hid fun (W : World) (t0 : Value) (r0 : SB W t0 bs0) (t1 : Value) (r1 : SSB W t1 n1 F1) => IsResolution_any v0 t0 bs0 t1 n1 F1 W r0 r1 HTT1.out
  rw [hp] at HSP HIM
  try unfold boolCode at HSP HIM
  try dsimp only at HSP HIM
  have hnk : (κ != κ) = false := by simp
  have hnb : (L != L) = false := by simp
  clear hsz0 hm0 hbd0 hsz1 hm1 hL hκ hp h0 h1 hl
  obtain ⟨a0, c0, rfl⟩ := hsl0
  obtain ⟨a1, c1, rfl⟩ := hsl1
  go_enter Try.func8, Try.ntmps8
  have hm := ((Mem.start w).pushVar v0 (.slice a0 bs0.length c0) 24)
  have fA00 := (hm.var 0 rfl).c0
  have fA01 := (hm.var 0 rfl).c1
  have HM := Lib.hid hm
  clear hm
  go_wp2_with fail
  refine (HSZ0.out _).mono ?_
  rintro e w1 ⟨rfl, hbw1⟩
  have hm := HM.out.step (gb_below hbw1)
  clear fA00 fA01
  clear HM hbw1
  have fA00 := (hm.var 0 rfl).c0
  have fA01 := (hm.var 0 rfl).c1
  have HM := Lib.hid hm
  clear hm
  go_wp2_with fail
  refine (HSZ1.out _ HM.out.below).mono ?_
  rintro e w2 ⟨rfl, rfl⟩
  go_wp2_with fail
  refine (toSystem_any v0 _ bs0 _ (HSB0.out.below HM.out.below (Nat.le_refl _))).mono ?_
  rintro e w3 ⟨tw3, rfl, how3, hbw3⟩
  have r4 := how3.sc HWF0.out HBD0.out
  obtain ⟨gw3, capw3, hsw3, _⟩ := id how3
  subst hsw3
  have hm := HM.out.step (gb_below hbw3)
  clear fA00 fA01
  clear HM hbw3 how3
  have fA00 := (hm.var 0 rfl).c0
  have fA01 := (hm.var 0 rfl).c1
  have HM := Lib.hid hm
  clear hm
  go_wp2_with fail
  refine (toRows_own _ n1 F1 _ (HSB1.out.below HM.out.below (Nat.le_refl _))).mono ?_
  rintro e w5 ⟨tw5, rfl, ⟨gw5, capw5, hsw5⟩, hbw5, how5⟩
  subst hsw5
  have r6 := r4.below hbw5 (Nat.le_refl _)
  clear r4
  have r7 := how5.sb HBD1.out (rows_len HTT1.out)
  have hm := HM.out.step (gb_below hbw5)
  clear fA00 fA01
  clear HM hbw5 how5
  have fA00 := (hm.var 0 rfl).c0
  have fA01 := (hm.var 0 rfl).c1
  have HM := Lib.hid hm
  clear hm
  go_wp2_with fail
  refine (HSP.out _ _ r6 _ r7).mono ?_
  rintro e w8 ⟨rfl, hbw8⟩
  clear r6
  clear r7
  have hm := HM.out.step (gb_below hbw8)
  clear fA00 fA01
  clear HM hbw8
  have fA00 := (hm.var 0 rfl).c0
  have fA01 := (hm.var 0 rfl).c1
  have HM := Lib.hid hm
  clear hm
  go_wp2_with fail
  refine (toSystem_any v0 _ bs0 _ (HSB0.out.below HM.out.below (Nat.le_refl _))).mono ?_
  rintro e w9 ⟨tw9, rfl, how9, hbw9⟩
  have hrw9 := how9.res
  obtain ⟨gw9, capw9, hsw9, _⟩ := id how9
  subst hsw9
  have hm := (HM.out.pushB hbw9 hrw9).pushVar v0 (.slice (some ⟨gw9, 0, none⟩) bs0.length capw9) 28
  clear fA00 fA01
  clear HM hbw9 hrw9 how9
  have fVX00 := (hm.var 0 rfl).c0
  have fVX01 := (hm.var 0 rfl).c1
  have fA00 := (hm.var 2 rfl).c0
  have fA01 := (hm.var 2 rfl).c1
  have HM := Lib.hid hm
  clear hm
  go_wp2_with fail
  refine (toRows_own _ n1 F1 _ (HSB1.out.below HM.out.below (Nat.le_refl _))).mono ?_
  rintro e w10 ⟨tw10, rfl, ⟨gw10, capw10, hsw10⟩, hbw10, hrw10⟩
  subst hsw10
  have hm := HM.out.pushH hbw10 hrw10
  clear fVX00 fVX01 fA00 fA01
  clear HM hbw10 hrw10
  have fVX00 := (hm.var 1 rfl).c0
  have fVX01 := (hm.var 1 rfl).c1
  have fA00 := (hm.var 3 rfl).c0
  have fA01 := (hm.var 3 rfl).c1
  have HM := Lib.hid hm
  clear hm
  go_wp2_with fail
  refine (HIM.out _ _ ((HM.out.blks 2 rfl).sb HWF0.out HBD0.out) _ ((HM.out.rows 0 rfl).sb HBD1.out (rows_len HTT1.out))).mono ?_
  rintro e w11 ⟨rfl, hbw11⟩
  have hm := HM.out.step (gb_below hbw11)
  clear fVX00 fVX01 fA00 fA01
  clear HM hbw11
  have fVX00 := (hm.var 1 rfl).c0
  have fVX01 := (hm.var 1 rfl).c1
  have fA00 := (hm.var 3 rfl).c0
  have fA01 := (hm.var 3 rfl).c1
  have HM := Lib.hid hm
  clear hm
  go_upto_region 14 with fail
  go_cut [52] (fun sq wx => sq = .bool false ∧ MemOf HM.out wx)
  case first =>
    go_region_with (first | (go_at_call 21; refine (toSystem_any v0 _ bs0 _ ?_).mono ?_; (exact HSB0.out.below HM.out.below.drew (Nat.le_refl _)); rintro e w12 ⟨tw12, rfl, how12, hbw12⟩; have hmx := (HM.out.step (gb_drew1 _)).step (gb_below hbw12); have ec0 := (hmx.var 1 rfl).c0; have ec1 := (hmx.var 1 rfl).c1; have HMX := Lib.hid hmx; clear hmx; have hsbw12 := how12.sb HWF0.out HBD0.out; obtain ⟨gw12, capw12, hsw12, _⟩ := id how12; subst hsw12) | (go_at_call 23; refine (eqSystem_same v0 _ _ bs0 _ ?_ ?_).mono ?_; (exact ((HMX.out.blks 2 rfl).sb HWF0.out HBD0.out)); (exact hsbw12); rintro e w13 ⟨rfl, hbw13⟩))
    all_goals
      go_wp2_with fail
      go_meet
      exact ⟨rfl, HMX.out.step (gb_below hbw13)⟩
  case rest =>
  obtain ⟨rfl, hm⟩ := hcut
  unfold MemOf at hm
  obtain ⟨yc0, rfl⟩ : ∃ W, W = wc := ⟨_, rfl⟩
  clear fVX00 fVX01 fA00 fA01
  clear HM
  have fVX00 := (hm.var 1 rfl).c0
  have fVX01 := (hm.var 1 rfl).c1
  have fA00 := (hm.var 3 rfl).c0
  have fA01 := (hm.var 3 rfl).c1
  have HM := Lib.hid hm
  clear hm
  go_wp2_with fail
  refine (toRows_own _ n1 F1 _ (HSB1.out.below HM.out.below (Nat.le_refl _))).mono ?_
  rintro e w14 ⟨tw14, rfl, ⟨gw14, capw14, hsw14⟩, hbw14, how14⟩
  subst hsw14
  have hkw14 := how14.sb HBD1.out (rows_len HTT1.out)
  have hm := HM.out.step (gb_below hbw14)
  clear fVX00 fVX01 fA00 fA01
  clear HM hbw14 how14
  have fVX00 := (hm.var 1 rfl).c0
  have fVX01 := (hm.var 1 rfl).c1
  have fA00 := (hm.var 3 rfl).c0
  have fA01 := (hm.var 3 rfl).c1
  have HM := Lib.hid hm
  clear hm
  go_wp2_with fail
  refine (eqInt64SS_same _ _ n1 F1 _ ((HM.out.rows 0 rfl).sb HBD1.out (rows_len HTT1.out)) hkw14).mono ?_
  rintro e w15 ⟨rfl, hbw15⟩
  have hm := HM.out.step (gb_below hbw15)
  clear fVX00 fVX01 fA00 fA01
  clear HM hbw15 hkw14
  have fVX00 := (hm.var 1 rfl).c0
  have fVX01 := (hm.var 1 rfl).c1
  have fA00 := (hm.var 3 rfl).c0
  have fA01 := (hm.var 3 rfl).c1
  have HM := Lib.hid hm
  clear hm
  go_wp2
  go_ret
  exact RV_of rfl HM.out.below
set_option maxRecDepth 100000 in
theorem FnExactIsResolution_long0 (v0 : Int) (s0 : Value) (bs0 : List Blk) (s1 : Value) (n1 : Nat) (F1 : Nat → List Int) (w : World) (h0 : InB w s0 bs0) (h1 : InSS w s1 n1 F1)  (hl : ¬ bs0.length ≤ 1048576) : Calls Try.prog 8 #[.agg #[.int .i64 v0, s0], s1] w (RV (.bool true) w) := by
  have hsl0 := h0.slice
  have hbd0 := h0.2.1
  have hsz0 := szSystem_any v0 s0 bs0.length hsl0 (by omega) (1048576) (by omega) (by omega)
  rw [if_pos (by omega)] at hsz0
  have HSZ0 := Lib.hid hsz0
  have hsl1 := h1.slice
  clear hl h0 h1 hsz0 hbd0
  obtain ⟨a0, c0, rfl⟩ := hsl0
  obtain ⟨a1, c1, rfl⟩ := hsl1
  go_enter Try.func8, Try.ntmps8
  go_wp2_with fail
  refine (HSZ0.out _).mono ?_
  rintro e y0 ⟨rfl, hy0⟩
  go_wp2
  go_ret
  exact RV_of rfl (((Below.refl _ _).alloc (by simp <;> omega) _).trans (hy0.mono (by first | (simp <;> omega) | (have := ((Below.refl _ _).alloc (by simp <;> omega) _).size; omega))))
set_option maxRecDepth 100000 in
theorem FnExactIsResolution_long1 (v0 : Int) (s0 : Value) (bs0 : List Blk) (s1 : Value) (n1 : Nat) (F1 : Nat → List Int) (w : World) (h0 : InB w s0 bs0) (h1 : InSS w s1 n1 F1)  (hp : bs0.length ≤ 1048576) (hl : ¬ bs0.length + (n1 + tot F1 n1) ≤ 1048576) : Calls Try.prog 8 #[.agg #[.int .i64 v0, s0], s1] w (RV (.bool true) w) := by
  have hsl0 := h0.slice
  have hbd0 := h0.2.1
  have hsz0 := szSystem_any v0 s0 bs0.length hsl0 (by omega) (1048576) (by omega) (by omega)
  rw [if_neg (by omega)] at hsz0
  have HSZ0 := Lib.hid hsz0
  have hsl1 := h1.slice
  have hsz1 := fun W (hb : Below w.heap.size w W) => szRows_any s1 n1 F1 w h1 (1048576 - (bs0.length : Int)) (by omega) (by omega) W hb
  simp only [if_pos (show (1048576 - (bs0.length : Int) : Int) - ((n1 + tot F1 n1 : Nat) : Int) < 0 by omega)] at hsz1
  have HSZ1 := Lib.hid hsz1
  have hdp : 0 ≤ 1048576 - (bs0.length : Int) := by omega
  clear hl h0 h1 hsz0 hbd0 hsz1
  obtain ⟨a0, c0, rfl⟩ := hsl0
  obtain ⟨a1, c1, rfl⟩ := hsl1
  go_enter Try.func8, Try.ntmps8
  go_wp2_with fail
  refine (HSZ0.out _).mono ?_
  rintro e y0 ⟨rfl, hy0⟩
  go_wp2_with fail
  refine (HSZ1.out _ (by exact (((Below.refl _ _).alloc (by simp <;> omega) _).trans (hy0.mono (by first | (simp <;> omega) | (have := ((Below.refl _ _).alloc (by simp <;> omega) _).size; omega)))))).mono ?_
  rintro e y1 ⟨rfl, rfl⟩
  go_wp2
  go_ret
  exact RV_of rfl (((Below.refl _ _).alloc (by simp <;> omega) _).trans (hy0.mono (by first | (simp <;> omega) | (have := ((Below.refl _ _).alloc (by simp <;> omega) _).size; omega))))
theorem FnExactIsResolution_any (v0 : Int) (s0 : Value) (bs0 : List Blk) (s1 : Value) (n1 : Nat) (F1 : Nat → List Int) (w : World) (h0 : InB w s0 bs0) (h1 : InSS w s1 n1 F1) : Calls Try.prog 8 #[.agg #[.int .i64 v0, s0], s1] w (RV (.bool true) w) := by
  by_cases hs0 : bs0.length ≤ 1048576
  case neg => exact FnExactIsResolution_long0 v0 s0 bs0 s1 n1 F1 w h0 h1   hs0
  by_cases hs1 : bs0.length + (n1 + tot F1 n1) ≤ 1048576
  case neg => exact FnExactIsResolution_long1 v0 s0 bs0 s1 n1 F1 w h0 h1  hs0 hs1
  exact FnExactIsResolution_main v0 s0 bs0 s1 n1 F1 w h0 h1 hs1 
end Go.Proofs.Ytlkjacgpjolbdaa

namespace Go.Proofs.Ytlkjacgpjolbdaa
set_option maxRecDepth 100000 in
noncomputable def iniP : { L : List Char // Try.prog.initOrder = String.ofList L } := ⟨_, by unfold Try.prog; rfl⟩
theorem iniL : Try.prog.initOrder.toList = iniP.1 := (congrArg String.toList iniP.2).trans String.toList_ofList
theorem words_cons (c : Char) (r : List Char) (h : c ≠ Char.ofNat 32) : wordsSigns (c :: r) = match wordsSigns r with | w :: ws => (c :: w) :: ws | [] => [[c]] := by
  rw [wordsSigns]
  all_goals first | rfl | exact h | (intro e; exact h e)
theorem words_word : ∀ (a b : List Char), (a.all fun c => c != Char.ofNat 32) = true → wordsSigns (a ++ Char.ofNat 32 :: b) = a :: wordsSigns b
  | [], b, _ => rfl
  | c :: a, b, h => by
    simp only [List.all_cons, Bool.and_eq_true, bne_iff_ne, ne_eq] at h
    rw [List.cons_append, words_cons _ _ h.1, words_word a b (by simpa using h.2)]
set_option maxRecDepth 100000 in
theorem split1 : iniP.1 = iniP.1.take 7 ++ Char.ofNat 32 :: iniP.1.drop 8 := by kernel_rfl
set_option maxRecDepth 100000 in
theorem split2 : iniP.1.drop 8 = (iniP.1.drop 8).take 64 ++ Char.ofNat 32 :: iniP.1.drop 73 := by kernel_rfl
set_option maxRecDepth 100000 in
theorem split3 : iniP.1.drop 73 = (iniP.1.drop 73).take 3 ++ Char.ofNat 32 :: iniP.1.drop 77 := by kernel_rfl
theorem isCut : (iniP.1.drop 73).take 3 = "cut".toList := by kernel_rfl
set_option maxRecDepth 100000 in
theorem isHead : ((iniP.1.take 7 == "harness".toList || iniP.1.take 7 == "ownmain".toList) && isSumSigns ((iniP.1.drop 8).take 64)) = true := by kernel_rfl
theorem wordsL : wordsSigns iniP.1 = iniP.1.take 7 :: (iniP.1.drop 8).take 64 :: "cut".toList :: wordsSigns (iniP.1.drop 77) := by
  rw [← isCut]
  conv => lhs; rw [split1]
  rw [words_word _ _ (by kernel_rfl)]
  conv => lhs; rw [split2]
  rw [words_word _ _ (by kernel_rfl)]
  conv => lhs; rw [split3]
  rw [words_word _ _ (by kernel_rfl)]
theorem behindL : behindMainWord (wordsSigns Try.prog.initOrder.toList) = "cut".toList :: wordsSigns (iniP.1.drop 77) := by
  rw [iniL, wordsL]
  unfold behindMainWord
  simp only [isHead, if_true]
theorem stripL (ws : List (List Char)) : stripLifts liftWords ("cut".toList :: ws) = ([], "cut".toList :: ws) := by kernel_rfl
section
variable (P : Program) (ws : List (List Char)) (h : behindMainWord (wordsSigns P.initOrder.toList) = "cut".toList :: ws)
include h
theorem head_of : P.headLifts = [] := by
  unfold Program.headLifts
  rw [h]
  simp only [stripL]
  kernel_rfl
theorem make_of : P.make = some .cut := by
  unfold Program.make
  rw [h, head_of P ws h]
  kernel_rfl
theorem lifts_of : P.liftsFinal = false := by
  unfold Program.liftsFinal
  rw [h, head_of P ws h]
  kernel_rfl
theorem enter_of (h1 : P.laysLater = false) (h2 : P.bearsReflect = false) (h3 : P.doorFits [] = true) : P.mayEnter = true := by
  unfold Program.mayEnter
  rw [h]
  simp only [stripL]
  rw [h1, h2, h3]
  kernel_rfl
end
theorem mayE : Try.pinned.checked.prog.mayEnter = true := enter_of _ _ behindL (by kernel_rfl) (by kernel_rfl) (by kernel_rfl)
theorem liftsF : Try.pinned.checked.prog.liftsFinal = false := lifts_of _ _ behindL
theorem makeF : Try.pinned.checked.prog.make = some .cut := make_of _ _ behindL
theorem both {a b : Bool} (h : a = true) (k : b = true) : (a && b) = true := by rw [h, k]; rfl
end Go.Proofs.Ytlkjacgpjolbdaa

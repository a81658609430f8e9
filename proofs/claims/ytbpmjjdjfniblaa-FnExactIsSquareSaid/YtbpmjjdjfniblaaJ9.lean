
/- The law FnExactIsSquare returns true. The dump's head word by word, cheaply: what every row asks of it. -/
import Derived.Test.YtbpmjjdjfniblaaJ8
import Derived.Deep.RegionWith
import Derived.Deep.DeepCutAuto

namespace Go.Proofs.Ytbpmjjdjfniblaa
open Go.RowKit Go.Maps
set_option maxRecDepth 100000 in
set_option maxHeartbeats 2000000 in
theorem FnExactIsSquare_main (s0 : Value) (n0 : Nat) (F0 : Nat → List Int) (w : World) (h0 : InSS w s0 n0 F0) (hl : (n0 + tot F0 n0) ≤ 1048576) :
    Calls Try.prog 3 #[s0] w (RV (.bool true) w) := by
  have hsl0 := h0.slice
  have hsz0 := fun W (hb : Below w.heap.size w W) => szRows_any s0 n0 F0 w h0 1048576 (by omega) (by omega) W hb
  simp only [if_neg (show ¬ (1048576 : Int) - ((n0 + tot F0 n0 : Nat) : Int) < 0 by omega)] at hsz0
  obtain ⟨m0, hm0⟩ : ∃ m, m = (1048576 : Int) - ((n0 + tot F0 n0 : Nat) : Int) := ⟨_, rfl⟩
  simp only [← hm0] at hsz0
  have hmp0 : 0 ≤ m0 := by omega
  have HSZ0 := Lib.hid hsz0
  have HSB0 := Lib.hid (h0.sb (by omega))
  have HBD0 := Lib.hid (show n0 ≤ 1100000 by omega)
  have HTT0 := Lib.hid (show tot F0 n0 ≤ 1100000 by omega)
  have HWF0 := Lib.hid h0.wf
  obtain ⟨L, hL⟩ : ∃ L, L = sqB n0 F0 := ⟨_, rfl⟩
  have hp : sqB n0 F0 = L := by rw [hL]
  have HSP := Lib.hid fun (W : World) (t0 : Value) (r0 : SSB W t0 n0 F0) => specIsSquare_any t0 n0 F0 W r0
  have HIM := Lib.hid fun (W : World) (t0 : Value) (r0 : SSB W t0 n0 F0) => IsSquare_any t0 n0 F0 W r0 HWF0.out
  rw [hp] at HSP HIM
  have hnb : (L != L) = false := by simp
  clear hsz0 hm0 hL hp h0 hl
  obtain ⟨a0, c0, rfl⟩ := hsl0
  go_enter Try.func3, Try.ntmps3
  have hm := (Mem.start w)
  have HM := Lib.hid hm
  clear hm
  go_wp2_with fail
  refine (HSZ0.out _ HM.out.below).mono ?_
  rintro e w1 ⟨rfl, rfl⟩
  go_wp2_with fail
  refine (toRows_own _ n0 F0 _ (HSB0.out.below HM.out.below (Nat.le_refl _))).mono ?_
  rintro e w2 ⟨tw2, rfl, ⟨gw2, capw2, hsw2⟩, hbw2, how2⟩
  subst hsw2
  have r3 := how2.sb HBD0.out (rows_len HTT0.out)
  have hm := HM.out.step (gb_below hbw2)
  clear HM hbw2 how2
  have HM := Lib.hid hm
  clear hm
  go_wp2_with fail
  refine (HSP.out _ _ r3).mono ?_
  rintro e w4 ⟨rfl, hbw4⟩
  clear r3
  have hm := HM.out.step (gb_below hbw4)
  clear HM hbw4
  have HM := Lib.hid hm
  clear hm
  go_wp2_with fail
  refine (toRows_own _ n0 F0 _ (HSB0.out.below HM.out.below (Nat.le_refl _))).mono ?_
  rintro e w5 ⟨tw5, rfl, ⟨gw5, capw5, hsw5⟩, hbw5, hrw5⟩
  subst hsw5
  have hm := HM.out.pushH hbw5 hrw5
  clear HM hbw5 hrw5
  have HM := Lib.hid hm
  clear hm
  go_wp2_with fail
  refine (HIM.out _ _ ((HM.out.rows 0 rfl).sb HBD0.out (rows_len HTT0.out))).mono ?_
  rintro e w6 ⟨rfl, hbw6⟩
  have hm := HM.out.step (gb_below hbw6)
  clear HM hbw6
  have HM := Lib.hid hm
  clear hm
  go_wp2_with fail
  refine (toRows_own _ n0 F0 _ (HSB0.out.below HM.out.below (Nat.le_refl _))).mono ?_
  rintro e w7 ⟨tw7, rfl, ⟨gw7, capw7, hsw7⟩, hbw7, how7⟩
  subst hsw7
  have hkw7 := how7.sb HBD0.out (rows_len HTT0.out)
  have hm := HM.out.step (gb_below hbw7)
  clear HM hbw7 how7
  have HM := Lib.hid hm
  clear hm
  go_wp2_with fail
  refine (eqInt64SS_same _ _ n0 F0 _ ((HM.out.rows 0 rfl).sb HBD0.out (rows_len HTT0.out)) hkw7).mono ?_
  rintro e w8 ⟨rfl, hbw8⟩
  have hm := HM.out.step (gb_below hbw8)
  clear HM hbw8 hkw7
  have HM := Lib.hid hm
  clear hm
  go_wp2
  go_ret
  exact RV_of rfl HM.out.below
set_option maxRecDepth 100000 in
theorem FnExactIsSquare_long0 (s0 : Value) (n0 : Nat) (F0 : Nat → List Int) (w : World) (h0 : InSS w s0 n0 F0)  (hl : ¬ (n0 + tot F0 n0) ≤ 1048576) : Calls Try.prog 3 #[s0] w (RV (.bool true) w) := by
  have hsl0 := h0.slice
  have hsz0 := fun W (hb : Below w.heap.size w W) => szRows_any s0 n0 F0 w h0 (1048576) (by omega) (by omega) W hb
  simp only [if_pos (show (1048576 : Int) - ((n0 + tot F0 n0 : Nat) : Int) < 0 by omega)] at hsz0
  have HSZ0 := Lib.hid hsz0
  clear hl h0 hsz0
  obtain ⟨a0, c0, rfl⟩ := hsl0
  go_enter Try.func3, Try.ntmps3
  go_wp2_with fail
  refine (HSZ0.out _ (by exact (Below.refl _ _))).mono ?_
  rintro e y0 ⟨rfl, rfl⟩
  go_wp2
  go_ret
  exact RV_of rfl (Below.refl _ _)
theorem FnExactIsSquare_any (s0 : Value) (n0 : Nat) (F0 : Nat → List Int) (w : World) (h0 : InSS w s0 n0 F0) : Calls Try.prog 3 #[s0] w (RV (.bool true) w) := by
  by_cases hs0 : (n0 + tot F0 n0) ≤ 1048576
  case neg => exact FnExactIsSquare_long0 s0 n0 F0 w h0   hs0
  exact FnExactIsSquare_main s0 n0 F0 w h0 hs0 
end Go.Proofs.Ytbpmjjdjfniblaa

namespace Go.Proofs.Ytbpmjjdjfniblaa
set_option maxRecDepth 100000 in
noncomputable def iniP : { L : List Char // Try.prog.initOrder = String.ofList L } := ⟨_, by unfold Try.prog; rfl⟩
theorem iniL : Try.prog.initOrder.toList = iniP.1 := (congrArg String.toList iniP.2).trans String.toList_ofList
theorem words_cons (c : Char) (r : List Char) (h : c ≠ Char.ofNat 32) : wordsSigns (c :: r) = match wordsSigns r with | w :: ws => (c :: w) :: ws | [] => [[c]] := by
  rw [wordsSigns]
  all_goals first | rfl | exact h | (intro e; exact h e)
theorem words_word : ∀ (a b : List Char), (a.all fun c => c != Char.ofNat 32) = true → wordsSigns (a ++ Char.ofNat 32 :: b) = a :: wordsSigns b
  | [], b, _ => rfl
  | c :: a, b, h => by
    simp only [List.all_cons, Bool.and_eq_true, bne_iff_ne, ne_eq] at h
    rw [List.cons_append, words_cons _ _ h.1, words_word a b (by simpa using h.2)]
set_option maxRecDepth 100000 in
theorem split1 : iniP.1 = iniP.1.take 7 ++ Char.ofNat 32 :: iniP.1.drop 8 := by kernel_rfl
set_option maxRecDepth 100000 in
theorem split2 : iniP.1.drop 8 = (iniP.1.drop 8).take 64 ++ Char.ofNat 32 :: iniP.1.drop 73 := by kernel_rfl
set_option maxRecDepth 100000 in
theorem split3 : iniP.1.drop 73 = (iniP.1.drop 73).take 3 ++ Char.ofNat 32 :: iniP.1.drop 77 := by kernel_rfl
theorem isCut : (iniP.1.drop 73).take 3 = "cut".toList := by kernel_rfl
set_option maxRecDepth 100000 in
theorem isHead : ((iniP.1.take 7 == "harness".toList || iniP.1.take 7 == "ownmain".toList) && isSumSigns ((iniP.1.drop 8).take 64)) = true := by kernel_rfl
theorem wordsL : wordsSigns iniP.1 = iniP.1.take 7 :: (iniP.1.drop 8).take 64 :: "cut".toList :: wordsSigns (iniP.1.drop 77) := by
  rw [← isCut]
  conv => lhs; rw [split1]
  rw [words_word _ _ (by kernel_rfl)]
  conv => lhs; rw [split2]
  rw [words_word _ _ (by kernel_rfl)]
  conv => lhs; rw [split3]
  rw [words_word _ _ (by kernel_rfl)]
theorem behindL : behindMainWord (wordsSigns Try.prog.initOrder.toList) = "cut".toList :: wordsSigns (iniP.1.drop 77) := by
  rw [iniL, wordsL]
  unfold behindMainWord
  simp only [isHead, if_true]
theorem stripL (ws : List (List Char)) : stripLifts liftWords ("cut".toList :: ws) = ([], "cut".toList :: ws) := by kernel_rfl
section
variable (P : Program) (ws : List (List Char)) (h : behindMainWord (wordsSigns P.initOrder.toList) = "cut".toList :: ws)
include h
theorem head_of : P.headLifts = [] := by
  unfold Program.headLifts
  rw [h]
  simp only [stripL]
  kernel_rfl
theorem make_of : P.make = some .cut := by
  unfold Program.make
  rw [h, head_of P ws h]
  kernel_rfl
theorem lifts_of : P.liftsFinal = false := by
  unfold Program.liftsFinal
  rw [h, head_of P ws h]
  kernel_rfl
theorem enter_of (h1 : P.laysLater = false) (h2 : P.bearsReflect = false) (h3 : P.doorFits [] = true) : P.mayEnter = true := by
  unfold Program.mayEnter
  rw [h]
  simp only [stripL]
  rw [h1, h2, h3]
  kernel_rfl
end
theorem mayE : Try.pinned.checked.prog.mayEnter = true := enter_of _ _ behindL (by kernel_rfl) (by kernel_rfl) (by kernel_rfl)
theorem liftsF : Try.pinned.checked.prog.liftsFinal = false := lifts_of _ _ behindL
theorem makeF : Try.pinned.checked.prog.make = some .cut := make_of _ _ behindL
theorem both {a b : Bool} (h : a = true) (k : b = true) : (a && b) = true := by rw [h, k]; rfl
end Go.Proofs.Ytbpmjjdjfniblaa

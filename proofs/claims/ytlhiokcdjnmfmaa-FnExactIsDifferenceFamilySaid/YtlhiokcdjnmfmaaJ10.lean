
/- The model's TakeBlock. The law FnExactIsDifferenceFamily returns true. The dump's head word by word, cheaply: what every row asks of it. -/
import Derived.Test.YtlhiokcdjnmfmaaJ9
import Derived.Deep.RegionHeld3
import Derived.IntWalk
import Derived.Deep.RegionWith
import Derived.Deep.DeepCutAuto
namespace Go.Proofs.Ytlhiokcdjnmfmaa
open Go.RowKit Go.Maps
theorem Blks.take {w : World} {b off : Nat} {bs : List Blk} (h : Blks w b off bs) (j : Nat) : Blks w b off (bs.take j) := fun k hk => by
  rw [List.length_take] at hk
  have := h k (by omega)
  rwa [List.getElem?_take_of_lt (by omega)]
theorem Blks.drop {w : World} {b off : Nat} {bs : List Blk} (h : Blks w b off bs) (j : Nat) : Blks w b (off + j * 3) (bs.drop j) := fun k hk => by
  rw [List.length_drop] at hk
  have := h (j + k) (by omega)
  rw [List.getElem?_drop, show off + j * 3 + k * 3 = off + (j + k) * 3 by omega]
  exact this
theorem lit_own (W : World) : OwnR (W.alloc (.cells #[] 77)) W.heap.size (.slice (some ⟨W.heap.size, 0, none⟩) 0 0) [] :=
  ⟨rfl, .inr ⟨W.heap.size, 0, #[], rfl, Nat.le_refl _, (MapKept.heap_alloc W (.cells #[] 77)).1, Nat.le_refl _, by unfold maxLen; omega, rfl, rfl⟩⟩
theorem OwnR.drew {w : World} {base : Nat} {v : Value} {bs : List Blk} (h : OwnR w base v bs) : OwnR w.drew base v bs := h
theorem SX.drew {w : World} {v : Value} {bs : List Blk} (h : SX w v bs) : SX w.drew v bs := h
theorem Blks.drew {w : World} {b off : Nat} {bs : List Blk} (h : Blks w b off bs) : Blks w.drew b off bs := h
theorem Blks.kept {w w' : World} {b off : Nat} {bs : List Blk} {row : Option Nat} (h : Blks w b off bs) (hg : w.grownBy w' row) (hne : some b ≠ row) : Blks w' b off bs := fun k hk => by
  obtain ⟨h1, h2, h3⟩ := h k hk
  exact ⟨hg.cell h1 hne, hg.cell h2 hne, hg.cell h3 hne⟩
theorem keep_cell {w w' : World} {row : Option Nat} {b o : Nat} {u : Value} (h : w.cell? ⟨b, o, none⟩ = some u) (hg : w.grownBy w' row) (hne : ∀ r, row = some r → b < r) : w'.cell? ⟨b, o, none⟩ = some u :=
  hg.cell h (fun e => by have := hne _ e.symm; simp at this)
theorem keep_frozen {w w' : World} {row : Option Nat} {b o : Nat} {u : Value} (hc : w.cell? ⟨b, o, none⟩ = some u) (h : w.frozen? ⟨b, o, none⟩ = false) (hg : w.grownBy w' row) (hne : ∀ r, row = some r → b < r) : w'.frozen? ⟨b, o, none⟩ = false :=
  (World.frozen?_of_block (w := w) (a := ⟨b, o, none⟩) (hg.block b (block_lt_of_cell hc) (fun e => by have := hne _ e.symm; omega))).trans h
theorem keep_some {w w' : World} {row : Option Nat} {b o : Nat} (h : (w.cell? ⟨b, o, none⟩).isSome = true) (hg : w.grownBy w' row) (hne : ∀ r, row = some r → b < r) : (w'.cell? ⟨b, o, none⟩).isSome = true := by
  obtain ⟨u, hu⟩ := Option.isSome_iff_exists.1 h
  rw [keep_cell hu hg hne]
  rfl
theorem keep_free {w w' : World} {row : Option Nat} {b o : Nat} (h : (w.cell? ⟨b, o, none⟩).isSome = true) (hf : w.frozen? ⟨b, o, none⟩ = false) (hg : w.grownBy w' row) (hne : ∀ r, row = some r → b < r) : w'.frozen? ⟨b, o, none⟩ = false := by
  obtain ⟨u, hu⟩ := Option.isSome_iff_exists.1 h
  exact keep_frozen hu hf hg hne
def Six (w' : World) (b : Nat) (v : Int) (s : Value) : Prop := w'.cell? ⟨b, 0, none⟩ = some (.int .i64 v) ∧ w'.cell? ⟨b, 1, none⟩ = some s ∧ w'.cell? ⟨b + 1, 0, none⟩ = some (.int .i64 0) ∧ w'.cell? ⟨b + 1, 1, none⟩ = some (.slice none 0 0) ∧ w'.frozen? ⟨b + 1, 0, none⟩ = false ∧ w'.frozen? ⟨b + 1, 1, none⟩ = false
theorem keep6 {w w' : World} {b : Nat} {v : Int} {s : Value} {row : Option Nat} (h : Six w b v s) (hg : w.grownBy w' row) (hr : ∀ r, row = some r → b + 1 < r) : Six w' b v s := by
  obtain ⟨h0, h1, h2, h3, h4, h5⟩ := h
  exact ⟨keep_cell h0 hg (fun r e => by have := hr r e; omega), keep_cell h1 hg (fun r e => by have := hr r e; omega), keep_cell h2 hg hr, keep_cell h3 hg hr, keep_frozen h2 h4 hg hr, keep_frozen h3 h5 hg hr⟩
theorem gb_drewL {w w' : World} {row : Option Nat} (h : w.drew.grownBy w' row) : w.grownBy w' row := ⟨h.os, h.tape, h.output, h.size, h.block⟩
theorem run_slice_drop (b off n cap j : Nat) (h1 : j ≤ n) (h2 : n ≤ cap) : ∃ x, (∀ W : World, (Instr.slice 29 (.slice (some ⟨b, off, none⟩) n cap) (some (.int .i64 (j : Int))) none none).run Try.prog W = .ok x W) ∧ ∀ (W : World) (bs : List Blk), bs.length = n → b < W.heap.size → Blks W b off bs → SX W x (bs.drop j) := by
  have hj0 : (0 : Int) ≤ (j : Int) := by omega
  have hj1 : (j : Int) ≤ (n : Int) := by omega
  by_cases hc : j = cap
  · refine ⟨.slice (some ⟨b, off, none⟩) 0 0, fun W => ?_, fun W bs e _ _ => .inl ⟨_, _, rfl, List.drop_eq_nil_of_le (by omega)⟩⟩
    have e1 : n = j := by omega
    subst e1
    subst hc
    simp [Instr.slice, Instr.sliceBounds, Instr.sliceBound, run_underlying Try.underlying29, go_sem, hj0]
  · refine ⟨.slice (some ⟨b, off + j * 3, none⟩) (n - j) (cap - j), fun W => ?_, fun W bs e h1 h2 => .inr ⟨b, off + j * 3, cap - j, by rw [List.length_drop, e], h1, h2.drop j⟩⟩
    have hc' : ¬ cap = j := fun e => hc e.symm
    simp [Instr.slice, Instr.sliceBounds, Instr.sliceBound, run_underlying Try.underlying29, go_sem, hj0, h1, hc', addr_at]
/-- .. and the slice is no longer than its capacity. -/
def SC (w : World) (s : Value) (bs : List Blk) : Prop := SB w s bs ∧ ∀ a n c, s = .slice a n c → n ≤ c
theorem SC.below {w w' : World} {s : Value} {bs : List Blk} (h : SC w s bs) {B : Nat} (hb : Below B w w') (hB : w.heap.size ≤ B) : SC w' s bs := ⟨h.1.below hb hB, h.2⟩
theorem OwnB.sc {w : World} {lo : Nat} {s : Value} {bs : List Blk} (h : OwnB w lo s bs) (hwf : ∀ x ∈ bs, WFB x) (hl : bs.length ≤ 1100000) : SC w s bs := by
  refine ⟨h.sb hwf hl, fun a n c e => ?_⟩
  obtain ⟨g, cap, rfl, _, _, _, _, hc⟩ := h
  cases e
  exact hc
theorem l01In_out (n lo hi : Int) (W : World) (β : Bool) (hβ : (decide (lo ≤ n) && decide (n ≤ hi)) = β) : Calls Try.prog 106 #[.int .i64 n, .int .i64 lo, .int .i64 hi] W (RS (.bool β) W) := by
  rw [← hβ]
  exact l01In_any n lo hi W
end Go.Proofs.Ytlhiokcdjnmfmaa


namespace Go.Proofs.Ytlhiokcdjnmfmaa
open Go.RowKit Go.Maps
set_option maxRecDepth 100000 in
set_option maxHeartbeats 2000000 in
theorem FnExactIsDifferenceFamily_main (p0 : Int) (s1 : Value) (n1 : Nat) (F1 : Nat → List Int) (w : World) (h0 : WF p0) (h1 : InSS w s1 n1 F1) (hl : (n1 + tot F1 n1) ≤ 1048576) :
    Calls Try.prog 5 #[.int .i64 p0, s1] w (RV (.bool true) w) := by
  have hsl1 := h1.slice
  have hsz1 := fun W (hb : Below w.heap.size w W) => szRows_any s1 n1 F1 w h1 1048576 (by omega) (by omega) W hb
  simp only [if_neg (show ¬ (1048576 : Int) - ((n1 + tot F1 n1 : Nat) : Int) < 0 by omega)] at hsz1
  obtain ⟨m1, hm1⟩ : ∃ m, m = (1048576 : Int) - ((n1 + tot F1 n1 : Nat) : Int) := ⟨_, rfl⟩
  simp only [← hm1] at hsz1
  have hmp1 : 0 ≤ m1 := by omega
  have HSZ1 := Lib.hid hsz1
  have HSB1 := Lib.hid (h1.sb (by omega))
  have HBD1 := Lib.hid (show n1 ≤ 1100000 by omega)
  have HTT1 := Lib.hid (show tot F1 n1 ≤ 1100000 by omega)
  have HWF0 := Lib.hid h0
  obtain ⟨L, hL⟩ : ∃ L, L = (famF p0 n1 F1).1 := ⟨_, rfl⟩
  obtain ⟨κ, hκ⟩ : ∃ κ, κ = (famF p0 n1 F1).2 := ⟨_, rfl⟩
  have hp : famF p0 n1 F1 = (L, κ) := by rw [hL, hκ]
  have HSP := Lib.hid fun (W : World) (t1 : Value) (r1 : SSB W t1 n1 F1) => specIsDF_any p0 t1 n1 F1 W r1
  have HIM := Lib.hid fun (W : World) (t1 : Value) (r1 : SSB W t1 n1 F1) => IsDF_any p0 t1 n1 F1 W r1
  rw [hp] at HSP HIM
  try unfold boolCode at HSP HIM
  try dsimp only at HSP HIM
  have hnk : (κ != κ) = false := by simp
  have hnb : (L != L) = false := by simp
  clear hsz1 hm1 hL hκ hp h0 h1 hl
  obtain ⟨a1, c1, rfl⟩ := hsl1
  go_enter Try.func5, Try.ntmps5
  have hm := (Mem.start w)
  have HM := Lib.hid hm
  clear hm
  go_wp2_with fail
  refine (HSZ1.out _ HM.out.below).mono ?_
  rintro e w1 ⟨rfl, rfl⟩
  go_wp2_with fail
  refine (toRows_own _ n1 F1 _ (HSB1.out.below HM.out.below (Nat.le_refl _))).mono ?_
  rintro e w2 ⟨tw2, rfl, ⟨gw2, capw2, hsw2⟩, hbw2, how2⟩
  subst hsw2
  have r3 := how2.sb HBD1.out (rows_len HTT1.out)
  have hm := HM.out.step (gb_below hbw2)
  clear HM hbw2 how2
  have HM := Lib.hid hm
  clear hm
  go_wp2_with fail
  refine (HSP.out _ _ r3).mono ?_
  rintro e w4 ⟨rfl, hbw4⟩
  clear r3
  have hm := HM.out.step (gb_below hbw4)
  clear HM hbw4
  have HM := Lib.hid hm
  clear hm
  go_wp2_with fail
  refine (toRows_own _ n1 F1 _ (HSB1.out.below HM.out.below (Nat.le_refl _))).mono ?_
  rintro e w5 ⟨tw5, rfl, ⟨gw5, capw5, hsw5⟩, hbw5, hrw5⟩
  subst hsw5
  have hm := HM.out.pushH hbw5 hrw5
  clear HM hbw5 hrw5
  have HM := Lib.hid hm
  clear hm
  go_wp2_with fail
  refine (HIM.out _ _ ((HM.out.rows 0 rfl).sb HBD1.out (rows_len HTT1.out))).mono ?_
  rintro e w6 ⟨rfl, hbw6⟩
  have hm := HM.out.step (gb_below hbw6)
  clear HM hbw6
  have HM := Lib.hid hm
  clear hm
  go_wp2_with fail
  refine (toRows_own _ n1 F1 _ (HSB1.out.below HM.out.below (Nat.le_refl _))).mono ?_
  rintro e w7 ⟨tw7, rfl, ⟨gw7, capw7, hsw7⟩, hbw7, how7⟩
  subst hsw7
  have hkw7 := how7.sb HBD1.out (rows_len HTT1.out)
  have hm := HM.out.step (gb_below hbw7)
  clear HM hbw7 how7
  have HM := Lib.hid hm
  clear hm
  go_wp2_with fail
  refine (eqInt64SS_same _ _ n1 F1 _ ((HM.out.rows 0 rfl).sb HBD1.out (rows_len HTT1.out)) hkw7).mono ?_
  rintro e w8 ⟨rfl, hbw8⟩
  have hm := HM.out.step (gb_below hbw8)
  clear HM hbw8 hkw7
  have HM := Lib.hid hm
  clear hm
  go_wp2
  go_ret
  exact RV_of rfl HM.out.below
set_option maxRecDepth 100000 in
theorem FnExactIsDifferenceFamily_long1 (p0 : Int) (s1 : Value) (n1 : Nat) (F1 : Nat → List Int) (w : World) (h0 : WF p0) (h1 : InSS w s1 n1 F1)  (hl : ¬ (n1 + tot F1 n1) ≤ 1048576) : Calls Try.prog 5 #[.int .i64 p0, s1] w (RV (.bool true) w) := by
  have hsl1 := h1.slice
  have hsz1 := fun W (hb : Below w.heap.size w W) => szRows_any s1 n1 F1 w h1 (1048576) (by omega) (by omega) W hb
  simp only [if_pos (show (1048576 : Int) - ((n1 + tot F1 n1 : Nat) : Int) < 0 by omega)] at hsz1
  have HSZ1 := Lib.hid hsz1
  clear hl h0 h1 hsz1
  obtain ⟨a1, c1, rfl⟩ := hsl1
  go_enter Try.func5, Try.ntmps5
  go_wp2_with fail
  refine (HSZ1.out _ (by exact (Below.refl _ _))).mono ?_
  rintro e y1 ⟨rfl, rfl⟩
  go_wp2
  go_ret
  exact RV_of rfl (Below.refl _ _)
theorem FnExactIsDifferenceFamily_any (p0 : Int) (s1 : Value) (n1 : Nat) (F1 : Nat → List Int) (w : World) (h0 : WF p0) (h1 : InSS w s1 n1 F1) : Calls Try.prog 5 #[.int .i64 p0, s1] w (RV (.bool true) w) := by
  by_cases hs1 : (n1 + tot F1 n1) ≤ 1048576
  case neg => exact FnExactIsDifferenceFamily_long1 p0 s1 n1 F1 w h0 h1   hs1
  exact FnExactIsDifferenceFamily_main p0 s1 n1 F1 w h0 h1 hs1 
end Go.Proofs.Ytlhiokcdjnmfmaa

namespace Go.Proofs.Ytlhiokcdjnmfmaa
set_option maxRecDepth 100000 in
noncomputable def iniP : { L : List Char // Try.prog.initOrder = String.ofList L } := ⟨_, by unfold Try.prog; rfl⟩
theorem iniL : Try.prog.initOrder.toList = iniP.1 := (congrArg String.toList iniP.2).trans String.toList_ofList
theorem words_cons (c : Char) (r : List Char) (h : c ≠ Char.ofNat 32) : wordsSigns (c :: r) = match wordsSigns r with | w :: ws => (c :: w) :: ws | [] => [[c]] := by
  rw [wordsSigns]
  all_goals first | rfl | exact h | (intro e; exact h e)
theorem words_word : ∀ (a b : List Char), (a.all fun c => c != Char.ofNat 32) = true → wordsSigns (a ++ Char.ofNat 32 :: b) = a :: wordsSigns b
  | [], b, _ => rfl
  | c :: a, b, h => by
    simp only [List.all_cons, Bool.and_eq_true, bne_iff_ne, ne_eq] at h
    rw [List.cons_append, words_cons _ _ h.1, words_word a b (by simpa using h.2)]
set_option maxRecDepth 100000 in
theorem split1 : iniP.1 = iniP.1.take 7 ++ Char.ofNat 32 :: iniP.1.drop 8 := by kernel_rfl
set_option maxRecDepth 100000 in
theorem split2 : iniP.1.drop 8 = (iniP.1.drop 8).take 64 ++ Char.ofNat 32 :: iniP.1.drop 73 := by kernel_rfl
set_option maxRecDepth 100000 in
theorem split3 : iniP.1.drop 73 = (iniP.1.drop 73).take 3 ++ Char.ofNat 32 :: iniP.1.drop 77 := by kernel_rfl
theorem isCut : (iniP.1.drop 73).take 3 = "cut".toList := by kernel_rfl
set_option maxRecDepth 100000 in
theorem isHead : ((iniP.1.take 7 == "harness".toList || iniP.1.take 7 == "ownmain".toList) && isSumSigns ((iniP.1.drop 8).take 64)) = true := by kernel_rfl
theorem wordsL : wordsSigns iniP.1 = iniP.1.take 7 :: (iniP.1.drop 8).take 64 :: "cut".toList :: wordsSigns (iniP.1.drop 77) := by
  rw [← isCut]
  conv => lhs; rw [split1]
  rw [words_word _ _ (by kernel_rfl)]
  conv => lhs; rw [split2]
  rw [words_word _ _ (by kernel_rfl)]
  conv => lhs; rw [split3]
  rw [words_word _ _ (by kernel_rfl)]
theorem behindL : behindMainWord (wordsSigns Try.prog.initOrder.toList) = "cut".toList :: wordsSigns (iniP.1.drop 77) := by
  rw [iniL, wordsL]
  unfold behindMainWord
  simp only [isHead, if_true]
theorem stripL (ws : List (List Char)) : stripLifts liftWords ("cut".toList :: ws) = ([], "cut".toList :: ws) := by kernel_rfl
section
variable (P : Program) (ws : List (List Char)) (h : behindMainWord (wordsSigns P.initOrder.toList) = "cut".toList :: ws)
include h
theorem head_of : P.headLifts = [] := by
  unfold Program.headLifts
  rw [h]
  simp only [stripL]
  kernel_rfl
theorem make_of : P.make = some .cut := by
  unfold Program.make
  rw [h, head_of P ws h]
  kernel_rfl
theorem lifts_of : P.liftsFinal = false := by
  unfold Program.liftsFinal
  rw [h, head_of P ws h]
  kernel_rfl
theorem enter_of (h1 : P.laysLater = false) (h2 : P.bearsReflect = false) (h3 : P.doorFits [] = true) : P.mayEnter = true := by
  unfold Program.mayEnter
  rw [h]
  simp only [stripL]
  rw [h1, h2, h3]
  kernel_rfl
end
theorem mayE : Try.pinned.checked.prog.mayEnter = true := enter_of _ _ behindL (by kernel_rfl) (by kernel_rfl) (by kernel_rfl)
theorem liftsF : Try.pinned.checked.prog.liftsFinal = false := lifts_of _ _ behindL
theorem makeF : Try.pinned.checked.prog.make = some .cut := make_of _ _ behindL
theorem both {a b : Bool} (h : a = true) (k : b = true) : (a && b) = true := by rw [h, k]; rfl
end Go.Proofs.Ytlhiokcdjnmfmaa


/- The model's TakeBlock. The law FnExactIsTrade returns true. The dump's head word by word, cheaply: what every row asks of it. -/
import Derived.Test.YtacfelgilphppaaJ8
import Derived.Deep.RegionHeld3
import Derived.IntWalk
import Derived.Deep.RegionWith
import Derived.Deep.DeepCutAuto
namespace Go.Proofs.Ytacfelgilphppaa
open Go.RowKit Go.Maps
theorem Blks.take {w : World} {b off : Nat} {bs : List Blk} (h : Blks w b off bs) (j : Nat) : Blks w b off (bs.take j) := fun k hk => by
  rw [List.length_take] at hk
  have := h k (by omega)
  rwa [List.getElem?_take_of_lt (by omega)]
theorem Blks.drop {w : World} {b off : Nat} {bs : List Blk} (h : Blks w b off bs) (j : Nat) : Blks w b (off + j * 3) (bs.drop j) := fun k hk => by
  rw [List.length_drop] at hk
  have := h (j + k) (by omega)
  rw [List.getElem?_drop, show off + j * 3 + k * 3 = off + (j + k) * 3 by omega]
  exact this
theorem lit_own (W : World) : OwnR (W.alloc (.cells #[] 93)) W.heap.size (.slice (some ⟨W.heap.size, 0, none⟩) 0 0) [] :=
  ⟨rfl, .inr ⟨W.heap.size, 0, #[], rfl, Nat.le_refl _, (MapKept.heap_alloc W (.cells #[] 93)).1, Nat.le_refl _, by unfold maxLen; omega, rfl, rfl⟩⟩
theorem OwnR.drew {w : World} {base : Nat} {v : Value} {bs : List Blk} (h : OwnR w base v bs) : OwnR w.drew base v bs := h
theorem SX.drew {w : World} {v : Value} {bs : List Blk} (h : SX w v bs) : SX w.drew v bs := h
theorem Blks.drew {w : World} {b off : Nat} {bs : List Blk} (h : Blks w b off bs) : Blks w.drew b off bs := h
theorem Blks.kept {w w' : World} {b off : Nat} {bs : List Blk} {row : Option Nat} (h : Blks w b off bs) (hg : w.grownBy w' row) (hne : some b ≠ row) : Blks w' b off bs := fun k hk => by
  obtain ⟨h1, h2, h3⟩ := h k hk
  exact ⟨hg.cell h1 hne, hg.cell h2 hne, hg.cell h3 hne⟩
theorem keep_cell {w w' : World} {row : Option Nat} {b o : Nat} {u : Value} (h : w.cell? ⟨b, o, none⟩ = some u) (hg : w.grownBy w' row) (hne : ∀ r, row = some r → b < r) : w'.cell? ⟨b, o, none⟩ = some u :=
  hg.cell h (fun e => by have := hne _ e.symm; simp at this)
theorem keep_frozen {w w' : World} {row : Option Nat} {b o : Nat} {u : Value} (hc : w.cell? ⟨b, o, none⟩ = some u) (h : w.frozen? ⟨b, o, none⟩ = false) (hg : w.grownBy w' row) (hne : ∀ r, row = some r → b < r) : w'.frozen? ⟨b, o, none⟩ = false :=
  (World.frozen?_of_block (w := w) (a := ⟨b, o, none⟩) (hg.block b (block_lt_of_cell hc) (fun e => by have := hne _ e.symm; omega))).trans h
theorem keep_some {w w' : World} {row : Option Nat} {b o : Nat} (h : (w.cell? ⟨b, o, none⟩).isSome = true) (hg : w.grownBy w' row) (hne : ∀ r, row = some r → b < r) : (w'.cell? ⟨b, o, none⟩).isSome = true := by
  obtain ⟨u, hu⟩ := Option.isSome_iff_exists.1 h
  rw [keep_cell hu hg hne]
  rfl
theorem keep_free {w w' : World} {row : Option Nat} {b o : Nat} (h : (w.cell? ⟨b, o, none⟩).isSome = true) (hf : w.frozen? ⟨b, o, none⟩ = false) (hg : w.grownBy w' row) (hne : ∀ r, row = some r → b < r) : w'.frozen? ⟨b, o, none⟩ = false := by
  obtain ⟨u, hu⟩ := Option.isSome_iff_exists.1 h
  exact keep_frozen hu hf hg hne
def Six (w' : World) (b : Nat) (v : Int) (s : Value) : Prop := w'.cell? ⟨b, 0, none⟩ = some (.int .i64 v) ∧ w'.cell? ⟨b, 1, none⟩ = some s ∧ w'.cell? ⟨b + 1, 0, none⟩ = some (.int .i64 0) ∧ w'.cell? ⟨b + 1, 1, none⟩ = some (.slice none 0 0) ∧ w'.frozen? ⟨b + 1, 0, none⟩ = false ∧ w'.frozen? ⟨b + 1, 1, none⟩ = false
theorem keep6 {w w' : World} {b : Nat} {v : Int} {s : Value} {row : Option Nat} (h : Six w b v s) (hg : w.grownBy w' row) (hr : ∀ r, row = some r → b + 1 < r) : Six w' b v s := by
  obtain ⟨h0, h1, h2, h3, h4, h5⟩ := h
  exact ⟨keep_cell h0 hg (fun r e => by have := hr r e; omega), keep_cell h1 hg (fun r e => by have := hr r e; omega), keep_cell h2 hg hr, keep_cell h3 hg hr, keep_frozen h2 h4 hg hr, keep_frozen h3 h5 hg hr⟩
theorem gb_drewL {w w' : World} {row : Option Nat} (h : w.drew.grownBy w' row) : w.grownBy w' row := ⟨h.os, h.tape, h.output, h.size, h.block⟩
theorem run_slice_drop (b off n cap j : Nat) (h1 : j ≤ n) (h2 : n ≤ cap) : ∃ x, (∀ W : World, (Instr.slice 29 (.slice (some ⟨b, off, none⟩) n cap) (some (.int .i64 (j : Int))) none none).run Try.prog W = .ok x W) ∧ ∀ (W : World) (bs : List Blk), bs.length = n → b < W.heap.size → Blks W b off bs → SX W x (bs.drop j) := by
  have hj0 : (0 : Int) ≤ (j : Int) := by omega
  have hj1 : (j : Int) ≤ (n : Int) := by omega
  by_cases hc : j = cap
  · refine ⟨.slice (some ⟨b, off, none⟩) 0 0, fun W => ?_, fun W bs e _ _ => .inl ⟨_, _, rfl, List.drop_eq_nil_of_le (by omega)⟩⟩
    have e1 : n = j := by omega
    subst e1
    subst hc
    simp [Instr.slice, Instr.sliceBounds, Instr.sliceBound, run_underlying Try.underlying29, go_sem, hj0]
  · refine ⟨.slice (some ⟨b, off + j * 3, none⟩) (n - j) (cap - j), fun W => ?_, fun W bs e h1 h2 => .inr ⟨b, off + j * 3, cap - j, by rw [List.length_drop, e], h1, h2.drop j⟩⟩
    have hc' : ¬ cap = j := fun e => hc e.symm
    simp [Instr.slice, Instr.sliceBounds, Instr.sliceBound, run_underlying Try.underlying29, go_sem, hj0, h1, hc', addr_at]
/-- .. and the slice is no longer than its capacity. -/
def SC (w : World) (s : Value) (bs : List Blk) : Prop := SB w s bs ∧ ∀ a n c, s = .slice a n c → n ≤ c
theorem SC.below {w w' : World} {s : Value} {bs : List Blk} (h : SC w s bs) {B : Nat} (hb : Below B w w') (hB : w.heap.size ≤ B) : SC w' s bs := ⟨h.1.below hb hB, h.2⟩
theorem OwnB.sc {w : World} {lo : Nat} {s : Value} {bs : List Blk} (h : OwnB w lo s bs) (hwf : ∀ x ∈ bs, WFB x) (hl : bs.length ≤ 1100000) : SC w s bs := by
  refine ⟨h.sb hwf hl, fun a n c e => ?_⟩
  obtain ⟨g, cap, rfl, _, _, _, _, hc⟩ := h
  cases e
  exact hc
theorem l01In_out (n lo hi : Int) (W : World) (β : Bool) (hβ : (decide (lo ≤ n) && decide (n ≤ hi)) = β) : Calls Try.prog 155 #[.int .i64 n, .int .i64 lo, .int .i64 hi] W (RS (.bool β) W) := by
  rw [← hβ]
  exact l01In_any n lo hi W
end Go.Proofs.Ytacfelgilphppaa


namespace Go.Proofs.Ytacfelgilphppaa
open Go.RowKit Go.Maps
set_option maxRecDepth 100000 in
set_option maxHeartbeats 2000000 in
theorem FnExactIsTrade_main (v0 : Int) (so0 : Value) (bo0 : List Blk) (si0 : Value) (bi0 : List Blk) (w : World) (h0 : InT w so0 bo0 si0 bi0) (hl : (bo0.length + bi0.length) ≤ 1048576) :
    Calls Try.prog 14 #[.agg #[.int .i64 v0, so0, si0]] w (RV (.bool true) w) := by
  have hslo0 := h0.1.slice
  have hsli0 := h0.2.slice
  have hbdo0 := h0.1.2.1
  have hbdi0 := h0.2.2.1
  have hsz0 := szTrade_any v0 so0 si0 bo0.length bi0.length hslo0 hsli0 (by omega) (by omega) 1048576 (by omega) (by omega)
  rw [if_neg (by omega)] at hsz0
  obtain ⟨m0, hm0⟩ : ∃ m, m = (1048576 : Int) - ((bo0.length + bi0.length : Nat) : Int) := ⟨_, rfl⟩
  rw [← hm0] at hsz0
  have hmp0 : 0 ≤ m0 := by omega
  have HSZ0 := Lib.hid hsz0
  have HSB0 := Lib.hid (h0.sb (by omega))
  have HBD0 := Lib.hid (show (bo0.length + bi0.length) ≤ 1100000 by omega)
  have HWFo0 := Lib.hid h0.1.1
  have HWFi0 := Lib.hid h0.2.1
  obtain ⟨L, hL⟩ : ∃ L, L = trdB v0 bo0 bi0 := ⟨_, rfl⟩
  have hp : trdB v0 bo0 bi0 = L := by rw [hL]
  have HSP := Lib.hid fun (W : World) (to0 ti0 : Value) (r0 : TB W to0 bo0 ti0 bi0) => specIsTrade_any v0 to0 bo0 ti0 bi0 W r0
  have HIM := Lib.hid fun (W : World) (to0 ti0 : Value) (r0 : TB W to0 bo0 ti0 bi0) => IsTrade_any v0 to0 bo0 ti0 bi0 W r0
  rw [hp] at HSP HIM
  have hnb : (L != L) = false := by simp
  clear hsz0 hm0 hbdo0 hbdi0 hL hp h0 hl
  obtain ⟨ao0, co0, rfl⟩ := hslo0
  obtain ⟨ai0, ci0, rfl⟩ := hsli0
  go_enter Try.func14, Try.ntmps14
  have hm := ((Mem.start w).pushVarT v0 (.slice ao0 bo0.length co0) (.slice ai0 bi0.length ci0) 59)
  have fA00 := (hm.vrt 0 rfl).c0
  have fA01 := (hm.vrt 0 rfl).c1
  have fA02 := (hm.vrt 0 rfl).c2
  have HM := Lib.hid hm
  clear hm
  go_wp2_with fail
  refine (HSZ0.out _).mono ?_
  rintro e w1 ⟨rfl, hbw1⟩
  have hm := HM.out.step (gb_below hbw1)
  clear fA00 fA01 fA02
  clear HM hbw1
  have fA00 := (hm.vrt 0 rfl).c0
  have fA01 := (hm.vrt 0 rfl).c1
  have fA02 := (hm.vrt 0 rfl).c2
  have HM := Lib.hid hm
  clear hm
  go_wp2_with fail
  refine (toTrade_any v0 _ bo0 _ bi0 _ (HSB0.out.below HM.out.below (Nat.le_refl _))).mono ?_
  rintro e w2 ⟨tow2, tiw2, rfl, how2, hbw2⟩
  have r3 := how2.sb HWFo0.out HWFi0.out HBD0.out
  obtain ⟨gow2, kow2, giw2, kiw2, hsow2, hsiw2, _⟩ := id how2
  subst hsow2
  subst hsiw2
  have hm := HM.out.step (gb_below hbw2)
  clear fA00 fA01 fA02
  clear HM hbw2 how2
  have fA00 := (hm.vrt 0 rfl).c0
  have fA01 := (hm.vrt 0 rfl).c1
  have fA02 := (hm.vrt 0 rfl).c2
  have HM := Lib.hid hm
  clear hm
  go_wp2_with fail
  refine (HSP.out _ _ _ r3).mono ?_
  rintro e w4 ⟨rfl, hbw4⟩
  clear r3
  have hm := HM.out.step (gb_below hbw4)
  clear fA00 fA01 fA02
  clear HM hbw4
  have fA00 := (hm.vrt 0 rfl).c0
  have fA01 := (hm.vrt 0 rfl).c1
  have fA02 := (hm.vrt 0 rfl).c2
  have HM := Lib.hid hm
  clear hm
  go_wp2_with fail
  refine (toTrade_any v0 _ bo0 _ bi0 _ (HSB0.out.below HM.out.below (Nat.le_refl _))).mono ?_
  rintro e w5 ⟨tow5, tiw5, rfl, how5, hbw5⟩
  have hrw5 := how5.res
  obtain ⟨gow5, kow5, giw5, kiw5, hsow5, hsiw5, _⟩ := id how5
  subst hsow5
  subst hsiw5
  have hm := (HM.out.pushT hbw5 hrw5).pushVarT v0 (.slice (some ⟨gow5, 0, none⟩) bo0.length kow5) (.slice (some ⟨giw5, 0, none⟩) bi0.length kiw5) 63
  clear fA00 fA01 fA02
  clear HM hbw5 hrw5 how5
  have fVX00 := (hm.vrt 0 rfl).c0
  have fVX01 := (hm.vrt 0 rfl).c1
  have fVX02 := (hm.vrt 0 rfl).c2
  have fA00 := (hm.vrt 2 rfl).c0
  have fA01 := (hm.vrt 2 rfl).c1
  have fA02 := (hm.vrt 2 rfl).c2
  have HM := Lib.hid hm
  clear hm
  go_wp2_with fail
  refine (HIM.out _ _ _ ((HM.out.trd 1 rfl).tb HWFo0.out HWFi0.out HBD0.out)).mono ?_
  rintro e w6 ⟨rfl, hbw6⟩
  have hm := HM.out.step (gb_below hbw6)
  clear fVX00 fVX01 fVX02 fA00 fA01 fA02
  clear HM hbw6
  have fVX00 := (hm.vrt 0 rfl).c0
  have fVX01 := (hm.vrt 0 rfl).c1
  have fVX02 := (hm.vrt 0 rfl).c2
  have fA00 := (hm.vrt 2 rfl).c0
  have fA01 := (hm.vrt 2 rfl).c1
  have fA02 := (hm.vrt 2 rfl).c2
  have HM := Lib.hid hm
  clear hm
  go_upto_region 10 with fail
  go_cut [26] (fun sq wx => sq = .bool false ∧ MemOf HM.out wx)
  case first =>
    go_region_with (first | (go_at_call 64; refine (toTrade_any v0 _ bo0 _ bi0 _ ?_).mono ?_; (exact HSB0.out.below HM.out.below.drew (Nat.le_refl _)); rintro e w7 ⟨tow7, tiw7, rfl, how7, hbw7⟩; have hmx := (HM.out.step (gb_drew1 _)).step (gb_below hbw7); have ec0 := (hmx.vrt 0 rfl).c0; have ec1 := (hmx.vrt 0 rfl).c1; have ec2 := (hmx.vrt 0 rfl).c2; have HMX := Lib.hid hmx; clear hmx; have hsbw7 := how7.sb HWFo0.out HWFi0.out HBD0.out; obtain ⟨gow7, kow7, giw7, kiw7, hsow7, hsiw7, _⟩ := id how7; subst hsow7; subst hsiw7) | (go_at_call 66; refine (eqTrade_same v0 _ _ _ _ bo0 bi0 _ ?_ ?_).mono ?_; (exact ((HMX.out.trd 1 rfl).tb HWFo0.out HWFi0.out HBD0.out)); (exact hsbw7); rintro e w8 ⟨rfl, hbw8⟩))
    all_goals
      go_wp2_with fail
      go_meet
      exact ⟨rfl, HMX.out.step (gb_below hbw8)⟩
  case rest =>
  obtain ⟨rfl, hm⟩ := hcut
  unfold MemOf at hm
  obtain ⟨yc0, rfl⟩ : ∃ W, W = wc := ⟨_, rfl⟩
  clear fVX00 fVX01 fVX02 fA00 fA01 fA02
  clear HM
  have fVX00 := (hm.vrt 0 rfl).c0
  have fVX01 := (hm.vrt 0 rfl).c1
  have fVX02 := (hm.vrt 0 rfl).c2
  have fA00 := (hm.vrt 2 rfl).c0
  have fA01 := (hm.vrt 2 rfl).c1
  have fA02 := (hm.vrt 2 rfl).c2
  have HM := Lib.hid hm
  clear hm
  go_wp2
  go_ret
  exact RV_of rfl HM.out.below
set_option maxRecDepth 100000 in
theorem FnExactIsTrade_long0 (v0 : Int) (so0 : Value) (bo0 : List Blk) (si0 : Value) (bi0 : List Blk) (w : World) (h0 : InT w so0 bo0 si0 bi0)  (hl : ¬ (bo0.length + bi0.length) ≤ 1048576) : Calls Try.prog 14 #[.agg #[.int .i64 v0, so0, si0]] w (RV (.bool true) w) := by
  have hslo0 := h0.1.slice
  have hsli0 := h0.2.slice
  have hbdo0 := h0.1.2.1
  have hbdi0 := h0.2.2.1
  have hsz0 := szTrade_any v0 so0 si0 bo0.length bi0.length hslo0 hsli0 (by omega) (by omega) (1048576) (by omega) (by omega)
  rw [if_pos (by omega)] at hsz0
  have HSZ0 := Lib.hid hsz0
  clear hl h0 hsz0 hbdo0 hbdi0
  obtain ⟨ao0, co0, rfl⟩ := hslo0; obtain ⟨ai0, ci0, rfl⟩ := hsli0
  go_enter Try.func14, Try.ntmps14
  go_wp2_with fail
  refine (HSZ0.out _).mono ?_
  rintro e y0 ⟨rfl, hy0⟩
  go_wp2
  go_ret
  exact RV_of rfl (((Below.refl _ _).alloc (by simp <;> omega) _).trans (hy0.mono (by first | (simp <;> omega) | (have := ((Below.refl _ _).alloc (by simp <;> omega) _).size; omega))))
theorem FnExactIsTrade_any (v0 : Int) (so0 : Value) (bo0 : List Blk) (si0 : Value) (bi0 : List Blk) (w : World) (h0 : InT w so0 bo0 si0 bi0) : Calls Try.prog 14 #[.agg #[.int .i64 v0, so0, si0]] w (RV (.bool true) w) := by
  by_cases hs0 : (bo0.length + bi0.length) ≤ 1048576
  case neg => exact FnExactIsTrade_long0 v0 so0 bo0 si0 bi0 w h0   hs0
  exact FnExactIsTrade_main v0 so0 bo0 si0 bi0 w h0 hs0 
end Go.Proofs.Ytacfelgilphppaa

namespace Go.Proofs.Ytacfelgilphppaa
set_option maxRecDepth 100000 in
noncomputable def iniP : { L : List Char // Try.prog.initOrder = String.ofList L } := ⟨_, by unfold Try.prog; rfl⟩
theorem iniL : Try.prog.initOrder.toList = iniP.1 := (congrArg String.toList iniP.2).trans String.toList_ofList
theorem words_cons (c : Char) (r : List Char) (h : c ≠ Char.ofNat 32) : wordsSigns (c :: r) = match wordsSigns r with | w :: ws => (c :: w) :: ws | [] => [[c]] := by
  rw [wordsSigns]
  all_goals first | rfl | exact h | (intro e; exact h e)
theorem words_word : ∀ (a b : List Char), (a.all fun c => c != Char.ofNat 32) = true → wordsSigns (a ++ Char.ofNat 32 :: b) = a :: wordsSigns b
  | [], b, _ => rfl
  | c :: a, b, h => by
    simp only [List.all_cons, Bool.and_eq_true, bne_iff_ne, ne_eq] at h
    rw [List.cons_append, words_cons _ _ h.1, words_word a b (by simpa using h.2)]
set_option maxRecDepth 100000 in
theorem split1 : iniP.1 = iniP.1.take 7 ++ Char.ofNat 32 :: iniP.1.drop 8 := by kernel_rfl
set_option maxRecDepth 100000 in
theorem split2 : iniP.1.drop 8 = (iniP.1.drop 8).take 64 ++ Char.ofNat 32 :: iniP.1.drop 73 := by kernel_rfl
set_option maxRecDepth 100000 in
theorem split3 : iniP.1.drop 73 = (iniP.1.drop 73).take 3 ++ Char.ofNat 32 :: iniP.1.drop 77 := by kernel_rfl
theorem isCut : (iniP.1.drop 73).take 3 = "cut".toList := by kernel_rfl
set_option maxRecDepth 100000 in
theorem isHead : ((iniP.1.take 7 == "harness".toList || iniP.1.take 7 == "ownmain".toList) && isSumSigns ((iniP.1.drop 8).take 64)) = true := by kernel_rfl
theorem wordsL : wordsSigns iniP.1 = iniP.1.take 7 :: (iniP.1.drop 8).take 64 :: "cut".toList :: wordsSigns (iniP.1.drop 77) := by
  rw [← isCut]
  conv => lhs; rw [split1]
  rw [words_word _ _ (by kernel_rfl)]
  conv => lhs; rw [split2]
  rw [words_word _ _ (by kernel_rfl)]
  conv => lhs; rw [split3]
  rw [words_word _ _ (by kernel_rfl)]
theorem behindL : behindMainWord (wordsSigns Try.prog.initOrder.toList) = "cut".toList :: wordsSigns (iniP.1.drop 77) := by
  rw [iniL, wordsL]
  unfold behindMainWord
  simp only [isHead, if_true]
theorem stripL (ws : List (List Char)) : stripLifts liftWords ("cut".toList :: ws) = ([], "cut".toList :: ws) := by kernel_rfl
section
variable (P : Program) (ws : List (List Char)) (h : behindMainWord (wordsSigns P.initOrder.toList) = "cut".toList :: ws)
include h
theorem head_of : P.headLifts = [] := by
  unfold Program.headLifts
  rw [h]
  simp only [stripL]
  kernel_rfl
theorem make_of : P.make = some .cut := by
  unfold Program.make
  rw [h, head_of P ws h]
  kernel_rfl
theorem lifts_of : P.liftsFinal = false := by
  unfold Program.liftsFinal
  rw [h, head_of P ws h]
  kernel_rfl
theorem enter_of (h1 : P.laysLater = false) (h2 : P.bearsReflect = false) (h3 : P.doorFits [] = true) : P.mayEnter = true := by
  unfold Program.mayEnter
  rw [h]
  simp only [stripL]
  rw [h1, h2, h3]
  kernel_rfl
end
theorem mayE : Try.pinned.checked.prog.mayEnter = true := enter_of _ _ behindL (by kernel_rfl) (by kernel_rfl) (by kernel_rfl)
theorem liftsF : Try.pinned.checked.prog.liftsFinal = false := lifts_of _ _ behindL
theorem makeF : Try.pinned.checked.prog.make = some .cut := make_of _ _ behindL
theorem both {a b : Bool} (h : a = true) (k : b = true) : (a && b) = true := by rw [h, k]; rfl
end Go.Proofs.Ytacfelgilphppaa


/- The model's TakeBlock. impl.DoubleSystem answers as the plain function dblF. impl.InverseTrade. The memory of a law across a drawn statement that makes a variable for a trade. How the laws' arguments are read. How the laws' other arguments are read: slices of integers, slices of blocks, a block, rows. How a law's trade is read. -/
import Derived.Test.YtacfelgilphppaaJ8
import Derived.Deep.RegionHeld3
import Derived.IntWalk
import Derived.Test.YtacfelgilphppaaRows
import Derived.ProofKit
import Derived.OpenShut
import Derived.Deep.Slices
import Derived.Lib.SmallJoins
import Derived.ChangeOld
namespace Go.Proofs.Ytacfelgilphppaa
open Go.RowKit Go.Maps
theorem Blks.take {w : World} {b off : Nat} {bs : List Blk} (h : Blks w b off bs) (j : Nat) : Blks w b off (bs.take j) := fun k hk => by
  rw [List.length_take] at hk
  have := h k (by omega)
  rwa [List.getElem?_take_of_lt (by omega)]
theorem Blks.drop {w : World} {b off : Nat} {bs : List Blk} (h : Blks w b off bs) (j : Nat) : Blks w b (off + j * 3) (bs.drop j) := fun k hk => by
  rw [List.length_drop] at hk
  have := h (j + k) (by omega)
  rw [List.getElem?_drop, show off + j * 3 + k * 3 = off + (j + k) * 3 by omega]
  exact this
theorem lit_own (W : World) : OwnR (W.alloc (.cells #[] 93)) W.heap.size (.slice (some ⟨W.heap.size, 0, none⟩) 0 0) [] :=
  ⟨rfl, .inr ⟨W.heap.size, 0, #[], rfl, Nat.le_refl _, (MapKept.heap_alloc W (.cells #[] 93)).1, Nat.le_refl _, by unfold maxLen; omega, rfl, rfl⟩⟩
theorem OwnR.drew {w : World} {base : Nat} {v : Value} {bs : List Blk} (h : OwnR w base v bs) : OwnR w.drew base v bs := h
theorem SX.drew {w : World} {v : Value} {bs : List Blk} (h : SX w v bs) : SX w.drew v bs := h
theorem Blks.drew {w : World} {b off : Nat} {bs : List Blk} (h : Blks w b off bs) : Blks w.drew b off bs := h
theorem Blks.kept {w w' : World} {b off : Nat} {bs : List Blk} {row : Option Nat} (h : Blks w b off bs) (hg : w.grownBy w' row) (hne : some b ≠ row) : Blks w' b off bs := fun k hk => by
  obtain ⟨h1, h2, h3⟩ := h k hk
  exact ⟨hg.cell h1 hne, hg.cell h2 hne, hg.cell h3 hne⟩
theorem keep_cell {w w' : World} {row : Option Nat} {b o : Nat} {u : Value} (h : w.cell? ⟨b, o, none⟩ = some u) (hg : w.grownBy w' row) (hne : ∀ r, row = some r → b < r) : w'.cell? ⟨b, o, none⟩ = some u :=
  hg.cell h (fun e => by have := hne _ e.symm; simp at this)
theorem keep_frozen {w w' : World} {row : Option Nat} {b o : Nat} {u : Value} (hc : w.cell? ⟨b, o, none⟩ = some u) (h : w.frozen? ⟨b, o, none⟩ = false) (hg : w.grownBy w' row) (hne : ∀ r, row = some r → b < r) : w'.frozen? ⟨b, o, none⟩ = false :=
  (World.frozen?_of_block (w := w) (a := ⟨b, o, none⟩) (hg.block b (block_lt_of_cell hc) (fun e => by have := hne _ e.symm; omega))).trans h
theorem keep_some {w w' : World} {row : Option Nat} {b o : Nat} (h : (w.cell? ⟨b, o, none⟩).isSome = true) (hg : w.grownBy w' row) (hne : ∀ r, row = some r → b < r) : (w'.cell? ⟨b, o, none⟩).isSome = true := by
  obtain ⟨u, hu⟩ := Option.isSome_iff_exists.1 h
  rw [keep_cell hu hg hne]
  rfl
theorem keep_free {w w' : World} {row : Option Nat} {b o : Nat} (h : (w.cell? ⟨b, o, none⟩).isSome = true) (hf : w.frozen? ⟨b, o, none⟩ = false) (hg : w.grownBy w' row) (hne : ∀ r, row = some r → b < r) : w'.frozen? ⟨b, o, none⟩ = false := by
  obtain ⟨u, hu⟩ := Option.isSome_iff_exists.1 h
  exact keep_frozen hu hf hg hne
def Six (w' : World) (b : Nat) (v : Int) (s : Value) : Prop := w'.cell? ⟨b, 0, none⟩ = some (.int .i64 v) ∧ w'.cell? ⟨b, 1, none⟩ = some s ∧ w'.cell? ⟨b + 1, 0, none⟩ = some (.int .i64 0) ∧ w'.cell? ⟨b + 1, 1, none⟩ = some (.slice none 0 0) ∧ w'.frozen? ⟨b + 1, 0, none⟩ = false ∧ w'.frozen? ⟨b + 1, 1, none⟩ = false
theorem keep6 {w w' : World} {b : Nat} {v : Int} {s : Value} {row : Option Nat} (h : Six w b v s) (hg : w.grownBy w' row) (hr : ∀ r, row = some r → b + 1 < r) : Six w' b v s := by
  obtain ⟨h0, h1, h2, h3, h4, h5⟩ := h
  exact ⟨keep_cell h0 hg (fun r e => by have := hr r e; omega), keep_cell h1 hg (fun r e => by have := hr r e; omega), keep_cell h2 hg hr, keep_cell h3 hg hr, keep_frozen h2 h4 hg hr, keep_frozen h3 h5 hg hr⟩
theorem gb_drewL {w w' : World} {row : Option Nat} (h : w.drew.grownBy w' row) : w.grownBy w' row := ⟨h.os, h.tape, h.output, h.size, h.block⟩
theorem run_slice_drop (b off n cap j : Nat) (h1 : j ≤ n) (h2 : n ≤ cap) : ∃ x, (∀ W : World, (Instr.slice 29 (.slice (some ⟨b, off, none⟩) n cap) (some (.int .i64 (j : Int))) none none).run Try.prog W = .ok x W) ∧ ∀ (W : World) (bs : List Blk), bs.length = n → b < W.heap.size → Blks W b off bs → SX W x (bs.drop j) := by
  have hj0 : (0 : Int) ≤ (j : Int) := by omega
  have hj1 : (j : Int) ≤ (n : Int) := by omega
  by_cases hc : j = cap
  · refine ⟨.slice (some ⟨b, off, none⟩) 0 0, fun W => ?_, fun W bs e _ _ => .inl ⟨_, _, rfl, List.drop_eq_nil_of_le (by omega)⟩⟩
    have e1 : n = j := by omega
    subst e1
    subst hc
    simp [Instr.slice, Instr.sliceBounds, Instr.sliceBound, run_underlying Try.underlying29, go_sem, hj0]
  · refine ⟨.slice (some ⟨b, off + j * 3, none⟩) (n - j) (cap - j), fun W => ?_, fun W bs e h1 h2 => .inr ⟨b, off + j * 3, cap - j, by rw [List.length_drop, e], h1, h2.drop j⟩⟩
    have hc' : ¬ cap = j := fun e => hc e.symm
    simp [Instr.slice, Instr.sliceBounds, Instr.sliceBound, run_underlying Try.underlying29, go_sem, hj0, h1, hc', addr_at]
/-- .. and the slice is no longer than its capacity. -/
def SC (w : World) (s : Value) (bs : List Blk) : Prop := SB w s bs ∧ ∀ a n c, s = .slice a n c → n ≤ c
theorem SC.below {w w' : World} {s : Value} {bs : List Blk} (h : SC w s bs) {B : Nat} (hb : Below B w w') (hB : w.heap.size ≤ B) : SC w' s bs := ⟨h.1.below hb hB, h.2⟩
theorem OwnB.sc {w : World} {lo : Nat} {s : Value} {bs : List Blk} (h : OwnB w lo s bs) (hwf : ∀ x ∈ bs, WFB x) (hl : bs.length ≤ 1100000) : SC w s bs := by
  refine ⟨h.sb hwf hl, fun a n c e => ?_⟩
  obtain ⟨g, cap, rfl, _, _, _, _, hc⟩ := h
  cases e
  exact hc
theorem l01In_out (n lo hi : Int) (W : World) (β : Bool) (hβ : (decide (lo ≤ n) && decide (n ≤ hi)) = β) : Calls Try.prog 155 #[.int .i64 n, .int .i64 lo, .int .i64 hi] W (RS (.bool β) W) := by
  rw [← hβ]
  exact l01In_any n lo hi W
end Go.Proofs.Ytacfelgilphppaa

namespace Go.Proofs.Ytacfelgilphppaa
open Go.RowKit Go.Maps
def dblF (v : Int) (bs : List Blk) : Int × List Blk × Int :=
  if isSysImpl v bs then (if fullB v bs then (if 2 * v + 1 ≤ 15 then (2 * v + 1, sortB (dblL v bs), 0) else (0, [], 3)) else (0, [], 5)) else (0, [], 1)
def fullC (v : Int) (bs : List Blk) : Int := if isSysImpl v bs then (if fullB v bs then 0 else 5) else 1
theorem fullV_cases (v : Int) (bs : List Blk) : (fullV v bs = boolCode true 0 ∧ fullC v bs = 0) ∨ (fullV v bs = boolCode false 0 ∧ fullC v bs = 5) ∨ (fullV v bs = boolCode false 1 ∧ fullC v bs = 1) := by
  unfold fullV fullC
  cases isSysImpl v bs
  · right; right; simp
  · cases fullB v bs
    · right; left; simp
    · left; simp
set_option maxRecDepth 100000 in
theorem fullCode_one (B : Nat) (v : Int) (s : Value) (bs : List Blk) (w : World) (h : SB w s bs) (c0 : w.cell? ⟨B, 0, none⟩ = some (.int .i64 v)) (c1 : w.cell? ⟨B, 1, none⟩ = some s) :
    Calls Try.prog 203 #[.slice (some ⟨B, 0, none⟩) 1 1] w (RV (.int .i64 (fullC v bs)) w) := by
  have hs := h.slice
  have HI := Lib.hid (IsFull_any v s bs (w.alloc (.cells #[.int .i64 v, s] 31)) (h.below ((Below.refl _ _).alloc (Nat.le_refl _) _) (Nat.le_refl _)))
  clear h
  obtain ⟨a, c, rfl⟩ := hs
  rcases fullV_cases v bs with ⟨e1, e2⟩ | ⟨e1, e2⟩ | ⟨e1, e2⟩
  all_goals
    rw [e1] at HI
    rw [e2]
    unfold boolCode at HI
    clear e1 e2
    go_enter Try.func203, Try.ntmps203
    go_wp2
    refine wp_loop_rounds 2 ?_
    rw [rounds_succ]
    go_wp2_with (go_at_call 242; refine HI.out.mono ?_; rintro e w1 ⟨rfl, hb1⟩)
  · rw [rounds_succ]
    go_wp2
    go_ret
    exact RV_of rfl (((Below.refl _ _).alloc (Nat.le_refl _) _).trans (hb1.mono (by simp)))
  · rw [rounds_succ]
    go_wp2
    go_ret
    exact RV_of rfl (((Below.refl _ _).alloc (Nat.le_refl _) _).trans (hb1.mono (by simp)))
  · go_ret
    exact RV_of rfl (((Below.refl _ _).alloc (Nat.le_refl _) _).trans (hb1.mono (by simp)))
/-- Returns a slice of its own with these blocks. -/
def RO (bs : List Blk) (w : World) (e : Ending) (w' : World) : Prop := ∃ u, e = .returned u ∧ OwnR w' w.heap.size u bs ∧ Below w.heap.size w w'
set_option maxRecDepth 100000 in
/-- slices.Clone: the same blocks in memory of its own. -/
theorem cloneB_any (s : Value) (bs : List Blk) (w : World) (h : SX w s bs) (hl : bs.length ≤ 1100000) :
    Calls Try.prog 131 #[s] w (RO bs w) := by
  have hs : ∃ a c, s = .slice a bs.length c := by rcases h with ⟨a0, c0, rfl, rfl⟩ | ⟨b, off, cap, rfl, _⟩ <;> exact ⟨_, _, rfl⟩
  have HS := Lib.hid h
  clear h
  obtain ⟨a, c, rfl⟩ := hs
  cases a with
  | none =>
    have e : bs = [] := by
      rcases HS.out with ⟨_, _, _, h⟩ | ⟨b, off, cap, h, _⟩
      · exact h
      · cases h
    subst e
    have hq : ∀ w, (binOp .eql 29 (.slice none 0 c) (.slice none 0 0)).run Try.prog w = .ok (.bool true) w := fun _ => by kernel_rfl
    go_enter Try.func131, Try.ntmps131
    go_wp2
    go_ret
    exact ⟨_, rfl, OwnR.nil _ _, Below.refl _ _⟩
  | some ad =>
    have ho0 := lit_own w
    have HO0 := Lib.hid ho0
    clear ho0
    have hq : ∀ w, (binOp .eql 29 (.slice (some ad) bs.length c) (.slice none 0 0)).run Try.prog w = .ok (.bool false) w := fun _ => by kernel_rfl
    go_enter Try.func131, Try.ntmps131
    go_wp2_with (at_builtin; refine wpList_append_many rfl _ _ rfl w.heap.size (.slice (some ⟨w.heap.size, 0, none⟩) 0 0) [] rfl HO0.out (.slice (some ad) bs.length c) bs rfl (HS.out.below ((Below.refl _ _).alloc (Nat.le_refl _) _) (Nat.le_refl _)) (by simp; omega) (by simp) ?_; intro a' c' w' ho hg)
    go_ret
    exact ⟨_, rfl, by simpa using ho, ((Below.refl _ _).alloc (Nat.le_refl _) _).grown hg (by simp) (fun r e => by simp [Value.ownBlock] at e; omega)⟩
theorem sx_three (W : World) (x y z : Blk) (T : TypeId) : SX (W.alloc (.cells #[.int .i64 x.a, .int .i64 x.b, .int .i64 x.c, .int .i64 y.a, .int .i64 y.b, .int .i64 y.c, .int .i64 z.a, .int .i64 z.b, .int .i64 z.c] T)) (.slice (some ⟨W.heap.size, 0, none⟩) 3 3) [x, y, z] :=
  .inr ⟨W.heap.size, 0, 3, rfl, by simp, fun k hk => by
    match k, hk with
    | 0, _ => simp
    | 1, _ => simp
    | 2, _ => simp⟩
theorem dbl_bounds {v : Int} {x : Blk} (hg : goodB v x = true) (h15 : v ≤ 15) : 0 ≤ x.a ∧ x.a < x.b ∧ x.b < x.c ∧ x.c < v ∧ v ≤ 15 := by
  have := goodB_iff.1 hg
  omega
end Go.Proofs.Ytacfelgilphppaa

namespace Go.Proofs.Ytacfelgilphppaa
open Go.RowKit Go.Maps
/-- A trade and a code. -/
def RTrd (r : Int × (List Blk × List Blk) × Int) (w : World) (e : Ending) (w' : World) : Prop :=
  ∃ so si, e = .returned (.tuple #[.agg #[.int .i64 r.1, so, si], .int .i64 r.2.2]) ∧ ResT w' w.heap.size w'.heap.size so r.2.1.1 si r.2.1.2 ∧ Below w.heap.size w w'
def invF (v : Int) (bo bi : List Blk) : Int × (List Blk × List Blk) × Int := if trdB v bo bi then (v, (bi, bo), 0) else (0, ([], []), 1)
/-- A trade's box and that of the result. -/
structure BoxR (w' : World) (b : Nat) (v : Int) (so si : Value) : Prop where
  lt : b + 1 < w'.heap.size
  x0 : w'.cell? ⟨b, 0, none⟩ = some (.int .i64 v)
  x1 : w'.cell? ⟨b, 1, none⟩ = some so
  x2 : w'.cell? ⟨b, 2, none⟩ = some si
  y0 : w'.cell? ⟨b + 1, 0, none⟩ = some (.int .i64 0)
  y1 : w'.cell? ⟨b + 1, 1, none⟩ = some (.slice none 0 0)
  y2 : w'.cell? ⟨b + 1, 2, none⟩ = some (.slice none 0 0)
  g0 : w'.frozen? ⟨b + 1, 0, none⟩ = false
  g1 : w'.frozen? ⟨b + 1, 1, none⟩ = false
  g2 : w'.frozen? ⟨b + 1, 2, none⟩ = false
def wRI (w : World) (v : Int) (so si : Value) : World := (w.alloc (.cells #[.int .i64 v, so, si] 63)).alloc (.cells #[.int .i64 0, .slice none 0 0, .slice none 0 0] 63)
theorem BoxR.new (w : World) (v : Int) (so si : Value) : BoxR (wRI w v so si) w.heap.size v so si := by
  unfold wRI
  exact ⟨by simp, by simp [go_sem], by simp [go_sem], by simp [go_sem], by simp [go_sem], by simp [go_sem], by simp [go_sem], by simp [go_sem], by simp [go_sem], by simp [go_sem]⟩
theorem wRI_below (w : World) (v : Int) (so si : Value) : Below w.heap.size w (wRI w v so si) := ((Below.refl _ _).alloc (Nat.le_refl _) _).alloc (by simp) _
theorem BoxR.below {w w' : World} {b : Nat} {v : Int} {so si : Value} (h : BoxR w b v so si) (hb : Below w.heap.size w w') : BoxR w' b v so si := by
  have hl := h.lt
  exact ⟨Nat.lt_of_lt_of_le hl hb.size, (hb.cell (p := ⟨b, 0, none⟩) (by show b < _; omega)).trans h.x0, (hb.cell (p := ⟨b, 1, none⟩) (by show b < _; omega)).trans h.x1, (hb.cell (p := ⟨b, 2, none⟩) (by show b < _; omega)).trans h.x2,
    (hb.cell (p := ⟨b + 1, 0, none⟩) hl).trans h.y0, (hb.cell (p := ⟨b + 1, 1, none⟩) hl).trans h.y1, (hb.cell (p := ⟨b + 1, 2, none⟩) hl).trans h.y2,
    (hb.frozen (p := ⟨b + 1, 0, none⟩) hl).trans h.g0, (hb.frozen (p := ⟨b + 1, 1, none⟩) hl).trans h.g1, (hb.frozen (p := ⟨b + 1, 2, none⟩) hl).trans h.g2⟩
theorem ResT.kept {w w' : World} {lo hi : Nat} {so si : Value} {bo bi : List Blk} {row : Option Nat} (h : ResT w lo hi so bo si bi) (hg : w.grownBy w' row) (hr : ∀ r, row = some r → r < lo) : ResT w' lo hi so bo si bi := by
  obtain ⟨a, b, c, d, ha, hb, hc, hd, hx, r1, r2⟩ := h
  exact ⟨a, b, c, d, ha, hb, hc, hd, hx, r1.kept hg (fun r e => by have := hr r e; omega), r2.kept hg (fun r e => by have := hr r e; omega)⟩
def set3 (W : World) (b : Nat) (u v x : Value) : World := ((W.setCell ⟨b, 0, none⟩ u).setCell ⟨b, 1, none⟩ v).setCell ⟨b, 2, none⟩ x
theorem set3_gb (W : World) (b : Nat) (u v x : Value) : W.grownBy (set3 W b u v x) (some b) := only_setCell (only_setCell (only_setCell (only_refl W (some b)) rfl u) rfl v) rfl x
theorem RTrd.of {w W : World} {lo : Nat} {so si : Value} {r : Int × (List Blk × List Blk) × Int} {p κ : Int} (hB : Below w.heap.size w W) (hr : ResT W lo W.heap.size so r.2.1.1 si r.2.1.2) (hlo : w.heap.size + 1 < lo) (h1 : p = r.1) (h2 : κ = r.2.2) (u v x : Value) :
    RTrd r w (.returned (.tuple #[.agg #[.int .i64 p, so, si], .int .i64 κ])) (set3 W (w.heap.size + 1) u v x) := by
  subst h1 h2
  have hg := set3_gb W (w.heap.size + 1) u v x
  refine ⟨so, si, rfl, ?_, hB.grown hg hB.size (fun r e => by cases e; omega)⟩
  have e : (set3 W (w.heap.size + 1) u v x).heap.size = W.heap.size := by simp [set3]
  rw [e]
  exact (hr.kept hg (fun r e => by cases e; omega)).wide (by omega) (Nat.le_refl _)
theorem RTrd.no {w W : World} (hB : Below w.heap.size w W) (κ : Int) (u v x : Value) : RTrd (0, ([], []), κ) w (.returned (.tuple #[.agg #[.int .i64 0, .slice none 0 0, .slice none 0 0], .int .i64 κ])) (set3 W (w.heap.size + 1) u v x) := by
  have hg := set3_gb W (w.heap.size + 1) u v x
  refine ⟨_, _, rfl, ?_, hB.grown hg hB.size (fun r e => by cases e; omega)⟩
  have := ResT.nil (set3 W (w.heap.size + 1) u v x) (set3 W (w.heap.size + 1) u v x).heap.size
  exact this.wide (Nat.le_trans hB.size hg.size) (Nat.le_refl _)
theorem cloneRR {W0 W1 : World} {u : Value} {bs : List Blk} (h : OwnR W1 W0.heap.size u bs) : ResR W1 W0.heap.size W1.heap.size u bs := h.res
set_option maxRecDepth 100000 in
set_option maxHeartbeats 4000000 in
theorem InverseTrade_any (v : Int) (so : Value) (bo : List Blk) (si : Value) (bi : List Blk) (w : World) (h : TB w so bo si bi) : Calls Try.prog 71 #[.agg #[.int .i64 v, so, si]] w (RTrd (invF v bo bi) w) := by
  have hs := h.1.slice
  have ht := h.2.slice
  have HI := Lib.hid fun W (hb : Below w.heap.size w W) => IsTrade_any v so bo si bi W (h.below hb (Nat.le_refl _))
  have HO := Lib.hid fun W (hb : Below w.heap.size w W) => cloneB_any so bo W (h.1.sx.below hb (Nat.le_refl _)) h.1.2.1
  have HN := Lib.hid fun W (hb : Below w.heap.size w W) => cloneB_any si bi W (h.2.sx.below hb (Nat.le_refl _)) h.2.2.1
  clear h
  obtain ⟨a, c, rfl⟩ := hs
  obtain ⟨a', c', rfl⟩ := ht
  have HB := Lib.hid (BoxR.new w v (.slice a bo.length c) (.slice a' bi.length c'))
  have HBW := Lib.hid (wRI_below w v (.slice a bo.length c) (.slice a' bi.length c'))
  unfold invF
  cases hi : trdB v bo bi with
  | false =>
    rw [hi] at HI
    rw [if_neg (by simp)]
    clear hi HO HN
    go_enter Try.func71, Try.ntmps71
    go_wp2_with fail
    refine (HI.out (wRI w v (.slice a bo.length c) (.slice a' bi.length c')) HBW.out).mono ?_
    rintro e w1 ⟨rfl, hb1⟩
    obtain ⟨_, _, _, _, y0, y1, y2, g0, g1, g2⟩ := HB.out.below hb1
    have hB1 := HBW.out.trans (hb1.mono HBW.out.size)
    clear hb1
    go_wp2
    exact bodyPost_ret (v := .tuple #[.agg #[.int .i64 0, .slice none 0 0, .slice none 0 0], .int .i64 1]) (by simp [results, Try.results71, go_sem, *]) rfl (RTrd.no hB1 1 _ _ _)
  | true =>
    rw [hi] at HI
    rw [if_pos rfl]
    clear hi
    go_enter Try.func71, Try.ntmps71
    go_wp2_with fail
    refine (HI.out (wRI w v (.slice a bo.length c) (.slice a' bi.length c')) HBW.out).mono ?_
    rintro e w1 ⟨rfl, hb1⟩
    have hbx := HB.out.below hb1
    have hB1 := HBW.out.trans (hb1.mono HBW.out.size)
    have HBX := Lib.hid hbx
    have HB1 := Lib.hid hB1
    obtain ⟨hlt, x0, x1, x2, _, _, _, _, _, _⟩ := hbx
    clear hb1 hB1
    go_upto_region 3 with fail
    go_region_held3 (fun w' => w'.cell? ⟨w.heap.size, 0, none⟩ = some (.int .i64 v) ∧ w'.cell? ⟨w.heap.size, 1, none⟩ = some (.slice a bo.length c) ∧ w'.cell? ⟨w.heap.size, 2, none⟩ = some (.slice a' bi.length c'))
      (first | exact ⟨i0, i1, i2⟩ | exact ⟨o0, o1, o2⟩ | exact ⟨x0, x1, x2⟩ | go_keep)
      (first
        | (go_at_call_of 131 (Value.slice a' bi.length c'); refine (HN.out _ ?_).mono ?_; (first | exact HB1.out.trans (hstO.mono HB1.out.size) | exact HB1.out.drew); rintro e wI ⟨uI, rfl, hoI, hbI⟩; obtain ⟨aI, cI, hsI⟩ := hoI.form; subst hsI; have hstI : Below w1.heap.size w1 wI := (by first | exact hstO.trans (hbI.mono hstO.size) | exact ((Below.refl _ _).drew).trans hbI); have hbxI := HBX.out.below hstI; have i0 := hbxI.x0; have i1 := hbxI.x1; have i2 := hbxI.x2; (first | (have HT := Lib.hid (ResT.of (lo := w1.heap.size) (hi := wI.heap.size) hoI.res (hrO.below hbI (Nat.le_refl _)) hstO.size (Nat.le_refl _) (Nat.le_refl _) hbI.size (.inr (Nat.le_refl _))); obtain ⟨_, _, _, _, z0, z1, z2, k0, k1, k2⟩ := hbxI) | (have hrI : ResR wI w1.heap.size wI.heap.size _ bi := hoI.res.wide (Nat.le_refl _) (Nat.le_refl _))))
        | (go_at_call_of 131 (Value.slice a bo.length c); refine (HO.out _ ?_).mono ?_; (first | exact HB1.out.trans (hstI.mono HB1.out.size) | exact HB1.out.drew); rintro e wO ⟨uO, rfl, hoO, hbO⟩; obtain ⟨aO, cO, hsO⟩ := hoO.form; subst hsO; have hstO : Below w1.heap.size w1 wO := (by first | exact hstI.trans (hbO.mono hstI.size) | exact ((Below.refl _ _).drew).trans hbO); have hbxO := HBX.out.below hstO; have o0 := hbxO.x0; have o1 := hbxO.x1; have o2 := hbxO.x2; (first | (have HT := Lib.hid (ResT.of (lo := w1.heap.size) (hi := wO.heap.size) (hrI.below hbO (Nat.le_refl _)) hoO.res (Nat.le_refl _) hbO.size hstI.size (Nat.le_refl _) (.inl (Nat.le_refl _))); obtain ⟨_, _, _, _, z0, z1, z2, k0, k1, k2⟩ := hbxO) | (have hrO : ResR wO w1.heap.size wO.heap.size _ bo := hoO.res.wide (Nat.le_refl _) (Nat.le_refl _)))))
    all_goals
      go_wp2
      first
      | exact bodyPost_ret (v := .tuple #[.agg #[.int .i64 v, .slice aI bi.length cI, .slice aO bo.length cO], .int .i64 0]) (by simp [results, Try.results71, go_sem, *]) rfl (RTrd.of (HB1.out.trans (hstO.mono HB1.out.size)) HT.out (by omega) rfl rfl _ _ _)
      | exact bodyPost_ret (v := .tuple #[.agg #[.int .i64 v, .slice aI bi.length cI, .slice aO bo.length cO], .int .i64 0]) (by simp [results, Try.results71, go_sem, *]) rfl (RTrd.of (HB1.out.trans (hstI.mono HB1.out.size)) HT.out (by omega) rfl rfl _ _ _)
end Go.Proofs.Ytacfelgilphppaa

namespace Go.Proofs.Ytacfelgilphppaa
open Go.RowKit Go.Maps
/-- A variable for a trade that has been made and not yet been stored into. -/
structure ZBoxT (W : World) (X : Nat) : Prop where
  c0 : W.cell? ⟨X, 0, none⟩ = some (.int .i64 0)
  c1 : W.cell? ⟨X, 1, none⟩ = some (.slice none 0 0)
  c2 : W.cell? ⟨X, 2, none⟩ = some (.slice none 0 0)
  f0 : W.frozen? ⟨X, 0, none⟩ = false
  f1 : W.frozen? ⟨X, 1, none⟩ = false
  f2 : W.frozen? ⟨X, 2, none⟩ = false
theorem ZBoxT.fresh (W : World) : ZBoxT (W.alloc (.cells #[.int .i64 0, .slice none 0 0, .slice none 0 0] 63)) W.heap.size := by constructor <;> simp [go_sem]
theorem ZBoxT.lt {W : World} {X : Nat} (h : ZBoxT W X) : X < W.heap.size := World.block_lt_of_cell? W ⟨X, 0, none⟩ h.c0
theorem ZBoxT.kept {W W' : World} {X : Nat} (h : ZBoxT W X) (hg : W.grownBy W' none) : ZBoxT W' X := by
  have hb := hg.block X h.lt (by simp)
  exact ⟨hg.cell h.c0 (by simp), hg.cell h.c1 (by simp), hg.cell h.c2 (by simp), (World.frozen?_of_block (a := ⟨X, 0, none⟩) hb).trans h.f0, (World.frozen?_of_block (a := ⟨X, 1, none⟩) hb).trans h.f1, (World.frozen?_of_block (a := ⟨X, 2, none⟩) hb).trans h.f2⟩
section
variable {w W0 Wp W : World} {I : List Item} {X lo : Nat} {p : Int} {s t : Value} {L M : List Blk}
theorem Mem.earlyT (h : Mem w I W0) (g0 : W0.grownBy Wp none) (hX0 : W0.heap.size ≤ X) (hX : X < Wp.heap.size) (hz : ZBoxT Wp X) (hb : Below Wp.heap.size Wp W) (hr : ResT W Wp.heap.size W.heap.size s L t M) :
    Mem w (iVarT X p s t :: iTrd Wp.heap.size W.heap.size s L t M :: I) (((W.setCell ⟨X, 0, none⟩ (.int .i64 p)).setCell ⟨X, 1, none⟩ s).setCell ⟨X, 2, none⟩ t) := by
  have h1 : Mem w (iVarT X 0 (.slice none 0 0) (.slice none 0 0) :: I) Wp := h.push g0 (iVarT X 0 (.slice none 0 0) (.slice none 0 0)) hX0 (Nat.le_succ _) hX (iVarT_ok _ _ _ _) ⟨hX, hz.c0, hz.c1, hz.c2⟩
  have h2 := h1.pushT hb hr
  have hz2 := hz.kept (gb_below hb)
  have hgs := set3_gb W X (.int .i64 p) s t
  have h3 := h2.mark 1 rfl (OnlyIn.of_grown (lo := X) (hi := X + 1) hgs (fun r e => by cases e; omega)) (P' := fun W => VarT W X p s t) (iVarT_ok X p s t) ⟨by simpa [set3, World.setCell] using hz2.lt, ?_, ?_, ?_⟩
  · exact h3.swap
  · unfold set3
    rw [World.cell?_setCell_other _ _ _ _ (by simp), World.cell?_setCell_other _ _ _ _ (by simp), World.cell?_setCell_same' _ _ _ (by rw [hz2.c0]; rfl)]
  · unfold set3
    rw [World.cell?_setCell_other _ _ _ _ (by simp), World.cell?_setCell_same' _ _ _ (by rw [World.cell?_setCell_other _ _ _ _ (by simp), hz2.c1]; rfl)]
  · unfold set3
    rw [World.cell?_setCell_same' _ _ _ (by rw [World.cell?_setCell_other _ _ _ _ (by simp), World.cell?_setCell_other _ _ _ _ (by simp), hz2.c2]; rfl)]
theorem Mem.lateT (h : Mem w I W0) (g0 : W0.grownBy Wp none) (hb : Below Wp.heap.size Wp W) (hr : ResT W Wp.heap.size W.heap.size s L t M) :
    Mem w (iVarT W.heap.size p s t :: iTrd Wp.heap.size W.heap.size s L t M :: I) (W.alloc (.cells #[.int .i64 p, s, t] 63)) :=
  ((h.step g0).pushT hb hr).pushVarT p s t _
end
/-- Behind a drawn statement whose result is a trade and a code. -/
def TrdRel {w W0 : World} {I : List Item} (_ : Mem w I W0) (p : Int) (L M : List Blk) (κ : Int) (bx kv : Value) (wx : World) : Prop :=
  ∃ X lo hi a n a' n', bx = .pointer (some ⟨X, 0, none⟩) ∧ kv = .int .i64 κ ∧ Mem w (iVarT X p (.slice a L.length n) (.slice a' M.length n') :: iTrd lo hi (.slice a L.length n) L (.slice a' M.length n') M :: I) wx
section
variable {w W0 Wp W : World} {I : List Item} {X : Nat} {p κ : Int} {L M : List Blk} {a a' : Option Addr} {n n' : Nat}
theorem TrdRel.early (h : Mem w I W0) (g0 : W0.grownBy Wp none) (hX0 : W0.heap.size ≤ X) (hz : ZBoxT Wp X) (hb : Below Wp.heap.size Wp W) (hr : ResT W Wp.heap.size W.heap.size (.slice a L.length n) L (.slice a' M.length n') M) :
    TrdRel h p L M κ (.pointer (some ⟨X, 0, none⟩)) (.int .i64 κ) (((W.setCell ⟨X, 0, none⟩ (.int .i64 p)).setCell ⟨X, 1, none⟩ (.slice a L.length n)).setCell ⟨X, 2, none⟩ (.slice a' M.length n')) :=
  ⟨X, _, _, a, n, a', n', rfl, rfl, h.earlyT g0 hX0 hz.lt hz hb hr⟩
theorem TrdRel.late (h : Mem w I W0) (g0 : W0.grownBy Wp none) (hb : Below Wp.heap.size Wp W) (hr : ResT W Wp.heap.size W.heap.size (.slice a L.length n) L (.slice a' M.length n') M) :
    TrdRel h p L M κ (.pointer (some ⟨W.heap.size, 0, none⟩)) (.int .i64 κ) (W.alloc (.cells #[.int .i64 p, .slice a L.length n, .slice a' M.length n'] 63)) :=
  ⟨W.heap.size, _, _, a, n, a', n', rfl, rfl, h.lateT g0 hb hr⟩
theorem TrdRel.drew {h : Mem w I W0} {bx kv : Value} (k : TrdRel h p L M κ bx kv W) : TrdRel h p L M κ bx kv W.drew := by
  obtain ⟨X, lo, hi, a, n, a', n', h1, h2, h3⟩ := k
  exact ⟨X, lo, hi, a, n, a', n', h1, h2, h3.step (gb_drew1 _)⟩
end
theorem keepset3 {W : World} {X q o : Nat} {u a b c : Value} (h : W.cell? ⟨q, o, none⟩ = some u) (hq : q < X) : (((W.setCell ⟨X, 0, none⟩ a).setCell ⟨X, 1, none⟩ b).setCell ⟨X, 2, none⟩ c).cell? ⟨q, o, none⟩ = some u :=
  (set3_gb W X a b c).cell h (by simp; omega)
end Go.Proofs.Ytacfelgilphppaa

namespace Go.Proofs.Ytacfelgilphppaa
open Go.ChangeShapes Go.WideShapes Go.ChangeAt Go.RowKit Go.Deep Go.Joins
theorem ownKnobs : ownKnob Try.prog.godebug = none := by kernel_rfl
section
variable {H : Type} {enc : TypeId × Value → H} {W : World} {base : Nat} {held : Bool}
theorem arrCells : Try.prog.cellsOf 92 = 3 := by kernel_rfl
set_option maxRecDepth 100000 in
theorem open_arr3 {fuel : Nat} {cs : List Value} {x : DataW H × List MemPlace} (h : DataW.trod enc Try.prog W base (fun _ => true) held fuel 92 cs = some x) :
    ∃ a b c : Int, cs = [.int .i64 a, .int .i64 b, .int .i64 c] ∧ (Lit.int .i64 a).wf = true ∧ (Lit.int .i64 b).wf = true ∧ (Lit.int .i64 c).wf = true := by
  obtain ⟨xs, m, rfl, rfl, hl, hx, hat⟩ := DataW.trod_array Try.underlying92 h
  rw [arrCells] at hl
  match cs, hl with
  | [c0, c1, c2], _ =>
    match xs, hx with
    | [x0, x1, x2], _ =>
      have h0 := hat 0 (by omega)
      have h1 := hat 1 (by omega)
      have h2 := hat 2 (by omega)
      rw [int64Cells] at h0 h1 h2
      simp at h0 h1 h2
      obtain ⟨a, ha, _, wa⟩ := DataW.trod_int Try.underlying2 h0
      obtain ⟨b, hb, _, wb⟩ := DataW.trod_int Try.underlying2 h1
      obtain ⟨c, hc, _, wc⟩ := DataW.trod_int Try.underlying2 h2
      simp at ha hb hc
      exact ⟨a, b, c, by rw [ha, hb, hc], wa, wb, wc⟩
theorem add_at (b off i : Nat) : (⟨b, off, none⟩ : Addr).add i = ⟨b, off + i, none⟩ := by
  unfold Addr.add
  split
  · subst_vars; rfl
  · rfl
set_option maxRecDepth 100000 in
theorem open_arrs {fuel : Nat} {s : Value} {x : DataW H × List MemPlace} (h : DataW.trod enc Try.prog W base (fun _ => true) held fuel 22 [s] = some x) : ∃ bs, InB W s bs := by
  rcases open_slice Try.underlying22 h with ⟨hcs, _⟩ | ⟨a, len, cap, m, n, D, Pl, hcs, hb, hl, hm, hmm, hx, hi⟩
  · simp at hcs
    exact ⟨[], by simp, by simp, .inl ⟨none, 0, hcs, rfl⟩⟩
  · simp at hcs
    subst hcs
    simp at hmm
    subst hmm
    have hm' : m ≤ 9223372036854775807 := by unfold maxLen at hm; exact hm
    by_cases h0 : len = 0
    · subst h0
      exact ⟨[], by simp, by simp, .inl ⟨_, _, rfl, rfl⟩⟩
    · have cell : ∀ i, i < m → ∃ y : Blk, WFB y ∧ ∀ j (v : Value), [Value.int .i64 y.a, Value.int .i64 y.b, Value.int .i64 y.c][j]? = some v → W.cell? (a.add (i * 3 + j)) = some v := fun i him => by
        obtain ⟨cs', hc, ht⟩ := hi i him
        obtain ⟨p, q, r, rfl, wp, wq, wr⟩ := open_arr3 ht
        rw [arrCells] at hc
        obtain ⟨_, _, hat⟩ := World.cells?_some hc
        refine ⟨⟨p, q, r⟩, ⟨wp, wq, wr⟩, fun j v hv => ?_⟩
        have hj : j < 3 := by
          have := (List.getElem?_eq_some_iff.1 hv).1
          simpa using this
        rw [← Go.Deep.add_add, hat j hj]
        exact hv
      obtain ⟨F, hF⟩ := choose_lt (α := Blk) cell
      obtain ⟨b, off, spot⟩ := a
      have hc0 := (hF 0 (by omega)).2 0 _ rfl
      have hspot : spot = none := by simpa [Addr.add] using World.cell?_spot hc0
      subst hspot
      refine ⟨(List.range len).map F, ?_, by simp; omega, .inr ⟨b, off, m, by simp, ?_, ?_⟩⟩
      · intro y hy
        obtain ⟨i, hi', rfl⟩ := List.mem_map.1 hy
        exact (hF i (by have := List.mem_range.1 hi'; omega)).1
      · exact block_lt_of_cell hc0
      · intro k hk
        simp at hk
        have e : ((List.range len).map F)[k]?.getD default = F k := by simp [hk]
        rw [e]
        have := (hF k (by omega)).2
        refine ⟨?_, ?_, ?_⟩
        · have h0 := this 0 _ rfl
          rw [add_at] at h0
          exact h0
        · have h1 := this 1 _ rfl
          rw [add_at, ← Nat.add_assoc] at h1
          exact h1
        · have h2 := this 2 _ rfl
          rw [add_at, ← Nat.add_assoc] at h2
          exact h2
theorem isSys : ∃ f0 f1 : Field, Try.prog.underlying 24 = some (.struct #[f0, f1]) ∧ f0.type = 2 ∧ f1.type = 22 ∧ oneCellFields Try.prog #[f0, f1] = true :=
  ⟨_, _, Try.underlying24, rfl, rfl, by kernel_rfl⟩
theorem sysCells : Try.prog.cellsOf 24 = 2 := by kernel_rfl
set_option maxRecDepth 100000 in
theorem open_system {r : Reach} {b0 : Nat} {v : Value} {d : DataW H} {p : List MemPlace} (hv : Value.okWide Try.prog W r b0 24 v) (h : DataW.Trod enc Try.prog W base (fun _ => true) held 24 v d p) :
    ∃ (n : Int) (s : Value) (bs : List Blk), v = .agg #[.int .i64 n, s] ∧ WF n ∧ InB W s bs := by
  obtain ⟨f0, f1, hu, e0, e1, hone⟩ := isSys
  obtain ⟨v0, v1, y0, y1, n, rfl, _, _, h0, h1⟩ := open_agg2 hu hone sysCells hv h
  rw [e0] at h0
  rw [e1] at h1
  obtain ⟨k, hk, _, wk⟩ := DataW.trod_int Try.underlying2 h0
  simp at hk
  subst hk
  obtain ⟨bs, hbs⟩ := open_arrs h1
  exact ⟨k, v1, bs, rfl, wk, hbs⟩
end
end Go.Proofs.Ytacfelgilphppaa

namespace Go.Proofs.Ytacfelgilphppaa
open Go.ChangeShapes Go.WideShapes Go.ChangeAt Go.RowKit Go.Deep Go.Joins
/-- The value is a slice of just these integers, however many. -/
def InZ (w : World) (s : Value) (zs : List Int) : Prop :=
  (∀ z ∈ zs, WF z) ∧ zs.length ≤ 9223372036854775807 ∧ ((∃ a c, s = .slice a 0 c ∧ zs = []) ∨ ∃ b off cap, s = .slice (some ⟨b, off, none⟩) zs.length cap ∧ b < w.heap.size ∧ Ints w b off zs)
theorem InZ.slice {w : World} {s : Value} {zs : List Int} (h : InZ w s zs) : ∃ a c, s = .slice a zs.length c := by
  rcases h.2.2 with ⟨a, c, rfl, rfl⟩ | ⟨b, off, cap, rfl, _⟩ <;> exact ⟨_, _, rfl⟩
theorem InZ.ib {w : World} {s : Value} {zs : List Int} (h : InZ w s zs) (hl : zs.length ≤ 1048576) : IB w s zs := ⟨by omega, h.2.2⟩
/-- The value is a slice of just these rows, however many. -/
def InSS (w : World) (s : Value) (n : Nat) (F : Nat → List Int) : Prop :=
  n ≤ 9223372036854775807 ∧ ((n = 0 ∧ ∃ a c, s = .slice a 0 c) ∨ ∃ b off cap, s = .slice (some ⟨b, off, none⟩) n cap ∧ b < w.heap.size ∧ ∀ k, k < n → ∃ u, w.cell? ⟨b, off + k, none⟩ = some u ∧ InZ w u (F k))
theorem okWide_array {P : Program} {w : World} {r : Reach} {base : Nat} {t : TypeId} {v : Value} {n : Nat} {e : TypeId} (ht : P.underlying t = some (.array n e)) (h : Value.okWide P w r base t v) : ∃ cs, v = .agg cs ∧ cs.size = P.cellsOf t := by
  simp only [Value.okWide, ht] at h
  obtain ⟨cs, h1, h2, _⟩ := h
  exact ⟨cs, h1, h2⟩
section
variable {H : Type} {enc : TypeId × Value → H} {W : World} {base : Nat} {held : Bool}
set_option maxRecDepth 100000 in
theorem open_zs {fuel : Nat} {s : Value} {x : DataW H × List MemPlace} (h : DataW.trod enc Try.prog W base (fun _ => true) held fuel 26 [s] = some x) : ∃ zs, InZ W s zs := by
  rcases open_slice1 Try.underlying26 int64Cells h with ⟨hcs, _⟩ | ⟨a, len, cap, m, n, V, D, Pl, hcs, hb, hl, hm, hmm, hx, hi⟩
  · simp at hcs
    exact ⟨[], by simp, by simp, .inl ⟨none, 0, hcs, rfl⟩⟩
  · simp at hcs
    subst hcs
    simp at hmm
    subst hmm
    have hm' : m ≤ 9223372036854775807 := by unfold maxLen at hm; exact hm
    by_cases h0 : len = 0
    · subst h0
      exact ⟨[], by simp, by simp, .inl ⟨_, _, rfl, rfl⟩⟩
    · have cell : ∀ i, i < m → ∃ y : Int, WF y ∧ W.cell? (a.add i) = some (.int .i64 y) := fun i him => by
        obtain ⟨hc, ht⟩ := hi i him
        obtain ⟨k, hk, _, wk⟩ := DataW.trod_int Try.underlying2 ht
        simp at hk
        exact ⟨k, wk, by rw [hc, hk]⟩
      obtain ⟨F, hF⟩ := choose_lt (α := Int) cell
      obtain ⟨b, off, spot⟩ := a
      have hc0 := (hF 0 (by omega)).2
      have hspot : spot = none := by simpa [Addr.add] using World.cell?_spot hc0
      subst hspot
      refine ⟨(List.range len).map F, ?_, by simp; omega, .inr ⟨b, off, m, by simp, ?_, ?_⟩⟩
      · intro y hy
        obtain ⟨i, hi', rfl⟩ := List.mem_map.1 hy
        exact (hF i (by have := List.mem_range.1 hi'; omega)).1
      · exact block_lt_of_cell hc0
      · intro k hk
        simp at hk
        have e : ((List.range len).map F)[k]?.getD 0 = F k := by simp [hk]
        rw [e]
        have h1 := (hF k (by omega)).2
        rw [add_at] at h1
        exact h1
set_option maxRecDepth 100000 in
theorem open_ints64 {r : Reach} {b0 : Nat} {v : Value} {d : DataW H} {p : List MemPlace} (hv : Value.okWide Try.prog W r b0 26 v) (h : DataW.Trod enc Try.prog W base (fun _ => true) held 26 v d p) : ∃ zs, InZ W v zs := by
  obtain ⟨a, len, cap, rfl⟩ := okWide_slice Try.underlying26 hv
  obtain ⟨fuel, hf⟩ := h
  exact open_zs hf
set_option maxRecDepth 100000 in
theorem open_blocks {r : Reach} {b0 : Nat} {v : Value} {d : DataW H} {p : List MemPlace} (hv : Value.okWide Try.prog W r b0 22 v) (h : DataW.Trod enc Try.prog W base (fun _ => true) held 22 v d p) : ∃ bs, InB W v bs := by
  obtain ⟨a, len, cap, rfl⟩ := okWide_slice Try.underlying22 hv
  obtain ⟨fuel, hf⟩ := h
  exact open_arrs hf
theorem sliceCells : Try.prog.cellsOf 26 = 1 := by kernel_rfl
set_option maxRecDepth 100000 in
theorem open_rows {r : Reach} {b0 : Nat} {v : Value} {d : DataW H} {p : List MemPlace} (hv : Value.okWide Try.prog W r b0 43 v) (h : DataW.Trod enc Try.prog W base (fun _ => true) held 43 v d p) : ∃ n F, InSS W v n F := by
  obtain ⟨A0, L0, C0, rfl⟩ := okWide_slice Try.underlying43 hv
  obtain ⟨fuel, hf⟩ := h
  have hf' : DataW.trod enc Try.prog W base (fun _ => true) held fuel 43 [.slice A0 L0 C0] = some (d, p) := hf
  rcases open_slice1 Try.underlying43 sliceCells hf' with ⟨hcs, _⟩ | ⟨a, len, cap, m, n, V, D, Pl, hcs, hb, hl, hm, hmm, hx, hi⟩
  · simp at hcs
    obtain ⟨rfl, rfl, rfl⟩ := hcs
    exact ⟨0, fun _ => [], by omega, .inl ⟨rfl, _, _, rfl⟩⟩
  · simp at hcs
    obtain ⟨e1, e2, e3⟩ := hcs
    subst e1
    subst e2
    subst e3
    simp at hmm
    subst hmm
    have hm' : m ≤ 9223372036854775807 := by unfold maxLen at hm; exact hm
    by_cases h0 : L0 = 0
    · subst h0
      exact ⟨0, fun _ => [], by omega, .inl ⟨rfl, _, _, rfl⟩⟩
    · have cell : ∀ i, i < m → ∃ y : List Int, ∃ u, W.cell? (a.add i) = some u ∧ InZ W u y := fun i him => by
        obtain ⟨hc, ht⟩ := hi i him
        obtain ⟨zs, hz⟩ := open_zs ht
        exact ⟨zs, _, hc, hz⟩
      obtain ⟨F, hF⟩ := choose_lt (α := List Int) cell
      obtain ⟨b, off, spot⟩ := a
      obtain ⟨u0, hc0, _⟩ := hF 0 (by omega)
      have hspot : spot = none := by simpa [Addr.add] using World.cell?_spot hc0
      subst hspot
      refine ⟨L0, F, by omega, .inr ⟨b, off, m, rfl, block_lt_of_cell hc0, fun k hk => ?_⟩⟩
      obtain ⟨u, h1, h2⟩ := hF k (by omega)
      rw [add_at] at h1
      exact ⟨u, h1, h2⟩
set_option maxRecDepth 100000 in
theorem open_blk {r : Reach} {b0 : Nat} {v : Value} {d : DataW H} {p : List MemPlace} (hv : Value.okWide Try.prog W r b0 92 v) (h : DataW.Trod enc Try.prog W base (fun _ => true) held 92 v d p) : ∃ x, v = bv x ∧ WFB x := by
  obtain ⟨cs, rfl, hsz⟩ := okWide_array Try.underlying92 hv
  obtain ⟨fuel, hf⟩ := h
  obtain ⟨a, b, c, e, wa, wb, wc⟩ := open_arr3 hf
  have : cs.toList = [.int .i64 a, .int .i64 b, .int .i64 c] := e
  refine ⟨⟨a, b, c⟩, ?_, wa, wb, wc⟩
  unfold bv
  rw [← this]
end
end Go.Proofs.Ytacfelgilphppaa

namespace Go.Proofs.Ytacfelgilphppaa
open Go.ChangeShapes Go.WideShapes Go.ChangeAt Go.RowKit Go.Deep Go.Joins
section
variable {H : Type} {enc : TypeId × Value → H} {W : World} {base : Nat} {held : Bool}
theorem isTrd : ∃ f0 f1 f2 : Field, Try.prog.underlying 59 = some (.struct #[f0, f1, f2]) ∧ f0.type = 2 ∧ f1.type = 22 ∧ f2.type = 22 ∧ oneCellFields Try.prog #[f0, f1, f2] = true :=
  ⟨_, _, _, Try.underlying59, rfl, rfl, rfl, by kernel_rfl⟩
theorem trdCells : Try.prog.cellsOf 59 = 3 := by kernel_rfl
set_option maxRecDepth 100000 in
theorem open_trade {r : Reach} {b0 : Nat} {v : Value} {d : DataW H} {p : List MemPlace} (hv : Value.okWide Try.prog W r b0 59 v) (h : DataW.Trod enc Try.prog W base (fun _ => true) held 59 v d p) :
    ∃ (n : Int) (so : Value) (bo : List Blk) (si : Value) (bi : List Blk), v = .agg #[.int .i64 n, so, si] ∧ InT W so bo si bi := by
  obtain ⟨f0, f1, f2, hu, e0, e1, e2, hone⟩ := isTrd
  obtain ⟨v0, v1, v2, y0, y1, y2, n, rfl, _, _, h0, h1, h2⟩ := open_agg3 hu hone trdCells hv h
  rw [e0] at h0
  rw [e1] at h1
  rw [e2] at h2
  obtain ⟨k, hk, _, wk⟩ := DataW.trod_int Try.underlying2 h0
  simp at hk
  subst hk
  obtain ⟨bo, hbo⟩ := open_arrs h1
  obtain ⟨bi, hbi⟩ := open_arrs h2
  exact ⟨k, v1, bo, v2, bi, rfl, hbo, hbi⟩
end
end Go.Proofs.Ytacfelgilphppaa


/- The model's TakeBlock. impl.fullCode of one system. impl.DoubleSystem answers as the plain function dblF. impl.InverseTrade. Two lists of blocks that grow beside each other, and the trade made of them. The laws' copies of rows of rows, and how much they hold. The laws' copy of rows of rows. -/
import Derived.Test.YtmgpmcjbnooklaaJ7
import Derived.Deep.RegionHeld3
import Derived.IntWalk
import Derived.Maps.AppendAt
namespace Go.Proofs.Ytmgpmcjbnooklaa
open Go.RowKit Go.Maps
theorem Blks.take {w : World} {b off : Nat} {bs : List Blk} (h : Blks w b off bs) (j : Nat) : Blks w b off (bs.take j) := fun k hk => by
  rw [List.length_take] at hk
  have := h k (by omega)
  rwa [List.getElem?_take_of_lt (by omega)]
theorem Blks.drop {w : World} {b off : Nat} {bs : List Blk} (h : Blks w b off bs) (j : Nat) : Blks w b (off + j * 3) (bs.drop j) := fun k hk => by
  rw [List.length_drop] at hk
  have := h (j + k) (by omega)
  rw [List.getElem?_drop, show off + j * 3 + k * 3 = off + (j + k) * 3 by omega]
  exact this
theorem lit_own (W : World) : OwnR (W.alloc (.cells #[] 68)) W.heap.size (.slice (some ⟨W.heap.size, 0, none⟩) 0 0) [] :=
  ⟨rfl, .inr ⟨W.heap.size, 0, #[], rfl, Nat.le_refl _, (MapKept.heap_alloc W (.cells #[] 68)).1, Nat.le_refl _, by unfold maxLen; omega, rfl, rfl⟩⟩
theorem OwnR.drew {w : World} {base : Nat} {v : Value} {bs : List Blk} (h : OwnR w base v bs) : OwnR w.drew base v bs := h
theorem SX.drew {w : World} {v : Value} {bs : List Blk} (h : SX w v bs) : SX w.drew v bs := h
theorem Blks.drew {w : World} {b off : Nat} {bs : List Blk} (h : Blks w b off bs) : Blks w.drew b off bs := h
theorem Blks.kept {w w' : World} {b off : Nat} {bs : List Blk} {row : Option Nat} (h : Blks w b off bs) (hg : w.grownBy w' row) (hne : some b ≠ row) : Blks w' b off bs := fun k hk => by
  obtain ⟨h1, h2, h3⟩ := h k hk
  exact ⟨hg.cell h1 hne, hg.cell h2 hne, hg.cell h3 hne⟩
theorem keep_cell {w w' : World} {row : Option Nat} {b o : Nat} {u : Value} (h : w.cell? ⟨b, o, none⟩ = some u) (hg : w.grownBy w' row) (hne : ∀ r, row = some r → b < r) : w'.cell? ⟨b, o, none⟩ = some u :=
  hg.cell h (fun e => by have := hne _ e.symm; simp at this)
theorem keep_frozen {w w' : World} {row : Option Nat} {b o : Nat} {u : Value} (hc : w.cell? ⟨b, o, none⟩ = some u) (h : w.frozen? ⟨b, o, none⟩ = false) (hg : w.grownBy w' row) (hne : ∀ r, row = some r → b < r) : w'.frozen? ⟨b, o, none⟩ = false :=
  (World.frozen?_of_block (w := w) (a := ⟨b, o, none⟩) (hg.block b (block_lt_of_cell hc) (fun e => by have := hne _ e.symm; omega))).trans h
theorem keep_some {w w' : World} {row : Option Nat} {b o : Nat} (h : (w.cell? ⟨b, o, none⟩).isSome = true) (hg : w.grownBy w' row) (hne : ∀ r, row = some r → b < r) : (w'.cell? ⟨b, o, none⟩).isSome = true := by
  obtain ⟨u, hu⟩ := Option.isSome_iff_exists.1 h
  rw [keep_cell hu hg hne]
  rfl
theorem keep_free {w w' : World} {row : Option Nat} {b o : Nat} (h : (w.cell? ⟨b, o, none⟩).isSome = true) (hf : w.frozen? ⟨b, o, none⟩ = false) (hg : w.grownBy w' row) (hne : ∀ r, row = some r → b < r) : w'.frozen? ⟨b, o, none⟩ = false := by
  obtain ⟨u, hu⟩ := Option.isSome_iff_exists.1 h
  exact keep_frozen hu hf hg hne
def Six (w' : World) (b : Nat) (v : Int) (s : Value) : Prop := w'.cell? ⟨b, 0, none⟩ = some (.int .i64 v) ∧ w'.cell? ⟨b, 1, none⟩ = some s ∧ w'.cell? ⟨b + 1, 0, none⟩ = some (.int .i64 0) ∧ w'.cell? ⟨b + 1, 1, none⟩ = some (.slice none 0 0) ∧ w'.frozen? ⟨b + 1, 0, none⟩ = false ∧ w'.frozen? ⟨b + 1, 1, none⟩ = false
theorem keep6 {w w' : World} {b : Nat} {v : Int} {s : Value} {row : Option Nat} (h : Six w b v s) (hg : w.grownBy w' row) (hr : ∀ r, row = some r → b + 1 < r) : Six w' b v s := by
  obtain ⟨h0, h1, h2, h3, h4, h5⟩ := h
  exact ⟨keep_cell h0 hg (fun r e => by have := hr r e; omega), keep_cell h1 hg (fun r e => by have := hr r e; omega), keep_cell h2 hg hr, keep_cell h3 hg hr, keep_frozen h2 h4 hg hr, keep_frozen h3 h5 hg hr⟩
theorem gb_drewL {w w' : World} {row : Option Nat} (h : w.drew.grownBy w' row) : w.grownBy w' row := ⟨h.os, h.tape, h.output, h.size, h.block⟩
theorem run_slice_drop (b off n cap j : Nat) (h1 : j ≤ n) (h2 : n ≤ cap) : ∃ x, (∀ W : World, (Instr.slice 29 (.slice (some ⟨b, off, none⟩) n cap) (some (.int .i64 (j : Int))) none none).run Try.prog W = .ok x W) ∧ ∀ (W : World) (bs : List Blk), bs.length = n → b < W.heap.size → Blks W b off bs → SX W x (bs.drop j) := by
  have hj0 : (0 : Int) ≤ (j : Int) := by omega
  have hj1 : (j : Int) ≤ (n : Int) := by omega
  by_cases hc : j = cap
  · refine ⟨.slice (some ⟨b, off, none⟩) 0 0, fun W => ?_, fun W bs e _ _ => .inl ⟨_, _, rfl, List.drop_eq_nil_of_le (by omega)⟩⟩
    have e1 : n = j := by omega
    subst e1
    subst hc
    simp [Instr.slice, Instr.sliceBounds, Instr.sliceBound, run_underlying Try.underlying29, go_sem, hj0]
  · refine ⟨.slice (some ⟨b, off + j * 3, none⟩) (n - j) (cap - j), fun W => ?_, fun W bs e h1 h2 => .inr ⟨b, off + j * 3, cap - j, by rw [List.length_drop, e], h1, h2.drop j⟩⟩
    have hc' : ¬ cap = j := fun e => hc e.symm
    simp [Instr.slice, Instr.sliceBounds, Instr.sliceBound, run_underlying Try.underlying29, go_sem, hj0, h1, hc', addr_at]
/-- .. and the slice is no longer than its capacity. -/
def SC (w : World) (s : Value) (bs : List Blk) : Prop := SB w s bs ∧ ∀ a n c, s = .slice a n c → n ≤ c
theorem SC.below {w w' : World} {s : Value} {bs : List Blk} (h : SC w s bs) {B : Nat} (hb : Below B w w') (hB : w.heap.size ≤ B) : SC w' s bs := ⟨h.1.below hb hB, h.2⟩
theorem OwnB.sc {w : World} {lo : Nat} {s : Value} {bs : List Blk} (h : OwnB w lo s bs) (hwf : ∀ x ∈ bs, WFB x) (hl : bs.length ≤ 1100000) : SC w s bs := by
  refine ⟨h.sb hwf hl, fun a n c e => ?_⟩
  obtain ⟨g, cap, rfl, _, _, _, _, hc⟩ := h
  cases e
  exact hc
theorem l01In_out (n lo hi : Int) (W : World) (β : Bool) (hβ : (decide (lo ≤ n) && decide (n ≤ hi)) = β) : Calls Try.prog 72 #[.int .i64 n, .int .i64 lo, .int .i64 hi] W (RS (.bool β) W) := by
  rw [← hβ]
  exact l01In_any n lo hi W
end Go.Proofs.Ytmgpmcjbnooklaa

namespace Go.Proofs.Ytmgpmcjbnooklaa
open Go.RowKit Go.Maps
def fullC (v : Int) (bs : List Blk) : Int := if isSysImpl v bs then (if fullB v bs then 0 else 5) else 1
theorem fullV_cases (v : Int) (bs : List Blk) : (fullV v bs = boolCode true 0 ∧ fullC v bs = 0) ∨ (fullV v bs = boolCode false 0 ∧ fullC v bs = 5) ∨ (fullV v bs = boolCode false 1 ∧ fullC v bs = 1) := by
  unfold fullV fullC
  cases isSysImpl v bs
  · right; right; simp
  · cases fullB v bs
    · right; left; simp
    · left; simp
set_option maxRecDepth 100000 in
theorem fullCode_one (B : Nat) (v : Int) (s : Value) (bs : List Blk) (w : World) (h : SB w s bs) (c0 : w.cell? ⟨B, 0, none⟩ = some (.int .i64 v)) (c1 : w.cell? ⟨B, 1, none⟩ = some s) :
    Calls Try.prog 65 #[.slice (some ⟨B, 0, none⟩) 1 1] w (RV (.int .i64 (fullC v bs)) w) := by
  have hs := h.slice
  have HI := Lib.hid (IsFull_any v s bs (w.alloc (.cells #[.int .i64 v, s] 31)) (h.below ((Below.refl _ _).alloc (Nat.le_refl _) _) (Nat.le_refl _)))
  clear h
  obtain ⟨a, c, rfl⟩ := hs
  rcases fullV_cases v bs with ⟨e1, e2⟩ | ⟨e1, e2⟩ | ⟨e1, e2⟩
  all_goals
    rw [e1] at HI
    rw [e2]
    unfold boolCode at HI
    clear e1 e2
    go_enter Try.func65, Try.ntmps65
    go_wp2
    refine wp_loop_rounds 2 ?_
    rw [rounds_succ]
    go_wp2_with (go_at_call 101; refine HI.out.mono ?_; rintro e w1 ⟨rfl, hb1⟩)
  · rw [rounds_succ]
    go_wp2
    go_ret
    exact RV_of rfl (((Below.refl _ _).alloc (Nat.le_refl _) _).trans (hb1.mono (by simp)))
  · rw [rounds_succ]
    go_wp2
    go_ret
    exact RV_of rfl (((Below.refl _ _).alloc (Nat.le_refl _) _).trans (hb1.mono (by simp)))
  · go_ret
    exact RV_of rfl (((Below.refl _ _).alloc (Nat.le_refl _) _).trans (hb1.mono (by simp)))
end Go.Proofs.Ytmgpmcjbnooklaa

namespace Go.Proofs.Ytmgpmcjbnooklaa
open Go.RowKit Go.Maps
def dblF (v : Int) (bs : List Blk) : Int × List Blk × Int :=
  if isSysImpl v bs then (if fullB v bs then (if 2 * v + 1 ≤ 15 then (2 * v + 1, sortB (dblL v bs), 0) else (0, [], 3)) else (0, [], 5)) else (0, [], 1)
/-- Returns a slice of its own with these blocks. -/
def RO (bs : List Blk) (w : World) (e : Ending) (w' : World) : Prop := ∃ u, e = .returned u ∧ OwnR w' w.heap.size u bs ∧ Below w.heap.size w w'
theorem sx_three (W : World) (x y z : Blk) (T : TypeId) : SX (W.alloc (.cells #[.int .i64 x.a, .int .i64 x.b, .int .i64 x.c, .int .i64 y.a, .int .i64 y.b, .int .i64 y.c, .int .i64 z.a, .int .i64 z.b, .int .i64 z.c] T)) (.slice (some ⟨W.heap.size, 0, none⟩) 3 3) [x, y, z] :=
  .inr ⟨W.heap.size, 0, 3, rfl, by simp, fun k hk => by
    match k, hk with
    | 0, _ => simp
    | 1, _ => simp
    | 2, _ => simp⟩
theorem dbl_bounds {v : Int} {x : Blk} (hg : goodB v x = true) (h15 : v ≤ 15) : 0 ≤ x.a ∧ x.a < x.b ∧ x.b < x.c ∧ x.c < v ∧ v ≤ 15 := by
  have := goodB_iff.1 hg
  omega
end Go.Proofs.Ytmgpmcjbnooklaa

namespace Go.Proofs.Ytmgpmcjbnooklaa
open Go.RowKit Go.Maps
/-- A trade and a code. -/
def RTrd (r : Int × (List Blk × List Blk) × Int) (w : World) (e : Ending) (w' : World) : Prop :=
  ∃ so si, e = .returned (.tuple #[.agg #[.int .i64 r.1, so, si], .int .i64 r.2.2]) ∧ ResT w' w.heap.size w'.heap.size so r.2.1.1 si r.2.1.2 ∧ Below w.heap.size w w'
def invF (v : Int) (bo bi : List Blk) : Int × (List Blk × List Blk) × Int := if trdB v bo bi then (v, (bi, bo), 0) else (0, ([], []), 1)
/-- A trade's box and that of the result. -/
structure BoxR (w' : World) (b : Nat) (v : Int) (so si : Value) : Prop where
  lt : b + 1 < w'.heap.size
  x0 : w'.cell? ⟨b, 0, none⟩ = some (.int .i64 v)
  x1 : w'.cell? ⟨b, 1, none⟩ = some so
  x2 : w'.cell? ⟨b, 2, none⟩ = some si
  y0 : w'.cell? ⟨b + 1, 0, none⟩ = some (.int .i64 0)
  y1 : w'.cell? ⟨b + 1, 1, none⟩ = some (.slice none 0 0)
  y2 : w'.cell? ⟨b + 1, 2, none⟩ = some (.slice none 0 0)
  g0 : w'.frozen? ⟨b + 1, 0, none⟩ = false
  g1 : w'.frozen? ⟨b + 1, 1, none⟩ = false
  g2 : w'.frozen? ⟨b + 1, 2, none⟩ = false
def wRI (w : World) (v : Int) (so si : Value) : World := (w.alloc (.cells #[.int .i64 v, so, si] 39)).alloc (.cells #[.int .i64 0, .slice none 0 0, .slice none 0 0] 39)
theorem BoxR.new (w : World) (v : Int) (so si : Value) : BoxR (wRI w v so si) w.heap.size v so si := by
  unfold wRI
  exact ⟨by simp, by simp [go_sem], by simp [go_sem], by simp [go_sem], by simp [go_sem], by simp [go_sem], by simp [go_sem], by simp [go_sem], by simp [go_sem], by simp [go_sem]⟩
theorem wRI_below (w : World) (v : Int) (so si : Value) : Below w.heap.size w (wRI w v so si) := ((Below.refl _ _).alloc (Nat.le_refl _) _).alloc (by simp) _
theorem BoxR.below {w w' : World} {b : Nat} {v : Int} {so si : Value} (h : BoxR w b v so si) (hb : Below w.heap.size w w') : BoxR w' b v so si := by
  have hl := h.lt
  exact ⟨Nat.lt_of_lt_of_le hl hb.size, (hb.cell (p := ⟨b, 0, none⟩) (by show b < _; omega)).trans h.x0, (hb.cell (p := ⟨b, 1, none⟩) (by show b < _; omega)).trans h.x1, (hb.cell (p := ⟨b, 2, none⟩) (by show b < _; omega)).trans h.x2,
    (hb.cell (p := ⟨b + 1, 0, none⟩) hl).trans h.y0, (hb.cell (p := ⟨b + 1, 1, none⟩) hl).trans h.y1, (hb.cell (p := ⟨b + 1, 2, none⟩) hl).trans h.y2,
    (hb.frozen (p := ⟨b + 1, 0, none⟩) hl).trans h.g0, (hb.frozen (p := ⟨b + 1, 1, none⟩) hl).trans h.g1, (hb.frozen (p := ⟨b + 1, 2, none⟩) hl).trans h.g2⟩
theorem ResT.kept {w w' : World} {lo hi : Nat} {so si : Value} {bo bi : List Blk} {row : Option Nat} (h : ResT w lo hi so bo si bi) (hg : w.grownBy w' row) (hr : ∀ r, row = some r → r < lo) : ResT w' lo hi so bo si bi := by
  obtain ⟨a, b, c, d, ha, hb, hc, hd, hx, r1, r2⟩ := h
  exact ⟨a, b, c, d, ha, hb, hc, hd, hx, r1.kept hg (fun r e => by have := hr r e; omega), r2.kept hg (fun r e => by have := hr r e; omega)⟩
def set3 (W : World) (b : Nat) (u v x : Value) : World := ((W.setCell ⟨b, 0, none⟩ u).setCell ⟨b, 1, none⟩ v).setCell ⟨b, 2, none⟩ x
theorem set3_gb (W : World) (b : Nat) (u v x : Value) : W.grownBy (set3 W b u v x) (some b) := only_setCell (only_setCell (only_setCell (only_refl W (some b)) rfl u) rfl v) rfl x
theorem RTrd.of {w W : World} {lo : Nat} {so si : Value} {r : Int × (List Blk × List Blk) × Int} {p κ : Int} (hB : Below w.heap.size w W) (hr : ResT W lo W.heap.size so r.2.1.1 si r.2.1.2) (hlo : w.heap.size + 1 < lo) (h1 : p = r.1) (h2 : κ = r.2.2) (u v x : Value) :
    RTrd r w (.returned (.tuple #[.agg #[.int .i64 p, so, si], .int .i64 κ])) (set3 W (w.heap.size + 1) u v x) := by
  subst h1 h2
  have hg := set3_gb W (w.heap.size + 1) u v x
  refine ⟨so, si, rfl, ?_, hB.grown hg hB.size (fun r e => by cases e; omega)⟩
  have e : (set3 W (w.heap.size + 1) u v x).heap.size = W.heap.size := by simp [set3]
  rw [e]
  exact (hr.kept hg (fun r e => by cases e; omega)).wide (by omega) (Nat.le_refl _)
theorem RTrd.no {w W : World} (hB : Below w.heap.size w W) (κ : Int) (u v x : Value) : RTrd (0, ([], []), κ) w (.returned (.tuple #[.agg #[.int .i64 0, .slice none 0 0, .slice none 0 0], .int .i64 κ])) (set3 W (w.heap.size + 1) u v x) := by
  have hg := set3_gb W (w.heap.size + 1) u v x
  refine ⟨_, _, rfl, ?_, hB.grown hg hB.size (fun r e => by cases e; omega)⟩
  have := ResT.nil (set3 W (w.heap.size + 1) u v x) (set3 W (w.heap.size + 1) u v x).heap.size
  exact this.wide (Nat.le_trans hB.size hg.size) (Nat.le_refl _)
theorem cloneRR {W0 W1 : World} {u : Value} {bs : List Blk} (h : OwnR W1 W0.heap.size u bs) : ResR W1 W0.heap.size W1.heap.size u bs := h.res
end Go.Proofs.Ytmgpmcjbnooklaa

namespace Go.Proofs.Ytmgpmcjbnooklaa
open Go.RowKit Go.Maps
theorem wpList_append_blk_at {w : World} {ops : Array Oper} {rest : List Oper} {o : Oper} {a : Act} {Q : Exit → Act → World → Prop} (hgd : o.guard = none) (s x : Operand)
    (ho : o.op = .call { callee := .builtin .append, args := #[s, x], argTypes := #[29, 29] })
    (base : Nat) (v : Value) (bs : List Blk) (hs : a.eval s = v) (hown : OwnR w base v bs) (b0 c : Nat) (y : Blk) (hx : a.eval x = .slice (some ⟨b0, 0, none⟩) 1 c)
    (c1 : w.cell? ⟨b0, 0, none⟩ = some (.int .i64 y.a)) (c2 : w.cell? ⟨b0, 1, none⟩ = some (.int .i64 y.b)) (c3 : w.cell? ⟨b0, 2, none⟩ = some (.int .i64 y.c))
    (hl : bs.length ≤ 1100000) (hbase : base ≤ w.heap.size)
    (h : ∀ (g cap : Nat) (w' : World), OwnR w' base (.slice (some ⟨g, 0, none⟩) (bs.length + 1) cap) (bs ++ [y]) → w.grownBy w' v.ownBlock → (v.ownBlock = some g ∨ g = w.heap.size) → wpList Try.prog ops Q rest (a.put o.dst (.slice (some ⟨g, 0, none⟩) (bs.length + 1) cap)) w') : wpList Try.prog ops Q (o :: rest) a w := by
  obtain ⟨i0, hi, hz0, hz1, hz2⟩ := info_parts infoBlock
  refine wpList_append_own_at w hgd s x 29 ho base 68 i0 _ 3 24 Try.underlying29 hi hz0 hz1 hz2 rfl (by decide) v bs.length (bs.flatMap cells3) hs hown ⟨b0, 0, none⟩ 1 c (cells3 y) hx rfl ?_ ?_ (by unfold maxLen; omega) (by omega) hbase ?_
  · intro j u hj
    rw [addr_at, Nat.zero_add]
    match j, hj with
    | 0, hj => simp [cells3] at hj; rw [← hj]; exact c1
    | 1, hj => simp [cells3] at hj; rw [← hj]; exact c2
    | 2, hj => simp [cells3] at hj; rw [← hj]; exact c3
    | j + 3, hj => simp [cells3] at hj
  · intro u hu
    simp [cells3] at hu
    rcases hu with rfl | rfl | rfl <;> rfl
  · intro v' w' hown' hg _ hob
    obtain ⟨g, cap, rfl⟩ := row_some hown'
    refine h g cap w' ?_ hg ?_
    · unfold OwnR
      rw [List.length_append, List.length_singleton, List.flatMap_append, List.flatMap_singleton]
      exact hown'
    · rcases hob with e | e
      · exact .inl (by rw [← e]; rfl)
      · exact .inr (by simpa [Value.ownBlock] using e)
theorem wpList_append_blk2_at {w : World} {ops : Array Oper} {rest : List Oper} {o : Oper} {a : Act} {Q : Exit → Act → World → Prop} (hgd : o.guard = none) (s x : Operand)
    (ho : o.op = .call { callee := .builtin .append, args := #[s, x], argTypes := #[29, 29] })
    (base : Nat) (v : Value) (bs : List Blk) (hs : a.eval s = v) (hown : OwnR w base v bs) (b0 c : Nat) (y z : Blk) (hx : a.eval x = .slice (some ⟨b0, 0, none⟩) 2 c)
    (c1 : w.cell? ⟨b0, 0, none⟩ = some (.int .i64 y.a)) (c2 : w.cell? ⟨b0, 1, none⟩ = some (.int .i64 y.b)) (c3 : w.cell? ⟨b0, 2, none⟩ = some (.int .i64 y.c))
    (c4 : w.cell? ⟨b0, 3, none⟩ = some (.int .i64 z.a)) (c5 : w.cell? ⟨b0, 4, none⟩ = some (.int .i64 z.b)) (c6 : w.cell? ⟨b0, 5, none⟩ = some (.int .i64 z.c))
    (hl : bs.length ≤ 1100000) (hbase : base ≤ w.heap.size)
    (h : ∀ (g cap : Nat) (w' : World), OwnR w' base (.slice (some ⟨g, 0, none⟩) (bs.length + 2) cap) (bs ++ [y, z]) → w.grownBy w' v.ownBlock → (v.ownBlock = some g ∨ g = w.heap.size) → wpList Try.prog ops Q rest (a.put o.dst (.slice (some ⟨g, 0, none⟩) (bs.length + 2) cap)) w') : wpList Try.prog ops Q (o :: rest) a w := by
  obtain ⟨i0, hi, hz0, hz1, hz2⟩ := info_parts infoBlock
  refine wpList_append_own_at w hgd s x 29 ho base 68 i0 _ 3 24 Try.underlying29 hi hz0 hz1 hz2 rfl (by decide) v bs.length (bs.flatMap cells3) hs hown ⟨b0, 0, none⟩ 2 c (cells3 y ++ cells3 z) hx rfl ?_ ?_ (by unfold maxLen; omega) (by omega) hbase ?_
  · intro j u hj
    rw [addr_at, Nat.zero_add]
    match j, hj with
    | 0, hj => simp [cells3] at hj; rw [← hj]; exact c1
    | 1, hj => simp [cells3] at hj; rw [← hj]; exact c2
    | 2, hj => simp [cells3] at hj; rw [← hj]; exact c3
    | 3, hj => simp [cells3] at hj; rw [← hj]; exact c4
    | 4, hj => simp [cells3] at hj; rw [← hj]; exact c5
    | 5, hj => simp [cells3] at hj; rw [← hj]; exact c6
    | j + 6, hj => simp [cells3] at hj
  · intro u hu
    simp [cells3] at hu
    rcases hu with rfl | rfl | rfl | rfl | rfl | rfl <;> rfl
  · intro v' w' hown' hg _ hob
    obtain ⟨g, cap, rfl⟩ := row_some (k := bs.length + 1) hown'
    refine h g cap w' ?_ hg ?_
    · unfold OwnR
      rw [List.length_append, List.flatMap_append]
      simpa using hown'
    · rcases hob with e | e
      · exact .inl (by rw [← e]; rfl)
      · exact .inr (by simpa [Value.ownBlock] using e)
/-- Two lists of the call's own, apart. -/
structure TwoR (w : World) (base : Nat) (s : Value) (bs : List Blk) (t : Value) (cs : List Blk) : Prop where
  one : OwnR w base s bs
  two : OwnR w base t cs
  ne : ∀ r, s.ownBlock = some r → t.ownBlock ≠ some r
theorem OwnR.lt {w : World} {base : Nat} {s : Value} {bs : List Blk} (h : OwnR w base s bs) : ∀ r, s.ownBlock = some r → base ≤ r ∧ r < w.heap.size := fun r e => by
  rcases h.2 with ⟨hv, h0⟩ | ⟨g, cap, cur, hv, hb, hcur, hrest⟩
  · rw [hv] at e; simp [Value.ownBlock] at e
  · rw [hv] at e
    obtain rfl : g = r := by simpa [Value.ownBlock] using e
    exact ⟨hb, (Array.getElem?_eq_some_iff.1 hcur).1⟩
theorem TwoR.swap {w : World} {base : Nat} {s t : Value} {bs cs : List Blk} (h : TwoR w base s bs t cs) : TwoR w base t cs s bs := ⟨h.two, h.one, fun r e1 e2 => h.ne r e2 e1⟩
theorem OwnR.apart {w w' : World} {base : Nat} {s : Value} {bs : List Blk} {row : Option Nat} (h : OwnR w base s bs) (hg : w.grownBy w' row) (hr : ∀ r, s.ownBlock = some r → row ≠ some r) : OwnR w' base s bs :=
  World.ownsRow.kept h hg (by
    cases e : s.ownBlock with
    | none => exact .inl rfl
    | some r => exact .inr fun e2 => hr r e e2.symm)
theorem TwoR.grow {w w' : World} {base : Nat} {s t u : Value} {bs cs ds : List Blk} (h : TwoR w base s bs t cs) (hu : OwnR w' base u ds) (hg : w.grownBy w' s.ownBlock) (ho : u.ownBlock = s.ownBlock ∨ (∀ r, u.ownBlock = some r → w.heap.size ≤ r)) : TwoR w' base u ds t cs := by
  refine ⟨hu, h.two.apart hg fun r e1 e2 => h.ne r e2 e1, fun r e1 e2 => ?_⟩
  rcases ho with e | e
  · exact h.ne r (by rw [← e]; exact e1) e2
  · have h1 := e r e1
    have h2 := (h.two.lt r e2).2
    omega
theorem TwoR.below {w w' : World} {base : Nat} {s t : Value} {bs cs : List Blk} (h : TwoR w base s bs t cs) (hb : Below w.heap.size w w') : TwoR w' base s bs t cs :=
  ⟨h.one.below hb (Nat.le_refl _), h.two.below hb (Nat.le_refl _), h.ne⟩
theorem own_at {g n c w0 : Nat} {v : Value} (h : v.ownBlock = some g ∨ g = w0) : (Value.slice (some ⟨g, 0, none⟩) n c).ownBlock = v.ownBlock ∨ (∀ r, (Value.slice (some ⟨g, 0, none⟩) n c).ownBlock = some r → w0 ≤ r) := by
  rcases h with h | h
  · exact .inl (by rw [h]; rfl)
  · refine .inr fun r e => ?_
    simp [Value.ownBlock] at e
    omega
set_option maxRecDepth 100000 in
theorem tradeFrom_any (v : Int) (base : Nat) (s t : Value) (bs cs : List Blk) (w : World) (h : TwoR w base s bs t cs) (hl : bs.length ≤ 1100000) (hk : cs.length ≤ 1100000) (hb : base ≤ w.heap.size) :
    Calls Try.prog 54 #[.int .i64 v, s, t] w fun e w' => e = .returned (.agg #[.int .i64 v, s, t]) ∧ TwoR w' base s (sortB bs) t (sortB cs) ∧ Below base w w' := by
  have hb0 : Below w.heap.size w (w.alloc (.cells #[.int .i64 0, .slice none 0 0, .slice none 0 0] 39)) := (Below.refl _ _).alloc (Nat.le_refl _) _
  have h1 := h.below hb0
  have HS := Lib.hid (sortFunc_any base s bs _ h1.one hl)
  have HT := Lib.hid fun W (hW : OwnR W base t cs) => sortFunc_any base t cs W hW hk
  have H1 := Lib.hid h1
  obtain ⟨a, c, hs⟩ := h.one.formS
  obtain ⟨a', c', ht⟩ := h.two.formS
  have hlts := h.one.lt
  have hltt := h.two.lt
  have HB0 := Lib.hid (show Below base w (w.alloc (.cells #[.int .i64 0, .slice none 0 0, .slice none 0 0] 39)) from (Below.refl _ _).alloc hb _)
  have HLS := Lib.hid hlts
  have HLT := Lib.hid hltt
  clear h h1 hb0 hlts hltt
  subst hs
  subst ht
  go_enter Try.func54, Try.ntmps54
  go_wp2_with fail
  refine HS.out.mono ?_
  rintro e w1 ⟨rfl, ho1, hg1⟩
  have h2 := H1.out.grow ho1 hg1 (.inl rfl)
  have H2 := Lib.hid h2
  have d0 : w1.cell? ⟨w.heap.size, 0, none⟩ = some (.int .i64 0) := hg1.cell (by simp [go_sem]) (fun e => by have := (HLS.out _ e.symm).2; simp at this)
  have d1 : w1.cell? ⟨w.heap.size, 1, none⟩ = some (.slice none 0 0) := hg1.cell (by simp [go_sem]) (fun e => by have := (HLS.out _ e.symm).2; simp at this)
  have d2 : w1.cell? ⟨w.heap.size, 2, none⟩ = some (.slice none 0 0) := hg1.cell (by simp [go_sem]) (fun e => by have := (HLS.out _ e.symm).2; simp at this)
  have hblk := hg1.block w.heap.size (by simp) (fun e => by have := HLS.out _ e.symm; omega)
  have f0 : w1.frozen? ⟨w.heap.size, 0, none⟩ = false := (World.frozen?_of_block (a := ⟨w.heap.size, 0, none⟩) hblk).trans (by simp [go_sem])
  have f1 : w1.frozen? ⟨w.heap.size, 1, none⟩ = false := (World.frozen?_of_block (a := ⟨w.heap.size, 1, none⟩) hblk).trans (by simp [go_sem])
  have f2 : w1.frozen? ⟨w.heap.size, 2, none⟩ = false := (World.frozen?_of_block (a := ⟨w.heap.size, 2, none⟩) hblk).trans (by simp [go_sem])
  have hz1 := hg1.size
  simp at hz1
  have HB1 := Lib.hid (HB0.out.grown hg1 (by have := HB0.out.size; omega) (fun j e => (HLS.out j e).1))
  clear ho1 hg1 h2 hblk
  go_wp2_with fail
  refine (HT.out _ H2.out.two).mono ?_
  rintro e w2 ⟨rfl, ho2, hg2⟩
  have h3 := (H2.out.swap.grow ho2 hg2 (.inl rfl)).swap
  have H3 := Lib.hid h3
  have e0 : w2.cell? ⟨w.heap.size, 0, none⟩ = some (.int .i64 0) := hg2.cell d0 (fun e => by have := (HLT.out _ e.symm).2; simp at this)
  have e1 : w2.cell? ⟨w.heap.size, 1, none⟩ = some (.slice none 0 0) := hg2.cell d1 (fun e => by have := (HLT.out _ e.symm).2; simp at this)
  have e2 : w2.cell? ⟨w.heap.size, 2, none⟩ = some (.slice none 0 0) := hg2.cell d2 (fun e => by have := (HLT.out _ e.symm).2; simp at this)
  have hblk := hg2.block w.heap.size (by omega) (fun e => by have := HLT.out _ e.symm; omega)
  have k0 : w2.frozen? ⟨w.heap.size, 0, none⟩ = false := (World.frozen?_of_block (a := ⟨w.heap.size, 0, none⟩) hblk).trans f0
  have k1 : w2.frozen? ⟨w.heap.size, 1, none⟩ = false := (World.frozen?_of_block (a := ⟨w.heap.size, 1, none⟩) hblk).trans f1
  have k2 : w2.frozen? ⟨w.heap.size, 2, none⟩ = false := (World.frozen?_of_block (a := ⟨w.heap.size, 2, none⟩) hblk).trans f2
  have HB2 := Lib.hid (HB1.out.grown hg2 (by have := HB1.out.size; omega) (fun j e => (HLT.out j e).1))
  clear ho2 hg2 h3 hblk d0 d1 d2 f0 f1 f2
  go_wp2
  refine bodyPost_ret (v := .agg #[.int .i64 v, .slice a bs.length c, .slice a' cs.length c']) (by simp [results, Try.results54, go_sem, *]) rfl ⟨rfl, ?_, ?_⟩
  · have hg := set3_gb w2 w.heap.size (.int .i64 v) (.slice a bs.length c) (.slice a' cs.length c')
    exact ⟨H3.out.one.apart hg (fun r e1 e2 => by cases e2; have := HLS.out _ e1; omega), H3.out.two.apart hg (fun r e1 e2 => by cases e2; have := HLT.out _ e1; omega), H3.out.ne⟩
  · exact HB2.out.grown (set3_gb w2 w.heap.size (.int .i64 v) (.slice a bs.length c) (.slice a' cs.length c')) (by have := HB2.out.size; omega) (fun j e => by cases e; exact hb)
end Go.Proofs.Ytmgpmcjbnooklaa

namespace Go.Proofs.Ytmgpmcjbnooklaa
open Go.RowKit Go.Maps
/-- How many elements rows of these lengths hold, the first k of them. -/
def totL (l : Nat → Nat) : Nat → Nat
  | 0 => 0
  | k + 1 => totL l k + l k
theorem totL_le (l : Nat → Nat) {j n : Nat} (h : j ≤ n) : totL l j ≤ totL l n := by
  induction h with
  | refl => exact Nat.le_refl _
  | step _ ih => exact Nat.le_trans ih (by simp [totL])
/-- A slice of n slices of these lengths. -/
def HeadS (w : World) (s : Value) (n : Nat) (l : Nat → Nat) : Prop :=
  (n = 0 ∧ ∃ a c, s = .slice a 0 c) ∨ ∃ b off cap, s = .slice (some ⟨b, off, none⟩) n cap ∧ ∀ k, k < n → (l k : Int) ≤ 9223372036854775807 ∧ ∃ a c, w.cell? ⟨b, off + k, none⟩ = some (.slice a (l k) c)
theorem HeadS.slice {w : World} {s : Value} {n : Nat} {l : Nat → Nat} (h : HeadS w s n l) : ∃ a c, s = .slice a n c := by
  rcases h with ⟨rfl, a, c, rfl⟩ | ⟨b, off, cap, rfl, _⟩ <;> exact ⟨_, _, rfl⟩
set_option maxRecDepth 100000 in
theorem szInt64SS_any (s : Value) (n : Nat) (l : Nat → Nat) (hn : (n : Int) ≤ 9223372036854775807) (left : Int) (h0 : 0 ≤ left) (h1 : left ≤ 1048576) (w : World) (h : HeadS w s n l) : Calls Try.prog 23 #[s, .int .i64 left] w
    (RS (.int .i64 (if left - n - totL l n < 0 then -1 else left - n - totL l n)) w) := by
  by_cases hlt : left < n
  · rw [if_pos (by omega)]
    obtain ⟨a, c, rfl⟩ := h.slice
    clear h
    go_enter Try.func23, Try.ntmps23
    go_wp2
    go_ret
    exact RS_of rfl
  · have hle : (n : Int) ≤ left := by omega
    rcases h with ⟨rfl, a, c, rfl⟩ | ⟨b, off, cap, rfl, hB⟩
    · have e : (if left - ((0 : Nat) : Int) - ((totL l 0 : Nat) : Int) < 0 then -1 else left - ((0 : Nat) : Int) - ((totL l 0 : Nat) : Int)) = left := by simp [totL]; omega
      rw [e]
      clear hlt hle hn e
      go_enter Try.func23, Try.ntmps23
      go_wp2
      refine wp_loop_rounds 1 ?_
      rw [rounds_succ]
      go_wp2
      go_ret
      exact RS_of rfl
    · have HB := Lib.hid hB
      clear hB
      obtain ⟨m, hm⟩ : ∃ m, left - (n : Int) = m := ⟨_, rfl⟩
      rw [hm]
      obtain ⟨res, hres⟩ : ∃ res, res = (if m - ((totL l n : Nat) : Int) < 0 then -1 else m - ((totL l n : Nat) : Int)) := ⟨_, rfl⟩
      rw [← hres]
      have HRES := Lib.hid hres
      clear hres
      have m0 : 0 ≤ m := by omega
      have m1 : m ≤ 1048576 := by omega
      go_enter Try.func23, Try.ntmps23
      go_wp2
      have HM := Lib.hid hm
      clear hm
      go_loopw [1, 5] (fun t i wr => wr = w ∧ ∃ j : Nat, j ≤ n ∧ i = .int .i64 j ∧ t = .int .i64 (m - totL l j) ∧ (totL l j : Int) ≤ m) (fun _ i _ => n - (intOf i).toNat)
      case atStart => exact ⟨rfl, 0, Nat.zero_le _, rfl, by simp [totL], by simp [totL]; omega⟩
      case round =>
        obtain ⟨hww, j, hj, rfl, rfl, hr⟩ := hrel
        subst hww
        by_cases hjl : j < n
        · obtain ⟨hlj, a, c, c1⟩ := HB.out j hjl
          have htj := totL_le l (show j + 1 ≤ n from hjl)
          have htj' : totL l (j + 1) = totL l j + l j := rfl
          have g0 : (0 : Int) ≤ (j : Int) := by omega
          have g1 : (j : Int) < (n : Int) := by omega
          have hz := szInt64S_any (.slice a (l j) c) (l j) ⟨_, _, rfl⟩ hlj (m - totL l j) (by omega) (by omega) wr
          by_cases hneg : m - (totL l j : Int) - (l j : Int) < 0
          · rw [if_pos hneg] at hz
            have HZ := Lib.hid hz
            clear hz
            have e : res = -1 := by rw [HRES.out]; exact if_pos (by omega)
            subst e
            go_wp2_with (go_at_call 56; refine HZ.out.mono ?_; rintro e w1 ⟨rfl, hw1⟩; subst hw1)
            go_ret
            exact RS_of rfl
          · rw [if_neg hneg] at hz
            obtain ⟨r, hr'⟩ : ∃ r, r = m - (totL l j : Int) - (l j : Int) := ⟨_, rfl⟩
            rw [← hr'] at hz
            have HZ := Lib.hid hz
            have r0 : 0 ≤ r := by omega
            have HR := Lib.hid hr'
            clear hz hr'
            go_wp2_with (go_at_call 56; refine HZ.out.mono ?_; rintro e w1 ⟨rfl, rfl⟩)
            go_roundw
            case rel => exact ⟨trivial, j + 1, by omega, by go_num, int_eq (by rw [HR.out, htj']; omega), by rw [htj']; have := HR.out; omega⟩
            case measure => simp [intOf]; omega
        · have e : j = n := by omega
          subst e
          have e : res = m - ((totL l j : Nat) : Int) := by rw [HRES.out]; exact if_neg (by omega)
          subst e
          go_wp2
          go_ret
          exact RS_of rfl
end Go.Proofs.Ytmgpmcjbnooklaa

namespace Go.Proofs.Ytmgpmcjbnooklaa
open Go.RowKit Go.Maps
theorem mkRows (n : Nat) (hn : n ≤ 1100000) (W : World) : (Instr.makeSlice 45 (.int .i64 (n : Int)) (.int .i64 (n : Int))).run Try.prog W = .ok (.slice (some ⟨W.heap.size, 0, none⟩) n n) (W.alloc (.cells (madeCells #[.slice none 0 0] n) 26)) := by
  obtain ⟨i0, hi, hz0, hz1, hz2⟩ := info_parts infoRow
  have hr := run_make (P := Try.prog) W 45 26 i0 (.slice none 0 0) Try.underlying45 hi hz0 .i64 .i64 n n (by omega) (by omega) (by rw [hz2]; omega) (by omega)
  simp only [Int.toNat_natCast, hz1, Nat.mul_one] at hr
  exact hr
set_option maxRecDepth 100000 in
theorem toInt64SS_any (s : Value) (n : Nat) (F : Nat → List Int) (w : World) (h : SSB w s n F) :
    Calls Try.prog 25 #[s] w (fun e w' => ∃ gs caps, e = .returned (.slice (some ⟨w.heap.size, 0, none⟩) n n) ∧ Below w.heap.size w w' ∧ SSR w' w.heap.size w.heap.size gs caps n F) := by
  obtain ⟨hlen, h3⟩ := h
  rcases h3 with ⟨rfl, a0, c0, rfl⟩ | ⟨b, off, cap, rfl, hlt, hI⟩
  · have hm := mkRows 0 (by omega)
    simp only [Int.natCast_zero] at hm
    clear hlen
    go_enter Try.func25, Try.ntmps25
    go_wp2
    refine wp_loop_rounds 1 ?_
    rw [rounds_succ]
    go_wp2
    go_ret
    exact ⟨fun _ => 0, fun _ => 0, rfl, (Below.refl _ _).alloc (Nat.le_refl _) _, ⟨fun k hk => by omega, fun k hk => by omega, fun k hk => by omega, fun j k _ hk => by omega, fun k hk => by omega, by simp⟩⟩
  · have hm := mkRows n hlen
    have HI := Lib.hid hI
    clear hI
    go_enter Try.func25, Try.ntmps25
    go_wp2
    go_loopw [4] (fun i wr => ∃ (k : Nat) (gs caps : Nat → Nat), k ≤ n ∧ i = .int .i64 k ∧ Below w.heap.size w wr ∧ w.heap.size < wr.heap.size ∧ SSR wr w.heap.size w.heap.size gs caps k F ∧ (∀ q, q < n → ∃ u, wr.cell? ⟨w.heap.size, q, none⟩ = some u) ∧ (∀ o, wr.frozen? ⟨w.heap.size, o, none⟩ = false)) (fun i _ => n - (intOf i).toNat)
    case atStart => exact ⟨0, fun _ => 0, fun _ => 0, Nat.zero_le _, rfl, (Below.refl _ _).alloc (Nat.le_refl _) _, by simp, ⟨fun k hk => by omega, fun k hk => by omega, fun k hk => by omega, fun j k _ hk => by omega, fun k hk => by omega, by simp⟩, fun q hq => by rw [World.cell?_alloc_at _ _ _ _ rfl]; exact ⟨.slice none 0 0, by simp [madeCells, hq, Nat.mod_one]⟩, fun o => by simp⟩
    case round =>
      obtain ⟨k, gs, caps, hk, rfl, hB, hz, hS, hcs, hfz⟩ := hrel
      by_cases hkl : k < n
      · obtain ⟨a1, c1, q1, i1⟩ := HI.out k hkl
        have q1 := (hB.cell (p := ⟨b, off + k, none⟩) hlt).trans q1
        have I1 := Lib.hid (i1.below hB (Nat.le_refl _))
        have HS := Lib.hid hS
        have HC := Lib.hid hcs
        have HFZ := Lib.hid hfz
        clear i1 hS hcs hfz
        have g0 : (0 : Int) ≤ (k : Int) := by omega
        have g1 : (k : Int) < (n : Int) := by omega
        go_wp2_with (go_at_call 60; refine (toInt64S_any _ (F k) _ I1.out).mono ?_; rintro e w1 ⟨rfl, hb1, ho1⟩; obtain ⟨u, hu⟩ := HC.out k hkl; have m1 := (hb1.cell (p := ⟨w.heap.size, k, none⟩) hz).trans hu; have f1 := fun o => (hb1.frozen (p := ⟨w.heap.size, o, none⟩) hz).trans (HFZ.out o))
        have hz1 := hb1.size
        have hS1 := HS.out.below hb1 (Nat.le_refl _)
        have hst := only_setCell (only_refl w1 (some w.heap.size)) (p := ⟨w.heap.size, k, none⟩) rfl (.slice (some ⟨wr.heap.size, 0, none⟩) (F k).length (F k).length)
        go_roundw
        case rel =>
          refine ⟨k + 1, fun q => if q = k then wr.heap.size else gs q, fun q => if q = k then (F k).length else caps q, by omega, by go_num, (hB.trans (hb1.mono (by omega))).setCell (p := ⟨w.heap.size, k, none⟩) (Nat.le_refl _) _, by simp [World.setCell]; omega, ⟨fun q hq => ?_, fun q hq => ?_, fun q hq => ?_, fun p q hpq hq => ?_, fun q hq => ?_, by simp [World.setCell]; omega⟩, fun q hq => ?_, fun o => by rw [World.frozen?_setCell]; exact f1 o⟩
          · by_cases e : q = k
            · subst e
              rw [World.cell?_setCell_same' _ _ _ (by rw [m1]; rfl)]
              simp
            · rw [World.cell?_setCell_other _ _ _ _ (by simp <;> omega), hS1.cell q (by omega)]
              simp [e]
          · by_cases e : q = k
            · subst e
              simp only [if_pos]
              exact ho1.kept hst (by simp; omega)
            · simp only [if_neg e]
              exact (hS1.row q (by omega)).kept hst (by have := hS1.ne q (by omega); simpa using this)
          · by_cases e : q = k
            · simp only [if_pos e]; omega
            · simp only [if_neg e]; exact hS1.ne q (by omega)
          · have e1 : p ≠ k := by omega
            simp only [if_neg e1]
            by_cases e : q = k
            · simp only [if_pos e]
              exact Nat.ne_of_lt (HS.out.row p (by omega)).lt
            · simp only [if_neg e]
              exact hS1.inc p q hpq (by omega)
          · by_cases e : q = k
            · simp only [if_pos e]; omega
            · simp only [if_neg e]; exact hS1.low q (by omega)
          · by_cases e : q = k
            · subst e
              exact ⟨_, World.cell?_setCell_same' _ _ _ (by rw [m1]; rfl)⟩
            · obtain ⟨u', hu'⟩ := HC.out q hq
              exact ⟨u', by rw [World.cell?_setCell_other _ _ _ _ (by simp <;> omega)]; exact (hb1.cell (p := ⟨w.heap.size, q, none⟩) hz).trans hu'⟩
        case measure => simp [intOf]; omega
      · go_wp2
        go_ret
        have e : k = n := by omega
        subst e
        exact ⟨gs, caps, rfl, hB, hS⟩
end Go.Proofs.Ytmgpmcjbnooklaa

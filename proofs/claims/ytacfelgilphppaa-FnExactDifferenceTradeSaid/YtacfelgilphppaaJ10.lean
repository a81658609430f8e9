
/- The memory of a law across a drawn statement that makes a variable for a trade. How the laws' arguments are read. How the laws' other arguments are read: slices of integers, slices of blocks, a block, rows. How a law's trade is read. The laws' own helpers for trades: sizes, copies, equality, marks. -/
import Derived.Test.YtacfelgilphppaaJ9
import Derived.Test.YtacfelgilphppaaRows
import Derived.ProofKit
import Derived.OpenShut
import Derived.Deep.Slices
import Derived.Lib.SmallJoins
import Derived.ChangeOld
namespace Go.Proofs.Ytacfelgilphppaa
open Go.RowKit Go.Maps
/-- A variable for a trade that has been made and not yet been stored into. -/
structure ZBoxT (W : World) (X : Nat) : Prop where
  c0 : W.cell? ⟨X, 0, none⟩ = some (.int .i64 0)
  c1 : W.cell? ⟨X, 1, none⟩ = some (.slice none 0 0)
  c2 : W.cell? ⟨X, 2, none⟩ = some (.slice none 0 0)
  f0 : W.frozen? ⟨X, 0, none⟩ = false
  f1 : W.frozen? ⟨X, 1, none⟩ = false
  f2 : W.frozen? ⟨X, 2, none⟩ = false
theorem ZBoxT.fresh (W : World) : ZBoxT (W.alloc (.cells #[.int .i64 0, .slice none 0 0, .slice none 0 0] 63)) W.heap.size := by constructor <;> simp [go_sem]
theorem ZBoxT.lt {W : World} {X : Nat} (h : ZBoxT W X) : X < W.heap.size := World.block_lt_of_cell? W ⟨X, 0, none⟩ h.c0
theorem ZBoxT.kept {W W' : World} {X : Nat} (h : ZBoxT W X) (hg : W.grownBy W' none) : ZBoxT W' X := by
  have hb := hg.block X h.lt (by simp)
  exact ⟨hg.cell h.c0 (by simp), hg.cell h.c1 (by simp), hg.cell h.c2 (by simp), (World.frozen?_of_block (a := ⟨X, 0, none⟩) hb).trans h.f0, (World.frozen?_of_block (a := ⟨X, 1, none⟩) hb).trans h.f1, (World.frozen?_of_block (a := ⟨X, 2, none⟩) hb).trans h.f2⟩
section
variable {w W0 Wp W : World} {I : List Item} {X lo : Nat} {p : Int} {s t : Value} {L M : List Blk}
theorem Mem.earlyT (h : Mem w I W0) (g0 : W0.grownBy Wp none) (hX0 : W0.heap.size ≤ X) (hX : X < Wp.heap.size) (hz : ZBoxT Wp X) (hb : Below Wp.heap.size Wp W) (hr : ResT W Wp.heap.size W.heap.size s L t M) :
    Mem w (iVarT X p s t :: iTrd Wp.heap.size W.heap.size s L t M :: I) (((W.setCell ⟨X, 0, none⟩ (.int .i64 p)).setCell ⟨X, 1, none⟩ s).setCell ⟨X, 2, none⟩ t) := by
  have h1 : Mem w (iVarT X 0 (.slice none 0 0) (.slice none 0 0) :: I) Wp := h.push g0 (iVarT X 0 (.slice none 0 0) (.slice none 0 0)) hX0 (Nat.le_succ _) hX (iVarT_ok _ _ _ _) ⟨hX, hz.c0, hz.c1, hz.c2⟩
  have h2 := h1.pushT hb hr
  have hz2 := hz.kept (gb_below hb)
  have hgs := set3_gb W X (.int .i64 p) s t
  have h3 := h2.mark 1 rfl (OnlyIn.of_grown (lo := X) (hi := X + 1) hgs (fun r e => by cases e; omega)) (P' := fun W => VarT W X p s t) (iVarT_ok X p s t) ⟨by simpa [set3, World.setCell] using hz2.lt, ?_, ?_, ?_⟩
  · exact h3.swap
  · unfold set3
    rw [World.cell?_setCell_other _ _ _ _ (by simp), World.cell?_setCell_other _ _ _ _ (by simp), World.cell?_setCell_same' _ _ _ (by rw [hz2.c0]; rfl)]
  · unfold set3
    rw [World.cell?_setCell_other _ _ _ _ (by simp), World.cell?_setCell_same' _ _ _ (by rw [World.cell?_setCell_other _ _ _ _ (by simp), hz2.c1]; rfl)]
  · unfold set3
    rw [World.cell?_setCell_same' _ _ _ (by rw [World.cell?_setCell_other _ _ _ _ (by simp), World.cell?_setCell_other _ _ _ _ (by simp), hz2.c2]; rfl)]
theorem Mem.lateT (h : Mem w I W0) (g0 : W0.grownBy Wp none) (hb : Below Wp.heap.size Wp W) (hr : ResT W Wp.heap.size W.heap.size s L t M) :
    Mem w (iVarT W.heap.size p s t :: iTrd Wp.heap.size W.heap.size s L t M :: I) (W.alloc (.cells #[.int .i64 p, s, t] 63)) :=
  ((h.step g0).pushT hb hr).pushVarT p s t _
end
/-- Behind a drawn statement whose result is a trade and a code. -/
def TrdRel {w W0 : World} {I : List Item} (_ : Mem w I W0) (p : Int) (L M : List Blk) (κ : Int) (bx kv : Value) (wx : World) : Prop :=
  ∃ X lo hi a n a' n', bx = .pointer (some ⟨X, 0, none⟩) ∧ kv = .int .i64 κ ∧ Mem w (iVarT X p (.slice a L.length n) (.slice a' M.length n') :: iTrd lo hi (.slice a L.length n) L (.slice a' M.length n') M :: I) wx
section
variable {w W0 Wp W : World} {I : List Item} {X : Nat} {p κ : Int} {L M : List Blk} {a a' : Option Addr} {n n' : Nat}
theorem TrdRel.early (h : Mem w I W0) (g0 : W0.grownBy Wp none) (hX0 : W0.heap.size ≤ X) (hz : ZBoxT Wp X) (hb : Below Wp.heap.size Wp W) (hr : ResT W Wp.heap.size W.heap.size (.slice a L.length n) L (.slice a' M.length n') M) :
    TrdRel h p L M κ (.pointer (some ⟨X, 0, none⟩)) (.int .i64 κ) (((W.setCell ⟨X, 0, none⟩ (.int .i64 p)).setCell ⟨X, 1, none⟩ (.slice a L.length n)).setCell ⟨X, 2, none⟩ (.slice a' M.length n')) :=
  ⟨X, _, _, a, n, a', n', rfl, rfl, h.earlyT g0 hX0 hz.lt hz hb hr⟩
theorem TrdRel.late (h : Mem w I W0) (g0 : W0.grownBy Wp none) (hb : Below Wp.heap.size Wp W) (hr : ResT W Wp.heap.size W.heap.size (.slice a L.length n) L (.slice a' M.length n') M) :
    TrdRel h p L M κ (.pointer (some ⟨W.heap.size, 0, none⟩)) (.int .i64 κ) (W.alloc (.cells #[.int .i64 p, .slice a L.length n, .slice a' M.length n'] 63)) :=
  ⟨W.heap.size, _, _, a, n, a', n', rfl, rfl, h.lateT g0 hb hr⟩
theorem TrdRel.drew {h : Mem w I W0} {bx kv : Value} (k : TrdRel h p L M κ bx kv W) : TrdRel h p L M κ bx kv W.drew := by
  obtain ⟨X, lo, hi, a, n, a', n', h1, h2, h3⟩ := k
  exact ⟨X, lo, hi, a, n, a', n', h1, h2, h3.step (gb_drew1 _)⟩
end
theorem keepset3 {W : World} {X q o : Nat} {u a b c : Value} (h : W.cell? ⟨q, o, none⟩ = some u) (hq : q < X) : (((W.setCell ⟨X, 0, none⟩ a).setCell ⟨X, 1, none⟩ b).setCell ⟨X, 2, none⟩ c).cell? ⟨q, o, none⟩ = some u :=
  (set3_gb W X a b c).cell h (by simp; omega)
end Go.Proofs.Ytacfelgilphppaa

namespace Go.Proofs.Ytacfelgilphppaa
open Go.ChangeShapes Go.WideShapes Go.ChangeAt Go.RowKit Go.Deep Go.Joins
theorem ownKnobs : ownKnob Try.prog.godebug = none := by kernel_rfl
section
variable {H : Type} {enc : TypeId × Value → H} {W : World} {base : Nat} {held : Bool}
theorem arrCells : Try.prog.cellsOf 92 = 3 := by kernel_rfl
set_option maxRecDepth 100000 in
theorem open_arr3 {fuel : Nat} {cs : List Value} {x : DataW H × List MemPlace} (h : DataW.trod enc Try.prog W base (fun _ => true) held fuel 92 cs = some x) :
    ∃ a b c : Int, cs = [.int .i64 a, .int .i64 b, .int .i64 c] ∧ (Lit.int .i64 a).wf = true ∧ (Lit.int .i64 b).wf = true ∧ (Lit.int .i64 c).wf = true := by
  obtain ⟨xs, m, rfl, rfl, hl, hx, hat⟩ := DataW.trod_array Try.underlying92 h
  rw [arrCells] at hl
  match cs, hl with
  | [c0, c1, c2], _ =>
    match xs, hx with
    | [x0, x1, x2], _ =>
      have h0 := hat 0 (by omega)
      have h1 := hat 1 (by omega)
      have h2 := hat 2 (by omega)
      rw [int64Cells] at h0 h1 h2
      simp at h0 h1 h2
      obtain ⟨a, ha, _, wa⟩ := DataW.trod_int Try.underlying2 h0
      obtain ⟨b, hb, _, wb⟩ := DataW.trod_int Try.underlying2 h1
      obtain ⟨c, hc, _, wc⟩ := DataW.trod_int Try.underlying2 h2
      simp at ha hb hc
      exact ⟨a, b, c, by rw [ha, hb, hc], wa, wb, wc⟩
theorem add_at (b off i : Nat) : (⟨b, off, none⟩ : Addr).add i = ⟨b, off + i, none⟩ := by
  unfold Addr.add
  split
  · subst_vars; rfl
  · rfl
set_option maxRecDepth 100000 in
theorem open_arrs {fuel : Nat} {s : Value} {x : DataW H × List MemPlace} (h : DataW.trod enc Try.prog W base (fun _ => true) held fuel 22 [s] = some x) : ∃ bs, InB W s bs := by
  rcases open_slice Try.underlying22 h with ⟨hcs, _⟩ | ⟨a, len, cap, m, n, D, Pl, hcs, hb, hl, hm, hmm, hx, hi⟩
  · simp at hcs
    exact ⟨[], by simp, by simp, .inl ⟨none, 0, hcs, rfl⟩⟩
  · simp at hcs
    subst hcs
    simp at hmm
    subst hmm
    have hm' : m ≤ 9223372036854775807 := by unfold maxLen at hm; exact hm
    by_cases h0 : len = 0
    · subst h0
      exact ⟨[], by simp, by simp, .inl ⟨_, _, rfl, rfl⟩⟩
    · have cell : ∀ i, i < m → ∃ y : Blk, WFB y ∧ ∀ j (v : Value), [Value.int .i64 y.a, Value.int .i64 y.b, Value.int .i64 y.c][j]? = some v → W.cell? (a.add (i * 3 + j)) = some v := fun i him => by
        obtain ⟨cs', hc, ht⟩ := hi i him
        obtain ⟨p, q, r, rfl, wp, wq, wr⟩ := open_arr3 ht
        rw [arrCells] at hc
        obtain ⟨_, _, hat⟩ := World.cells?_some hc
        refine ⟨⟨p, q, r⟩, ⟨wp, wq, wr⟩, fun j v hv => ?_⟩
        have hj : j < 3 := by
          have := (List.getElem?_eq_some_iff.1 hv).1
          simpa using this
        rw [← Go.Deep.add_add, hat j hj]
        exact hv
      obtain ⟨F, hF⟩ := choose_lt (α := Blk) cell
      obtain ⟨b, off, spot⟩ := a
      have hc0 := (hF 0 (by omega)).2 0 _ rfl
      have hspot : spot = none := by simpa [Addr.add] using World.cell?_spot hc0
      subst hspot
      refine ⟨(List.range len).map F, ?_, by simp; omega, .inr ⟨b, off, m, by simp, ?_, ?_⟩⟩
      · intro y hy
        obtain ⟨i, hi', rfl⟩ := List.mem_map.1 hy
        exact (hF i (by have := List.mem_range.1 hi'; omega)).1
      · exact block_lt_of_cell hc0
      · intro k hk
        simp at hk
        have e : ((List.range len).map F)[k]?.getD default = F k := by simp [hk]
        rw [e]
        have := (hF k (by omega)).2
        refine ⟨?_, ?_, ?_⟩
        · have h0 := this 0 _ rfl
          rw [add_at] at h0
          exact h0
        · have h1 := this 1 _ rfl
          rw [add_at, ← Nat.add_assoc] at h1
          exact h1
        · have h2 := this 2 _ rfl
          rw [add_at, ← Nat.add_assoc] at h2
          exact h2
theorem isSys : ∃ f0 f1 : Field, Try.prog.underlying 24 = some (.struct #[f0, f1]) ∧ f0.type = 2 ∧ f1.type = 22 ∧ oneCellFields Try.prog #[f0, f1] = true :=
  ⟨_, _, Try.underlying24, rfl, rfl, by kernel_rfl⟩
theorem sysCells : Try.prog.cellsOf 24 = 2 := by kernel_rfl
set_option maxRecDepth 100000 in
theorem open_system {r : Reach} {b0 : Nat} {v : Value} {d : DataW H} {p : List MemPlace} (hv : Value.okWide Try.prog W r b0 24 v) (h : DataW.Trod enc Try.prog W base (fun _ => true) held 24 v d p) :
    ∃ (n : Int) (s : Value) (bs : List Blk), v = .agg #[.int .i64 n, s] ∧ WF n ∧ InB W s bs := by
  obtain ⟨f0, f1, hu, e0, e1, hone⟩ := isSys
  obtain ⟨v0, v1, y0, y1, n, rfl, _, _, h0, h1⟩ := open_agg2 hu hone sysCells hv h
  rw [e0] at h0
  rw [e1] at h1
  obtain ⟨k, hk, _, wk⟩ := DataW.trod_int Try.underlying2 h0
  simp at hk
  subst hk
  obtain ⟨bs, hbs⟩ := open_arrs h1
  exact ⟨k, v1, bs, rfl, wk, hbs⟩
end
end Go.Proofs.Ytacfelgilphppaa

namespace Go.Proofs.Ytacfelgilphppaa
open Go.ChangeShapes Go.WideShapes Go.ChangeAt Go.RowKit Go.Deep Go.Joins
/-- The value is a slice of just these integers, however many. -/
def InZ (w : World) (s : Value) (zs : List Int) : Prop :=
  (∀ z ∈ zs, WF z) ∧ zs.length ≤ 9223372036854775807 ∧ ((∃ a c, s = .slice a 0 c ∧ zs = []) ∨ ∃ b off cap, s = .slice (some ⟨b, off, none⟩) zs.length cap ∧ b < w.heap.size ∧ Ints w b off zs)
theorem InZ.slice {w : World} {s : Value} {zs : List Int} (h : InZ w s zs) : ∃ a c, s = .slice a zs.length c := by
  rcases h.2.2 with ⟨a, c, rfl, rfl⟩ | ⟨b, off, cap, rfl, _⟩ <;> exact ⟨_, _, rfl⟩
theorem InZ.ib {w : World} {s : Value} {zs : List Int} (h : InZ w s zs) (hl : zs.length ≤ 1048576) : IB w s zs := ⟨by omega, h.2.2⟩
/-- The value is a slice of just these rows, however many. -/
def InSS (w : World) (s : Value) (n : Nat) (F : Nat → List Int) : Prop :=
  n ≤ 9223372036854775807 ∧ ((n = 0 ∧ ∃ a c, s = .slice a 0 c) ∨ ∃ b off cap, s = .slice (some ⟨b, off, none⟩) n cap ∧ b < w.heap.size ∧ ∀ k, k < n → ∃ u, w.cell? ⟨b, off + k, none⟩ = some u ∧ InZ w u (F k))
theorem okWide_array {P : Program} {w : World} {r : Reach} {base : Nat} {t : TypeId} {v : Value} {n : Nat} {e : TypeId} (ht : P.underlying t = some (.array n e)) (h : Value.okWide P w r base t v) : ∃ cs, v = .agg cs ∧ cs.size = P.cellsOf t := by
  simp only [Value.okWide, ht] at h
  obtain ⟨cs, h1, h2, _⟩ := h
  exact ⟨cs, h1, h2⟩
section
variable {H : Type} {enc : TypeId × Value → H} {W : World} {base : Nat} {held : Bool}
set_option maxRecDepth 100000 in
theorem open_zs {fuel : Nat} {s : Value} {x : DataW H × List MemPlace} (h : DataW.trod enc Try.prog W base (fun _ => true) held fuel 26 [s] = some x) : ∃ zs, InZ W s zs := by
  rcases open_slice1 Try.underlying26 int64Cells h with ⟨hcs, _⟩ | ⟨a, len, cap, m, n, V, D, Pl, hcs, hb, hl, hm, hmm, hx, hi⟩
  · simp at hcs
    exact ⟨[], by simp, by simp, .inl ⟨none, 0, hcs, rfl⟩⟩
  · simp at hcs
    subst hcs
    simp at hmm
    subst hmm
    have hm' : m ≤ 9223372036854775807 := by unfold maxLen at hm; exact hm
    by_cases h0 : len = 0
    · subst h0
      exact ⟨[], by simp, by simp, .inl ⟨_, _, rfl, rfl⟩⟩
    · have cell : ∀ i, i < m → ∃ y : Int, WF y ∧ W.cell? (a.add i) = some (.int .i64 y) := fun i him => by
        obtain ⟨hc, ht⟩ := hi i him
        obtain ⟨k, hk, _, wk⟩ := DataW.trod_int Try.underlying2 ht
        simp at hk
        exact ⟨k, wk, by rw [hc, hk]⟩
      obtain ⟨F, hF⟩ := choose_lt (α := Int) cell
      obtain ⟨b, off, spot⟩ := a
      have hc0 := (hF 0 (by omega)).2
      have hspot : spot = none := by simpa [Addr.add] using World.cell?_spot hc0
      subst hspot
      refine ⟨(List.range len).map F, ?_, by simp; omega, .inr ⟨b, off, m, by simp, ?_, ?_⟩⟩
      · intro y hy
        obtain ⟨i, hi', rfl⟩ := List.mem_map.1 hy
        exact (hF i (by have := List.mem_range.1 hi'; omega)).1
      · exact block_lt_of_cell hc0
      · intro k hk
        simp at hk
        have e : ((List.range len).map F)[k]?.getD 0 = F k := by simp [hk]
        rw [e]
        have h1 := (hF k (by omega)).2
        rw [add_at] at h1
        exact h1
set_option maxRecDepth 100000 in
theorem open_ints64 {r : Reach} {b0 : Nat} {v : Value} {d : DataW H} {p : List MemPlace} (hv : Value.okWide Try.prog W r b0 26 v) (h : DataW.Trod enc Try.prog W base (fun _ => true) held 26 v d p) : ∃ zs, InZ W v zs := by
  obtain ⟨a, len, cap, rfl⟩ := okWide_slice Try.underlying26 hv
  obtain ⟨fuel, hf⟩ := h
  exact open_zs hf
set_option maxRecDepth 100000 in
theorem open_blocks {r : Reach} {b0 : Nat} {v : Value} {d : DataW H} {p : List MemPlace} (hv : Value.okWide Try.prog W r b0 22 v) (h : DataW.Trod enc Try.prog W base (fun _ => true) held 22 v d p) : ∃ bs, InB W v bs := by
  obtain ⟨a, len, cap, rfl⟩ := okWide_slice Try.underlying22 hv
  obtain ⟨fuel, hf⟩ := h
  exact open_arrs hf
theorem sliceCells : Try.prog.cellsOf 26 = 1 := by kernel_rfl
set_option maxRecDepth 100000 in
theorem open_rows {r : Reach} {b0 : Nat} {v : Value} {d : DataW H} {p : List MemPlace} (hv : Value.okWide Try.prog W r b0 43 v) (h : DataW.Trod enc Try.prog W base (fun _ => true) held 43 v d p) : ∃ n F, InSS W v n F := by
  obtain ⟨A0, L0, C0, rfl⟩ := okWide_slice Try.underlying43 hv
  obtain ⟨fuel, hf⟩ := h
  have hf' : DataW.trod enc Try.prog W base (fun _ => true) held fuel 43 [.slice A0 L0 C0] = some (d, p) := hf
  rcases open_slice1 Try.underlying43 sliceCells hf' with ⟨hcs, _⟩ | ⟨a, len, cap, m, n, V, D, Pl, hcs, hb, hl, hm, hmm, hx, hi⟩
  · simp at hcs
    obtain ⟨rfl, rfl, rfl⟩ := hcs
    exact ⟨0, fun _ => [], by omega, .inl ⟨rfl, _, _, rfl⟩⟩
  · simp at hcs
    obtain ⟨e1, e2, e3⟩ := hcs
    subst e1
    subst e2
    subst e3
    simp at hmm
    subst hmm
    have hm' : m ≤ 9223372036854775807 := by unfold maxLen at hm; exact hm
    by_cases h0 : L0 = 0
    · subst h0
      exact ⟨0, fun _ => [], by omega, .inl ⟨rfl, _, _, rfl⟩⟩
    · have cell : ∀ i, i < m → ∃ y : List Int, ∃ u, W.cell? (a.add i) = some u ∧ InZ W u y := fun i him => by
        obtain ⟨hc, ht⟩ := hi i him
        obtain ⟨zs, hz⟩ := open_zs ht
        exact ⟨zs, _, hc, hz⟩
      obtain ⟨F, hF⟩ := choose_lt (α := List Int) cell
      obtain ⟨b, off, spot⟩ := a
      obtain ⟨u0, hc0, _⟩ := hF 0 (by omega)
      have hspot : spot = none := by simpa [Addr.add] using World.cell?_spot hc0
      subst hspot
      refine ⟨L0, F, by omega, .inr ⟨b, off, m, rfl, block_lt_of_cell hc0, fun k hk => ?_⟩⟩
      obtain ⟨u, h1, h2⟩ := hF k (by omega)
      rw [add_at] at h1
      exact ⟨u, h1, h2⟩
set_option maxRecDepth 100000 in
theorem open_blk {r : Reach} {b0 : Nat} {v : Value} {d : DataW H} {p : List MemPlace} (hv : Value.okWide Try.prog W r b0 92 v) (h : DataW.Trod enc Try.prog W base (fun _ => true) held 92 v d p) : ∃ x, v = bv x ∧ WFB x := by
  obtain ⟨cs, rfl, hsz⟩ := okWide_array Try.underlying92 hv
  obtain ⟨fuel, hf⟩ := h
  obtain ⟨a, b, c, e, wa, wb, wc⟩ := open_arr3 hf
  have : cs.toList = [.int .i64 a, .int .i64 b, .int .i64 c] := e
  refine ⟨⟨a, b, c⟩, ?_, wa, wb, wc⟩
  unfold bv
  rw [← this]
end
end Go.Proofs.Ytacfelgilphppaa

namespace Go.Proofs.Ytacfelgilphppaa
open Go.ChangeShapes Go.WideShapes Go.ChangeAt Go.RowKit Go.Deep Go.Joins
section
variable {H : Type} {enc : TypeId × Value → H} {W : World} {base : Nat} {held : Bool}
theorem isTrd : ∃ f0 f1 f2 : Field, Try.prog.underlying 59 = some (.struct #[f0, f1, f2]) ∧ f0.type = 2 ∧ f1.type = 22 ∧ f2.type = 22 ∧ oneCellFields Try.prog #[f0, f1, f2] = true :=
  ⟨_, _, _, Try.underlying59, rfl, rfl, rfl, by kernel_rfl⟩
theorem trdCells : Try.prog.cellsOf 59 = 3 := by kernel_rfl
set_option maxRecDepth 100000 in
theorem open_trade {r : Reach} {b0 : Nat} {v : Value} {d : DataW H} {p : List MemPlace} (hv : Value.okWide Try.prog W r b0 59 v) (h : DataW.Trod enc Try.prog W base (fun _ => true) held 59 v d p) :
    ∃ (n : Int) (so : Value) (bo : List Blk) (si : Value) (bi : List Blk), v = .agg #[.int .i64 n, so, si] ∧ InT W so bo si bi := by
  obtain ⟨f0, f1, f2, hu, e0, e1, e2, hone⟩ := isTrd
  obtain ⟨v0, v1, v2, y0, y1, y2, n, rfl, _, _, h0, h1, h2⟩ := open_agg3 hu hone trdCells hv h
  rw [e0] at h0
  rw [e1] at h1
  rw [e2] at h2
  obtain ⟨k, hk, _, wk⟩ := DataW.trod_int Try.underlying2 h0
  simp at hk
  subst hk
  obtain ⟨bo, hbo⟩ := open_arrs h1
  obtain ⟨bi, hbi⟩ := open_arrs h2
  exact ⟨k, v1, bo, v2, bi, rfl, hbo, hbi⟩
end
end Go.Proofs.Ytacfelgilphppaa

namespace Go.Proofs.Ytacfelgilphppaa
open Go.RowKit Go.Maps
set_option maxRecDepth 100000 in
theorem szTrade_any (v : Int) (so si : Value) (no ni : Nat) (hso : ∃ a c, so = .slice a no c) (hsi : ∃ a c, si = .slice a ni c) (hno : (no : Int) ≤ 9223372036854775807) (hni : (ni : Int) ≤ 9223372036854775807) (left : Int) (h0 : 0 ≤ left) (h1 : left ≤ 1048576) (w : World) :
    Calls Try.prog 62 #[.agg #[.int .i64 v, so, si], .int .i64 left] w (RV (.int .i64 (if left - ((no + ni : Nat) : Int) < 0 then -1 else left - ((no + ni : Nat) : Int))) w) := by
  obtain ⟨a, c, rfl⟩ := hso
  obtain ⟨a', c', rfl⟩ := hsi
  have hc := szBlockS_any (.slice a no c) no ⟨a, c, rfl⟩ hno left h0 h1
  by_cases h : left - no < 0
  · rw [if_pos h] at hc
    rw [if_pos (by omega)]
    have HC := Lib.hid hc
    clear hc h
    go_enter Try.func62, Try.ntmps62
    go_wp2_with (go_at_call 90; refine (HC.out _).mono ?_; rintro e w1 ⟨rfl, rfl⟩)
    go_ret
    exact RV_of rfl ((Below.refl _ _).alloc (Nat.le_refl _) _)
  · rw [if_neg h] at hc
    have hd := szBlockS_any (.slice a' ni c') ni ⟨a', c', rfl⟩ hni (left - no) (by omega) (by omega)
    by_cases k : left - no - ni < 0
    · rw [if_pos k] at hd
      rw [if_pos (by omega)]
      obtain ⟨m, hm⟩ : ∃ m, m = left - (no : Int) := ⟨_, rfl⟩
      rw [← hm] at hc hd
      have hm0 : 0 ≤ m := by omega
      have HC := Lib.hid hc
      have HD := Lib.hid hd
      clear hc hd h k hm
      go_enter Try.func62, Try.ntmps62
      go_wp2_with fail
      refine (HC.out _).mono ?_
      rintro e w1 ⟨rfl, rfl⟩
      go_wp2_with fail
      refine (HD.out _).mono ?_
      rintro e w1 ⟨rfl, rfl⟩
      go_wp2
      go_ret
      exact RV_of rfl ((Below.refl _ _).alloc (Nat.le_refl _) _)
    · rw [if_neg k] at hd
      rw [if_neg (by omega)]
      obtain ⟨n, hn⟩ : ∃ n, n = left - (no : Int) - (ni : Int) := ⟨_, rfl⟩
      rw [← hn] at hd
      rw [show left - ((no + ni : Nat) : Int) = n by omega]
      obtain ⟨m, hm⟩ : ∃ m, m = left - (no : Int) := ⟨_, rfl⟩
      rw [← hm] at hc hd
      have hm0 : 0 ≤ m := by omega
      have hn0 : 0 ≤ n := by omega
      have HC := Lib.hid hc
      have HD := Lib.hid hd
      clear hc hd h k hm hn
      go_enter Try.func62, Try.ntmps62
      go_wp2_with fail
      refine (HC.out _).mono ?_
      rintro e w1 ⟨rfl, rfl⟩
      go_wp2_with fail
      refine (HD.out _).mono ?_
      rintro e w1 ⟨rfl, rfl⟩
      go_wp2
      go_ret
      exact RV_of rfl ((Below.refl _ _).alloc (Nat.le_refl _) _)
theorem OwnB.grown1 {w w' : World} {lo g cap : Nat} {bs : List Blk} (h : OwnB w lo (.slice (some ⟨g, 0, none⟩) bs.length cap) bs) {row : Option Nat} (hg : w.grownBy w' row) (hr : ∀ r, row = some r → r < g) : OwnB w' lo (.slice (some ⟨g, 0, none⟩) bs.length cap) bs := by
  obtain ⟨g', cap', e, h1, h2, h3, h4, h5⟩ := h
  simp at e
  obtain ⟨rfl, rfl⟩ := e
  have hb := hg.block g h2 (fun e => by have := hr g e.symm; omega)
  refine ⟨g, cap, rfl, h1, Nat.lt_of_lt_of_le h2 hg.size, fun k hk => ?_, fun o => ?_, h5⟩
  · obtain ⟨p1, p2, p3⟩ := h3 k hk
    exact ⟨(World.cell?_of_block (w := w) (a := ⟨g, _, none⟩) hb).trans p1, (World.cell?_of_block (w := w) (a := ⟨g, _, none⟩) hb).trans p2, (World.cell?_of_block (w := w) (a := ⟨g, _, none⟩) hb).trans p3⟩
  · exact (World.frozen?_of_block (w := w) (a := ⟨g, o, none⟩) hb).trans (h4 o)
set_option maxRecDepth 100000 in
set_option maxHeartbeats 1000000 in
theorem toTrade_any (v : Int) (so : Value) (bo : List Blk) (si : Value) (bi : List Blk) (w : World) (h : TB w so bo si bi) : Calls Try.prog 64 #[.agg #[.int .i64 v, so, si]] w
    (fun e w' => ∃ tq ti, e = .returned (.agg #[.int .i64 v, tq, ti]) ∧ OwnT w' w.heap.size tq bo ti bi ∧ Below w.heap.size w w') := by
  have hs := h.1.slice
  have ht := h.2.slice
  have H1 := Lib.hid h.1
  have H2 := Lib.hid h.2
  clear h
  obtain ⟨a, c, rfl⟩ := hs
  obtain ⟨a', c', rfl⟩ := ht
  go_enter Try.func64, Try.ntmps64
  go_wp2_with fail
  refine (toBlockS_any _ bo _ (H1.out.below (B := w.heap.size) (by repeat (first | exact Below.refl _ _ | refine Below.setCell ?_ (by simp) _ | refine Below.alloc ?_ (by first | exact Nat.le_refl _ | simp; try omega) _)) (Nat.le_refl _))).mono ?_
  rintro e w1 ⟨s1, rfl, ho, hb1⟩
  obtain ⟨g, cap, rfl, ho1, hlt1⟩ : ∃ g cap, s1 = .slice (some ⟨g, 0, none⟩) bo.length cap ∧ w.heap.size + 1 + 1 + 1 ≤ g ∧ g < w1.heap.size := by
    obtain ⟨g, cap, e, p1, p2, _⟩ := id ho
    simp only [World.size_alloc] at p1
    exact ⟨g, cap, e, p1, p2⟩
  have HO1 := Lib.hid (ho.mono (lo' := w.heap.size) (by simp; omega))
  have hbw : Below w.heap.size w w1 := Below.trans (by repeat (first | exact Below.refl _ _ | refine Below.setCell ?_ (by simp) _ | refine Below.alloc ?_ (by first | exact Nat.le_refl _ | simp; try omega) _)) (hb1.mono (by simp; omega))
  have x2 : w1.cell? ⟨w.heap.size, 2, none⟩ = some (.slice a' bi.length c') := (hb1.cell (p := ⟨w.heap.size, 2, none⟩) (by simp <;> omega)).trans (by simp [go_sem])
  have c10 : w1.cell? ⟨w.heap.size + 1, 0, none⟩ = some (.int .i64 0) := (hb1.cell (p := ⟨w.heap.size + 1, 0, none⟩) (by simp <;> omega)).trans (by simp [go_sem])
  have c11 : w1.cell? ⟨w.heap.size + 1, 1, none⟩ = some (.slice none 0 0) := (hb1.cell (p := ⟨w.heap.size + 1, 1, none⟩) (by simp <;> omega)).trans (by simp [go_sem])
  have c12 : w1.cell? ⟨w.heap.size + 1, 2, none⟩ = some (.slice none 0 0) := (hb1.cell (p := ⟨w.heap.size + 1, 2, none⟩) (by simp <;> omega)).trans (by simp [go_sem])
  have c20 : w1.cell? ⟨w.heap.size + 1 + 1, 0, none⟩ = some (.int .i64 v) := (hb1.cell (p := ⟨w.heap.size + 1 + 1, 0, none⟩) (by simp)).trans (by simp [go_sem])
  have c21 : w1.cell? ⟨w.heap.size + 1 + 1, 1, none⟩ = some (.slice none 0 0) := (hb1.cell (p := ⟨w.heap.size + 1 + 1, 1, none⟩) (by simp)).trans (by simp [go_sem])
  have c22 : w1.cell? ⟨w.heap.size + 1 + 1, 2, none⟩ = some (.slice none 0 0) := (hb1.cell (p := ⟨w.heap.size + 1 + 1, 2, none⟩) (by simp)).trans (by simp [go_sem])
  have f10 : w1.frozen? ⟨w.heap.size + 1, 0, none⟩ = false := (hb1.frozen (p := ⟨w.heap.size + 1, 0, none⟩) (by simp <;> omega)).trans (by simp [go_sem])
  have f11 : w1.frozen? ⟨w.heap.size + 1, 1, none⟩ = false := (hb1.frozen (p := ⟨w.heap.size + 1, 1, none⟩) (by simp <;> omega)).trans (by simp [go_sem])
  have f12 : w1.frozen? ⟨w.heap.size + 1, 2, none⟩ = false := (hb1.frozen (p := ⟨w.heap.size + 1, 2, none⟩) (by simp <;> omega)).trans (by simp [go_sem])
  have f21 : w1.frozen? ⟨w.heap.size + 1 + 1, 1, none⟩ = false := (hb1.frozen (p := ⟨w.heap.size + 1 + 1, 1, none⟩) (by simp)).trans (by simp [go_sem])
  have f22 : w1.frozen? ⟨w.heap.size + 1 + 1, 2, none⟩ = false := (hb1.frozen (p := ⟨w.heap.size + 1 + 1, 2, none⟩) (by simp)).trans (by simp [go_sem])
  clear hb1 ho
  go_wp2_with fail
  have hgs : w1.grownBy (w1.setCell ⟨w.heap.size + 1 + 1, 1, none⟩ (.slice (some ⟨g, 0, none⟩) bo.length cap)) (some (w.heap.size + 1 + 1)) := only_setCell (only_refl w1 (some (w.heap.size + 1 + 1))) rfl _
  have hbs : Below w.heap.size w (w1.setCell ⟨w.heap.size + 1 + 1, 1, none⟩ (.slice (some ⟨g, 0, none⟩) bo.length cap)) := hbw.setCell (by simp; omega) _
  have HO1' := Lib.hid (HO1.out.grown1 hgs (fun r e => by cases e; omega))
  have oth : ∀ (b o : Nat), (b ≠ w.heap.size + 1 + 1 ∨ o ≠ 1) → (w1.setCell ⟨w.heap.size + 1 + 1, 1, none⟩ (.slice (some ⟨g, 0, none⟩) bo.length cap)).cell? ⟨b, o, none⟩ = w1.cell? ⟨b, o, none⟩ := fun b o hne =>
    World.cell?_setCell_other w1 _ _ _ (by intro e; simp only [Addr.mk.injEq] at e; omega)
  have d10 := (oth (w.heap.size + 1) 0 (by omega)).trans c10
  have d11 := (oth (w.heap.size + 1) 1 (by omega)).trans c11
  have d12 := (oth (w.heap.size + 1) 2 (by omega)).trans c12
  have d20 := (oth (w.heap.size + 1 + 1) 0 (by omega)).trans c20
  have d21 : (w1.setCell ⟨w.heap.size + 1 + 1, 1, none⟩ (.slice (some ⟨g, 0, none⟩) bo.length cap)).cell? ⟨w.heap.size + 1 + 1, 1, none⟩ = some (.slice (some ⟨g, 0, none⟩) bo.length cap) := World.cell?_setCell_same _ _ _ c21
  have d22 := (oth (w.heap.size + 1 + 1) 2 (by omega)).trans c22
  have fz : ∀ (b o : Nat), (w1.setCell ⟨w.heap.size + 1 + 1, 1, none⟩ (.slice (some ⟨g, 0, none⟩) bo.length cap)).frozen? ⟨b, o, none⟩ = w1.frozen? ⟨b, o, none⟩ := fun b o => World.frozen?_setCell _ _ _ _
  have e10 := (fz (w.heap.size + 1) 0).trans f10
  have e11 := (fz (w.heap.size + 1) 1).trans f11
  have e12 := (fz (w.heap.size + 1) 2).trans f12
  have e22 := (fz (w.heap.size + 1 + 1) 2).trans f22
  have hz2 : (w1.setCell ⟨w.heap.size + 1 + 1, 1, none⟩ (.slice (some ⟨g, 0, none⟩) bo.length cap)).heap.size = w1.heap.size := by simp
  obtain ⟨w2, hw2⟩ : ∃ w2, w1.setCell ⟨w.heap.size + 1 + 1, 1, none⟩ (.slice (some ⟨g, 0, none⟩) bo.length cap) = w2 := ⟨_, rfl⟩
  rw [hw2] at hbs HO1' d10 d11 d12 d20 d21 d22 e10 e11 e12 e22 hz2 ⊢
  clear hgs oth fz hw2 c10 c11 c12 c20 c21 c22 f10 f11 f12 f21 f22 x2 hbw HO1
  have hp : w.heap.size + 1 + 1 < w2.heap.size := by omega
  refine (toBlockS_any _ bi _ (H2.out.below hbs (Nat.le_refl _))).mono ?_
  rintro e w3 ⟨s3, rfl, ho3, hb3⟩
  obtain ⟨g', cap', rfl, ho3', hlt3⟩ : ∃ g' cap', s3 = .slice (some ⟨g', 0, none⟩) bi.length cap' ∧ w2.heap.size ≤ g' ∧ g' < w3.heap.size := by
    obtain ⟨g', cap', e, p1, p2, _⟩ := id ho3
    exact ⟨g', cap', e, p1, p2⟩
  have HO3 := Lib.hid (ho3.mono (lo' := w.heap.size) (by omega))
  have HO1 := Lib.hid (HO1'.out.below hb3 (Nat.le_refl _))
  have cel : ∀ (b o : Nat) (u : Value), w2.cell? ⟨b, o, none⟩ = some u → b < w2.heap.size → w3.cell? ⟨b, o, none⟩ = some u := fun b o u hu hb => (hb3.cell (p := ⟨b, o, none⟩) hb).trans hu
  have frz : ∀ (b o : Nat), w2.frozen? ⟨b, o, none⟩ = false → b < w2.heap.size → w3.frozen? ⟨b, o, none⟩ = false := fun b o hu hb => (hb3.frozen (p := ⟨b, o, none⟩) hb).trans hu
  have c10 := cel _ _ _ d10 (by omega)
  have c11 := cel _ _ _ d11 (by omega)
  have c12 := cel _ _ _ d12 (by omega)
  have c20 := cel _ _ _ d20 (by omega)
  have c21 := cel _ _ _ d21 (by omega)
  have c22 := cel _ _ _ d22 (by omega)
  have f10 := frz _ _ e10 (by omega)
  have f11 := frz _ _ e11 (by omega)
  have f12 := frz _ _ e12 (by omega)
  have f22 := frz _ _ e22 (by omega)
  have hbw := hbs.trans (hb3.mono hbs.size)
  have hz3 := hb3.size
  clear cel frz d10 d11 d12 d20 d21 d22 e10 e11 e12 e22 hb3 ho3 hbs HO1' H1 H2
  have HF := Lib.hid (show OwnT ((((w3.setCell ⟨w.heap.size + 1 + 1, 2, none⟩ (.slice (some ⟨g', 0, none⟩) bi.length cap')).setCell ⟨w.heap.size + 1, 0, none⟩ (.int .i64 v)).setCell ⟨w.heap.size + 1, 1, none⟩ (.slice (some ⟨g, 0, none⟩) bo.length cap)).setCell ⟨w.heap.size + 1, 2, none⟩ (.slice (some ⟨g', 0, none⟩) bi.length cap')) w.heap.size (.slice (some ⟨g, 0, none⟩) bo.length cap) bo (.slice (some ⟨g', 0, none⟩) bi.length cap') bi from by
    have G1 := only_setCell (only_refl w3 (some (w.heap.size + 1 + 1))) (p := ⟨w.heap.size + 1 + 1, 2, none⟩) rfl (.slice (some ⟨g', 0, none⟩) bi.length cap')
    have G2 := only_setCell (only_refl (w3.setCell ⟨w.heap.size + 1 + 1, 2, none⟩ (.slice (some ⟨g', 0, none⟩) bi.length cap')) (some (w.heap.size + 1))) (p := ⟨w.heap.size + 1, 0, none⟩) rfl (.int .i64 v)
    have G3 := only_setCell (only_setCell G2 (p := ⟨w.heap.size + 1, 1, none⟩) rfl (.slice (some ⟨g, 0, none⟩) bo.length cap)) (p := ⟨w.heap.size + 1, 2, none⟩) rfl (.slice (some ⟨g', 0, none⟩) bi.length cap')
    exact ⟨g, cap, g', cap', rfl, rfl, by omega, (HO1.out.grown1 G1 (fun r e => by cases e; omega)).grown1 G3 (fun r e => by cases e; omega), (HO3.out.grown1 G1 (fun r e => by cases e; omega)).grown1 G3 (fun r e => by cases e; omega)⟩)
  have HB := Lib.hid ((((hbw.setCell (p := ⟨w.heap.size + 1 + 1, 2, none⟩) (by show w.heap.size ≤ w.heap.size + 1 + 1; omega) (.slice (some ⟨g', 0, none⟩) bi.length cap')).setCell (p := ⟨w.heap.size + 1, 0, none⟩) (by show w.heap.size ≤ w.heap.size + 1; omega) (.int .i64 v)).setCell (p := ⟨w.heap.size + 1, 1, none⟩) (by show w.heap.size ≤ w.heap.size + 1; omega) (.slice (some ⟨g, 0, none⟩) bo.length cap)).setCell (p := ⟨w.heap.size + 1, 2, none⟩) (by show w.heap.size ≤ w.heap.size + 1; omega) (.slice (some ⟨g', 0, none⟩) bi.length cap'))
  clear HO1 HO3 hbw
  go_wp2
  exact bodyPost_ret (v := .agg #[.int .i64 v, .slice (some ⟨g, 0, none⟩) bo.length cap, .slice (some ⟨g', 0, none⟩) bi.length cap']) (by simp [results, Try.results64, go_sem, *]) rfl ⟨_, _, rfl, HF.out, HB.out⟩
set_option maxRecDepth 100000 in
set_option maxHeartbeats 1000000 in
theorem eqTrade_same (v : Int) (so si tq ti : Value) (bo bi : List Blk) (w : World) (h : TB w so bo si bi) (k : TB w tq bo ti bi) : Calls Try.prog 66 #[.agg #[.int .i64 v, so, si], .agg #[.int .i64 v, tq, ti]] w (RV (.bool true) w) := by
  have h1 := h.1.slice
  have h2 := h.2.slice
  have k1 := k.1.slice
  have k2 := k.2.slice
  have HC1 := Lib.hid fun W (hb : Below w.heap.size w W) => eqBlockS_same so tq bo W (h.1.below hb (Nat.le_refl _)) (k.1.below hb (Nat.le_refl _))
  have HC2 := Lib.hid fun W (hb : Below w.heap.size w W) => eqBlockS_same si ti bi W (h.2.below hb (Nat.le_refl _)) (k.2.below hb (Nat.le_refl _))
  clear h k
  obtain ⟨a1, c1, rfl⟩ := h1
  obtain ⟨a2, c2, rfl⟩ := h2
  obtain ⟨a3, c3, rfl⟩ := k1
  obtain ⟨a4, c4, rfl⟩ := k2
  have hnv : (v != v) = false := by simp
  go_enter Try.func66, Try.ntmps66
  go_wp2_with fail
  have hB0 : Below w.heap.size w ((w.alloc (.cells #[.int .i64 v, .slice a1 bo.length c1, .slice a2 bi.length c2] 63)).alloc (.cells #[.int .i64 v, .slice a3 bo.length c3, .slice a4 bi.length c4] 63)) := ((Below.refl _ _).alloc (Nat.le_refl _) _).alloc (by simp) _
  have p2 : ((w.alloc (.cells #[.int .i64 v, .slice a1 bo.length c1, .slice a2 bi.length c2] 63)).alloc (.cells #[.int .i64 v, .slice a3 bo.length c3, .slice a4 bi.length c4] 63)).cell? ⟨w.heap.size, 2, none⟩ = some (.slice a2 bi.length c2) := cell_past (new_at 2 rfl) (by simp)
  have q2 : ((w.alloc (.cells #[.int .i64 v, .slice a1 bo.length c1, .slice a2 bi.length c2] 63)).alloc (.cells #[.int .i64 v, .slice a3 bo.length c3, .slice a4 bi.length c4] 63)).cell? ⟨w.heap.size + 1, 2, none⟩ = some (.slice a4 bi.length c4) := by
    have := new_at (w := w.alloc (.cells #[.int .i64 v, .slice a1 bo.length c1, .slice a2 bi.length c2] 63)) (cs := #[.int .i64 v, .slice a3 bo.length c3, .slice a4 bi.length c4]) (T := 63) 2 rfl
    rw [World.size_alloc] at this
    exact this
  refine (HC1.out _ hB0).mono ?_
  rintro e w1 ⟨rfl, hb1⟩
  have r2 := (hb1.cell (p := ⟨w.heap.size, 2, none⟩) (by simp; omega)).trans p2
  have s2 := (hb1.cell (p := ⟨w.heap.size + 1, 2, none⟩) (by simp)).trans q2
  have hbw := hB0.trans (hb1.mono hB0.size)
  clear hb1 p2 q2 hB0
  go_wp2_with fail
  refine (HC2.out _ hbw).mono ?_
  rintro e w2 ⟨rfl, hb2⟩
  go_wp2
  go_ret
  exact RV_of rfl (hbw.trans (hb2.mono hbw.size))
theorem ResR.narrow {w : World} {lo hi : Nat} {s : Value} {bs : List Blk} (h : ResR w lo hi s bs) : ResR w lo (min hi w.heap.size) s bs := by
  rcases h with h | ⟨g, cap, rfl, h1, h2, ho⟩
  · exact .inl h
  · exact .inr ⟨g, cap, rfl, h1, by have := ho.lt; omega, ho⟩
set_option maxRecDepth 100000 in
set_option maxHeartbeats 1000000 in
theorem markTrade_any (lo hi : Nat) (v : Int) (so : Value) (bo : List Blk) (si : Value) (bi : List Blk) (k : Int) (w : World) (h : ResT w lo hi so bo si bi) (hl : bo.length + bi.length ≤ 1100000) (h0 : 0 ≤ k) (h1 : k ≤ 4000000) :
    Calls Try.prog 69 #[.agg #[.int .i64 v, so, si], .int .i64 k] w (fun e w' => e = .returned (.int .i64 (k + 3 * ((bo.length + bi.length : Nat) : Int))) ∧ OnlyIn lo hi w w' ∧ ResT w' lo hi so (markL k bo.length) si (markL (k + 3 * (bo.length : Int)) bi.length)) := by
  obtain ⟨ls1, ls2⟩ := h.slice
  obtain ⟨a, b, c, d, ha, hb, hc, hd, hx, r1, r2⟩ := h
  have HC1 := Lib.hid (markR a (min b w.heap.size) so bo k (w.alloc (.cells #[.int .i64 v, so, si] 63)) (r1.narrow.below ((Below.refl _ _).alloc (Nat.le_refl _) _) (Nat.le_refl _)) (by omega) h0 (by omega))
  have hr2 := r2.narrow.below ((Below.refl w.heap.size w).alloc (Nat.le_refl _) (.cells #[.int .i64 v, so, si] 63)) (Nat.le_refl _)
  have R2 := Lib.hid hr2
  clear hr2 r2 r1
  obtain ⟨m, hm⟩ : ∃ m, m = k + 3 * (bo.length : Int) := ⟨_, rfl⟩
  have HC2 := Lib.hid fun (W : World) (hW : ResR W c (min d w.heap.size) si bi) => markR c (min d w.heap.size) si bi m W hW (by omega) (by omega) (by omega)
  rw [show k + 3 * ((bo.length + bi.length : Nat) : Int) = m + 3 * (bi.length : Int) by omega]
  rw [← hm] at HC1 ⊢
  have hm0 : 0 ≤ m := by omega
  obtain ⟨n, hn⟩ : ∃ n, n = m + 3 * (bi.length : Int) := ⟨_, rfl⟩
  rw [← hn] at HC2 ⊢
  have hn0 : 0 ≤ n := by omega
  clear hm hn
  obtain ⟨a1, c1, rfl⟩ := ls1
  obtain ⟨a2, c2, rfl⟩ := ls2
  go_enter Try.func69, Try.ntmps69
  go_wp2_with fail
  refine HC1.out.mono ?_
  rintro e w1 ⟨rfl, ⟨row, hg, hrow⟩, hr1⟩
  have x2 : w1.cell? ⟨w.heap.size, 2, none⟩ = some (.slice a2 bi.length c2) := hg.cell (new_at 2 rfl) (fun e => by have := hrow _ e.symm; simp at this; omega)
  have R1 := Lib.hid hr1
  have K2 := Lib.hid (R2.out.kept hg (fun r e => by have := hrow r e; omega))
  have O1 := Lib.hid ((OnlyIn.of_below (lo := w.heap.size) ((Below.refl w.heap.size w).alloc (Nat.le_refl _) (.cells #[.int .i64 v, .slice a1 bo.length c1, .slice a2 bi.length c2] 63))))
  have hg1 := Lib.hid hg
  have hs1 := hg.size
  clear hg hr1 R2
  go_wp2_with fail
  refine (HC2.out _ K2.out).mono ?_
  rintro e w2 ⟨rfl, ⟨row2, hg2, hrow2⟩, hr2⟩
  have R2 := Lib.hid hr2
  have G2 := Lib.hid hg2
  clear hg2 hr2
  go_wp2
  go_ret
  refine ⟨rfl, ?_, ⟨a, min b w.heap.size, c, min d w.heap.size, ha, by omega, hc, by omega, by omega, ?_, R2.out⟩⟩
  · have oA : OnlyIn lo hi w (w.alloc (.cells #[.int .i64 v, .slice a1 bo.length c1, .slice a2 bi.length c2] 63)) := OnlyIn.of_grown (World.grownBy_alloc _ _ none) (by simp)
    exact (oA.trans (OnlyIn.of_grown hg1.out (fun r e => by have := hrow r e; omega))).trans (OnlyIn.of_grown G2.out (fun r e => by have := hrow2 r e; omega))
  · have := R1.out.kept G2.out (fun r e => by have := hrow2 r e; omega)
    exact this
set_option maxRecDepth 100000 in
set_option maxHeartbeats 1000000 in
theorem heldTrade_any (lo hi : Nat) (v : Int) (so : Value) (no : Nat) (si : Value) (ni : Nat) (k : Int) (w : World) (h : ResT w lo hi so (markL k no) si (markL (k + 3 * (no : Int)) ni)) (hl : no + ni ≤ 1100000) (h0 : 0 ≤ k) (h1 : k ≤ 4000000) :
    Calls Try.prog 72 #[.agg #[.int .i64 v, so, si], .int .i64 k] w (RV (.int .i64 (k + 3 * ((no + ni : Nat) : Int))) w) := by
  obtain ⟨ls1, ls2⟩ := h.slice
  obtain ⟨a, b, c, d, ha, hb, hc, hd, hx, r1, r2⟩ := h
  have HC1 := Lib.hid (heldR a b so no k (w.alloc (.cells #[.int .i64 v, so, si] 63)) (r1.below ((Below.refl _ _).alloc (Nat.le_refl _) _) (Nat.le_refl _)) (by omega) h0 (by omega))
  have hr2 := r2.below ((Below.refl w.heap.size w).alloc (Nat.le_refl _) (.cells #[.int .i64 v, so, si] 63)) (Nat.le_refl _)
  obtain ⟨m, hm⟩ : ∃ m, m = k + 3 * (no : Int) := ⟨_, rfl⟩
  rw [← hm] at hr2 HC1
  have HC2 := Lib.hid (heldR c d si ni m _ hr2 (by omega) (by omega) (by omega))
  rw [show k + 3 * ((no + ni : Nat) : Int) = m + 3 * (ni : Int) by omega]
  have hm0 : 0 ≤ m := by omega
  obtain ⟨n, hn⟩ : ∃ n, n = m + 3 * (ni : Int) := ⟨_, rfl⟩
  rw [← hn] at HC2 ⊢
  have hn0 : 0 ≤ n := by omega
  clear hm hn hr2 r1 r2
  rw [markL_length] at ls1 ls2
  obtain ⟨a1, c1, rfl⟩ := ls1
  obtain ⟨a2, c2, rfl⟩ := ls2
  go_enter Try.func72, Try.ntmps72
  go_wp2_with fail
  refine HC1.out.mono ?_
  rintro e w1 ⟨rfl, rfl⟩
  go_wp2_with fail
  refine HC2.out.mono ?_
  rintro e w1 ⟨rfl, rfl⟩
  go_wp2
  go_ret
  exact RV_of rfl ((Below.refl _ _).alloc (Nat.le_refl _) _)
end Go.Proofs.Ytacfelgilphppaa

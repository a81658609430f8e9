
/- How the laws' arguments are read. -/
import Derived.Test.YtlchcnngikgjjaaLawIsSys
import Derived.Test.YtlchcnngikgjjaaRows
import Derived.ProofKit
import Derived.OpenShut
import Derived.Deep.Slices
import Derived.Lib.SmallJoins
import Derived.ChangeOld
namespace Go.Proofs.Ytlchcnngikgjjaa
open Go.ChangeShapes Go.WideShapes Go.ChangeAt Go.RowKit Go.Deep Go.Joins
theorem ownKnobs : ownKnob Try.prog.godebug = none := by kernel_rfl
section
variable {H : Type} {enc : TypeId × Value → H} {W : World} {base : Nat} {held : Bool}
theorem arrCells : Try.prog.cellsOf 60 = 3 := by kernel_rfl
set_option maxRecDepth 100000 in
theorem open_arr3 {fuel : Nat} {cs : List Value} {x : DataW H × List MemPlace} (h : DataW.trod enc Try.prog W base (fun _ => true) held fuel 60 cs = some x) :
    ∃ a b c : Int, cs = [.int .i64 a, .int .i64 b, .int .i64 c] ∧ (Lit.int .i64 a).wf = true ∧ (Lit.int .i64 b).wf = true ∧ (Lit.int .i64 c).wf = true := by
  obtain ⟨xs, m, rfl, rfl, hl, hx, hat⟩ := DataW.trod_array Try.underlying60 h
  rw [arrCells] at hl
  match cs, hl with
  | [c0, c1, c2], _ =>
    match xs, hx with
    | [x0, x1, x2], _ =>
      have h0 := hat 0 (by omega)
      have h1 := hat 1 (by omega)
      have h2 := hat 2 (by omega)
      rw [int64Cells] at h0 h1 h2
      simp at h0 h1 h2
      obtain ⟨a, ha, _, wa⟩ := DataW.trod_int Try.underlying2 h0
      obtain ⟨b, hb, _, wb⟩ := DataW.trod_int Try.underlying2 h1
      obtain ⟨c, hc, _, wc⟩ := DataW.trod_int Try.underlying2 h2
      simp at ha hb hc
      exact ⟨a, b, c, by rw [ha, hb, hc], wa, wb, wc⟩
theorem add_at (b off i : Nat) : (⟨b, off, none⟩ : Addr).add i = ⟨b, off + i, none⟩ := by
  unfold Addr.add
  split
  · subst_vars; rfl
  · rfl
set_option maxRecDepth 100000 in
theorem open_arrs {fuel : Nat} {s : Value} {x : DataW H × List MemPlace} (h : DataW.trod enc Try.prog W base (fun _ => true) held fuel 38 [s] = some x) : ∃ bs, InB W s bs := by
  rcases open_slice Try.underlying38 h with ⟨hcs, _⟩ | ⟨a, len, cap, m, n, D, Pl, hcs, hb, hl, hm, hmm, hx, hi⟩
  · simp at hcs
    exact ⟨[], by simp, by simp, .inl ⟨none, 0, hcs, rfl⟩⟩
  · simp at hcs
    subst hcs
    simp at hmm
    subst hmm
    have hm' : m ≤ 9223372036854775807 := by unfold maxLen at hm; exact hm
    by_cases h0 : len = 0
    · subst h0
      exact ⟨[], by simp, by simp, .inl ⟨_, _, rfl, rfl⟩⟩
    · have cell : ∀ i, i < m → ∃ y : Blk, WFB y ∧ ∀ j (v : Value), [Value.int .i64 y.a, Value.int .i64 y.b, Value.int .i64 y.c][j]? = some v → W.cell? (a.add (i * 3 + j)) = some v := fun i him => by
        obtain ⟨cs', hc, ht⟩ := hi i him
        obtain ⟨p, q, r, rfl, wp, wq, wr⟩ := open_arr3 ht
        rw [arrCells] at hc
        obtain ⟨_, _, hat⟩ := World.cells?_some hc
        refine ⟨⟨p, q, r⟩, ⟨wp, wq, wr⟩, fun j v hv => ?_⟩
        have hj : j < 3 := by
          have := (List.getElem?_eq_some_iff.1 hv).1
          simpa using this
        rw [← Go.Deep.add_add, hat j hj]
        exact hv
      obtain ⟨F, hF⟩ := choose_lt (α := Blk) cell
      obtain ⟨b, off, spot⟩ := a
      have hc0 := (hF 0 (by omega)).2 0 _ rfl
      have hspot : spot = none := by simpa [Addr.add] using World.cell?_spot hc0
      subst hspot
      refine ⟨(List.range len).map F, ?_, by simp; omega, .inr ⟨b, off, m, by simp, ?_, ?_⟩⟩
      · intro y hy
        obtain ⟨i, hi', rfl⟩ := List.mem_map.1 hy
        exact (hF i (by have := List.mem_range.1 hi'; omega)).1
      · exact block_lt_of_cell hc0
      · intro k hk
        simp at hk
        have e : ((List.range len).map F)[k]?.getD default = F k := by simp [hk]
        rw [e]
        have := (hF k (by omega)).2
        refine ⟨?_, ?_, ?_⟩
        · have h0 := this 0 _ rfl
          rw [add_at] at h0
          exact h0
        · have h1 := this 1 _ rfl
          rw [add_at, ← Nat.add_assoc] at h1
          exact h1
        · have h2 := this 2 _ rfl
          rw [add_at, ← Nat.add_assoc] at h2
          exact h2
theorem isSys : ∃ f0 f1 : Field, Try.prog.underlying 47 = some (.struct #[f0, f1]) ∧ f0.type = 2 ∧ f1.type = 38 ∧ oneCellFields Try.prog #[f0, f1] = true :=
  ⟨_, _, Try.underlying47, rfl, rfl, by kernel_rfl⟩
theorem sysCells : Try.prog.cellsOf 47 = 2 := by kernel_rfl
set_option maxRecDepth 100000 in
theorem open_system {r : Reach} {b0 : Nat} {v : Value} {d : DataW H} {p : List MemPlace} (hv : Value.okWide Try.prog W r b0 47 v) (h : DataW.Trod enc Try.prog W base (fun _ => true) held 47 v d p) :
    ∃ (n : Int) (s : Value) (bs : List Blk), v = .agg #[.int .i64 n, s] ∧ WF n ∧ InB W s bs := by
  obtain ⟨f0, f1, hu, e0, e1, hone⟩ := isSys
  obtain ⟨v0, v1, y0, y1, n, rfl, _, _, h0, h1⟩ := open_agg2 hu hone sysCells hv h
  rw [e0] at h0
  rw [e1] at h1
  obtain ⟨k, hk, _, wk⟩ := DataW.trod_int Try.underlying2 h0
  simp at hk
  subst hk
  obtain ⟨bs, hbs⟩ := open_arrs h1
  exact ⟨k, v1, bs, rfl, wk, hbs⟩
end
end Go.Proofs.Ytlchcnngikgjjaa

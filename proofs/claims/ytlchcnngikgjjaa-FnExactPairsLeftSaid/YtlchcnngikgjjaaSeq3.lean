
/- The program's ThirdPoint answers as the plain function thirdV. -/
import Derived.Test.YtlchcnngikgjjaaSeq2
namespace Go.Proofs.Ytlchcnngikgjjaa
open Go.RowKit Go.Maps Go.Shelf
theorem Boxed.below {W W' : World} {B n : Nat} {t : TypeId} {v : Value} (h : Boxed W B t v) (hb : Below n W W') (hl : B < n) : Boxed W' B t v := (hb.block B hl).trans h
/-- The world behind the five boxes. -/
def w5 (v : Int) (s : Value) (a b : Int) (w : World) : World := ((((w.alloc (.cells #[.int .i64 v, s] 26)).alloc (.cells #[.int .i64 a] 2)).alloc (.cells #[.int .i64 b] 2)).alloc (.cells #[.int .i64 0] 2)).alloc (.cells #[.int .i64 0] 2)
theorem w5_size (v : Int) (s : Value) (a b : Int) (w : World) : (w5 v s a b w).heap.size = w.heap.size + 1 + 1 + 1 + 1 + 1 := by simp [w5]
theorem w5_below (v : Int) (s : Value) (a b : Int) (w : World) : Below w.heap.size w (w5 v s a b w) :=
  (((((Below.refl _ _).alloc (Nat.le_refl _) _).alloc (by simp) _).alloc (by simp; omega) _).alloc (by simp; omega) _).alloc (by simp; omega) _
theorem boxes5 {v : Int} {s : Value} {a b : Int} {w w1 : World} (h : Below (w5 v s a b w).heap.size (w5 v s a b w) w1) :
    w1.cell? ⟨w.heap.size, 0, none⟩ = some (.int .i64 v) ∧ w1.cell? ⟨w.heap.size, 1, none⟩ = some s ∧ Boxed w1 (w.heap.size + 1) 2 (.int .i64 a) ∧ Boxed w1 (w.heap.size + 1 + 1) 2 (.int .i64 b) ∧
    Boxed w1 (w.heap.size + 1 + 1 + 1) 2 (.int .i64 0) ∧ Boxed w1 (w.heap.size + 1 + 1 + 1 + 1) 2 (.int .i64 0) ∧ w.heap.size + 1 + 1 + 1 + 1 < w1.heap.size ∧ Below w.heap.size w w1 := by
  have hs := h.size
  have hz := w5_size v s a b w
  have past : ∀ j u, (w.alloc (.cells #[.int .i64 v, s] 26)).cell? ⟨w.heap.size, j, none⟩ = some u → (w5 v s a b w).cell? ⟨w.heap.size, j, none⟩ = some u := fun j u e =>
    cell_past (cell_past (cell_past (cell_past e (by simp)) (by simp; omega)) (by simp; omega)) (by simp; omega)
  refine ⟨(h.cell (p := ⟨w.heap.size, 0, none⟩) (by show w.heap.size < _; omega)).trans (past 0 _ (new_at 0 rfl)), (h.cell (p := ⟨w.heap.size, 1, none⟩) (by show w.heap.size < _; omega)).trans (past 1 _ (new_at 1 rfl)), ?_, ?_, ?_, ?_, by omega, (w5_below v s a b w).trans (h.mono (by omega))⟩
  · refine Boxed.below ?_ h (by omega)
    have := (((Boxed.new (w.alloc (.cells #[.int .i64 v, s] 26)) 2 (.int .i64 a)).alloc (.cells #[.int .i64 b] 2)).alloc (.cells #[.int .i64 0] 2)).alloc (.cells #[.int .i64 0] 2)
    simpa [w5] using this
  · refine Boxed.below ?_ h (by omega)
    have := ((Boxed.new ((w.alloc (.cells #[.int .i64 v, s] 26)).alloc (.cells #[.int .i64 a] 2)) 2 (.int .i64 b)).alloc (.cells #[.int .i64 0] 2)).alloc (.cells #[.int .i64 0] 2)
    simpa [w5] using this
  · refine Boxed.below ?_ h (by omega)
    have := (Boxed.new (((w.alloc (.cells #[.int .i64 v, s] 26)).alloc (.cells #[.int .i64 a] 2)).alloc (.cells #[.int .i64 b] 2)) 2 (.int .i64 0)).alloc (.cells #[.int .i64 0] 2)
    simpa [w5] using this
  · refine Boxed.below ?_ h (by omega)
    have := Boxed.new ((((w.alloc (.cells #[.int .i64 v, s] 26)).alloc (.cells #[.int .i64 a] 2)).alloc (.cells #[.int .i64 b] 2)).alloc (.cells #[.int .i64 0] 2)) 2 (.int .i64 0)
    simpa [w5] using this
end Go.Proofs.Ytlchcnngikgjjaa

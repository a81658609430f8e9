/- The program's ThirdPoint answers as the plain function thirdV. -/
import Derived.Test.YtomcjifklggcnaaSeq2
namespace Go.Proofs.Ytomcjifklggcnaa
open Go.RowKit Go.Maps Go.Shelf
theorem Boxed.below {W W' : World} {B n : Nat} {t : TypeId} {v : Value} (h : Boxed W B t v) (hb : Below n W W') (hl : B < n) : Boxed W' B t v := (hb.block B hl).trans h
/-- The world behind the five boxes. -/
def w5 (v : Int) (s : Value) (a b : Int) (w : World) : World := ((((w.alloc (.cells #[.int .i64 v, s] 29)).alloc (.cells #[.int .i64 a] 2)).alloc (.cells #[.int .i64 b] 2)).alloc (.cells #[.int .i64 0] 2)).alloc (.cells #[.int .i64 0] 2)
theorem w5_size (v : Int) (s : Value) (a b : Int) (w : World) : (w5 v s a b w).heap.size = w.heap.size + 1 + 1 + 1 + 1 + 1 := by simp [w5]
theorem w5_below (v : Int) (s : Value) (a b : Int) (w : World) : Below w.heap.size w (w5 v s a b w) :=
  (((((Below.refl _ _).alloc (Nat.le_refl _) _).alloc (by simp) _).alloc (by simp; omega) _).alloc (by simp; omega) _).alloc (by simp; omega) _
theorem boxes5 {v : Int} {s : Value} {a b : Int} {w w1 : World} (h : Below (w5 v s a b w).heap.size (w5 v s a b w) w1) :
    w1.cell? ⟨w.heap.size, 0, none⟩ = some (.int .i64 v) ∧ w1.cell? ⟨w.heap.size, 1, none⟩ = some s ∧ Boxed w1 (w.heap.size + 1) 2 (.int .i64 a) ∧ Boxed w1 (w.heap.size + 1 + 1) 2 (.int .i64 b) ∧
    Boxed w1 (w.heap.size + 1 + 1 + 1) 2 (.int .i64 0) ∧ Boxed w1 (w.heap.size + 1 + 1 + 1 + 1) 2 (.int .i64 0) ∧ w.heap.size + 1 + 1 + 1 + 1 < w1.heap.size ∧ Below w.heap.size w w1 := by
  have hs := h.size
  have hz := w5_size v s a b w
  have past : ∀ j u, (w.alloc (.cells #[.int .i64 v, s] 29)).cell? ⟨w.heap.size, j, none⟩ = some u → (w5 v s a b w).cell? ⟨w.heap.size, j, none⟩ = some u := fun j u e =>
    cell_past (cell_past (cell_past (cell_past e (by simp)) (by simp; omega)) (by simp; omega)) (by simp; omega)
  refine ⟨(h.cell (p := ⟨w.heap.size, 0, none⟩) (by show w.heap.size < _; omega)).trans (past 0 _ (new_at 0 rfl)), (h.cell (p := ⟨w.heap.size, 1, none⟩) (by show w.heap.size < _; omega)).trans (past 1 _ (new_at 1 rfl)), ?_, ?_, ?_, ?_, by omega, (w5_below v s a b w).trans (h.mono (by omega))⟩
  · refine Boxed.below ?_ h (by omega)
    have := (((Boxed.new (w.alloc (.cells #[.int .i64 v, s] 29)) 2 (.int .i64 a)).alloc (.cells #[.int .i64 b] 2)).alloc (.cells #[.int .i64 0] 2)).alloc (.cells #[.int .i64 0] 2)
    simpa [w5] using this
  · refine Boxed.below ?_ h (by omega)
    have := ((Boxed.new ((w.alloc (.cells #[.int .i64 v, s] 29)).alloc (.cells #[.int .i64 a] 2)) 2 (.int .i64 b)).alloc (.cells #[.int .i64 0] 2)).alloc (.cells #[.int .i64 0] 2)
    simpa [w5] using this
  · refine Boxed.below ?_ h (by omega)
    have := (Boxed.new (((w.alloc (.cells #[.int .i64 v, s] 29)).alloc (.cells #[.int .i64 a] 2)).alloc (.cells #[.int .i64 b] 2)) 2 (.int .i64 0)).alloc (.cells #[.int .i64 0] 2)
    simpa [w5] using this
  · refine Boxed.below ?_ h (by omega)
    have := Boxed.new ((((w.alloc (.cells #[.int .i64 v, s] 29)).alloc (.cells #[.int .i64 a] 2)).alloc (.cells #[.int .i64 b] 2)).alloc (.cells #[.int .i64 0] 2)) 2 (.int .i64 0)
    simpa [w5] using this
set_option maxRecDepth 100000 in
theorem ThirdPoint_no (v : Int) (s : Value) (bs : List Blk) (a b : Int) (w : World) (h : SB w s bs) (hn : (isSysImpl v bs && (inP v a && inP v b && !(a == b))) = false) :
    Calls Try.prog 33 #[.agg #[.int .i64 v, s], .int .i64 a, .int .i64 b] w (RV (thirdV v bs a b) w) := by
  have hs := h.slice
  have HI := Lib.hid fun W (hb : Below w.heap.size w W) => IsSystem_any v s bs W (h.below hb (Nat.le_refl _))
  clear h
  obtain ⟨a0, c0, rfl⟩ := hs
  have hval : thirdV v bs a b = if isSysImpl v bs then (if inP v a && inP v b then (if a = b then .tuple #[.int .i64 0, .int .i64 2] else
      (match bs.find? (bothB a b) with | some x => .tuple #[.int .i64 (thirdOf x a b), .int .i64 0] | none => .tuple #[.int .i64 0, .int .i64 4]))
      else .tuple #[.int .i64 0, .int .i64 2]) else .tuple #[.int .i64 0, .int .i64 1] := rfl
  cases hi : isSysImpl v bs with
  | false =>
    rw [hi] at HI hval
    rw [if_neg (by decide)] at hval
    rw [hval]
    clear hval hn hi
    go_enter Try.func33, Try.ntmps33
    go_wp2_with (go_at_call 20; refine (HI.out (w5 v _ a b w) (w5_below _ _ _ _ _)).mono ?_; rintro e w1 ⟨rfl, hb1⟩; obtain ⟨q0, q1, b1, b2, b3, b4, hsz, hbw⟩ := boxes5 hb1; have q2 := b1.cell; have q3 := b2.cell; have q6 := b3.cell; have q7 := b4.cell; have f6 := b3.frozen; have f7 := b4.frozen)
    have c6 := ((b3.set (.int .i64 0)).other (B' := w.heap.size + 1 + 1 + 1 + 1) (by omega) (.int .i64 1)).cell
    have c7 := ((b4.other (B' := w.heap.size + 1 + 1 + 1) (by omega) (.int .i64 0)).set (.int .i64 1)).cell
    refine bodyPost_ret (v := .tuple #[.int .i64 0, .int .i64 1]) (by simp [results, Try.f33, go_sem, c6, c7]) rfl ?_
    exact RV_of rfl ((hbw.setCell (p := ⟨w.heap.size + 1 + 1 + 1, 0, none⟩) (by simp; omega) _).setCell (p := ⟨w.heap.size + 1 + 1 + 1 + 1, 0, none⟩) (by simp; omega) _)
  | true =>
    rw [hi] at HI hval hn
    rw [if_pos rfl] at hval
    have HPA := Lib.hid fun W => isPointI_any v a W
    have HPB := Lib.hid fun W => isPointI_any v b W
    cases ha : inP v a with
    | false =>
      rw [ha] at HPA hval
      rw [if_neg (by simp)] at hval
      rw [hval]
      clear hval hn hi ha
      go_enter Try.func33, Try.ntmps33
      go_wp2_with (first | (go_at_call 20; refine (HI.out (w5 v _ a b w) (w5_below _ _ _ _ _)).mono ?_; rintro e w1 ⟨rfl, hb1⟩; obtain ⟨q0, q1, b1, b2, b3, b4, hsz, hbw⟩ := boxes5 hb1; have q2 := b1.cell; have q3 := b2.cell; have q6 := b3.cell; have q7 := b4.cell; have f6 := b3.frozen; have f7 := b4.frozen) | (go_at_call 78; refine (HPA.out _).mono ?_; rintro e w2 ⟨rfl, rfl⟩))
      have c6 := ((b3.set (.int .i64 0)).other (B' := w.heap.size + 1 + 1 + 1 + 1) (by omega) (.int .i64 2)).cell
      have c7 := ((b4.other (B' := w.heap.size + 1 + 1 + 1) (by omega) (.int .i64 0)).set (.int .i64 2)).cell
      refine bodyPost_ret (v := .tuple #[.int .i64 0, .int .i64 2]) (by simp [results, Try.f33, go_sem, c6, c7]) rfl ?_
      exact RV_of rfl ((hbw.setCell (p := ⟨w.heap.size + 1 + 1 + 1, 0, none⟩) (by simp; omega) _).setCell (p := ⟨w.heap.size + 1 + 1 + 1 + 1, 0, none⟩) (by simp; omega) _)
    | true =>
      cases hb : inP v b with
      | false =>
        rw [ha] at HPA hval
        rw [hb] at HPB hval
        rw [if_neg (by simp)] at hval
        rw [hval]
        clear hval hn hi ha hb
        go_enter Try.func33, Try.ntmps33
        go_wp2_with (first | (go_at_call 20; refine (HI.out (w5 v _ a b w) (w5_below _ _ _ _ _)).mono ?_; rintro e w1 ⟨rfl, hb1⟩; obtain ⟨q0, q1, b1, b2, b3, b4, hsz, hbw⟩ := boxes5 hb1; have q2 := b1.cell; have q3 := b2.cell; have q6 := b3.cell; have q7 := b4.cell; have f6 := b3.frozen; have f7 := b4.frozen) | (go_at_call 78; refine (HPA.out _).mono ?_; clear HPA; rintro e w2 ⟨rfl, rfl⟩) | (go_at_call 78; refine (HPB.out _).mono ?_; rintro e w2 ⟨rfl, rfl⟩))
        have c6 := ((b3.set (.int .i64 0)).other (B' := w.heap.size + 1 + 1 + 1 + 1) (by omega) (.int .i64 2)).cell
        have c7 := ((b4.other (B' := w.heap.size + 1 + 1 + 1) (by omega) (.int .i64 0)).set (.int .i64 2)).cell
        refine bodyPost_ret (v := .tuple #[.int .i64 0, .int .i64 2]) (by simp [results, Try.f33, go_sem, c6, c7]) rfl ?_
        exact RV_of rfl ((hbw.setCell (p := ⟨w.heap.size + 1 + 1 + 1, 0, none⟩) (by simp; omega) _).setCell (p := ⟨w.heap.size + 1 + 1 + 1 + 1, 0, none⟩) (by simp; omega) _)
      | true =>
        rw [ha, hb] at hn
        rw [ha] at HPA hval
        rw [hb] at HPB hval
        rw [if_pos (by decide)] at hval
        have hab : a = b := by simpa using hn
        subst hab
        rw [if_pos rfl] at hval
        rw [hval]
        clear hval hn hi ha hb HPB
        go_enter Try.func33, Try.ntmps33
        go_wp2_with (first | (go_at_call 20; refine (HI.out (w5 v _ a a w) (w5_below _ _ _ _ _)).mono ?_; rintro e w1 ⟨rfl, hb1⟩; obtain ⟨q0, q1, b1, b2, b3, b4, hsz, hbw⟩ := boxes5 hb1; have q2 := b1.cell; have q3 := b2.cell; have q6 := b3.cell; have q7 := b4.cell; have f6 := b3.frozen; have f7 := b4.frozen) | (go_at_call 78; refine (HPA.out _).mono ?_; rintro e w2 ⟨rfl, rfl⟩))
        have c6 := ((b3.set (.int .i64 0)).other (B' := w.heap.size + 1 + 1 + 1 + 1) (by omega) (.int .i64 2)).cell
        have c7 := ((b4.other (B' := w.heap.size + 1 + 1 + 1) (by omega) (.int .i64 0)).set (.int .i64 2)).cell
        refine bodyPost_ret (v := .tuple #[.int .i64 0, .int .i64 2]) (by simp [results, Try.f33, go_sem, c6, c7]) rfl ?_
        exact RV_of rfl ((hbw.setCell (p := ⟨w.heap.size + 1 + 1 + 1, 0, none⟩) (by simp; omega) _).setCell (p := ⟨w.heap.size + 1 + 1 + 1 + 1, 0, none⟩) (by simp; omega) _)
end Go.Proofs.Ytomcjifklggcnaa

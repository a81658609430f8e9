
/- The program's BlocksAt: the indices of the blocks through a point. -/
import Derived.Test.YtlchcnngikgjjaaSeq4
import Derived.Maps.AppendAt
namespace Go.Proofs.Ytlchcnngikgjjaa
open Go.RowKit Go.Maps Go.Shelf
attribute [local go_sem] Oper.semAt_some
theorem infoInt64 : (Try.prog.info? 2).map (fun i => (i.zero, i.size, i.bytes)) = some (some (.int .i64 0), 1, 8) := by kernel_rfl
def idxs (pre : List (Nat × Blk)) : List Value := pre.map fun q => .int .i64 (q.1 : Int)
/-- The value owns a row of these integers, beyond base; it is nil just where there is none. -/
def OwnI (W : World) (base : Nat) (u : Value) (zs : List Value) : Prop := W.ownsRow base 2 1 u zs.length zs ∧ (u = .slice none 0 0 ↔ zs = [])
/-- Returns a fresh slice of integers and a code. -/
def RInts (zs : List Value) (κ : Int) (w : World) (e : Ending) (w' : World) : Prop := ∃ u, e = .returned (.tuple #[u, .int .i64 κ]) ∧ OwnI w' w.heap.size u zs ∧ Below w.heap.size w w'
theorem ownsRow_base {W : World} {base base' : Nat} {e : TypeId} {size : Nat} {v : Value} {k : Nat} {xs : List Value} (h : W.ownsRow base e size v k xs) (hb : base' ≤ base) : W.ownsRow base' e size v k xs := by
  obtain ⟨h1, h2⟩ := h
  refine ⟨h1, ?_⟩
  rcases h2 with h2 | ⟨g, cap, cur, e1, e2, e3⟩
  · exact .inl h2
  · exact .inr ⟨g, cap, cur, e1, by omega, e3⟩
theorem lt_new {w w1 : World} {cs : Array Value} {T : TypeId} (h : Below (w.alloc (.cells cs T)).heap.size (w.alloc (.cells cs T)) w1) : w.heap.size < w1.heap.size := by
  have := h.size
  simp at this
  omega
theorem below_new {w w1 : World} {cs : Array Value} {T : TypeId} (h : Below (w.alloc (.cells cs T)).heap.size (w.alloc (.cells cs T)) w1) : Below w.heap.size w w1 :=
  ((Below.refl _ _).alloc (Nat.le_refl _) _).trans (h.mono (by simp))
theorem appended2 {W w1 : World} {n n₁ B Bp : Nat} {t e : TypeId} {size : Nat} {v v' : Value} {k m : Nat} {xs ys : List Value} {tmp : Obj}
    (hv : Boxed W B t v) (hte : t ≠ e) (hrow : W.ownsRow n₁ e size v k xs) (hn : n ≤ W.heap.size) (hB : n ≤ B) (hnn : n ≤ n₁) (hBp : Bp < n₁) (hne : Bp ≠ B)
    (hown' : w1.ownsRow n₁ e size v' m ys) (hgrow : (W.alloc tmp).grownBy w1 v.ownBlock) :
    Boxed w1 B t v ∧ Boxed (w1.setCell ⟨B, 0, none⟩ v') B t v' ∧ (w1.setCell ⟨B, 0, none⟩ v').ownsRow n₁ e size v' m ys ∧ KeepsOthers W (w1.setCell ⟨B, 0, none⟩ v') ∧ KpB n Bp W (w1.setCell ⟨B, 0, none⟩ v') := by
  have hv1 : Boxed w1 B t v := (hv.alloc tmp).kept hgrow (hv.not_row hte hrow)
  have hge : ∀ j, v.ownBlock = some j → n₁ ≤ j := fun j ej => by
    rcases hrow.2 with ⟨rfl, _⟩ | ⟨g, cap, cur, rfl, hb, _, _⟩
    · simp [Value.ownBlock] at ej
    · obtain rfl : g = j := by simpa [Value.ownBlock] using ej
      exact hb
  refine ⟨hv1, hv1.set v', hown'.kept (grownBy_setCell' w1 B v') (.inr (hv1.not_row hte hown').symm), ?_, ?_, ?_⟩
  · refine ((KeepsOthers.alloc W tmp).trans (KeepsOthers.of_grownBy hgrow fun j o ej hj => ?_)).trans (KeepsOthers.setCell _ _ _)
    rcases (hrow.alloc tmp).2 with ⟨rfl, _⟩ | ⟨g, cap, cur, rfl, _, hgb, _⟩
    · simp [Value.ownBlock] at ej
    · obtain rfl : g = j := by simpa [Value.ownBlock] using ej
      rw [hgb] at hj; cases hj; rfl
  · exact (((Below.refl n W).alloc hn tmp).grown hgrow (by simp; omega) fun j ej => Nat.le_trans hnn (hge j ej)).setCell (p := ⟨B, 0, none⟩) hB v'
  · intro u hu
    have hlt : Bp < W.heap.size := by obtain ⟨ob, ho, _⟩ := cells_of_cell hu; exact (Array.getElem?_eq_some_iff.1 ho).1
    have h1 := cell_past (ob := tmp) hu hlt
    have h2 : w1.cell? ⟨Bp, 0, none⟩ = some u := (World.cell?_of_block (hgrow.block Bp (by simp; omega) (fun e' => by have := hge Bp e'.symm; omega))).trans h1
    exact (World.cell?_of_block ((grownBy_setCell' w1 B v').block Bp (Nat.lt_of_lt_of_le (by simp; omega) hgrow.size) (fun e' => hne (by cases e'; rfl)))).trans h2
end Go.Proofs.Ytlchcnngikgjjaa

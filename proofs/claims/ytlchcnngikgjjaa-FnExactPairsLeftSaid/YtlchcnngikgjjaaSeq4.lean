
/- The program's ThirdPoint where it searches. -/
import Derived.Test.YtlchcnngikgjjaaSeq3
namespace Go.Proofs.Ytlchcnngikgjjaa
open Go.RowKit Go.Maps Go.Shelf
attribute [local go_sem] Oper.semAt_some
/-- A block in a box. -/
def B3 (W : World) (B : Nat) (x : Blk) : Prop := W.heap[B]? = some (.cells #[.int .i64 x.a, .int .i64 x.b, .int .i64 x.c] 62 (0, 0))
theorem B3.lt {W : World} {B : Nat} {x : Blk} (h : B3 W B x) : B < W.heap.size := (Array.getElem?_eq_some_iff.1 h).1
theorem B3.cells {W : World} {B : Nat} {x : Blk} (h : B3 W B x) : W.cell? ⟨B, 0, none⟩ = some (.int .i64 x.a) ∧ W.cell? ⟨B, 1, none⟩ = some (.int .i64 x.b) ∧ W.cell? ⟨B, 2, none⟩ = some (.int .i64 x.c) := by
  have : W.heap[B]? = _ := h
  refine ⟨?_, ?_, ?_⟩ <;> simp [World.cell?, this]
theorem B3.own (B : Nat) (x : Blk) : Own (fun (_ : Unit) W => B3 W B x) := fun _ X Y row hs hg hrow =>
  (hg.block B hs.lt (fun e' => by obtain ⟨o, ho, hc⟩ := hrow B e'.symm; rw [show X.heap[B]? = _ from hs] at ho; cases ho; cases hc)).trans hs
/-- The third point as it is reckoned. -/
def thirdW (x : Blk) (a b : Int) : Int := wrap64 (wrap64 (wrap64 (wrap64 (x.a + x.b) + x.c) - a) - b)
theorem upTo_snd (bs : List Blk) {k : Nat} (hk : k ≤ bs.length) : ((List.range k).map fun j => ((j, bs[j]?.getD default) : Nat × Blk)).map (·.2) = bs.take k := by
  apply List.ext_getElem
  · simp [hk]
  · intro i h1 h2
    have : i < bs.length := by simp at h1; omega
    simp [this]
theorem upTo_find (p b : Int) (bs : List Blk) {k : Nat} (hk : k ≤ bs.length) : ((upTo p bs k).find? fun q => hasB q.2 b).map (·.2) = (bs.take k).find? (bothB p b) := by
  rw [← upTo_snd bs hk, List.find?_map]
  unfold upTo
  rw [List.find?_filter]
  congr 2
  funext q
  simp [bothB]
theorem find_done {p b : Int} {bs : List Blk} (h : ∀ q ∈ upTo p bs bs.length, hasB q.2 b = false) : bs.find? (bothB p b) = none := by
  have e := upTo_find p b bs (Nat.le_refl _)
  rw [List.take_length] at e
  rw [← e, List.find?_eq_none.2 (fun q hq => by simp [h q hq])]
  rfl
theorem find_stop {p b : Int} {bs : List Blk} {k : Nat} (hk : k ≤ bs.length) {ini : List (Nat × Blk)} {last : Nat × Blk} (e : upTo p bs k = ini ++ [last]) (h : ∀ q ∈ ini, hasB q.2 b = false) (hl : hasB last.2 b = true) : bs.find? (bothB p b) = some last.2 := by
  have e2 := upTo_find p b bs hk
  rw [e, List.find?_append, List.find?_eq_none.2 (fun q hq => by simp [h q hq])] at e2
  simp [hl] at e2
  rw [← List.take_append_drop k bs, List.find?_append, ← e2]
  rfl
theorem inP_iff {v a : Int} : inP v a = true ↔ 0 ≤ a ∧ a < v := by simp [inP]
theorem thirdW_eq {v a b : Int} {bs : List Blk} {x : Blk} (hi : isSysImpl v bs = true) (hx : bs.find? (bothB a b) = some x) (ha : inP v a = true) (hb : inP v b = true) : thirdW x a b = thirdOf x a b := by
  have hg := sys_good hi x (List.mem_of_find?_eq_some hx)
  have hv := (sys_size hi).2.1
  rw [goodB_iff] at hg
  rw [inP_iff] at ha hb
  unfold thirdW thirdOf wrap64
  omega
theorem KpB.alloc {n₀ Bp : Nat} {W : World} (hn : n₀ ≤ W.heap.size) (o : Obj) : KpB n₀ Bp W (W.alloc o) := ⟨(Below.refl _ _).alloc hn _, fun _ hu => cell_past hu (by obtain ⟨ob, ho, _⟩ := cells_of_cell hu; exact (Array.getElem?_eq_some_iff.1 ho).1)⟩
theorem KpB.drew (n₀ Bp : Nat) (W : World) : KpB n₀ Bp W W.drew := ⟨below_drewN (Below.refl _ _) 1, fun _ hu => cell_drewN hu 1⟩
theorem boxed_drew {W : World} {B : Nat} {t : TypeId} {u : Value} (h : Boxed W B t u) : Boxed W.drew B t u := h
theorem three (W : World) (B : Nat) (x : Blk) (p : Int) (h : B3 W B x) : Calls Try.prog 177 #[.slice (some ⟨B, 0, none⟩) 3 3, .int .i64 p] W (RS (.bool (hasB x p)) W) := by
  obtain ⟨g1, g2, g3⟩ := h.cells
  rw [← inL3]
  exact Contains_any B 0 3 [x.a, x.b, x.c] p W (ints3 g1 g2 g3) (by simp)
end Go.Proofs.Ytlchcnngikgjjaa

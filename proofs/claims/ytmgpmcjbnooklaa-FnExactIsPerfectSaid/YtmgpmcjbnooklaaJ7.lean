
/- Two blocks are compared point by point. What TakeBlock answers: plain. impl.TakeBlock answers as the plain function takeF. Rows of blocks that are written and sorted in place. append of many blocks to a list of the call's own. The model's TakeBlock. impl.cycleFrom. -/
import Derived.Test.YtmgpmcjbnooklaaJ6
import Derived.Shelf.SlSortCmp.NoneTotal
import Derived.Deep.RegionLaw
import Derived.Deep.AppendLies
import Derived.Deep.RegionHeld3
import Derived.IntWalk
import Derived.WalkMore
import Derived.ScopeJumps
namespace Go.Proofs.Ytmgpmcjbnooklaa
open Go.RowKit Go.Maps
theorem sizeInt64 (w : World) : (sizeOf 2).run Try.prog w = .ok 1 w := by kernel_rfl
theorem partInt64 (x y z : Value) (w : World) : (part 2 #[x, y, z] 0).run Try.prog w = .ok x w ∧ (part 2 #[x, y, z] 1).run Try.prog w = .ok y w ∧ (part 2 #[x, y, z] 2).run Try.prog w = .ok z w := by
  refine ⟨?_, ?_, ?_⟩ <;> kernel_rfl
theorem eqIn64 (d : Nat) (a b : Int) (w : World) : (Op.equalIn (d + 1) 2 (.int .i64 a) (.int .i64 b)).run Try.prog w = .ok (a == b) w := by
  simp [Op.equalIn, run_underlying Try.underlying2]
theorem eqInBlk (n : Nat) (a b c d e f : Int) (w : World) : (Op.equalIn (n + 1 + 1) 68 (.agg #[.int .i64 a, .int .i64 b, .int .i64 c]) (.agg #[.int .i64 d, .int .i64 e, .int .i64 f])).run Try.prog w = .ok (a == d && b == e && c == f) w := by
  rw [Op.equalIn]
  simp only [Sem.run_bind, run_underlying Try.underlying68, Result.andThen_ok, sizeInt64]
  simp [Std.Legacy.Range.forIn_eq_forIn_range', Std.Legacy.Range.size, List.range', partInt64, eqIn64, Sem.run_ite]
  by_cases h1 : a = d <;> by_cases h2 : b = e <;> by_cases h3 : c = f <;> simp [h1, h2, h3]
theorem run_eql_blk (x y : Blk) (w : World) : (binOp .eql 68 (bv x) (bv y)).run Try.prog w = .ok (.bool (decide (x = y))) w := by
  obtain ⟨a, b, c⟩ := x
  obtain ⟨d, e, f⟩ := y
  simp only [bv, binOp]
  simp [Op.equal, Op.maxDepth, eqInBlk 9998]
  by_cases h1 : a = d <;> by_cases h2 : b = e <;> by_cases h3 : c = f <;> simp [h1, h2, h3]
theorem run_neq_blk (x y : Blk) (w : World) : (binOp .neq 68 (bv x) (bv y)).run Try.prog w = .ok (.bool (!decide (x = y))) w := by
  obtain ⟨a, b, c⟩ := x
  obtain ⟨d, e, f⟩ := y
  simp only [bv, binOp]
  simp [Op.equal, Op.maxDepth, eqInBlk 9998]
  by_cases h1 : a = d <;> by_cases h2 : b = e <;> by_cases h3 : c = f <;> simp [h1, h2, h3]
end Go.Proofs.Ytmgpmcjbnooklaa

namespace Go.Proofs.Ytmgpmcjbnooklaa
/-- A system and a code: points, blocks, code. -/
def takeF (v : Int) (bs : List Blk) (i : Int) : Int × List Blk × Int :=
  if isSysImpl v bs then (if decide (0 ≤ i) && decide (i < (bs.length : Int)) then (v, bs.take i.toNat ++ bs.drop (i.toNat + 1), 0) else (0, [], 2)) else (0, [], 1)
theorem filter_all {p : Blk → Bool} : ∀ {l : List Blk}, (∀ x ∈ l, p x = true) → l.filter p = l
  | [], _ => rfl
  | x :: r, h => by rw [List.filter_cons, if_pos (h x (by simp)), filter_all (fun y hy => h y (by simp [hy]))]
/-- The blocks that are not the i-th. -/
theorem filter_other {bs : List Blk} (h : bs.Nodup) {i : Nat} (hi : i < bs.length) : bs.filter (fun x => !decide (x = bs[i])) = bs.take i ++ bs.drop (i + 1) := by
  have e : bs = bs.take i ++ bs[i] :: bs.drop (i + 1) := by rw [← List.drop_eq_getElem_cons hi, List.take_append_drop]
  obtain ⟨y, hy⟩ : ∃ y, y = bs[i] := ⟨_, rfl⟩
  rw [← hy] at e ⊢
  clear hy
  obtain ⟨p, hp⟩ : ∃ p, p = bs.take i := ⟨_, rfl⟩
  obtain ⟨q, hq⟩ : ∃ q, q = bs.drop (i + 1) := ⟨_, rfl⟩
  rw [← hp, ← hq] at e ⊢
  clear hp hq hi
  subst e
  obtain ⟨h1, h2, h3⟩ := List.nodup_append.1 h
  rw [List.nodup_cons] at h2
  rw [List.filter_append, List.filter_cons, if_neg (by simp)]
  rw [filter_all (fun x hx => by have := h3 x hx y (by simp); simpa using this), filter_all (fun x hx => by
    have : x ≠ y := fun e => h2.1 (e ▸ hx)
    simpa using this)]
theorem takeF_sub (v : Int) (bs : List Blk) (i : Int) : ∀ x ∈ (takeF v bs i).2.1, x ∈ bs := by
  unfold takeF
  split
  · split
    · intro x hx
      rcases List.mem_append.1 hx with h | h
      · exact List.mem_of_mem_take h
      · exact List.mem_of_mem_drop h
    · simp
  · simp
theorem takeF_len (v : Int) (bs : List Blk) (i : Int) : (takeF v bs i).2.1.length ≤ bs.length := by
  unfold takeF
  split
  · split
    · simp
      omega
    · simp
  · simp
end Go.Proofs.Ytmgpmcjbnooklaa

namespace Go.Proofs.Ytmgpmcjbnooklaa
open Go.RowKit Go.Maps
/-- Two results: a system in new memory, and a code. -/
def RSys (r : Int × List Blk × Int) (w : World) (e : Ending) (w' : World) : Prop := ∃ s, e = .returned (.tuple #[.agg #[.int .i64 r.1, s], .int .i64 r.2.2]) ∧ ResR w' w.heap.size w'.heap.size s r.2.1 ∧ Below w.heap.size w w'
theorem boxes2 {w w1 : World} {v : Int} {s : Value} {T : TypeId} (hb : Below ((w.alloc (.cells #[.int .i64 v, s] T)).alloc (.cells #[.int .i64 0, .slice none 0 0] T)).heap.size ((w.alloc (.cells #[.int .i64 v, s] T)).alloc (.cells #[.int .i64 0, .slice none 0 0] T)) w1) :
    w1.cell? ⟨w.heap.size, 0, none⟩ = some (.int .i64 v) ∧ w1.cell? ⟨w.heap.size, 1, none⟩ = some s ∧ w1.cell? ⟨w.heap.size + 1, 0, none⟩ = some (.int .i64 0) ∧ w1.cell? ⟨w.heap.size + 1, 1, none⟩ = some (.slice none 0 0) ∧
    w1.frozen? ⟨w.heap.size + 1, 0, none⟩ = false ∧ w1.frozen? ⟨w.heap.size + 1, 1, none⟩ = false ∧ Below w.heap.size w w1 ∧ w.heap.size + 1 < w1.heap.size := by
  have hz := hb.size
  simp at hz
  refine ⟨?_, ?_, ?_, ?_, ?_, ?_, (((Below.refl _ _).alloc (Nat.le_refl _) _).alloc (by simp) _).trans (hb.mono (by simp; omega)), by omega⟩
  · exact (hb.cell (p := ⟨w.heap.size, 0, none⟩) (by simp; omega)).trans (by simp [go_sem])
  · exact (hb.cell (p := ⟨w.heap.size, 1, none⟩) (by simp; omega)).trans (by simp [go_sem])
  · exact (hb.cell (p := ⟨w.heap.size + 1, 0, none⟩) (by simp)).trans (by simp [go_sem])
  · exact (hb.cell (p := ⟨w.heap.size + 1, 1, none⟩) (by simp)).trans (by simp [go_sem])
  · exact (hb.frozen (p := ⟨w.heap.size + 1, 0, none⟩) (by simp)).trans (by simp [go_sem])
  · exact (hb.frozen (p := ⟨w.heap.size + 1, 1, none⟩) (by simp)).trans (by simp [go_sem])
theorem below2 (w : World) (v : Int) (s : Value) (T : TypeId) : Below w.heap.size w ((w.alloc (.cells #[.int .i64 v, s] T)).alloc (.cells #[.int .i64 0, .slice none 0 0] T)) := ((Below.refl _ _).alloc (Nat.le_refl _) _).alloc (by simp) _
theorem below_set2 {B : Nat} {a w : World} (h : Below B a w) {b : Nat} (hb : B ≤ b) (u v : Value) : Below B a ((w.setCell ⟨b, 0, none⟩ u).setCell ⟨b, 1, none⟩ v) := (h.setCell (p := ⟨b, 0, none⟩) hb u).setCell (p := ⟨b, 1, none⟩) hb v
theorem gb_set2 (w : World) (b : Nat) (u v : Value) : w.grownBy ((w.setCell ⟨b, 0, none⟩ u).setCell ⟨b, 1, none⟩ v) (some b) := only_setCell (only_setCell (only_refl w (some b)) rfl u) rfl v
theorem boxes2_later {w w1 w2 : World} {v : Int} {s : Value} (hb : Below w1.heap.size w1 w2) (hlt : w.heap.size + 1 < w1.heap.size) (hbw : Below w.heap.size w w1)
    (p0 : w1.cell? ⟨w.heap.size, 0, none⟩ = some (.int .i64 v)) (p1 : w1.cell? ⟨w.heap.size, 1, none⟩ = some s) (d0 : w1.cell? ⟨w.heap.size + 1, 0, none⟩ = some (.int .i64 0)) (d1 : w1.cell? ⟨w.heap.size + 1, 1, none⟩ = some (.slice none 0 0))
    (f0 : w1.frozen? ⟨w.heap.size + 1, 0, none⟩ = false) (f1 : w1.frozen? ⟨w.heap.size + 1, 1, none⟩ = false) :
    w2.cell? ⟨w.heap.size, 0, none⟩ = some (.int .i64 v) ∧ w2.cell? ⟨w.heap.size, 1, none⟩ = some s ∧ w2.cell? ⟨w.heap.size + 1, 0, none⟩ = some (.int .i64 0) ∧ w2.cell? ⟨w.heap.size + 1, 1, none⟩ = some (.slice none 0 0) ∧
    w2.frozen? ⟨w.heap.size + 1, 0, none⟩ = false ∧ w2.frozen? ⟨w.heap.size + 1, 1, none⟩ = false ∧ Below w.heap.size w w2 ∧ w.heap.size + 1 < w2.heap.size := by
  have hz := hb.size
  have l0 : w.heap.size < w1.heap.size := by omega
  exact ⟨(hb.cell (p := ⟨w.heap.size, 0, none⟩) l0).trans p0, (hb.cell (p := ⟨w.heap.size, 1, none⟩) l0).trans p1, (hb.cell (p := ⟨w.heap.size + 1, 0, none⟩) hlt).trans d0, (hb.cell (p := ⟨w.heap.size + 1, 1, none⟩) hlt).trans d1, (hb.frozen (p := ⟨w.heap.size + 1, 0, none⟩) hlt).trans f0, (hb.frozen (p := ⟨w.heap.size + 1, 1, none⟩) hlt).trans f1, hbw.trans (hb.mono hbw.size), by omega⟩
end Go.Proofs.Ytmgpmcjbnooklaa

namespace Go.Proofs.Ytmgpmcjbnooklaa
open Go.RowKit Go.Maps Go.Sort
theorem heap_set_own {w : World} {g o : Nat} {u : Value} {cs : Array Value} {e : TypeId} {fr : Nat × Nat} (h : w.heap[g]? = some (.cells cs e fr)) : (w.setCell ⟨g, o, none⟩ u).heap[g]? = some (.cells (cs.setIfInBounds o u) e fr) := by
  obtain ⟨hlt, hk⟩ := Array.getElem?_eq_some_iff.1 h
  show (w.heap.modify g _)[g]? = _
  rw [Array.getElem?_eq_getElem (by rw [Array.size_modify]; exact hlt), Array.getElem_modify_self, hk]
  rfl
theorem flat_set : ∀ (bs : List Blk) (i : Nat) (x : Blk), i < bs.length → (((bs.flatMap cells3).set (i * 3) (.int .i64 x.a)).set (i * 3 + 1) (.int .i64 x.b)).set (i * 3 + 2) (.int .i64 x.c) = (bs.set i x).flatMap cells3
  | [], _, _, h => by simp at h
  | y :: r, 0, x, _ => by simp [cells3]
  | y :: r, i + 1, x, h => by
    have ih := flat_set r i x (by simpa using h)
    rw [List.set_cons_succ, List.flatMap_cons, List.flatMap_cons, ← ih]
    rw [show (i + 1) * 3 = i * 3 + 1 + 1 + 1 by omega, show i * 3 + 1 + 1 + 1 + 1 = i * 3 + 1 + 1 + 1 + 1 from rfl, show i * 3 + 1 + 1 + 1 + 2 = i * 3 + 2 + 1 + 1 + 1 by omega]
    simp only [cells3, List.cons_append, List.nil_append, List.set_cons_succ]
theorem OwnR.set3 {w : World} {base g n cap : Nat} {bs : List Blk} (h : OwnR w base (.slice (some ⟨g, 0, none⟩) n cap) bs) {i : Nat} (hi : i < bs.length) (x : Blk) :
    OwnR (((w.setCell ⟨g, i * 3, none⟩ (.int .i64 x.a)).setCell ⟨g, i * 3 + 1, none⟩ (.int .i64 x.b)).setCell ⟨g, i * 3 + 2, none⟩ (.int .i64 x.c)) base (.slice (some ⟨g, 0, none⟩) n cap) (bs.set i x) := by
  obtain ⟨hl, h | ⟨g', cap', cur, hv, hb, hcur, hn, hc, hsz, hx⟩⟩ := h
  · cases h.1
  · cases hv
    refine ⟨by rw [flat_length, List.length_set], .inr ⟨g, cap, _, by rw [List.length_set], hb, heap_set_own (heap_set_own (heap_set_own hcur)), by rw [List.length_set]; exact hn, hc, by simpa using hsz, ?_⟩⟩
    rw [List.length_set, Array.toList_setIfInBounds, Array.toList_setIfInBounds, Array.toList_setIfInBounds, List.take_set, List.take_set, List.take_set, hx]
    exact flat_set bs i x hi
theorem OwnR.at_ {w : World} {base g n cap : Nat} {bs : List Blk} (h : OwnR w base (.slice (some ⟨g, 0, none⟩) n cap) bs) : n = bs.length ∧ base ≤ g ∧ OwnAt w g bs := by
  rcases h.res with ⟨rfl, a, c, e⟩ | ⟨g', cap', e, h1, h2, h3⟩
  · cases e
    obtain ⟨hl, h | ⟨g', cap', cur, hv, hb, hcur, hn, hc, hsz, hx⟩⟩ := h
    · cases h.1
    · cases hv
      exact ⟨rfl, hb, ⟨(Array.getElem?_eq_some_iff.1 hcur).1, fun k hk => by simp at hk, fun o => by simp [World.frozen?, hcur]⟩⟩
  · cases e
    exact ⟨rfl, h1, h3⟩

theorem heap_put {w : World} {g n : Nat} {os : Array Obj} {cur : Array Value} {e : TypeId} {fr : Nat × Nat} (F : Array Value) (hb : w.heap[g]? = some (.cells cur e fr)) :
    (grow (putRow id (Sort.ahead w n) g 0 F) os).heap[g]? = some (.cells (putCells id 0 F cur) e fr) := by
  have hg : g < w.heap.size := (Array.getElem?_eq_some_iff.1 hb).1
  rw [heap_grow_old _ _ (by simpa using hg)]
  simp [putRow, mapBlock, Sort.ahead, Array.getElem?_modify, hb, onCells]
theorem grownBy_put {w : World} {g n : Nat} {os : Array Obj} (F : Array Value) : w.grownBy (grow (putRow id (Sort.ahead w n) g 0 F) os) (some g) := by
  refine ⟨rfl, rfl, rfl, by simp, fun k hk hne => ?_⟩
  rw [heap_grow_old _ _ (by simpa using hk)]
  have : g ≠ k := fun e => hne (by rw [e])
  simp [putRow, mapBlock, Sort.ahead, Array.getElem?_modify, this]
theorem take_put (cur F : Array Value) (h : F.size ≤ cur.size) : (putCells id 0 F cur).toList.take F.size = F.toList := by
  apply List.ext_getElem?
  intro j
  by_cases hj : j < F.size
  · rw [List.getElem?_take_of_lt hj, Array.getElem?_toList]
    simp [putCells, hj, show j < cur.size by omega]
  · rw [List.getElem?_take_eq_none (by omega), List.getElem?_eq_none (by simp; omega)]
theorem cells3_at (x : Blk) : (cells3 x)[0]! = .int .i64 x.a ∧ (cells3 x)[1]! = .int .i64 x.b ∧ (cells3 x)[2]! = .int .i64 x.c := ⟨rfl, rfl, rfl⟩
theorem flatK_at (bs : List Blk) (j : Nat) (h : j < bs.length * 3) : (flatK cells3 3 bs.toArray)[j]! = (bs.flatMap cells3)[j]?.getD undef := by
  rw [get_flatK _ _ _ _ (by simpa using h)]
  have hk : j / 3 < bs.length := by omega
  obtain ⟨h0, h1, h2⟩ := flat_at bs (j / 3) hk
  obtain ⟨c0, c1, c2⟩ := cells3_at (bs.toArray[j / 3]!)
  have e : bs.toArray[j / 3]! = bs[j / 3]?.getD default := by simp [hk]
  rw [e] at c0 c1 c2
  rw [e]
  have hm : j % 3 = 0 ∨ j % 3 = 1 ∨ j % 3 = 2 := by omega
  rcases hm with hm | hm | hm
  · rw [hm, c0]; rw [show j / 3 * 3 = j by omega] at h0; rw [h0]; rfl
  · rw [hm, c1]; rw [show j / 3 * 3 + 1 = j by omega] at h1; rw [h1]; rfl
  · rw [hm, c2]; rw [show j / 3 * 3 + 2 = j by omega] at h2; rw [h2]; rfl
theorem flatK_list (bs : List Blk) : (flatK cells3 3 bs.toArray).toList = bs.flatMap cells3 := by
  apply List.ext_getElem?
  intro j
  by_cases hj : j < bs.length * 3
  · have h1 := flatK_at bs j hj
    have hs : j < (flatK cells3 3 bs.toArray).size := by rw [size_flatK]; simpa using hj
    rw [getElem!_pos _ j hs] at h1
    rw [Array.getElem?_toList, Array.getElem?_eq_getElem hs, h1]
    have hf : j < (bs.flatMap cells3).length := by rw [flat_length]; exact hj
    rw [List.getElem?_eq_getElem hf]
    rfl
  · have h1 : (flatK cells3 3 bs.toArray).toList.length = bs.length * 3 := by rw [Array.length_toList, size_flatK]; simp
    rw [List.getElem?_eq_none (by omega), List.getElem?_eq_none (by rw [flat_length]; omega)]
theorem OwnAt.holds {w : World} {g : Nat} {bs : List Blk} (h : OwnAt w g bs) : HoldsK cells3 3 w g 0 bs.toArray := by
  intro j hj
  rw [size_flatK, List.size_toArray] at hj
  refine ⟨?_, h.free _⟩
  rw [flatK_at bs j hj, Nat.zero_add]
  obtain ⟨h0, h1, h2⟩ := h.at_ (j / 3) (by omega)
  obtain ⟨f0, f1, f2⟩ := flat_at bs (j / 3) (by omega)
  rw [Nat.zero_add] at h0 h1 h2
  have hm : j % 3 = 0 ∨ j % 3 = 1 ∨ j % 3 = 2 := by omega
  rcases hm with hm | hm | hm
  · rw [show j / 3 * 3 = j by omega] at h0 f0; rw [h0, f0]; rfl
  · rw [show j / 3 * 3 + 1 = j by omega] at h1 f1; rw [h1, f1]; rfl
  · rw [show j / 3 * 3 + 2 = j by omega] at h2 f2; rw [h2, f2]; rfl
/-- Behind the sort the same slice owns the blocks in order. -/
theorem OwnR.sorted {w : World} {base g n cap : Nat} {bs cs : List Blk} (h : OwnR w base (.slice (some ⟨g, 0, none⟩) n cap) bs) (hl : cs.length = bs.length) (m : Nat) (os : Array Obj) :
    OwnR (sortWorldK cells3 3 w g 0 m cs.toArray os) base (.slice (some ⟨g, 0, none⟩) n cap) cs ∧ w.grownBy (sortWorldK cells3 3 w g 0 m cs.toArray os) (some g) := by
  refine ⟨?_, grownBy_put _⟩
  obtain ⟨hl2, h | ⟨g', cap', cur, hv, hb, hcur, hn, hc, hsz, hx⟩⟩ := h
  · cases h.1
  · cases hv
    have hF : (flatK cells3 3 cs.toArray).size = cs.length * 3 := by rw [size_flatK]; simp
    refine ⟨by rw [flat_length], .inr ⟨g, cap, _, by rw [hl], hb, heap_put _ hcur, by rw [hl]; exact hn, hc, by simp [putCells]; omega, ?_⟩⟩
    rw [← hF, take_put _ _ (by rw [hF, hl]; have := Nat.mul_le_mul_right 3 hn; omega)]
    exact flatK_list cs
theorem lt_bef (x y : Blk) : ltOf cmpB x y = befB x y := by
  unfold ltOf
  rw [Bool.eq_iff_iff, ← cmpB_neg]
  simp
theorem swoB : SWO (ltOf cmpB) where
  irrefl x := by rw [lt_bef]; exact bef_irrefl x
  trans x y z h1 h2 := by rw [lt_bef] at *; exact bef_trans h1 h2
  ntrans x y z h1 h2 := by rw [lt_bef] at *; exact bef_ntrans h1 h2
theorem totB (x y : Blk) (h1 : ltOf cmpB x y = false) (h2 : ltOf cmpB y x = false) : x = y := by rw [lt_bef] at *; exact bef_total h1 h2
theorem mergeB (bs : List Blk) : (bs.mergeSort fun x y => !ltOf cmpB y x) = sortB bs := by
  rw [← sortB_merge]
  congr 1
  funext x y
  rw [lt_bef]
theorem compareBlocks_lays (x y : Blk) (w : World) : Calls Try.prog 80 #[bv x, bv y] w fun e w' => e = .returned (.int .i64 (cmpB x y)) ∧ ∃ q os, w' = grow (w.drewN q) os := by
  obtain ⟨a, b, c⟩ := x
  obtain ⟨d, e, f⟩ := y
  unfold bv
  dsimp only
  go_enter Try.func80, Try.ntmps80
  go_wp2
  go_quiet ((go_at_call 68; exact RS.quiet (Compare_any _ 0 _ _ 0 _ [a, b, c] [d, e, f] _ (ints3 (by simp [go_sem]) (by simp [go_sem]) (by simp [go_sem])) (ints3 (by simp [go_sem]) (by simp [go_sem]) (by simp [go_sem])) (by simp) (by simp))))
  go_wp2
  go_ret
  exact ⟨rfl, _, _, by rw [alloc_eq_grow, alloc_eq_grow, grow_grow]; rfl⟩
end Go.Proofs.Ytmgpmcjbnooklaa

namespace Go.Proofs.Ytmgpmcjbnooklaa
open Go.RowKit Go.Maps
/-- The value is a slice of just these blocks; of the numbers nothing is said. -/
def SX (w : World) (s : Value) (bs : List Blk) : Prop := (∃ a c, s = .slice a 0 c ∧ bs = []) ∨ ∃ b off cap, s = .slice (some ⟨b, off, none⟩) bs.length cap ∧ b < w.heap.size ∧ Blks w b off bs
theorem SB.sx {w : World} {s : Value} {bs : List Blk} (h : SB w s bs) : SX w s bs := h.2.2
theorem SX.below {w w' : World} {s : Value} {bs : List Blk} (h : SX w s bs) {B : Nat} (hb : Below B w w') (hB : w.heap.size ≤ B) : SX w' s bs := by
  rcases h with h3 | ⟨b, off, cap, rfl, hl, hr⟩
  · exact .inl h3
  · exact .inr ⟨b, off, cap, rfl, by have := hb.size; omega, hr.below hb (by omega)⟩
theorem OwnR.sx {w : World} {base : Nat} {s : Value} {bs : List Blk} (h : OwnR w base s bs) : SX w s bs := by
  rcases h.res with ⟨rfl, a, c, rfl⟩ | ⟨g, cap, rfl, _, _, ho⟩
  · exact .inl ⟨a, c, rfl, rfl⟩
  · exact .inr ⟨g, 0, cap, rfl, ho.lt, ho.at_⟩
theorem OwnR.form {w : World} {base : Nat} {s : Value} {bs : List Blk} (h : OwnR w base s bs) : ∃ a c, s = .slice a bs.length c := by
  rcases h.res with ⟨rfl, a, c, rfl⟩ | ⟨g, cap, rfl, _⟩ <;> exact ⟨_, _, rfl⟩
theorem blks_flat {w : World} {b off : Nat} {bs : List Blk} (h : Blks w b off bs) (j : Nat) (u : Value) (hu : (bs.flatMap cells3)[j]? = some u) : w.cell? ⟨b, off + j, none⟩ = some u := by
  have hj : j < bs.length * 3 := by
    rw [← flat_length]
    exact (List.getElem?_eq_some_iff.1 hu).1
  obtain ⟨h0, h1, h2⟩ := h (j / 3) (by omega)
  obtain ⟨f0, f1, f2⟩ := flat_at bs (j / 3) (by omega)
  have hm : j % 3 = 0 ∨ j % 3 = 1 ∨ j % 3 = 2 := by omega
  rcases hm with hm | hm | hm
  · rw [show j / 3 * 3 = j by omega] at f0
    rw [show off + j / 3 * 3 = off + j by omega] at h0
    rw [h0, ← hu, f0]
  · rw [show j / 3 * 3 + 1 = j by omega] at f1
    rw [show off + j / 3 * 3 + 1 = off + j by omega] at h1
    rw [h1, ← hu, f1]
  · rw [show j / 3 * 3 + 2 = j by omega] at f2
    rw [show off + j / 3 * 3 + 2 = off + j by omega] at h2
    rw [h2, ← hu, f2]
theorem flat_one (bs : List Blk) : ∀ u ∈ bs.flatMap cells3, u.oneCell' = true := by
  intro u hu
  obtain ⟨x, _, hx⟩ := List.mem_flatMap.1 hu
  simp [cells3] at hx
  rcases hx with rfl | rfl | rfl <;> rfl
theorem run_append_many (w : World) (ty : TypeId) (base : Nat) (v : Value) (bs : List Blk) (hown : OwnR w base v bs) (x : Value) (cs : List Blk) (hx : SX w x cs) (hl : bs.length + cs.length ≤ 2200000) (hb : base ≤ w.heap.size) :
    ∃ v' w', (Builtin.append_ #[29, 29] ty #[v, x]).run Try.prog w = .ok v' w' ∧ OwnR w' base v' (bs ++ cs) ∧ w.grownBy w' v.ownBlock := by
  obtain ⟨i0, hi, hz0, hz1, hz2⟩ := info_parts infoBlock
  have key : ∀ (a : Addr) (m c : Nat) (news : List Value), x = .slice (some a) m c → m = cs.length → news = cs.flatMap cells3 → (∀ j u, news[j]? = some u → w.cell? (a.add j) = some u) →
      ∃ v' w', (Builtin.append_ #[29, 29] ty #[v, x]).run Try.prog w = .ok v' w' ∧ OwnR w' base v' (bs ++ cs) ∧ w.grownBy w' v.ownBlock := by
    intro a m c news ex em en hn
    subst ex
    subst en
    subst em
    obtain ⟨v', w', h1, h2, h3, _⟩ := run_append_own_at (P := Try.prog) w base 29 ty 68 i0 _ 3 24 Try.underlying29 hi hz0 hz1 hz2 rfl (by decide) v bs.length (bs.flatMap cells3) hown a cs.length c (cs.flatMap cells3) (flat_length cs) hn (flat_one cs) (by unfold maxLen; omega) (by omega) hb
    exact ⟨v', w', h1, by unfold OwnR; rw [List.length_append, List.flatMap_append]; exact h2, h3⟩
  rcases hx with ⟨a, c, rfl, rfl⟩ | ⟨b, off, cap, rfl, _, hbl⟩
  · cases a with
    | some a => exact key a 0 c [] rfl rfl rfl (by simp)
    | none =>
      refine ⟨v, w, ?_, by rw [List.append_nil]; exact hown, only_refl _ _⟩
      obtain ⟨a, c', rfl⟩ := hown.form
      have hroom : bs.length ≤ c' := by
        rcases hown.2 with ⟨h, h0⟩ | ⟨g, cap, cur, h, _, _, hn, _⟩
        · rw [h0]; exact Nat.zero_le _
        · simp at h; omega
      have hc : ∀ W : World, (Builtin.lenOf (.slice none 0 c)).run Try.prog W = .ok 0 W := fun _ => rfl
      have hc2 : ∀ W : World, (Builtin.firstCells 3 0 (.slice none 0 c)).run Try.prog W = .ok #[] W := fun _ => rfl
      simp [Builtin.append_, run_underlying Try.underlying29, sizeOf, typeInfo, hi, hz1, hc, hc2, hroom]
      cases a <;> rfl
  · refine key ⟨b, off, none⟩ cs.length cap (cs.flatMap cells3) rfl rfl rfl fun j u hu => ?_
    rw [addr_at]
    exact blks_flat hbl j u hu
theorem wp_append_many {w : World} {o : Oper} {a : Act} {K : Act → World → Prop} {Q : Exit → Act → World → Prop} (s x : Operand)
    (ho : o.op = .call { callee := .builtin .append, args := #[s, x], argTypes := #[29, 29] })
    (base : Nat) (v : Value) (bs : List Blk) (hs : a.eval s = v) (hown : OwnR w base v bs) (xv : Value) (cs : List Blk) (hxv : a.eval x = xv) (hx : SX w xv cs) (hl : bs.length + cs.length ≤ 2200000) (hb : base ≤ w.heap.size)
    (h : ∀ (a' : Option Addr) (c' : Nat) (w' : World), OwnR w' base (.slice a' (bs.length + cs.length) c') (bs ++ cs) → w.grownBy w' v.ownBlock → K (a.put o.dst (.slice a' (bs.length + cs.length) c')) w') : o.wp Try.prog a w K Q := by
  obtain ⟨v', w', hr, h2, h3⟩ := run_append_many w o.type base v bs hown xv cs hx hl hb
  obtain ⟨a', c', hv⟩ := h2.form
  rw [List.length_append] at hv
  subst hv
  unfold Oper.wp execOp
  simp only [ho, resolve, invoke, builtin, Sem.run_bind, Sem.run_pure, Result.andThen_ok, List.map_toArray, List.map_cons, List.map_nil, hs, hxv, hr]
  exact h a' c' w' h2 h3
theorem wpList_append_many {w : World} {ops : Array Oper} {rest : List Oper} {o : Oper} {a : Act} {Q : Exit → Act → World → Prop} (hgd : o.guard = none) (s x : Operand)
    (ho : o.op = .call { callee := .builtin .append, args := #[s, x], argTypes := #[29, 29] })
    (base : Nat) (v : Value) (bs : List Blk) (hs : a.eval s = v) (hown : OwnR w base v bs) (xv : Value) (cs : List Blk) (hxv : a.eval x = xv) (hx : SX w xv cs) (hl : bs.length + cs.length ≤ 2200000) (hb : base ≤ w.heap.size)
    (h : ∀ (a' : Option Addr) (c' : Nat) (w' : World), OwnR w' base (.slice a' (bs.length + cs.length) c') (bs ++ cs) → w.grownBy w' v.ownBlock → wpList Try.prog ops Q rest (a.put o.dst (.slice a' (bs.length + cs.length) c')) w') : wpList Try.prog ops Q (o :: rest) a w :=
  wpList_plain hgd fun _ hK => wp_append_many s x ho base v bs hs hown xv cs hxv hx hl hb fun a' c' w' h1 h2 => hK _ _ (h a' c' w' h1 h2)
theorem step_append_many {w : World} {ops : Array Oper} {o : Oper} {a : Act} {K : Act → World → Prop} {Q : Exit → Act → World → Prop} {E : Prop} (hgd : o.guard = none) (s x : Operand)
    (ho : o.op = .call { callee := .builtin .append, args := #[s, x], argTypes := #[29, 29] })
    (base : Nat) (v : Value) (bs : List Blk) (hs : a.eval s = v) (hown : OwnR w base v bs) (xv : Value) (cs : List Blk) (hxv : a.eval x = xv) (hx : SX w xv cs) (hl : bs.length + cs.length ≤ 2200000) (hb : base ≤ w.heap.size)
    (h : ∀ (a' : Option Addr) (c' : Nat) (w' : World), OwnR w' base (.slice a' (bs.length + cs.length) c') (bs ++ cs) → w.grownBy w' v.ownBlock → K (a.put o.dst (.slice a' (bs.length + cs.length) c')) w') :
    if Region.wanted o (yielded ops a.tmps) = true then Oper.wp Try.prog o a w K Q else E := by
  have hw : Region.wanted o (yielded ops a.tmps) = true := by simp [Region.wanted, hgd]
  rw [if_pos hw]
  exact wp_append_many s x ho base v bs hs hown xv cs hxv hx hl hb h
end Go.Proofs.Ytmgpmcjbnooklaa

namespace Go.Proofs.Ytmgpmcjbnooklaa
open Go.RowKit Go.Maps
theorem Blks.take {w : World} {b off : Nat} {bs : List Blk} (h : Blks w b off bs) (j : Nat) : Blks w b off (bs.take j) := fun k hk => by
  rw [List.length_take] at hk
  have := h k (by omega)
  rwa [List.getElem?_take_of_lt (by omega)]
theorem Blks.drop {w : World} {b off : Nat} {bs : List Blk} (h : Blks w b off bs) (j : Nat) : Blks w b (off + j * 3) (bs.drop j) := fun k hk => by
  rw [List.length_drop] at hk
  have := h (j + k) (by omega)
  rw [List.getElem?_drop, show off + j * 3 + k * 3 = off + (j + k) * 3 by omega]
  exact this
theorem lit_own (W : World) : OwnR (W.alloc (.cells #[] 68)) W.heap.size (.slice (some ⟨W.heap.size, 0, none⟩) 0 0) [] :=
  ⟨rfl, .inr ⟨W.heap.size, 0, #[], rfl, Nat.le_refl _, (MapKept.heap_alloc W (.cells #[] 68)).1, Nat.le_refl _, by unfold maxLen; omega, rfl, rfl⟩⟩
theorem OwnR.drew {w : World} {base : Nat} {v : Value} {bs : List Blk} (h : OwnR w base v bs) : OwnR w.drew base v bs := h
theorem SX.drew {w : World} {v : Value} {bs : List Blk} (h : SX w v bs) : SX w.drew v bs := h
theorem Blks.drew {w : World} {b off : Nat} {bs : List Blk} (h : Blks w b off bs) : Blks w.drew b off bs := h
theorem Blks.kept {w w' : World} {b off : Nat} {bs : List Blk} {row : Option Nat} (h : Blks w b off bs) (hg : w.grownBy w' row) (hne : some b ≠ row) : Blks w' b off bs := fun k hk => by
  obtain ⟨h1, h2, h3⟩ := h k hk
  exact ⟨hg.cell h1 hne, hg.cell h2 hne, hg.cell h3 hne⟩
theorem keep_cell {w w' : World} {row : Option Nat} {b o : Nat} {u : Value} (h : w.cell? ⟨b, o, none⟩ = some u) (hg : w.grownBy w' row) (hne : ∀ r, row = some r → b < r) : w'.cell? ⟨b, o, none⟩ = some u :=
  hg.cell h (fun e => by have := hne _ e.symm; simp at this)
theorem keep_frozen {w w' : World} {row : Option Nat} {b o : Nat} {u : Value} (hc : w.cell? ⟨b, o, none⟩ = some u) (h : w.frozen? ⟨b, o, none⟩ = false) (hg : w.grownBy w' row) (hne : ∀ r, row = some r → b < r) : w'.frozen? ⟨b, o, none⟩ = false :=
  (World.frozen?_of_block (w := w) (a := ⟨b, o, none⟩) (hg.block b (block_lt_of_cell hc) (fun e => by have := hne _ e.symm; omega))).trans h
theorem keep_some {w w' : World} {row : Option Nat} {b o : Nat} (h : (w.cell? ⟨b, o, none⟩).isSome = true) (hg : w.grownBy w' row) (hne : ∀ r, row = some r → b < r) : (w'.cell? ⟨b, o, none⟩).isSome = true := by
  obtain ⟨u, hu⟩ := Option.isSome_iff_exists.1 h
  rw [keep_cell hu hg hne]
  rfl
theorem keep_free {w w' : World} {row : Option Nat} {b o : Nat} (h : (w.cell? ⟨b, o, none⟩).isSome = true) (hf : w.frozen? ⟨b, o, none⟩ = false) (hg : w.grownBy w' row) (hne : ∀ r, row = some r → b < r) : w'.frozen? ⟨b, o, none⟩ = false := by
  obtain ⟨u, hu⟩ := Option.isSome_iff_exists.1 h
  exact keep_frozen hu hf hg hne
def Six (w' : World) (b : Nat) (v : Int) (s : Value) : Prop := w'.cell? ⟨b, 0, none⟩ = some (.int .i64 v) ∧ w'.cell? ⟨b, 1, none⟩ = some s ∧ w'.cell? ⟨b + 1, 0, none⟩ = some (.int .i64 0) ∧ w'.cell? ⟨b + 1, 1, none⟩ = some (.slice none 0 0) ∧ w'.frozen? ⟨b + 1, 0, none⟩ = false ∧ w'.frozen? ⟨b + 1, 1, none⟩ = false
theorem keep6 {w w' : World} {b : Nat} {v : Int} {s : Value} {row : Option Nat} (h : Six w b v s) (hg : w.grownBy w' row) (hr : ∀ r, row = some r → b + 1 < r) : Six w' b v s := by
  obtain ⟨h0, h1, h2, h3, h4, h5⟩ := h
  exact ⟨keep_cell h0 hg (fun r e => by have := hr r e; omega), keep_cell h1 hg (fun r e => by have := hr r e; omega), keep_cell h2 hg hr, keep_cell h3 hg hr, keep_frozen h2 h4 hg hr, keep_frozen h3 h5 hg hr⟩
theorem gb_drewL {w w' : World} {row : Option Nat} (h : w.drew.grownBy w' row) : w.grownBy w' row := ⟨h.os, h.tape, h.output, h.size, h.block⟩
theorem run_slice_drop (b off n cap j : Nat) (h1 : j ≤ n) (h2 : n ≤ cap) : ∃ x, (∀ W : World, (Instr.slice 29 (.slice (some ⟨b, off, none⟩) n cap) (some (.int .i64 (j : Int))) none none).run Try.prog W = .ok x W) ∧ ∀ (W : World) (bs : List Blk), bs.length = n → b < W.heap.size → Blks W b off bs → SX W x (bs.drop j) := by
  have hj0 : (0 : Int) ≤ (j : Int) := by omega
  have hj1 : (j : Int) ≤ (n : Int) := by omega
  by_cases hc : j = cap
  · refine ⟨.slice (some ⟨b, off, none⟩) 0 0, fun W => ?_, fun W bs e _ _ => .inl ⟨_, _, rfl, List.drop_eq_nil_of_le (by omega)⟩⟩
    have e1 : n = j := by omega
    subst e1
    subst hc
    simp [Instr.slice, Instr.sliceBounds, Instr.sliceBound, run_underlying Try.underlying29, go_sem, hj0]
  · refine ⟨.slice (some ⟨b, off + j * 3, none⟩) (n - j) (cap - j), fun W => ?_, fun W bs e h1 h2 => .inr ⟨b, off + j * 3, cap - j, by rw [List.length_drop, e], h1, h2.drop j⟩⟩
    have hc' : ¬ cap = j := fun e => hc e.symm
    simp [Instr.slice, Instr.sliceBounds, Instr.sliceBound, run_underlying Try.underlying29, go_sem, hj0, h1, hc', addr_at]
/-- .. and the slice is no longer than its capacity. -/
def SC (w : World) (s : Value) (bs : List Blk) : Prop := SB w s bs ∧ ∀ a n c, s = .slice a n c → n ≤ c
theorem SC.below {w w' : World} {s : Value} {bs : List Blk} (h : SC w s bs) {B : Nat} (hb : Below B w w') (hB : w.heap.size ≤ B) : SC w' s bs := ⟨h.1.below hb hB, h.2⟩
theorem OwnB.sc {w : World} {lo : Nat} {s : Value} {bs : List Blk} (h : OwnB w lo s bs) (hwf : ∀ x ∈ bs, WFB x) (hl : bs.length ≤ 1100000) : SC w s bs := by
  refine ⟨h.sb hwf hl, fun a n c e => ?_⟩
  obtain ⟨g, cap, rfl, _, _, _, _, hc⟩ := h
  cases e
  exact hc
theorem l01In_out (n lo hi : Int) (W : World) (β : Bool) (hβ : (decide (lo ≤ n) && decide (n ≤ hi)) = β) : Calls Try.prog 72 #[.int .i64 n, .int .i64 lo, .int .i64 hi] W (RS (.bool β) W) := by
  rw [← hβ]
  exact l01In_any n lo hi W
end Go.Proofs.Ytmgpmcjbnooklaa

namespace Go.Proofs.Ytmgpmcjbnooklaa
open Go.RowKit Go.Maps
theorem wpList_append_int2 {w : World} {ops : Array Oper} {rest : List Oper} {o : Oper} {a : Act} {Q : Exit → Act → World → Prop} (hgd : o.guard = none) (s x : Operand)
    (ho : o.op = .call { callee := .builtin .append, args := #[s, x], argTypes := #[26, 26] })
    (base : Nat) (v : Value) (zs : List Int) (hs : a.eval s = v) (hown : OwnJ w base v zs) (b0 c : Nat) (y1 y2 : Int) (hx : a.eval x = .slice (some ⟨b0, 0, none⟩) 2 c)
    (c1 : w.cell? ⟨b0, 0, none⟩ = some (.int .i64 y1)) (c2 : w.cell? ⟨b0, 1, none⟩ = some (.int .i64 y2)) (hl : zs.length ≤ 3300000) (hbase : base ≤ w.heap.size)
    (h : ∀ (g cap : Nat) (w' : World), OwnJ w' base (.slice (some ⟨g, 0, none⟩) (zs.length + 2) cap) (zs ++ [y1, y2]) → w.grownBy w' v.ownBlock → wpList Try.prog ops Q rest (a.put o.dst (.slice (some ⟨g, 0, none⟩) (zs.length + 2) cap)) w') : wpList Try.prog ops Q (o :: rest) a w := by
  obtain ⟨i0, hi, hz0, hz1, hz2⟩ := info_parts infoInt64
  refine wpList_append_own w hgd s x 26 ho base 2 i0 _ 1 8 Try.underlying26 hi hz0 hz1 hz2 rfl (by decide) v zs.length (zs.map (Value.int .i64)) hs hown ⟨b0, 0, none⟩ 2 c [.int .i64 y1, .int .i64 y2] hx rfl ?_ ?_ (by unfold maxLen; omega) (by omega) hbase ?_
  · intro j u hj
    rw [addr_at, Nat.zero_add]
    match j, hj with
    | 0, hj => simp at hj; rw [← hj]; exact c1
    | 1, hj => simp at hj; rw [← hj]; exact c2
    | j + 2, hj => simp at hj
  · intro u hu
    simp at hu
    rcases hu with rfl | rfl <;> rfl
  · intro v' w' hown' hg _
    obtain ⟨g, cap, rfl⟩ := row_some (k := zs.length + 1) hown'
    refine h g cap w' ?_ hg
    unfold OwnJ
    rw [List.length_append, List.map_append]
    exact hown'
theorem tab_third {n : Nat} {bs : List Blk} (h : isSysImpl (n : Int) bs = true) (hf : fullB (n : Int) bs = true) {a b : Int} (ha : 0 ≤ a ∧ a < (n : Int)) (hb : 0 ≤ b ∧ b < (n : Int)) (hab : a ≠ b) : tabI bs a b = third1 bs a b := by
  obtain ⟨x, hx, h1, h2, _⟩ := tri_third h hf ha hb hab
  unfold tabI third1
  rw [if_neg hab]
  cases hfd : bs.find? (bothB a b) with
  | none => exact absurd (show bothB a b x = true by simp [bothB, h1, h2]) (by simpa using List.find?_eq_none.1 hfd x hx)
  | some y => rfl
/-- The points of the walk. -/
def wk (bs : List Blk) (a b : Nat) (s : Int) (k : Nat) : Int := stepN (third1 bs (a : Int)) (third1 bs (b : Int)) s k
def wkL (bs : List Blk) (a b : Nat) (s : Int) (k : Nat) : List Int := (List.range k).map (wk bs a b s)
theorem wkL_two (bs : List Blk) (a b : Nat) (s : Int) (k : Nat) : wkL bs a b s (k + 2) = wkL bs a b s k ++ [wk bs a b s k, wk bs a b s (k + 1)] := by
  simp [wkL, List.range_succ]
theorem wkL_len (bs : List Blk) (a b : Nat) (s : Int) (k : Nat) : (wkL bs a b s k).length = k := by simp [wkL]
/-- The length of a slice. -/
def lenOf : Value → Nat
  | .slice _ n _ => n
  | _ => 0
set_option maxRecDepth 100000 in
set_option maxHeartbeats 8000000 in
theorem cycleFrom_any (G : Nat) (lo : Nat) (gs caps : Nat → Nat) (n c : Nat) (bs : List Blk) (a b s : Nat) (w : World) (h : SSR w lo G gs caps n (rowT n (tabN bs))) (hi : isSysImpl (n : Int) bs = true) (hf : fullB (n : Int) bs = true) (ha : a < n) (hb : b < n) (hab : a ≠ b) (hs : Beyond n bs (a : Int) (b : Int) (s : Int)) (N : Nat) (hN0 : 0 < N) (hN2 : N % 2 = 0) (hN15 : N ≤ 15) (hfr : Fresh (third1 bs (a : Int)) (third1 bs (b : Int)) (s : Int) N) (hNs : wk bs a b s N = (s : Int)) :
    Calls Try.prog 51 #[.slice (some ⟨G, 0, none⟩) n c, .int .i64 (a : Int), .int .i64 (b : Int), .int .i64 (s : Int)] w (fun e w' => ∃ u, e = .returned u ∧ OwnJ w' w.heap.size u (wkL bs a b s N) ∧ Below w.heap.size w w') := by
  have htwo := two_thirds hi hf (a := (a : Int)) (b := (b : Int)) (by omega) (by omega) (by omega)
  have HM := Lib.hid (show ∀ k, Beyond n bs (a : Int) (b : Int) (wk bs a b s k) from fun k => htwo.mem hs k)
  have HSS := Lib.hid h
  have HI := Lib.hid hi
  have HF := Lib.hid hf
  have HFR := Lib.hid hfr
  have HNS := Lib.hid hNs
  have hn15 := (sys_size hi).2.1
  have HS0 := Lib.hid (show wk bs a b s 0 = (s : Int) from rfl)
  clear h hi hf hs hfr hNs htwo
  go_enter Try.func51, Try.ntmps51
  go_wp2_with fail
  refine wp_scope_jumps 0 (fun a' w' => ∃ (k : Nat) (o : Value) (u11 u13 u14 u15 u16 u17 u18 u19 u20 u21 u22 u23 u24 u25 u26 u27 u28 u29 u30 u31 u32 u33 u34 : Value), a' = { tmps := #[.slice (some ⟨G, 0, none⟩) n c, .int .i64 (a : Int), .int .i64 (b : Int), .int .i64 (s : Int), undef, undef, undef, undef, .slice none 0 0, o, .int .i64 (wk bs a b s (2 * k)), u11, .int .i64 (s : Int), u13, u14, u15, u16, u17, u18, u19, u20, u21, u22, u23, u24, u25, u26, u27, u28, u29, u30, u31, u32, u33, u34, undef], defers := [] } ∧ 2 * k < N ∧ OwnJ w' w.heap.size o (wkL bs a b s (2 * k)) ∧ (∃ x y, o = .slice x (2 * k) y) ∧ Below w.heap.size w w') (fun a' _ => N - lenOf (a'.tmps.getD 9 undef)) rfl ?_ ?_
  · go_wp2_with fail
    go_step3
    obtain ⟨k, hk0⟩ : ∃ k : Nat, k = 0 := ⟨0, rfl⟩
    have hk : 2 * k < N := by omega
    have hO : OwnJ w w.heap.size (.slice none 0 0) (wkL bs a b s (2 * k)) := by rw [hk0]; exact OwnJ.nil _ _
    have HB := Lib.hid (Below.refl w.heap.size w)
    have hP := HM.out (2 * k)
    have hQ := HM.out (2 * k + 1)
    have hR := HM.out (2 * k + 2)
    have eQ : wk bs a b s (2 * k + 1) = third1 bs (a : Int) (wk bs a b s (2 * k)) := by show (if (2 * k) % 2 = 0 then _ else _) = _; rw [if_pos (by omega)]; rfl
    have eR : wk bs a b s (2 * k + 2) = third1 bs (b : Int) (wk bs a b s (2 * k + 1)) := by show (if (2 * k + 1) % 2 = 0 then _ else _) = _; rw [if_neg (by omega)]; rfl
    have hS := wkL_two bs a b s (2 * k)
    have hle : (wkL bs a b s (2 * k)).length ≤ 100 := by rw [wkL_len]; omega
    have hPn : wk bs a b s (2 * k) = (s : Int) := by rw [hk0]; rfl
    obtain ⟨Q, hQn⟩ := Int.eq_ofNat_of_zero_le hQ.1.1
    obtain ⟨R, hRn⟩ := Int.eq_ofNat_of_zero_le hR.1.1
    have tQ := tab_third HI.out HF.out (a := (a : Int)) (b := wk bs a b s (2 * k)) (by omega) hP.1 (fun e => hP.2.1 e.symm)
    have tR := tab_third HI.out HF.out (a := (b : Int)) (b := wk bs a b s (2 * k + 1)) (by omega) hQ.1 (fun e => hQ.2.2.1 e.symm)
    rw [← eQ] at tQ
    rw [← eR] at tR
    have hPr := hP.1
    have hQr := hQ.1
    rw [hPn] at hPr tQ hS
    rw [hQn] at hQr tQ tR hS
    rw [hRn] at tR
    have hSS := HSS.out.below HB.out (Nat.le_refl _)
    have o1 := hSS.cell a ha
    have o2 := hSS.cell b hb
    rw [rowT_len] at o1 o2
    have z1 := (hSS.row a ha).at_ s (by rw [rowT_len]; omega)
    have z2 := (hSS.row b hb).at_ Q (by rw [rowT_len]; omega)
    rw [rowT_at _ _ (by omega), Nat.zero_add] at z1 z2
    rw [show tabN bs a s = (Q : Int) from tQ] at z1
    rw [show tabN bs b Q = (R : Int) from tR] at z2
    have HSV := Lib.hid hS
    have HRN := Lib.hid hRn
    have HPN := Lib.hid hPn
    have g0 : (0 : Int) ≤ (a : Int) := by omega
    have g1 : (a : Int) < (n : Int) := by omega
    have g2 : (0 : Int) ≤ (b : Int) := by omega
    have g3 : (b : Int) < (n : Int) := by omega
    have g4 : (s : Int) < (n : Int) := by omega
    have g5 : (Q : Int) < (n : Int) := by omega
    have HOO := Lib.hid hO
    have hzB := HB.out.size
    have hGlt : G < w.heap.size := HSS.out.lt
    have hgb : gs b < w.heap.size := (HSS.out.row b hb).lt
    clear hk0 hP hQ hR eQ eR hS tQ tR hSS hPn hQn hRn hPr hQr hO
    by_cases hrs : R = s
    · have hne : ((R : Int) != (s : Int)) = false := by simp; omega
      have hNk : 2 * k + 2 = N := by
        apply Classical.byContradiction
        intro hc
        refine HFR.out 0 (2 * k + 2) (by omega) (by omega) ?_
        show wk bs a b s 0 = wk bs a b s (2 * k + 2)
        rw [HS0.out, HRN.out, hrs]
      have HNK := Lib.hid hNk
      clear hrs hNk
      go_wp2_with (at_builtin; refine wpList_append_int2 rfl _ _ rfl w.heap.size _ (wkL bs a b s (2 * k)) rfl (HOO.out.below ((Below.refl _ _).alloc (Nat.le_refl _) _) (Nat.le_refl _)) _ _ (s : Int) (Q : Int) rfl (by simp [go_sem]) (by simp [go_sem]) (by omega) (by simp <;> omega) ?_; intro g' cap' w4 hO4 hg4; have hrow := HOO.out.row; have hgo : w.grownBy w4 (Value.slice none 0 0).ownBlock := ⟨hg4.os, hg4.tape, hg4.output, by have := hg4.size; simp at this; omega, fun i hi hne => by
        rw [hg4.block i (by simp; omega) hne, Below.heap_alloc _ _ _ hi]⟩; have o3 := (hgo.cell o2 (fun e => by have := hrow G e.symm; omega)); have z3 := (hgo.cell z2 (fun e => by have := hrow (gs b) e.symm; omega)))
      simp only [Exit.jump]
      go_ret
      exact ⟨_, rfl, by rw [← HNK.out, HSV.out]; exact hO4, HB.out.grown hgo hzB (fun j e => hrow j e)⟩
    · have hne : ((R : Int) != (s : Int)) = true := by simp; omega
      have hNk : 2 * (k + 1) < N := by
        apply Classical.byContradiction
        intro hc
        have e : 2 * k + 2 = N := by omega
        have h1 := HNS.out
        rw [← e, HRN.out] at h1
        exact hrs (by omega)
      have HNK := Lib.hid hNk
      clear hrs hNk
      go_wp2_with (at_builtin; refine wpList_append_int2 rfl _ _ rfl w.heap.size _ (wkL bs a b s (2 * k)) rfl (HOO.out.below ((Below.refl _ _).alloc (Nat.le_refl _) _) (Nat.le_refl _)) _ _ (s : Int) (Q : Int) rfl (by simp [go_sem]) (by simp [go_sem]) (by omega) (by simp <;> omega) ?_; intro g' cap' w4 hO4 hg4; have hrow := HOO.out.row; have hgo : w.grownBy w4 (Value.slice none 0 0).ownBlock := ⟨hg4.os, hg4.tape, hg4.output, by have := hg4.size; simp at this; omega, fun i hi hne => by
        rw [hg4.block i (by simp; omega) hne, Below.heap_alloc _ _ _ hi]⟩; have o3 := (hgo.cell o2 (fun e => by have := hrow G e.symm; omega)); have z3 := (hgo.cell z2 (fun e => by have := hrow (gs b) e.symm; omega)))
      go_step3
      rw [← HRN.out]
      refine ⟨rfl, ⟨k + 1, _, _, _, _, _, _, _, _, _, _, _, _, _, _, _, _, _, _, _, _, _, _, _, _, rfl, HNK.out, by rw [show 2 * (k + 1) = 2 * k + 2 from rfl, HSV.out]; exact hO4, ⟨some ⟨g', 0, none⟩, cap', by rw [wkL_len]; rfl⟩, HB.out.grown hgo hzB (fun j e => hrow j e)⟩⟩
  · rintro a' wr ⟨k, o, u11, u13, u14, u15, u16, u17, u18, u19, u20, u21, u22, u23, u24, u25, u26, u27, u28, u29, u30, u31, u32, u33, u34, rfl, hk, hO, ⟨oa, oc, rfl⟩, hB⟩
    have HB := Lib.hid hB
    clear hB
    have hP := HM.out (2 * k)
    have hQ := HM.out (2 * k + 1)
    have hR := HM.out (2 * k + 2)
    have eQ : wk bs a b s (2 * k + 1) = third1 bs (a : Int) (wk bs a b s (2 * k)) := by show (if (2 * k) % 2 = 0 then _ else _) = _; rw [if_pos (by omega)]; rfl
    have eR : wk bs a b s (2 * k + 2) = third1 bs (b : Int) (wk bs a b s (2 * k + 1)) := by show (if (2 * k + 1) % 2 = 0 then _ else _) = _; rw [if_neg (by omega)]; rfl
    have hS := wkL_two bs a b s (2 * k)
    have hle : (wkL bs a b s (2 * k)).length ≤ 100 := by rw [wkL_len]; omega
    obtain ⟨P, hPn⟩ := Int.eq_ofNat_of_zero_le hP.1.1
    obtain ⟨Q, hQn⟩ := Int.eq_ofNat_of_zero_le hQ.1.1
    obtain ⟨R, hRn⟩ := Int.eq_ofNat_of_zero_le hR.1.1
    have tQ := tab_third HI.out HF.out (a := (a : Int)) (b := wk bs a b s (2 * k)) (by omega) hP.1 (fun e => hP.2.1 e.symm)
    have tR := tab_third HI.out HF.out (a := (b : Int)) (b := wk bs a b s (2 * k + 1)) (by omega) hQ.1 (fun e => hQ.2.2.1 e.symm)
    rw [← eQ] at tQ
    rw [← eR] at tR
    have hPr := hP.1
    have hQr := hQ.1
    rw [hPn] at hPr tQ hS
    rw [hQn] at hQr tQ tR hS
    rw [hRn] at tR
    have hSS := HSS.out.below HB.out (Nat.le_refl _)
    have o1 := hSS.cell a ha
    have o2 := hSS.cell b hb
    rw [rowT_len] at o1 o2
    have z1 := (hSS.row a ha).at_ P (by rw [rowT_len]; omega)
    have z2 := (hSS.row b hb).at_ Q (by rw [rowT_len]; omega)
    rw [rowT_at _ _ (by omega), Nat.zero_add] at z1 z2
    rw [show tabN bs a P = (Q : Int) from tQ] at z1
    rw [show tabN bs b Q = (R : Int) from tR] at z2
    have HSV := Lib.hid hS
    have HRN := Lib.hid hRn
    have HPN := Lib.hid hPn
    have g0 : (0 : Int) ≤ (a : Int) := by omega
    have g1 : (a : Int) < (n : Int) := by omega
    have g2 : (0 : Int) ≤ (b : Int) := by omega
    have g3 : (b : Int) < (n : Int) := by omega
    have g4 : (P : Int) < (n : Int) := by omega
    have g5 : (Q : Int) < (n : Int) := by omega
    have HOO := Lib.hid hO
    have hzB := HB.out.size
    have hGlt : G < w.heap.size := HSS.out.lt
    have hgb : gs b < w.heap.size := (HSS.out.row b hb).lt
    rw [hPn]
    clear hP hQ hR eQ eR hS tQ tR hSS hPn hQn hRn hPr hQr hO
    by_cases hrs : R = s
    · have hne : ((R : Int) != (s : Int)) = false := by simp; omega
      have hNk : 2 * k + 2 = N := by
        apply Classical.byContradiction
        intro hc
        refine HFR.out 0 (2 * k + 2) (by omega) (by omega) ?_
        show wk bs a b s 0 = wk bs a b s (2 * k + 2)
        rw [HS0.out, HRN.out, hrs]
      have HNK := Lib.hid hNk
      clear hrs hNk
      go_wp2_with (at_builtin; refine wpList_append_int2 rfl _ _ rfl w.heap.size _ (wkL bs a b s (2 * k)) rfl (HOO.out.below ((Below.refl _ _).alloc (Nat.le_refl _) _) (Nat.le_refl _)) _ _ (P : Int) (Q : Int) rfl (by simp [go_sem]) (by simp [go_sem]) (by omega) (by simp <;> omega) ?_; intro g' cap' w4 hO4 hg4; have hrow := HOO.out.row; have hgo : wr.grownBy w4 (Value.slice oa (2 * k) oc).ownBlock := ⟨hg4.os, hg4.tape, hg4.output, by have := hg4.size; simp at this; omega, fun i hi hne => by
        rw [hg4.block i (by simp; omega) hne, Below.heap_alloc _ _ _ hi]⟩; have o3 := (hgo.cell o2 (fun e => by have := hrow G e.symm; omega)); have z3 := (hgo.cell z2 (fun e => by have := hrow (gs b) e.symm; omega)))
      simp only [Exit.jump]
      go_ret
      exact ⟨_, rfl, by rw [← HNK.out, HSV.out]; exact hO4, HB.out.grown hgo hzB (fun j e => hrow j e)⟩
    · have hne : ((R : Int) != (s : Int)) = true := by simp; omega
      have hNk : 2 * (k + 1) < N := by
        apply Classical.byContradiction
        intro hc
        have e : 2 * k + 2 = N := by omega
        have h1 := HNS.out
        rw [← e, HRN.out] at h1
        exact hrs (by omega)
      have HNK := Lib.hid hNk
      clear hrs hNk
      go_wp2_with (at_builtin; refine wpList_append_int2 rfl _ _ rfl w.heap.size _ (wkL bs a b s (2 * k)) rfl (HOO.out.below ((Below.refl _ _).alloc (Nat.le_refl _) _) (Nat.le_refl _)) _ _ (P : Int) (Q : Int) rfl (by simp [go_sem]) (by simp [go_sem]) (by omega) (by simp <;> omega) ?_; intro g' cap' w4 hO4 hg4; have hrow := HOO.out.row; have hgo : wr.grownBy w4 (Value.slice oa (2 * k) oc).ownBlock := ⟨hg4.os, hg4.tape, hg4.output, by have := hg4.size; simp at this; omega, fun i hi hne => by
        rw [hg4.block i (by simp; omega) hne, Below.heap_alloc _ _ _ hi]⟩; have o3 := (hgo.cell o2 (fun e => by have := hrow G e.symm; omega)); have z3 := (hgo.cell z2 (fun e => by have := hrow (gs b) e.symm; omega)))
      go_step3
      rw [← HRN.out]
      refine ⟨rfl, ⟨k + 1, _, _, _, _, _, _, _, _, _, _, _, _, _, _, _, _, _, _, _, _, _, _, _, _, rfl, HNK.out, by rw [show 2 * (k + 1) = 2 * k + 2 from rfl, HSV.out]; exact hO4, ⟨some ⟨g', 0, none⟩, cap', by rw [wkL_len]; rfl⟩, HB.out.grown hgo hzB (fun j e => hrow j e)⟩, by rw [wkL_len]; simp [lenOf]; omega⟩
end Go.Proofs.Ytmgpmcjbnooklaa

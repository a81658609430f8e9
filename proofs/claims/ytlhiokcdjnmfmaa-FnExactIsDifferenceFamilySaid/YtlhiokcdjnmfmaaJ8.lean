
/- What DoubleSystem answers: plain. Renumbered systems, and systems of blocks in any order: plain. Rows of blocks that are written and sorted in place. The contract of slices.Sort, laid at []int64. The program's blockFrom: three numbers in order. The contract of slices.Compact, laid at []int64. impl.pointsIn and impl.PointsOfTrade. The contract of slices.Grow, laid at the blocks and at []int64. slices.Concat of rows of three. The contract of slices.Equal, laid at []int64. impl.IsDifferenceFamily. impl.IsDifferenceFamily. -/
import Derived.Test.YtlhiokcdjnmfmaaJ7
import Derived.Shelf.SlSortCmp.NoneTotal
import Derived.Shelf.SortM.Plain
import Derived.Ground.SlgmProg
import Derived.Test.YtlhiokcdjnmfmaaProg
import Derived.Shelf.SlicesG.CompactI
import Derived.Ground.SlgnProg
import Derived.Shelf.SortM.SortNone
import Derived.Shelf.Spec.SlicesGrow
import Derived.Ground.Names8Prog
import Derived.Shelf.SlicesG.Equal
namespace Go.Proofs.Ytlhiokcdjnmfmaa
def dblB (v : Int) (x : Blk) : List Blk := [⟨x.a, v + x.b, v + x.c⟩, ⟨x.b, v + x.a, v + x.c⟩, ⟨x.c, v + x.a, v + x.b⟩]
def dblP (v : Int) (k : Nat) : List Blk := (List.range k).map fun (a : Nat) => ⟨(a : Int), v + (a : Int), 2 * v⟩
theorem dblP_succ (v : Int) (k : Nat) : dblP v (k + 1) = dblP v k ++ [⟨(k : Int), v + (k : Int), 2 * v⟩] := by simp [dblP, List.range_succ]
theorem dblP_len (v : Int) (k : Nat) : (dblP v k).length = k := by simp [dblP]
def dblA (v : Int) (bs : List Blk) (k : Nat) : List Blk := bs ++ (bs.take k).flatMap (dblB v)
theorem dblA_succ {v : Int} {bs : List Blk} {k : Nat} (hk : k < bs.length) {x : Blk} (hx : bs[k]? = some x) : dblA v bs (k + 1) = dblA v bs k ++ dblB v x := by
  have e : bs[k] = x := by
    rw [List.getElem?_eq_getElem hk] at hx
    simpa using hx
  unfold dblA
  rw [List.take_succ_eq_append_getElem hk, e, List.flatMap_append, List.append_assoc]
  simp
theorem dblB_len (v : Int) : ∀ l : List Blk, (l.flatMap (dblB v)).length = 3 * l.length
  | [] => rfl
  | x :: r => by rw [List.flatMap_cons, List.length_append, dblB_len v r]; simp [dblB]; omega
theorem dblA_len (v : Int) (bs : List Blk) {k : Nat} (hk : k ≤ bs.length) : (dblA v bs k).length = bs.length + 3 * k := by
  unfold dblA
  rw [List.length_append, dblB_len, List.length_take, Nat.min_eq_left hk]
def dblL (v : Int) (bs : List Blk) : List Blk := dblA v bs bs.length ++ dblP v v.toNat
theorem dblL_len (v : Int) (bs : List Blk) : (dblL v bs).length = bs.length + 3 * bs.length + v.toNat := by
  unfold dblL
  rw [List.length_append, dblA_len v bs (Nat.le_refl _), dblP_len]
theorem dblL_mem {v : Int} (hv : 0 ≤ v) (hv15 : v ≤ 15) {bs : List Blk} (hg : ∀ x ∈ bs, goodB v x = true) : ∀ x ∈ dblL v bs, (0 ≤ x.a ∧ x.a ≤ 1000) ∧ (0 ≤ x.b ∧ x.b ≤ 1000) ∧ (0 ≤ x.c ∧ x.c ≤ 1000) := by
  intro x hx
  unfold dblL dblA at hx
  rw [List.take_length] at hx
  rcases List.mem_append.1 hx with hx | hx
  · rcases List.mem_append.1 hx with hx | hx
    · have := goodB_iff.1 (hg x hx); omega
    · obtain ⟨y, hy, hxy⟩ := List.mem_flatMap.1 hx
      have := goodB_iff.1 (hg y hy)
      simp only [dblB, List.mem_cons, List.not_mem_nil, or_false] at hxy
      rcases hxy with rfl | rfl | rfl <;> (dsimp only; omega)
  · obtain ⟨a, ha, rfl⟩ := List.mem_map.1 hx
    have := List.mem_range.1 ha
    dsimp only
    omega
/-- The smallest, the middle and the greatest of three. -/
def blk3 (a b c : Int) : Blk := ⟨min (min a b) c, a + b + c - min (min a b) c - max (max a b) c, max (max a b) c⟩
theorem blk3_of {a b c p q r : Int} (hp : p = min (min a b) c) (hr : r = max (max a b) c) (hq : q = a + b + c - p - r) : blk3 a b c = ⟨p, q, r⟩ := by
  unfold blk3
  rw [← hp, ← hr, ← hq]
end Go.Proofs.Ytlhiokcdjnmfmaa

namespace Go.Proofs.Ytlhiokcdjnmfmaa
/-- Each number is a point, and comes once. -/
def rnGo (v : Int) : List Int → List Int → Bool
  | _, [] => true
  | seen, a :: r => inP v a && !(decide (a ∈ seen)) && rnGo v (seen ++ [a]) r
def isRen (v : Int) (p : List Int) : Bool := decide ((p.length : Int) = v) && rnGo v [] p
theorem rnGo_in {v : Int} : ∀ {l seen : List Int}, rnGo v seen l = true → ∀ a ∈ l, inP v a = true
  | [], _, _, a, h => by cases h
  | b :: r, seen, h, a, ha => by
    simp only [rnGo, Bool.and_eq_true] at h
    rcases List.mem_cons.1 ha with rfl | ha
    · exact h.1.1
    · exact rnGo_in h.2 a ha
theorem rnGo_bad {v : Int} {a : Int} {r seen : List Int} (h : inP v a = false) : rnGo v seen (a :: r) = false := by simp [rnGo, h]
theorem rnGo_dup {v : Int} {a : Int} {r seen : List Int} (h : a ∈ seen) : rnGo v seen (a :: r) = false := by simp [rnGo, h]
theorem rnGo_next {v : Int} {a : Int} {r seen : List Int} (h : inP v a = true) (h2 : a ∉ seen) : rnGo v seen (a :: r) = rnGo v (seen ++ [a]) r := by simp [rnGo, h, h2]
def at0 (p : List Int) (a : Int) : Int := p[a.toNat]?.getD 0
def renB (p : List Int) (x : Blk) : Blk := blk3 (at0 p x.a) (at0 p x.b) (at0 p x.c)
/-- A system and a code: points, blocks, code. -/
def renF (v : Int) (bs : List Blk) (p : List Int) : Int × List Blk × Int :=
  if isSysImpl v bs then (if isRen v p then (v, sortB (bs.map (renB p)), 0) else (0, [], 2)) else (0, [], 1)
theorem renF_len (v : Int) (bs : List Blk) (p : List Int) : (renF v bs p).2.1.length ≤ bs.length := by
  unfold renF
  split
  · split
    · simp only [sortB_length, List.length_map]; exact Nat.le_refl _
    · simp
  · simp
theorem at0_in {v : Int} {p : List Int} (h : isRen v p = true) {a : Int} (h0 : 0 ≤ a) (h1 : a < v) : 0 ≤ at0 p a ∧ at0 p a < v := by
  unfold isRen at h
  simp only [Bool.and_eq_true, decide_eq_true_eq] at h
  have hl : a.toNat < p.length := by omega
  have := rnGo_in h.2 p[a.toNat] (List.getElem_mem hl)
  rw [inP] at this
  simp only [Bool.and_eq_true, decide_eq_true_eq] at this
  unfold at0
  rw [List.getElem?_eq_getElem hl]
  exact this
theorem blk3_in {v a b c : Int} (ha : 0 ≤ a ∧ a < v) (hb : 0 ≤ b ∧ b < v) (hc : 0 ≤ c ∧ c < v) : (0 ≤ (blk3 a b c).a ∧ (blk3 a b c).a < v) ∧ (0 ≤ (blk3 a b c).b ∧ (blk3 a b c).b < v) ∧ (0 ≤ (blk3 a b c).c ∧ (blk3 a b c).c < v) := by
  unfold blk3
  dsimp only
  omega
/-- The middle one. -/
theorem blk3_good {v a b c : Int} : goodB v (blk3 a b c) = true ↔ (0 ≤ a ∧ a < v) ∧ (0 ≤ b ∧ b < v) ∧ (0 ≤ c ∧ c < v) ∧ a ≠ b ∧ b ≠ c ∧ a ≠ c := by
  rw [goodB_iff]
  unfold blk3
  dsimp only
  omega
def b3 (x : Blk) : Blk := blk3 x.a x.b x.c
def sysOfF (v : Int) (bs : List Blk) : Int × List Blk × Int :=
  if decide (3 ≤ v) && decide (v ≤ 15) && decide (bs.length ≤ 35) && bs.all (fun x => goodB v (b3 x)) then
    (if shareGo [] (bs.map b3) then (0, [], 5) else (v, sortB (bs.map b3), 0))
  else (0, [], 2)
theorem sort3 (a b c : Int) : [a, b, c].mergeSort (fun x y => decide (x ≤ y)) = [(blk3 a b c).a, (blk3 a b c).b, (blk3 a b c).c] := by
  have hs : ([a, b, c].mergeSort (fun x y => decide (x ≤ y))).Pairwise (· ≤ ·) := by
    have := List.pairwise_mergeSort (le := fun x y : Int => decide (x ≤ y)) (fun x y z h1 h2 => by simp at *; omega) (fun x y => by simp; omega) [a, b, c]
    exact this.imp (by simp)
  have hp := List.mergeSort_perm [a, b, c] (fun x y : Int => decide (x ≤ y))
  have hs2 : [(blk3 a b c).a, (blk3 a b c).b, (blk3 a b c).c].Pairwise (· ≤ ·) := by
    unfold blk3
    simp
    omega
  have hp2 : [(blk3 a b c).a, (blk3 a b c).b, (blk3 a b c).c].Perm [a, b, c] := by
    unfold blk3
    dsimp only
    rw [List.perm_iff_count]
    intro x
    simp only [List.count_cons, List.count_nil, beq_iff_eq]
    by_cases h1 : a ≤ b <;> by_cases h2 : b ≤ c <;> by_cases h3 : a ≤ c <;> simp only [Int.min_def, Int.max_def, h1, h2, h3, if_true, if_false] <;> (try omega) <;> (repeat' split) <;> omega
  exact (hp.trans hp2.symm).eq_of_pairwise (fun x y _ _ h1 h2 => by omega) hs hs2
end Go.Proofs.Ytlhiokcdjnmfmaa

namespace Go.Proofs.Ytlhiokcdjnmfmaa
open Go.RowKit Go.Maps Go.Sort
theorem heap_set_own {w : World} {g o : Nat} {u : Value} {cs : Array Value} {e : TypeId} {fr : Nat × Nat} (h : w.heap[g]? = some (.cells cs e fr)) : (w.setCell ⟨g, o, none⟩ u).heap[g]? = some (.cells (cs.setIfInBounds o u) e fr) := by
  obtain ⟨hlt, hk⟩ := Array.getElem?_eq_some_iff.1 h
  show (w.heap.modify g _)[g]? = _
  rw [Array.getElem?_eq_getElem (by rw [Array.size_modify]; exact hlt), Array.getElem_modify_self, hk]
  rfl
theorem flat_set : ∀ (bs : List Blk) (i : Nat) (x : Blk), i < bs.length → (((bs.flatMap cells3).set (i * 3) (.int .i64 x.a)).set (i * 3 + 1) (.int .i64 x.b)).set (i * 3 + 2) (.int .i64 x.c) = (bs.set i x).flatMap cells3
  | [], _, _, h => by simp at h
  | y :: r, 0, x, _ => by simp [cells3]
  | y :: r, i + 1, x, h => by
    have ih := flat_set r i x (by simpa using h)
    rw [List.set_cons_succ, List.flatMap_cons, List.flatMap_cons, ← ih]
    rw [show (i + 1) * 3 = i * 3 + 1 + 1 + 1 by omega, show i * 3 + 1 + 1 + 1 + 1 = i * 3 + 1 + 1 + 1 + 1 from rfl, show i * 3 + 1 + 1 + 1 + 2 = i * 3 + 2 + 1 + 1 + 1 by omega]
    simp only [cells3, List.cons_append, List.nil_append, List.set_cons_succ]
theorem OwnR.set3 {w : World} {base g n cap : Nat} {bs : List Blk} (h : OwnR w base (.slice (some ⟨g, 0, none⟩) n cap) bs) {i : Nat} (hi : i < bs.length) (x : Blk) :
    OwnR (((w.setCell ⟨g, i * 3, none⟩ (.int .i64 x.a)).setCell ⟨g, i * 3 + 1, none⟩ (.int .i64 x.b)).setCell ⟨g, i * 3 + 2, none⟩ (.int .i64 x.c)) base (.slice (some ⟨g, 0, none⟩) n cap) (bs.set i x) := by
  obtain ⟨hl, h | ⟨g', cap', cur, hv, hb, hcur, hn, hc, hsz, hx⟩⟩ := h
  · cases h.1
  · cases hv
    refine ⟨by rw [flat_length, List.length_set], .inr ⟨g, cap, _, by rw [List.length_set], hb, heap_set_own (heap_set_own (heap_set_own hcur)), by rw [List.length_set]; exact hn, hc, by simpa using hsz, ?_⟩⟩
    rw [List.length_set, Array.toList_setIfInBounds, Array.toList_setIfInBounds, Array.toList_setIfInBounds, List.take_set, List.take_set, List.take_set, hx]
    exact flat_set bs i x hi
theorem OwnR.at_ {w : World} {base g n cap : Nat} {bs : List Blk} (h : OwnR w base (.slice (some ⟨g, 0, none⟩) n cap) bs) : n = bs.length ∧ base ≤ g ∧ OwnAt w g bs := by
  rcases h.res with ⟨rfl, a, c, e⟩ | ⟨g', cap', e, h1, h2, h3⟩
  · cases e
    obtain ⟨hl, h | ⟨g', cap', cur, hv, hb, hcur, hn, hc, hsz, hx⟩⟩ := h
    · cases h.1
    · cases hv
      exact ⟨rfl, hb, ⟨(Array.getElem?_eq_some_iff.1 hcur).1, fun k hk => by simp at hk, fun o => by simp [World.frozen?, hcur]⟩⟩
  · cases e
    exact ⟨rfl, h1, h3⟩

theorem heap_put {w : World} {g n : Nat} {os : Array Obj} {cur : Array Value} {e : TypeId} {fr : Nat × Nat} (F : Array Value) (hb : w.heap[g]? = some (.cells cur e fr)) :
    (grow (putRow id (Sort.ahead w n) g 0 F) os).heap[g]? = some (.cells (putCells id 0 F cur) e fr) := by
  have hg : g < w.heap.size := (Array.getElem?_eq_some_iff.1 hb).1
  rw [heap_grow_old _ _ (by simpa using hg)]
  simp [putRow, mapBlock, Sort.ahead, Array.getElem?_modify, hb, onCells]
theorem grownBy_put {w : World} {g n : Nat} {os : Array Obj} (F : Array Value) : w.grownBy (grow (putRow id (Sort.ahead w n) g 0 F) os) (some g) := by
  refine ⟨rfl, rfl, rfl, by simp, fun k hk hne => ?_⟩
  rw [heap_grow_old _ _ (by simpa using hk)]
  have : g ≠ k := fun e => hne (by rw [e])
  simp [putRow, mapBlock, Sort.ahead, Array.getElem?_modify, this]
theorem take_put (cur F : Array Value) (h : F.size ≤ cur.size) : (putCells id 0 F cur).toList.take F.size = F.toList := by
  apply List.ext_getElem?
  intro j
  by_cases hj : j < F.size
  · rw [List.getElem?_take_of_lt hj, Array.getElem?_toList]
    simp [putCells, hj, show j < cur.size by omega]
  · rw [List.getElem?_take_eq_none (by omega), List.getElem?_eq_none (by simp; omega)]
theorem cells3_at (x : Blk) : (cells3 x)[0]! = .int .i64 x.a ∧ (cells3 x)[1]! = .int .i64 x.b ∧ (cells3 x)[2]! = .int .i64 x.c := ⟨rfl, rfl, rfl⟩
theorem flatK_at (bs : List Blk) (j : Nat) (h : j < bs.length * 3) : (flatK cells3 3 bs.toArray)[j]! = (bs.flatMap cells3)[j]?.getD undef := by
  rw [get_flatK _ _ _ _ (by simpa using h)]
  have hk : j / 3 < bs.length := by omega
  obtain ⟨h0, h1, h2⟩ := flat_at bs (j / 3) hk
  obtain ⟨c0, c1, c2⟩ := cells3_at (bs.toArray[j / 3]!)
  have e : bs.toArray[j / 3]! = bs[j / 3]?.getD default := by simp [hk]
  rw [e] at c0 c1 c2
  rw [e]
  have hm : j % 3 = 0 ∨ j % 3 = 1 ∨ j % 3 = 2 := by omega
  rcases hm with hm | hm | hm
  · rw [hm, c0]; rw [show j / 3 * 3 = j by omega] at h0; rw [h0]; rfl
  · rw [hm, c1]; rw [show j / 3 * 3 + 1 = j by omega] at h1; rw [h1]; rfl
  · rw [hm, c2]; rw [show j / 3 * 3 + 2 = j by omega] at h2; rw [h2]; rfl
theorem flatK_list (bs : List Blk) : (flatK cells3 3 bs.toArray).toList = bs.flatMap cells3 := by
  apply List.ext_getElem?
  intro j
  by_cases hj : j < bs.length * 3
  · have h1 := flatK_at bs j hj
    have hs : j < (flatK cells3 3 bs.toArray).size := by rw [size_flatK]; simpa using hj
    rw [getElem!_pos _ j hs] at h1
    rw [Array.getElem?_toList, Array.getElem?_eq_getElem hs, h1]
    have hf : j < (bs.flatMap cells3).length := by rw [flat_length]; exact hj
    rw [List.getElem?_eq_getElem hf]
    rfl
  · have h1 : (flatK cells3 3 bs.toArray).toList.length = bs.length * 3 := by rw [Array.length_toList, size_flatK]; simp
    rw [List.getElem?_eq_none (by omega), List.getElem?_eq_none (by rw [flat_length]; omega)]
theorem OwnAt.holds {w : World} {g : Nat} {bs : List Blk} (h : OwnAt w g bs) : HoldsK cells3 3 w g 0 bs.toArray := by
  intro j hj
  rw [size_flatK, List.size_toArray] at hj
  refine ⟨?_, h.free _⟩
  rw [flatK_at bs j hj, Nat.zero_add]
  obtain ⟨h0, h1, h2⟩ := h.at_ (j / 3) (by omega)
  obtain ⟨f0, f1, f2⟩ := flat_at bs (j / 3) (by omega)
  rw [Nat.zero_add] at h0 h1 h2
  have hm : j % 3 = 0 ∨ j % 3 = 1 ∨ j % 3 = 2 := by omega
  rcases hm with hm | hm | hm
  · rw [show j / 3 * 3 = j by omega] at h0 f0; rw [h0, f0]; rfl
  · rw [show j / 3 * 3 + 1 = j by omega] at h1 f1; rw [h1, f1]; rfl
  · rw [show j / 3 * 3 + 2 = j by omega] at h2 f2; rw [h2, f2]; rfl
/-- Behind the sort the same slice owns the blocks in order. -/
theorem OwnR.sorted {w : World} {base g n cap : Nat} {bs cs : List Blk} (h : OwnR w base (.slice (some ⟨g, 0, none⟩) n cap) bs) (hl : cs.length = bs.length) (m : Nat) (os : Array Obj) :
    OwnR (sortWorldK cells3 3 w g 0 m cs.toArray os) base (.slice (some ⟨g, 0, none⟩) n cap) cs ∧ w.grownBy (sortWorldK cells3 3 w g 0 m cs.toArray os) (some g) := by
  refine ⟨?_, grownBy_put _⟩
  obtain ⟨hl2, h | ⟨g', cap', cur, hv, hb, hcur, hn, hc, hsz, hx⟩⟩ := h
  · cases h.1
  · cases hv
    have hF : (flatK cells3 3 cs.toArray).size = cs.length * 3 := by rw [size_flatK]; simp
    refine ⟨by rw [flat_length], .inr ⟨g, cap, _, by rw [hl], hb, heap_put _ hcur, by rw [hl]; exact hn, hc, by simp [putCells]; omega, ?_⟩⟩
    rw [← hF, take_put _ _ (by rw [hF, hl]; have := Nat.mul_le_mul_right 3 hn; omega)]
    exact flatK_list cs
theorem lt_bef (x y : Blk) : ltOf cmpB x y = befB x y := by
  unfold ltOf
  rw [Bool.eq_iff_iff, ← cmpB_neg]
  simp
theorem swoB : SWO (ltOf cmpB) where
  irrefl x := by rw [lt_bef]; exact bef_irrefl x
  trans x y z h1 h2 := by rw [lt_bef] at *; exact bef_trans h1 h2
  ntrans x y z h1 h2 := by rw [lt_bef] at *; exact bef_ntrans h1 h2
theorem totB (x y : Blk) (h1 : ltOf cmpB x y = false) (h2 : ltOf cmpB y x = false) : x = y := by rw [lt_bef] at *; exact bef_total h1 h2
theorem mergeB (bs : List Blk) : (bs.mergeSort fun x y => !ltOf cmpB y x) = sortB bs := by
  rw [← sortB_merge]
  congr 1
  funext x y
  rw [lt_bef]
theorem compareBlocks_lays (x y : Blk) (w : World) : Calls Try.prog 113 #[bv x, bv y] w fun e w' => e = .returned (.int .i64 (cmpB x y)) ∧ ∃ q os, w' = grow (w.drewN q) os := by
  obtain ⟨a, b, c⟩ := x
  obtain ⟨d, e, f⟩ := y
  unfold bv
  dsimp only
  go_enter Try.func113, Try.ntmps113
  go_wp2
  go_quiet ((go_at_call 81; exact RS.quiet (Compare_any _ 0 _ _ 0 _ [a, b, c] [d, e, f] _ (ints3 (by simp [go_sem]) (by simp [go_sem]) (by simp [go_sem])) (ints3 (by simp [go_sem]) (by simp [go_sem]) (by simp [go_sem])) (by simp) (by simp))))
  go_wp2
  go_ret
  exact ⟨rfl, _, _, by rw [alloc_eq_grow, alloc_eq_grow, grow_grow]; rfl⟩
end Go.Proofs.Ytlhiokcdjnmfmaa

namespace Go.Proofs
open Go.Shelf
def Try.sortI_ren : Go.Shelf.Ren := ⟨fun | 5 => 83 | 8 => 135 | 7 => 134 | 19 => 170 | 20 => 171 | 10 => 161 | 11 => 162 | 12 => 163 | 13 => 164 | 14 => 165 | 15 => 166 | 16 => 167 | 17 => 168 | 18 => 169 | 30 => 189 | 31 => 190 | 32 => 191 | 33 => 192 | 34 => 193 | 35 => 160 | 40 => 206 | n => n, fun | 23 => 26 | 25 => 2 | 3 => 3 | 32 => 127 | 22 => 26 | 0 => 0 | 44 => 165 | 46 => 113 | 4 => 4 | 36 => 158 | 35 => 157 | 41 => 162 | 5 => 5 | 9 => 9 | 53 => 178 | 57 => 182 | 63 => 191 | 64 => 192 | n => n, fun | n => n⟩
theorem Try.sortI : Go.Proofs.SlLaysM.n5 Try.prog Try.sortI_ren := {
  mixed := by kernel_rfl
  f5 := ⟨Try.f83.name, by decide, Try.func83.trans (congrArg some (by kernel_rfl))⟩
  f7 := ⟨Try.f134.name, by decide, Try.func134.trans (congrArg some (by kernel_rfl))⟩
  f8 := Try.func135.trans (congrArg some (by kernel_rfl))
  f10 := ⟨Try.f161.name, by decide, Try.func161.trans (congrArg some (by kernel_rfl))⟩
  f11 := ⟨Try.f162.name, by decide, Try.func162.trans (congrArg some (by kernel_rfl))⟩
  f12 := ⟨Try.f163.name, by decide, Try.func163.trans (congrArg some (by kernel_rfl))⟩
  f13 := ⟨Try.f164.name, by decide, Try.func164.trans (congrArg some (by kernel_rfl))⟩
  f14 := ⟨Try.f165.name, by decide, Try.func165.trans (congrArg some (by kernel_rfl))⟩
  f15 := ⟨Try.f166.name, by decide, Try.func166.trans (congrArg some (by kernel_rfl))⟩
  f16 := ⟨Try.f167.name, by decide, Try.func167.trans (congrArg some (by kernel_rfl))⟩
  f17 := ⟨Try.f168.name, by decide, Try.func168.trans (congrArg some (by kernel_rfl))⟩
  f18 := ⟨Try.f169.name, by decide, Try.func169.trans (congrArg some (by kernel_rfl))⟩
  f19 := Try.func170.trans (congrArg some (by kernel_rfl))
  f20 := Try.func171.trans (congrArg some (by kernel_rfl))
  f30 := ⟨Try.f189.name, by decide, Try.func189.trans (congrArg some (by kernel_rfl))⟩
  f31 := Try.func190.trans (congrArg some (by kernel_rfl))
  f32 := Try.func191.trans (congrArg some (by kernel_rfl))
  f33 := ⟨Try.f192.name, by decide, Try.func192.trans (congrArg some (by kernel_rfl))⟩
  f34 := ⟨Try.f193.name, by decide, Try.func193.trans (congrArg some (by kernel_rfl))⟩
  f35 := ⟨Try.f160.name, by decide, Try.func160.trans (congrArg some (by kernel_rfl))⟩
  f40 := ⟨Try.f206.name, by decide, Try.func206.trans (congrArg some (by kernel_rfl))⟩
  t0 := Try.underlying0
  a0 := Try.isAgg0
  z0 := Try.sizeOf0
  v0 := Try.zeroValue0
  t3 := Try.underlying3
  a3 := Try.isAgg3
  z3 := Try.sizeOf3
  v3 := Try.zeroValue3
  t4 := Try.underlying4
  a4 := Try.isAgg4
  z4 := Try.sizeOf4
  v4 := Try.zeroValue4
  t5 := Try.underlying5
  a5 := Try.isAgg5
  z5 := Try.sizeOf5
  v5 := Try.zeroValue5
  t9 := Try.underlying9
  a9 := Try.isAgg9
  z9 := Try.sizeOf9
  v9 := Try.zeroValue9
  t22 := Try.underlying26
  a22 := Try.isAgg26
  z22 := Try.sizeOf26
  v22 := Try.zeroValue26
  t23 := Try.underlying26
  a23 := Try.isAgg26
  z23 := Try.sizeOf26
  v23 := Try.zeroValue26
  t25 := Try.underlying2
  a25 := Try.isAgg2
  z25 := Try.sizeOf2
  v25 := Try.zeroValue2
  t32 := Try.underlying127
  a32 := Try.isAgg127
  z32 := Try.sizeOf127
  v32 := Try.zeroValue127
  t35 := Try.underlying157
  a35 := Try.isAgg157
  z35 := Try.sizeOf157
  v35 := Try.zeroValue157
  t36 := Try.underlying158
  a36 := Try.isAgg158
  z36 := Try.sizeOf158
  v36 := Try.zeroValue158
  t41 := Try.underlying162
  a41 := Try.isAgg162
  z41 := Try.sizeOf162
  v41 := Try.zeroValue162
  t44 := Try.underlying165
  a44 := Try.isAgg165
  z44 := Try.sizeOf165
  v44 := Try.zeroValue165
  t46 := Try.underlying113
  a46 := Try.isAgg113
  z46 := Try.sizeOf113
  v46 := Try.zeroValue113
  t53 := Try.underlying178
  a53 := Try.isAgg178
  z53 := Try.sizeOf178
  v53 := Try.zeroValue178
  t57 := Try.underlying182
  a57 := Try.isAgg182
  z57 := Try.sizeOf182
  v57 := Try.zeroValue182
  t63 := Try.underlying191
  a63 := Try.isAgg191
  z63 := Try.sizeOf191
  v63 := Try.zeroValue191
  t64 := Try.underlying192
  a64 := Try.isAgg192
  z64 := Try.sizeOf192
  v64 := Try.zeroValue192 }
end Go.Proofs

namespace Go.Proofs.Ytlhiokcdjnmfmaa
open Go.RowKit Go.Maps Go.Sort Go.Shelf
theorem heap_put' {α : Type} [Inhabited α] (enc : α → Value) {w : World} {g n : Nat} {os : Array Obj} {cur : Array Value} {e : TypeId} {fr : Nat × Nat} (F : Array α) (hb : w.heap[g]? = some (.cells cur e fr)) :
    (grow (putRow enc (Sort.ahead w n) g 0 F) os).heap[g]? = some (.cells (putCells enc 0 F cur) e fr) := by
  have hg : g < w.heap.size := (Array.getElem?_eq_some_iff.1 hb).1
  rw [heap_grow_old _ _ (by simpa using hg)]
  simp [putRow, mapBlock, Sort.ahead, Array.getElem?_modify, hb, onCells]
theorem grownBy_put' {α : Type} [Inhabited α] (enc : α → Value) {w : World} {g n : Nat} {os : Array Obj} (F : Array α) : w.grownBy (grow (putRow enc (Sort.ahead w n) g 0 F) os) (some g) := by
  refine ⟨rfl, rfl, rfl, by simp, fun k hk hne => ?_⟩
  rw [heap_grow_old _ _ (by simpa using hk)]
  have : g ≠ k := fun e => hne (by rw [e])
  simp [putRow, mapBlock, Sort.ahead, Array.getElem?_modify, this]
theorem sort3_any (b : Nat) (x y z : Int) (w : World) (h : w.heap[b]? = some (.cells #[.int .i64 x, .int .i64 y, .int .i64 z] 77 (0, 0))) :
    Calls Try.prog 83 #[.slice (some ⟨b, 0, none⟩) 3 3] w fun e w' => e = .returned (.tuple #[]) ∧ w.grownBy w' (some b) ∧ w'.heap[b]? = some (.cells #[.int .i64 (blk3 x y z).a, .int .i64 (blk3 x y z).b, .int .i64 (blk3 x y z).c] 77 (0, 0)) := by
  have hlt : b < w.heap.size := (Array.getElem?_eq_some_iff.1 h).1
  have hH : Holds (Value.int .i64) w b 0 [x, y, z].toArray := by
    intro j hj
    simp at hj
    rw [Nat.zero_add]
    match j, hj with
    | 0, _ => exact ⟨by simp [World.cell?, h], by simp [World.frozen?, h]⟩
    | 1, _ => exact ⟨by simp [World.cell?, h], by simp [World.frozen?, h]⟩
    | 2, _ => exact ⟨by simp [World.cell?, h], by simp [World.frozen?, h]⟩
  have hS := AnyM.slices_Sort_int Try.sortI b 0 3 [x, y, z] w hH hlt (by simp)
  rw [sort3] at hS
  refine Calls.mono hS ?_
  rintro e w' ⟨rfl, n, os, rfl⟩
  refine ⟨rfl, grownBy_put' _ _, ?_⟩
  rw [heap_put' _ _ h]
  rfl
set_option maxRecDepth 100000 in
theorem blockFrom_any (b off c : Nat) (x y z : Int) (w : World) (h0 : w.cell? ⟨b, off, none⟩ = some (.int .i64 x)) (h1 : w.cell? ⟨b, off + 1, none⟩ = some (.int .i64 y)) (h2 : w.cell? ⟨b, off + 2, none⟩ = some (.int .i64 z)) :
    Calls Try.prog 104 #[.slice (some ⟨b, off, none⟩) 3 c] w (RV (bv (blk3 x y z)) w) := by
  obtain ⟨wx, hwx⟩ : ∃ wx, wx = (w.alloc (.cells #[.int .i64 0, .int .i64 0, .int .i64 0] 77)).alloc (.cells #[.int .i64 x, .int .i64 y, .int .i64 z] 77) := ⟨_, rfl⟩
  have hzx : wx.heap.size = w.heap.size + 1 + 1 := by rw [hwx]; simp
  have hbx : Below w.heap.size w wx := by rw [hwx]; exact ((Below.refl _ _).alloc (Nat.le_refl _) _).alloc (by simp) _
  have hh : wx.heap[w.heap.size + 1]? = some (.cells #[.int .i64 x, .int .i64 y, .int .i64 z] 77 (0, 0)) := by
    rw [hwx]
    have := World.alloc_heap_new (w.alloc (.cells #[.int .i64 0, .int .i64 0, .int .i64 0] 77)) (.cells #[.int .i64 x, .int .i64 y, .int .i64 z] 77)
    simpa using this
  have d0 : wx.heap[w.heap.size]? = some (.cells #[.int .i64 0, .int .i64 0, .int .i64 0] 77 (0, 0)) := by
    rw [hwx, Below.heap_alloc _ _ _ (by simp)]
    exact World.alloc_heap_new w _
  have HS := Lib.hid (sort3_any (w.heap.size + 1) x y z wx hh)
  have D0 := Lib.hid d0
  have HZX := Lib.hid hzx
  have HBX := Lib.hid hbx
  have HWX := Lib.hid hwx
  clear hh d0 hzx hbx hwx
  obtain ⟨r, hr⟩ : ∃ r, r = blk3 x y z := ⟨_, rfl⟩
  rw [← hr] at HS ⊢
  clear hr
  obtain ⟨ra, rb, rc⟩ := r
  have hat : ∀ W, (Instr.arrayAt 77 (.slice (some ⟨b, off, none⟩) 3 c)).run Try.prog W = .ok (.pointer (some ⟨b, off, none⟩)) W := fun W => by kernel_rfl
  have hblt : b < w.heap.size := by obtain ⟨ob, ho, _⟩ := cells_of_cell h0; exact (Array.getElem?_eq_some_iff.1 ho).1
  go_enter Try.func104, Try.ntmps104
  go_wp2_with fail
  rw [← HWX.out]
  refine HS.out.mono ?_
  rintro e w1 ⟨rfl, hg, hh⟩
  have hz := hg.size
  rw [HZX.out] at hz
  have hd := (hg.block w.heap.size (by rw [HZX.out]; omega) (by simp)).trans D0.out
  have hbw : Below w.heap.size w w1 := HBX.out.grown hg HBX.out.size (fun r e => by cases e; omega)
  have q0 : w1.cell? ⟨w.heap.size + 1, 0, none⟩ = some (.int .i64 ra) := by simp [World.cell?, hh]
  have q1 : w1.cell? ⟨w.heap.size + 1, 1, none⟩ = some (.int .i64 rb) := by simp [World.cell?, hh]
  have q2 : w1.cell? ⟨w.heap.size + 1, 2, none⟩ = some (.int .i64 rc) := by simp [World.cell?, hh]
  have e0 : w1.cell? ⟨w.heap.size, 0, none⟩ = some (.int .i64 0) := by simp [World.cell?, hd]
  have e1 : w1.cell? ⟨w.heap.size, 1, none⟩ = some (.int .i64 0) := by simp [World.cell?, hd]
  have e2 : w1.cell? ⟨w.heap.size, 2, none⟩ = some (.int .i64 0) := by simp [World.cell?, hd]
  have k0 : w1.frozen? ⟨w.heap.size, 0, none⟩ = false := by simp [World.frozen?, hd]
  have k1 : w1.frozen? ⟨w.heap.size, 1, none⟩ = false := by simp [World.frozen?, hd]
  have k2 : w1.frozen? ⟨w.heap.size, 2, none⟩ = false := by simp [World.frozen?, hd]
  clear hh hd hg
  go_wp2
  refine bodyPost_ret (v := bv ⟨ra, rb, rc⟩) (by simp [results, Try.results104, go_sem, bv, *]) rfl ⟨rfl, ?_⟩
  exact ((hbw.setCell (p := ⟨w.heap.size, 0, none⟩) (Nat.le_refl _) _).setCell (p := ⟨w.heap.size, 1, none⟩) (Nat.le_refl _) _).setCell (p := ⟨w.heap.size, 2, none⟩) (Nat.le_refl _) _
end Go.Proofs.Ytlhiokcdjnmfmaa

namespace Go.Proofs
open Go.Shelf
def Try.compI_ren : Go.Shelf.Ren := ⟨fun | 43 => 184 | n => n, fun | 22 => 26 | 23 => 2 | 3 => 3 | 4 => 4 | 0 => 0 | n => n, fun | n => n⟩
theorem Try.compI : Go.Proofs.SlLaysN.n43 Try.prog Try.compI_ren := {
  mixed := by kernel_rfl
  f43 := ⟨Try.f184.name, by decide, Try.func184.trans (congrArg some (by kernel_rfl))⟩
  t0 := Try.underlying0
  a0 := Try.isAgg0
  z0 := Try.sizeOf0
  v0 := Try.zeroValue0
  t3 := Try.underlying3
  a3 := Try.isAgg3
  z3 := Try.sizeOf3
  v3 := Try.zeroValue3
  t4 := Try.underlying4
  a4 := Try.isAgg4
  z4 := Try.sizeOf4
  v4 := Try.zeroValue4
  t22 := Try.underlying26
  a22 := Try.isAgg26
  z22 := Try.sizeOf26
  v22 := Try.zeroValue26
  t23 := Try.underlying2
  a23 := Try.isAgg2
  z23 := Try.sizeOf2
  v23 := Try.zeroValue2
  i23 := by kernel_rfl }
end Go.Proofs

namespace Go.Proofs.Ytlhiokcdjnmfmaa
open Go.RowKit Go.Maps Go.Sort Go.Shelf
theorem wpList_append_int3 {w : World} {ops : Array Oper} {rest : List Oper} {o : Oper} {a : Act} {Q : Exit → Act → World → Prop} (hgd : o.guard = none) (s x : Operand)
    (ho : o.op = .call { callee := .builtin .append, args := #[s, x], argTypes := #[26, 26] })
    (base : Nat) (v : Value) (zs : List Int) (hs : a.eval s = v) (hown : OwnJ w base v zs) (b0 c : Nat) (y1 y2 y3 : Int) (hx : a.eval x = .slice (some ⟨b0, 0, none⟩) 3 c)
    (c1 : w.cell? ⟨b0, 0, none⟩ = some (.int .i64 y1)) (c2 : w.cell? ⟨b0, 1, none⟩ = some (.int .i64 y2)) (c3 : w.cell? ⟨b0, 2, none⟩ = some (.int .i64 y3)) (hl : zs.length ≤ 3300000) (hbase : base ≤ w.heap.size)
    (h : ∀ (g cap : Nat) (w' : World), OwnJ w' base (.slice (some ⟨g, 0, none⟩) (zs.length + 3) cap) (zs ++ [y1, y2, y3]) → w.grownBy w' v.ownBlock → wpList Try.prog ops Q rest (a.put o.dst (.slice (some ⟨g, 0, none⟩) (zs.length + 3) cap)) w') : wpList Try.prog ops Q (o :: rest) a w := by
  obtain ⟨i0, hi, hz0, hz1, hz2⟩ := info_parts infoInt64
  refine wpList_append_own w hgd s x 26 ho base 2 i0 _ 1 8 Try.underlying26 hi hz0 hz1 hz2 rfl (by decide) v zs.length (zs.map (Value.int .i64)) hs hown ⟨b0, 0, none⟩ 3 c [.int .i64 y1, .int .i64 y2, .int .i64 y3] hx rfl ?_ ?_ (by unfold maxLen; omega) (by omega) hbase ?_
  · intro j u hj
    rw [addr_at, Nat.zero_add]
    match j, hj with
    | 0, hj => simp at hj; rw [← hj]; exact c1
    | 1, hj => simp at hj; rw [← hj]; exact c2
    | 2, hj => simp at hj; rw [← hj]; exact c3
    | j + 3, hj => simp at hj
  · intro u hu
    simp at hu
    rcases hu with rfl | rfl | rfl <;> rfl
  · intro v' w' hown' hg _
    obtain ⟨g, cap, rfl⟩ := row_some (k := zs.length + 2) hown'
    refine h g cap w' ?_ hg
    unfold OwnJ
    rw [List.length_append, List.map_append]
    exact hown'
theorem OwnJ.holds {w : World} {base g cap : Nat} {zs : List Int} (h : OwnJ w base (.slice (some ⟨g, 0, none⟩) zs.length cap) zs) : Holds (Value.int .i64) w g 0 zs.toArray ∧ g < w.heap.size ∧ base ≤ g ∧ zs.length ≤ cap ∧ ∀ o, w.frozen? ⟨g, o, none⟩ = false := by
  obtain ⟨_, h | ⟨g', cap', cur, e, hb, hcur, hn, hc, hsz, hx⟩⟩ := h
  · simp at h
  · simp at e
    obtain ⟨rfl, rfl⟩ := e
    refine ⟨fun j hj => ?_, (Array.getElem?_eq_some_iff.1 hcur).1, hb, hn, fun o => by simp [World.frozen?, hcur]⟩
    have hj' : j < zs.length := by simpa using hj
    have e : (zs.map (Value.int .i64))[j]? = some (.int .i64 zs[j]) := by simp [hj']
    rw [← hx, List.getElem?_take_of_lt (by omega)] at e
    rw [Nat.zero_add]
    refine ⟨?_, by simp [World.frozen?, hcur]⟩
    rw [getElem!_pos zs.toArray j hj]
    simp [World.cell?, hcur]
    simpa using e
/-- Returns a new list of integers. -/
def RZ (zs : List Int) (w : World) (e : Ending) (w' : World) : Prop := ∃ u, e = .returned u ∧ ResI w' w.heap.size w'.heap.size u zs ∧ Below w.heap.size w w'
set_option maxRecDepth 100000 in
set_option maxHeartbeats 2000000 in
theorem pointsIn_any (s : Value) (bs : List Blk) (w : World) (h : SB w s bs) : Calls Try.prog 146 #[s] w (RZ (Lib.compact ((ptsAll bs).mergeSort fun x y => decide (x ≤ y))) w) := by
  have hs := h.slice
  have hl := h.2.1
  have HSB := Lib.hid h
  clear h
  obtain ⟨a, c, rfl⟩ := hs
  go_enter Try.func146, Try.ntmps146
  go_wp2_with fail
  go_loopw [3, 8] (fun o i wr => ∃ k : Nat, k ≤ bs.length ∧ i = .int .i64 k ∧ Below w.heap.size w wr ∧ OwnJ wr w.heap.size o (ptsAll (bs.take k)) ∧ ∃ a n c, o = .slice a n c) (fun _ i _ => bs.length - (intOf i).toNat)
  case atStart => exact ⟨0, Nat.zero_le _, rfl, Below.refl _ _, OwnJ.nil _ _, _, _, _, rfl⟩
  case round =>
    obtain ⟨k, hk, rfl, hBr, hO, hform⟩ := hrel
    have hSl := hBr.size
    by_cases hkl : k < bs.length
    · rcases HSB.out.2.2 with ⟨_, _, _, hnil⟩ | ⟨b, off, cap, hval, hblt, hbl⟩
      · rw [hnil] at hkl; simp at hkl
      · simp at hval
        obtain ⟨rfl, rfl⟩ := hval
        obtain ⟨x, hx, ex, x1, x2, x3⟩ := blks_at (hbl.below hBr hblt) hkl
        have hlc : (ptsAll (bs.take k)).length ≤ 3300000 := by rw [ptsAll_len]; simp; omega
        have hcl : ptsAll (bs.take (k + 1)) = ptsAll (bs.take k) ++ [x.a, x.b, x.c] := by
          have e : bs[k] = x := by
            rw [List.getElem?_eq_getElem hkl] at ex
            simpa using ex
          rw [take_next hkl, e]
          simp [ptsAll]
        have HCL := Lib.hid hcl
        obtain ⟨p, q, r⟩ := x
        dsimp only at x1 x2 x3 HCL
        clear hbl hx ex hcl
        obtain ⟨a3, n3, c3, rfl⟩ := hform
        have HO := Lib.hid hO
        have hrow := HO.out.row
        have HR := Lib.hid hrow
        have HB := Lib.hid hBr
        clear hO hrow hBr
        go_wp2_with (at_builtin; refine wpList_append_int3 rfl _ _ rfl w.heap.size _ (ptsAll (bs.take k)) rfl (HO.out.below ((Below.refl _ _).alloc (Nat.le_refl _) _) (Nat.le_refl _)) _ _ p q r rfl (by simp [go_sem]) (by simp [go_sem]) (by simp [go_sem]) (by omega) (by simp; omega) ?_; intro g' cap' w4 hO4 hg4)
        have hgo : wr.grownBy w4 (Value.slice a3 n3 c3).ownBlock := ⟨hg4.os, hg4.tape, hg4.output, by have := hg4.size; simp at this; omega, fun i hi hne => by
          rw [hg4.block i (by simp; omega) hne, Below.heap_alloc _ _ _ hi]⟩
        clear hg4
        go_roundw
        case rel => exact ⟨k + 1, by omega, by go_num, HB.out.grown hgo hSl (fun j e => HR.out j e), by rw [HCL.out]; exact hO4, _, _, _, rfl⟩
        case measure => simp [intOf]; omega
    · have e : k = bs.length := by omega
      subst e
      rw [List.take_length] at hO
      have hlc : (ptsAll bs).length ≤ 3300000 := by rw [ptsAll_len]; omega
      obtain ⟨zs, hzs⟩ : ∃ zs, zs = ptsAll bs := ⟨_, rfl⟩
      rw [← hzs] at hO hlc
      have HZS := Lib.hid hzs
      clear hzs hform HSB
      have HB := Lib.hid hBr
      clear hBr
      rcases hO.2 with ⟨rfl, h0⟩ | ⟨g, cap, cur, rfl, _⟩
      · have e0 : zs = [] := List.length_eq_zero_iff.1 h0
        subst e0
        go_wp2_with fail
        refine (AnyM.slices_Sort_int_none Try.sortI _ _ _).mono ?_
        rintro e w2 ⟨rfl, rfl⟩
        go_wp2_with fail
        refine (AnyG.slices_Compact_int_empty Try.compI _ _ _).mono ?_
        rintro e w2 ⟨rfl, rfl⟩
        go_wp2
        go_ret
        exact ⟨_, rfl, .inl ⟨by rw [← HZS.out]; simp [Lib.compact, Lib.compactUpTo], _, _, rfl⟩, HB.out⟩
      · obtain ⟨hH, hlt, hbase, hcap, hfz⟩ := hO.holds
        obtain ⟨ss, hss⟩ : ∃ ss, ss = zs.mergeSort fun x y => decide (x ≤ y) := ⟨_, rfl⟩
        have hsl : ss.length = zs.length := by rw [hss, List.length_mergeSort]
        have hcon := AnyM.slices_Sort_int Try.sortI g 0 cap zs wr hH hlt (by omega)
        rw [← hss] at hcon
        have HC := Lib.hid hcon
        have HH := Lib.hid hH
        have HFZ := Lib.hid hfz
        have HSS := Lib.hid hss
        have HSL := Lib.hid hsl
        clear hss hcon hH hfz hO hsl
        go_wp2_with fail
        refine HC.out.mono ?_
        rintro e w2 ⟨rfl, n2, os2, hw2⟩
        have hH1 : Holds (Value.int .i64) (putRow (Value.int .i64) (Sort.ahead wr n2) g 0 ss.toArray) g 0 ss.toArray := holds_putRow _ _ _ _ zs.toArray _ HH.out (by simpa using HSL.out)
        have hb : (grow (putRow (Value.int .i64) (Sort.ahead wr n2) g 0 ss.toArray) os2).heap[g]? = (putRow (Value.int .i64) (Sort.ahead wr n2) g 0 ss.toArray).heap[g]? := heap_grow_old _ _ (by simpa using hlt)
        rw [← hw2] at hb
        have hH2 : Holds (Value.int .i64) w2 g 0 ss.toArray := fun j hj => by
          obtain ⟨p1, p2⟩ := hH1 j hj
          exact ⟨(World.cell?_of_block (a := ⟨g, 0 + j, none⟩) hb).trans p1, (World.frozen?_of_block (a := ⟨g, 0 + j, none⟩) hb).trans p2⟩
        have hg2 : wr.grownBy w2 (some g) := by rw [hw2]; exact grownBy_put' _ _
        have hfz2 : ∀ o, w2.frozen? ⟨g, o, none⟩ = false := fun o => by
          rw [World.frozen?_of_block (a := ⟨g, o, none⟩) hb, frozen?_putRow]
          exact HFZ.out o
        have hlt2 : g < w2.heap.size := Nat.lt_of_lt_of_le hlt hg2.size
        have hcc := AnyG.slices_Compact_int Try.compI g 0 cap ss w2 hH2 (by have := HSL.out; omega) (by have := HSL.out; omega)
        rw [HSL.out] at hcc
        have HC2 := Lib.hid hcc
        have HH2 := Lib.hid hH2
        have HFZ2 := Lib.hid hfz2
        have HG2 := Lib.hid hg2
        clear hw2 hH1 hH2 hg2 hfz2 hcc HC HH HFZ hb
        go_wp2_with fail
        refine HC2.out.mono ?_
        rintro e w3 ⟨rfl, q3, hw3⟩
        have hcl : (Lib.compact ss).length ≤ ss.length := by
          unfold Lib.compact Lib.compactUpTo
          rw [List.length_map]
          exact Nat.le_trans (List.length_filter_le _ _) (by simp)
        obtain ⟨F, hF⟩ : ∃ F, F = (Lib.compact ss ++ List.replicate (zs.length - (Lib.compact ss).length) 0).toArray := ⟨_, rfl⟩
        rw [← hF] at hw3
        have hFs : F.size = ss.toArray.size := by
          have := HSL.out
          rw [hF]
          simp
          omega
        have hH3 : Holds (Value.int .i64) w3 g 0 F := by
          rw [hw3]
          exact holds_putRow _ _ _ _ ss.toArray _ HH2.out hFs
        have hg3 : w2.grownBy w3 (some g) := by
          have := grownBy_put' (Value.int .i64) (w := w2) (g := g) (n := q3) (os := #[]) F
          rw [grow_empty] at this
          rw [hw3]
          exact this
        have hlt3 : g < w3.heap.size := Nat.lt_of_lt_of_le hlt2 hg3.size
        have hown : OwnAtI w3 g (Lib.compact ss) := ⟨hlt3, fun k hk => by
          have hkF : k < F.size := by rw [hFs]; simp; omega
          rw [(hH3 k hkF).1, getElem!_pos F k hkF]
          subst hF
          simp [List.getElem_append_left hk, hk], fun o => by
          rw [hw3, frozen?_putRow]
          exact HFZ2.out o⟩
        have hBF : Below w.heap.size w w3 := (HB.out.grown HG2.out hSl (fun r e => by cases e; exact hbase)).grown hg3 (Nat.le_trans hSl HG2.out.size) (fun r e => by cases e; exact hbase)
        have HOWN := Lib.hid hown
        have HBF := Lib.hid hBF
        clear hw3 hF hH3 hg3 hown hBF hcl HH2 HFZ2 HG2 HC2 hFs
        go_wp2
        go_ret
        have ee : Lib.compact ((ptsAll bs).mergeSort fun x y => decide (x ≤ y)) = Lib.compact ss := by rw [HSS.out, HZS.out]
        rw [ee]
        exact ⟨_, rfl, .inr ⟨g, cap, rfl, hbase, hlt3, HOWN.out⟩, HBF.out⟩
end Go.Proofs.Ytlhiokcdjnmfmaa

namespace Go.Proofs
open Go.Shelf
def Try.growB_ren : Go.Shelf.Ren := ⟨fun | 4 => 158 | n => n, fun | 22 => 29 | 25 => 77 | 3 => 3 | 4 => 4 | 9 => 9 | 20 => 20 | 0 => 0 | n => n, fun | n => n⟩
theorem Try.growB : Go.Proofs.Lays8.n4 Try.prog Try.growB_ren := {
  mixed := by kernel_rfl
  f4 := ⟨Try.f158.name, by decide, Try.func158.trans (congrArg some (by kernel_rfl))⟩
  t0 := Try.underlying0
  a0 := Try.isAgg0
  z0 := Try.sizeOf0
  v0 := Try.zeroValue0
  t3 := Try.underlying3
  a3 := Try.isAgg3
  z3 := Try.sizeOf3
  v3 := Try.zeroValue3
  t4 := Try.underlying4
  a4 := Try.isAgg4
  z4 := Try.sizeOf4
  v4 := Try.zeroValue4
  t9 := Try.underlying9
  a9 := Try.isAgg9
  z9 := Try.sizeOf9
  v9 := Try.zeroValue9
  t20 := Try.underlying20
  a20 := Try.isAgg20
  z20 := Try.sizeOf20
  v20 := Try.zeroValue20
  t22 := Try.underlying29
  a22 := Try.isAgg29
  z22 := Try.sizeOf29
  v22 := Try.zeroValue29 }
def Try.growI_ren : Go.Shelf.Ren := ⟨fun | 4 => 133 | n => n, fun | 22 => 26 | 25 => 2 | 3 => 3 | 4 => 4 | 9 => 9 | 20 => 20 | 0 => 0 | n => n, fun | n => n⟩
theorem Try.growI : Go.Proofs.Lays8.n4 Try.prog Try.growI_ren := {
  mixed := by kernel_rfl
  f4 := ⟨Try.f133.name, by decide, Try.func133.trans (congrArg some (by kernel_rfl))⟩
  t0 := Try.underlying0
  a0 := Try.isAgg0
  z0 := Try.sizeOf0
  v0 := Try.zeroValue0
  t3 := Try.underlying3
  a3 := Try.isAgg3
  z3 := Try.sizeOf3
  v3 := Try.zeroValue3
  t4 := Try.underlying4
  a4 := Try.isAgg4
  z4 := Try.sizeOf4
  v4 := Try.zeroValue4
  t9 := Try.underlying9
  a9 := Try.isAgg9
  z9 := Try.sizeOf9
  v9 := Try.zeroValue9
  t20 := Try.underlying20
  a20 := Try.isAgg20
  z20 := Try.sizeOf20
  v20 := Try.zeroValue20
  t22 := Try.underlying26
  a22 := Try.isAgg26
  z22 := Try.sizeOf26
  v22 := Try.zeroValue26 }
end Go.Proofs

namespace Go.Proofs.Ytlhiokcdjnmfmaa
open Go.RowKit Go.Maps Go.Shelf
theorem growI_any (n : Nat) (hn : n ≤ 4000000) (w : World) : Calls Try.prog 133 #[.slice none 0 0, .int .i64 (n : Int)] w (fun e w' => ∃ u, e = .returned u ∧ OwnJ w' w.heap.size u [] ∧ Below w.heap.size w w') := by
  by_cases h0 : n = 0
  · subst h0
    refine Calls.mono (Any8.slices_Grow_room Try.growI none 0 0 0 w (by omega) (by omega) (by omega) (by omega)) ?_
    rintro e w' ⟨rfl, rfl⟩
    exact ⟨_, rfl, OwnJ.nil _ _, Below.refl _ _⟩
  · obtain ⟨i0, hi, hz0, hz1, hz2⟩ := info_parts infoInt64
    refine Calls.mono (Any8.slices_Grow_grow Try.growI i0 _ hi hz0 (by rw [hz1]; omega) none 0 0 n [] w (by omega) (by omega) (by rw [hz2]; omega) (by omega) (by simp) (fun _ => rfl) (by simp)) ?_
    rintro e w' ⟨rfl, rfl⟩
    have hge := grownCap_ge w (0 + n) 0 (Try.growI_ren.t 25)
    have hle := grownCap_le_maxLen w (0 + n) 0 (Try.growI_ren.t 25) (by unfold maxLen; omega)
    refine ⟨_, rfl, World.ownsRow_made w.drew _ _ (Nat.le_refl _) hle ?_, (Below.refl _ _).drew.alloc (Nat.le_refl _) _⟩
    obtain ⟨cap, hcap⟩ : ∃ cap, cap = grownCap w (0 + n) 0 (Try.growI_ren.t 25) := ⟨_, rfl⟩
    rw [← hcap] at hge ⊢
    simp only [Array.size_append, List.size_toArray, List.length_nil, size_zeroCells, Value.cells]
    show 0 + (0 + n - 0) * 1 + (cap - (0 + n)) * 1 = cap * 1
    omega
theorem wpList_append_int3o {w : World} {ops : Array Oper} {rest : List Oper} {o : Oper} {a : Act} {Q : Exit → Act → World → Prop} (hgd : o.guard = none) (s x : Operand)
    (ho : o.op = .call { callee := .builtin .append, args := #[s, x], argTypes := #[26, 26] })
    (base : Nat) (v : Value) (zs : List Int) (hs : a.eval s = v) (hown : OwnJ w base v zs) (b0 off c : Nat) (y1 y2 y3 : Int) (hx : a.eval x = .slice (some ⟨b0, off, none⟩) 3 c)
    (c1 : w.cell? ⟨b0, off, none⟩ = some (.int .i64 y1)) (c2 : w.cell? ⟨b0, off + 1, none⟩ = some (.int .i64 y2)) (c3 : w.cell? ⟨b0, off + 2, none⟩ = some (.int .i64 y3)) (hl : zs.length ≤ 3300000) (hbase : base ≤ w.heap.size)
    (h : ∀ (g cap : Nat) (w' : World), OwnJ w' base (.slice (some ⟨g, 0, none⟩) (zs.length + 3) cap) (zs ++ [y1, y2, y3]) → w.grownBy w' v.ownBlock → wpList Try.prog ops Q rest (a.put o.dst (.slice (some ⟨g, 0, none⟩) (zs.length + 3) cap)) w') : wpList Try.prog ops Q (o :: rest) a w := by
  obtain ⟨i0, hi, hz0, hz1, hz2⟩ := info_parts infoInt64
  refine wpList_append_own w hgd s x 26 ho base 2 i0 _ 1 8 Try.underlying26 hi hz0 hz1 hz2 rfl (by decide) v zs.length (zs.map (Value.int .i64)) hs hown ⟨b0, off, none⟩ 3 c [.int .i64 y1, .int .i64 y2, .int .i64 y3] hx rfl ?_ ?_ (by unfold maxLen; omega) (by omega) hbase ?_
  · intro j u hj
    rw [addr_at]
    match j, hj with
    | 0, hj => simp at hj; rw [← hj]; exact c1
    | 1, hj => simp at hj; rw [← hj]; exact c2
    | 2, hj => simp at hj; rw [← hj]; exact c3
    | j + 3, hj => simp at hj
  · intro u hu
    simp at hu
    rcases hu with rfl | rfl | rfl <;> rfl
  · intro v' w' hown' hg _
    obtain ⟨g, cap, rfl⟩ := row_some (k := zs.length + 2) hown'
    refine h g cap w' ?_ hg
    unfold OwnJ
    rw [List.length_append, List.map_append]
    exact hown'
theorem len3 {t : List Int} (h : t.length = 3) : ∃ a b c, t = [a, b, c] := by
  match t, h with
  | [a, b, c], _ => exact ⟨a, b, c, rfl⟩
set_option maxRecDepth 100000 in
set_option maxHeartbeats 2000000 in
theorem concatR_any (s : Value) (n : Nat) (F : Nat → List Int) (w : World) (h : SSB w s n F) (h3 : ∀ k, k < n → (F k).length = 3) :
    Calls Try.prog 82 #[s] w (fun e w' => ∃ u, e = .returned u ∧ OwnJ w' w.heap.size u (catF n F) ∧ Below w.heap.size w w') := by
  have hn := h.1
  have hs : ∃ a c, s = .slice a n c := by
    rcases h.2 with ⟨rfl, a, c, rfl⟩ | ⟨b, off, cap, rfl, _⟩ <;> exact ⟨_, _, rfl⟩
  have HSS := Lib.hid h
  have H3 := Lib.hid h3
  have HG := Lib.hid (growI_any (3 * n) (by omega) w)
  clear h h3
  obtain ⟨a, c, rfl⟩ := hs
  have HROW := Lib.hid (show ∀ k, k < n → ∃ b off cap b' off' c' x y z, a = some ⟨b, off, none⟩ ∧ c = cap ∧ b < w.heap.size ∧ b' < w.heap.size ∧ F k = [x, y, z] ∧ w.cell? ⟨b, off + k, none⟩ = some (.slice (some ⟨b', off', none⟩) 3 c') ∧ w.cell? ⟨b', off', none⟩ = some (.int .i64 x) ∧ w.cell? ⟨b', off' + 1, none⟩ = some (.int .i64 y) ∧ w.cell? ⟨b', off' + 2, none⟩ = some (.int .i64 z) from fun k hk => by
    rcases HSS.out.2 with ⟨h0, _⟩ | ⟨b, off, cap, e, hlt, hr⟩
    · omega
    · simp at e
      obtain ⟨rfl, rfl⟩ := e
      obtain ⟨a', c', hc, hi⟩ := hr k hk
      obtain ⟨x, y, z, e3⟩ := len3 (H3.out k hk)
      rw [e3] at hi hc
      rcases hi.2 with ⟨_, _, _, h0⟩ | ⟨b', off', cap', e', hlt', hr'⟩
      · simp at h0
      · simp at e'
        obtain ⟨rfl, rfl⟩ := e'
        exact ⟨b, off, c, b', off', c', x, y, z, rfl, rfl, hlt, hlt', e3, hc, by simpa using hr' 0 (by simp), by simpa using hr' 1 (by simp), by simpa using hr' 2 (by simp)⟩)
  go_enter Try.func82, Try.ntmps82
  go_wp2_with fail
  go_loopw [3, 11] (fun z i wr => ∃ k : Nat, k ≤ n ∧ i = .int .i64 k ∧ z = .int .i64 ((3 * k : Nat) : Int) ∧ wr = w) (fun _ i _ => n - (intOf i).toNat)
  case atStart => exact ⟨0, Nat.zero_le _, rfl, rfl, rfl⟩
  case round =>
    obtain ⟨k, hk, rfl, rfl, rfl⟩ := hrel
    by_cases hkl : k < n
    · obtain ⟨b, off, cap, b', off', c', x, y, z, rfl, rfl, hlt, hlt', e3, q0, q1, q2, q3⟩ := HROW.out k hkl
      clear q1 q2 q3 e3
      go_wp2
      go_roundw
      case rel => refine ⟨k + 1, by omega, by go_num, ?_, ?_⟩ <;> first | trivial | rfl | go_num | omega | (congr 1; omega)
      case measure => simp [intOf]; omega
    · have e : k = n := by omega
      subst e
      clear hkl hk
      obtain ⟨W0, rfl⟩ : ∃ W0, W0 = wr := ⟨_, rfl⟩
      go_wp2_with fail
      refine HG.out.mono ?_
      rintro e w1 ⟨u1, rfl, ho1, hb1⟩
      have hf1 : ∃ a c, u1 = .slice a 0 c := by
        rcases ho1.2 with ⟨rfl, _⟩ | ⟨g, cap, cur, rfl, _⟩ <;> exact ⟨_, _, rfl⟩
      have HO1 := Lib.hid ho1
      have HB1 := Lib.hid hb1
      clear ho1 hb1
      go_wp2_with fail
      go_loopw [6, 27] (fun o i w2 => ∃ j : Nat, j ≤ k ∧ i = .int .i64 j ∧ Below W0.heap.size W0 w2 ∧ OwnJ w2 W0.heap.size o (catF j F) ∧ ∃ a n c, o = .slice a n c) (fun _ i _ => k - (intOf i).toNat)
      case atStart =>
        obtain ⟨a1, c1, rfl⟩ := hf1
        exact ⟨0, Nat.zero_le _, rfl, HB1.out, HO1.out, _, _, _, rfl⟩
      case round =>
        obtain ⟨j, hj, rfl, hB2, hO, hform⟩ := hrel
        have hz2 := hB2.size
        by_cases hjl : j < k
        · obtain ⟨b, off, cap, b', off', c', x, y, z, rfl, rfl, hlt, hlt', e3, q0, q1, q2, q3⟩ := HROW.out j hjl
          have r0 := (hB2.cell (p := ⟨b, off + j, none⟩) hlt).trans q0
          have r1 := (hB2.cell (p := ⟨b', off', none⟩) hlt').trans q1
          have r2 := (hB2.cell (p := ⟨b', off' + 1, none⟩) hlt').trans q2
          have r3 := (hB2.cell (p := ⟨b', off' + 2, none⟩) hlt').trans q3
          have hcl : catF (j + 1) F = catF j F ++ [x, y, z] := by rw [catF_succ, e3]
          have HCL := Lib.hid hcl
          have hle : (catF j F).length ≤ 3300000 := by
            have : ∀ m, m ≤ k → (catF m F).length = 3 * m := by
              intro m
              induction m with
              | zero => intro _; rfl
              | succ m ih => intro hm; rw [catF_succ, List.length_append, ih (by omega), H3.out m (by omega)]; omega
            rw [this j hj]
            omega
          obtain ⟨a3, n3, c3, rfl⟩ := hform
          have HO := Lib.hid hO
          have HB := Lib.hid hB2
          clear q0 q1 q2 q3 e3 hcl hO hB2
          go_wp2_with (at_builtin; refine wpList_append_int3o rfl _ _ rfl W0.heap.size _ (catF j F) rfl HO.out b' off' _ x y z rfl r1 r2 r3 hle hz2 ?_; intro g' cap' w4 hO4 hg4)
          have hrow := HO.out.row
          go_roundw
          case rel => exact ⟨j + 1, by omega, by go_num, HB.out.grown hg4 hz2 (fun j e => hrow j e), by rw [HCL.out]; exact hO4, _, _, _, rfl⟩
          case measure => simp [intOf]; omega
        · have e : j = k := by omega
          subst e
          obtain ⟨a3, n3, c3, rfl⟩ := hform
          go_wp2
          go_ret
          exact ⟨_, rfl, hO, hB2⟩
end Go.Proofs.Ytlhiokcdjnmfmaa

namespace Go.Proofs
open Go.Shelf
def Try.eqI_ren : Go.Shelf.Ren := ⟨fun | 33 => 84 | n => n, fun | 22 => 26 | 23 => 2 | 4 => 4 | 3 => 3 | 0 => 0 | n => n, fun | n => n⟩
theorem Try.eqI : Go.Proofs.SlLaysN.n33 Try.prog Try.eqI_ren := {
  mixed := by kernel_rfl
  f33 := ⟨Try.f84.name, by decide, Try.func84.trans (congrArg some (by kernel_rfl))⟩
  t0 := Try.underlying0
  a0 := Try.isAgg0
  z0 := Try.sizeOf0
  v0 := Try.zeroValue0
  t3 := Try.underlying3
  a3 := Try.isAgg3
  z3 := Try.sizeOf3
  v3 := Try.zeroValue3
  t4 := Try.underlying4
  a4 := Try.isAgg4
  z4 := Try.sizeOf4
  v4 := Try.zeroValue4
  t22 := Try.underlying26
  a22 := Try.isAgg26
  z22 := Try.sizeOf26
  v22 := Try.zeroValue26
  t23 := Try.underlying2
  a23 := Try.isAgg2
  z23 := Try.sizeOf2
  v23 := Try.zeroValue2 }
end Go.Proofs

namespace Go.Proofs.Ytlhiokcdjnmfmaa
open Go.RowKit Go.Maps Go.Sort Go.Shelf
/-- slices.Sort of a list of the call's own. -/
theorem sortI_any (base : Nat) (u : Value) (zs : List Int) (w : World) (h : OwnJ w base u zs) (hl : zs.length ≤ 3300000) :
    Calls Try.prog 83 #[u] w (fun e w' => e = .returned (.tuple #[]) ∧ w.grownBy w' u.ownBlock ∧ ((zs = [] ∧ ∃ a c, u = .slice a 0 c) ∨ ∃ g cap, u = .slice (some ⟨g, 0, none⟩) zs.length cap ∧ base ≤ g ∧ g < w'.heap.size ∧ Ints w' g 0 (sortI zs))) := by
  rcases h.2 with ⟨rfl, h0⟩ | ⟨g, cap, cur, rfl, _⟩
  · have e0 : zs = [] := List.length_eq_zero_iff.1 h0
    subst e0
    refine (AnyM.slices_Sort_int_none Try.sortI _ _ _).mono ?_
    rintro e w' ⟨rfl, rfl⟩
    exact ⟨rfl, only_refl _ _, .inl ⟨rfl, _, _, rfl⟩⟩
  · obtain ⟨hH, hlt, hbase, hcap, hfz⟩ := h.holds
    refine (AnyM.slices_Sort_int Try.sortI g 0 cap zs w hH hlt (by omega)).mono ?_
    rintro e w' ⟨rfl, n, os, hw⟩
    have hg : w.grownBy w' (some g) := by rw [hw]; exact grownBy_put' _ _
    have hsl : (sortI zs).length = zs.length := (sortI_perm zs).length_eq
    have hH1 : Holds (Value.int .i64) (putRow (Value.int .i64) (Sort.ahead w n) g 0 (sortI zs).toArray) g 0 (sortI zs).toArray := holds_putRow _ _ _ _ zs.toArray _ hH (by simpa using hsl)
    have hb : w'.heap[g]? = (putRow (Value.int .i64) (Sort.ahead w n) g 0 (sortI zs).toArray).heap[g]? := by
      rw [hw]
      exact heap_grow_old _ _ (by simpa using hlt)
    refine ⟨rfl, hg, .inr ⟨g, cap, rfl, hbase, Nat.lt_of_lt_of_le hlt hg.size, fun k hk => ?_⟩⟩
    have hk' : k < (sortI zs).toArray.size := by simpa using hk
    refine (World.cell?_of_block (a := ⟨g, 0 + k, none⟩) hb).trans ((hH1 k hk').1.trans ?_)
    rw [getElem!_pos _ k hk']
    simp [hk]
/-- slices.Equal of the sorted list and another one that is not empty. -/
theorem equalI_any (u : Value) (zs : List Int) (g2 c2 : Nat) (ys : List Int) (w : World) (h : (zs = [] ∧ ∃ a c, u = .slice a 0 c) ∨ ∃ g cap, u = .slice (some ⟨g, 0, none⟩) zs.length cap ∧ Ints w g 0 (sortI zs)) (hy : Ints w g2 0 ys) (hl : zs.length ≤ 3300000) (hl2 : ys.length ≤ 3300000) :
    Calls Try.prog 84 #[u, .slice (some ⟨g2, 0, none⟩) ys.length c2] w (fun e w' => e = .returned (.bool (decide (sortI zs = ys))) ∧ ∃ q, w' = w.drewN q) := by
  rcases h with ⟨rfl, a, c, rfl⟩ | ⟨g, cap, rfl, hz⟩
  · refine (AnyG.slices_Equal_int_empty Try.eqI a (some ⟨g2, 0, none⟩) c ys.length c2 w (by omega)).mono ?_
    rintro e w' ⟨rfl, rfl⟩
    refine ⟨?_, 0, rfl⟩
    have e1 : sortI ([] : List Int) = [] := by simp [sortI]
    rw [e1]
    cases ys <;> simp
  · have hsl : (sortI zs).length = zs.length := (sortI_perm zs).length_eq
    have hc := AnyG.slices_Equal_int Try.eqI g 0 zs.length cap g2 0 ys.length c2 (sortI zs) ys w (by omega) (Nat.le_refl _) (by omega) (by omega) (fun j hj => by rw [hz j hj]; simp [List.getD]) (fun j hj => by rw [hy j hj]; simp [List.getD])
    refine hc.mono ?_
    rintro e w' ⟨rfl, hw⟩
    refine ⟨?_, hw⟩
    rw [← hsl, List.take_length, List.take_length]
    rw [Bool.beq_eq_decide_eq]
end Go.Proofs.Ytlhiokcdjnmfmaa

namespace Go.Proofs.Ytlhiokcdjnmfmaa
open Go.RowKit Go.Maps Go.Sort Go.Shelf
theorem OwnJ.some {w : World} {base : Nat} {u : Value} {zs : List Int} (h : OwnJ w base u zs) (h0 : zs ≠ []) : ∃ g cap, u = .slice (some ⟨g, 0, none⟩) zs.length cap ∧ base ≤ g ∧ g < w.heap.size ∧ Ints w g 0 zs := by
  rcases h.2 with ⟨rfl, h1⟩ | ⟨g, cap, cur, rfl, _⟩
  · exact absurd (List.length_eq_zero_iff.1 h1) h0
  · obtain ⟨hH, hlt, hbase, hcap, hfz⟩ := h.holds
    refine ⟨g, cap, rfl, hbase, hlt, fun k hk => ?_⟩
    have hk' : k < zs.toArray.size := by simpa using hk
    refine (hH k hk').1.trans ?_
    rw [getElem!_pos _ k hk']
    simp [hk]
set_option maxRecDepth 100000 in
set_option maxHeartbeats 4000000 in
theorem IsDF_out (v : Int) (s : Value) (w : World) (hv : dfV v = false) : Calls Try.prog 32 #[.int .i64 v, s] w (RV (.tuple #[.bool false, .int .i64 2]) w) := by
  have HD := Lib.hid (hasDF_any v w)
  rw [hv] at HD
  clear hv
  go_enter Try.func32, Try.ntmps32
  go_wp2_with fail
  refine HD.out.mono ?_
  rintro e w1 ⟨rfl, rfl⟩
  go_wp2
  exact bodyPost_ret (v := .tuple #[.bool false, .int .i64 2]) (by simp [results, Try.results32, go_sem, *]) rfl (RV_of rfl (Below.refl _ _))
set_option maxRecDepth 100000 in
set_option maxHeartbeats 4000000 in
theorem IsDF_in (v : Int) (a : Option Addr) (n c : Nat) (F : Nat → List Int) (w : World) (hv : dfV v = true) (h : SSB w (.slice a n c) n F) :
    Calls Try.prog 32 #[.int .i64 v, .slice a n c] w (RV (.tuple #[.bool (famB v n F), .int .i64 0]) w) := by
  have hn := h.1
  have HSS := Lib.hid h
  have HROW := Lib.hid h.rows
  have HD := Lib.hid (hasDF_any v w)
  have HP := Lib.hid (fam_same hv n F)
  rw [hv] at HD
  clear h
  go_enter Try.func32, Try.ntmps32
  go_wp2_with fail
  refine HD.out.mono ?_
  rintro e w1 ⟨rfl, rfl⟩
  obtain ⟨W0, rfl⟩ : ∃ W0, W0 = w := ⟨_, rfl⟩
  go_wp2_with fail
  go_loopw [14] (fun i wr => ∃ k : Nat, k ≤ n ∧ i = .int .i64 k ∧ Below W0.heap.size W0 wr ∧ okP v k F = true) (fun i _ => n - (intOf i).toNat)
  case atStart => exact ⟨0, Nat.zero_le _, rfl, Below.refl _ _, rfl⟩
  case round =>
    obtain ⟨k, hk, rfl, hB, hok⟩ := hrel
    have HB := Lib.hid hB
    have HOK := Lib.hid hok
    have hz := hB.size
    clear hB hok
    by_cases hkl : k < n
    · obtain ⟨b, off, a', c', rfl, hlt, hc, hi⟩ := HROW.out k hkl
      have q := (HB.out.cell (p := ⟨b, off + k, none⟩) hlt).trans hc
      have HI := Lib.hid (hi.below HB.out (Nat.le_refl _))
      have HT := Lib.hid (isDT_any v _ (F k) wr hv HI.out)
      clear hc hi
      by_cases ht : triB v (F k) = true
      · rw [ht] at HT
        have h3 := tri_len ht
        obtain ⟨b', off', rfl, e3, hlt', hr'⟩ := HI.out.three h3
        rw [h3] at q HT
        have HR := Lib.hid hr'
        clear hr' HI e3
        by_cases hk0 : k = 0
        · have HS := Lib.hid (show okP v (k + 1) F = true by rw [okP_succ, HOK.out, okP1, ht]; simp [hk0])
          have d0 : decide (0 < k) = false := by simp; omega
          clear ht hk0
          go_wp2_with fail
          refine HT.out.mono ?_
          rintro e w2 ⟨rfl, hb2⟩
          have hB2 := HB.out.trans (hb2.mono hz)
          clear hb2
          have HB2 := Lib.hid hB2
          clear hB2
          go_wp2_with fail
          go_roundw
          case rel => exact ⟨k + 1, by omega, by go_num, HB2.out, HS.out⟩
          case measure => simp [intOf]; omega
        · obtain ⟨m, rfl⟩ : ∃ m, k = m + 1 := ⟨k - 1, by omega⟩
          have htm := okP_tri (Nat.lt_succ_self m) HOK.out
          have hm3 := tri_len htm
          obtain ⟨b0, off0, a0, c0, e0, hlt0, hc0, hi0⟩ := HROW.out m (by omega)
          simp at e0
          obtain ⟨rfl, rfl⟩ := e0
          obtain ⟨b1, off1, rfl, e31, hlt1, hr1⟩ := hi0.three hm3
          rw [hm3] at hc0
          have HR1 := Lib.hid hr1
          clear hr1 hi0 e31
          go_wp2_with fail
          refine HT.out.mono ?_
          rintro e w2 ⟨rfl, hb2⟩
          have hB2 := HB.out.trans (hb2.mono hz)
          have q2 := (hB2.cell (p := ⟨b, off + m, none⟩) hlt).trans hc0
          have hri : Ints w2 b' off' (F (m + 1)) := fun j hj => (hb2.cell (p := ⟨b', off' + j, none⟩) hlt').trans (HR.out j hj)
          have hri1 : Ints w2 b1 off1 (F m) := fun j hj => (hB2.cell (p := ⟨b1, off1 + j, none⟩) hlt1).trans (HR1.out j hj)
          have hcm := Compare_any b1 off1 c0 b' off' c' (F m) (F (m + 1)) w2 hri1 hri (by omega) (by omega)
          rw [hm3, h3] at hcm
          have HCM := Lib.hid hcm
          have HB2 := Lib.hid hB2
          clear hb2 hB2 hri hri1 hcm q hc0
          obtain ⟨κ, hκ⟩ : ∃ κ, κ = cmpL (F m) (F (m + 1)) := ⟨_, rfl⟩
          rw [← hκ] at HCM
          by_cases hlt2 : κ < 0
          · have HS := Lib.hid (show okP v (m + 1 + 1) F = true by rw [okP_succ, HOK.out]; simp [okP1, ht, ← hκ, hlt2])
            clear ht hκ
            go_wp2_with fail
            refine HCM.out.mono ?_
            rintro e w3 ⟨rfl, rfl⟩
            go_wp2_with fail
            go_roundw
            case rel => exact ⟨m + 1 + 1, by omega, by go_num, HB2.out, HS.out⟩
            case measure => simp [intOf]; omega
          · have HS := Lib.hid (show famB v n F = false by rw [← HP.out, famP, okP_false hkl (show okP1 v (m + 1) F = false by simp [okP1, ← hκ, hlt2])]; rfl)
            clear ht hκ
            go_wp2_with fail
            refine HCM.out.mono ?_
            rintro e w3 ⟨rfl, rfl⟩
            go_wp2
            rw [HS.out]
            exact bodyPost_ret (v := .tuple #[.bool false, .int .i64 0]) (by simp [results, Try.results32, go_sem, *]) rfl (RV_of rfl HB2.out)
      · have ht : triB v (F k) = false := by simpa using ht
        have HS := Lib.hid (show famB v n F = false by rw [← HP.out, famP, okP_false hkl (show okP1 v k F = false by simp [okP1, ht])]; rfl)
        rw [ht] at HT
        clear ht HI
        go_wp2_with fail
        refine HT.out.mono ?_
        rintro e w2 ⟨rfl, hb2⟩
        go_wp2
        rw [HS.out]
        exact bodyPost_ret (v := .tuple #[.bool false, .int .i64 0]) (by simp [results, Try.results32, go_sem, *]) rfl (RV_of rfl (HB.out.trans (hb2.mono hz)))
    · have e : k = n := by omega
      subst e
      clear hkl hk
      have h3 : ∀ j, j < k → (F j).length = 3 := fun j hj => tri_len (okP_tri hj HOK.out)
      have hcl : (catF k F).length = 3 * k := cat_len k fun j hj => okP_tri hj HOK.out
      have HE := Lib.hid (show famB v k F = decide (sortI (catF k F) = diffs v) by rw [← HP.out, famP, HOK.out]; rfl)
      have HC := Lib.hid (concatR_any _ k F wr (HSS.out.below HB.out (Nat.le_refl _)) h3)
      have hdn := diffs_ne hv
      have HV := Lib.hid hv
      have HDN := Lib.hid hdn
      obtain ⟨Z, hZ⟩ : ∃ Z, Z = catF k F := ⟨_, rfl⟩
      rw [← hZ] at HE HC hcl
      have HZ := Lib.hid (show Z.length ≤ 3300000 by omega)
      clear h3 hcl hZ hdn hv HOK HP HROW HSS
      go_wp2_with fail
      refine HC.out.mono ?_
      rintro e w2 ⟨u2, rfl, ho2, hb2⟩
      have hB2 := HB.out.trans (hb2.mono hz)
      have HO2 := Lib.hid (show OwnJ w2 W0.heap.size u2 Z from ⟨ho2.1, by
        rcases ho2.2 with h | ⟨g, cap, cur, e, hb, hr⟩
        · exact .inl h
        · exact .inr ⟨g, cap, cur, e, Nat.le_trans hz hb, hr⟩⟩)
      have HB2 := Lib.hid hB2
      have hz2 := hB2.size
      clear ho2 hb2 hB2
      go_wp2_with fail
      refine (sortI_any W0.heap.size u2 Z w2 HO2.out HZ.out).mono ?_
      rintro e w3 ⟨rfl, hg3, hform⟩
      have hrow := HO2.out.row
      have HB3 := Lib.hid (HB2.out.grown hg3 hz2 (fun j e => hrow j e))
      have hz3 := HB3.out.size
      have HF := Lib.hid hform
      clear hg3 hform hrow
      go_wp2_with fail
      refine (differencesOf_any v w3 HV.out).mono ?_
      rintro e w4 ⟨u4, rfl, ho4, hb4⟩
      obtain ⟨g4, c4, rfl, hg4, hl4, hi4⟩ := ho4.some HDN.out.1
      have HB4 := Lib.hid (HB3.out.trans (hb4.mono hz3))
      have HEQ := Lib.hid (equalI_any u2 Z g4 c4 (diffs v) w4 (by
        rcases HF.out with h | ⟨g, cap, e, hb, hl, hi⟩
        · exact .inl h
        · exact .inr ⟨g, cap, e, fun j hj => (hb4.cell (p := ⟨g, 0 + j, none⟩) hl).trans (hi j hj)⟩) hi4 HZ.out (by have := HDN.out.2; omega))
      rw [← HE.out] at HEQ
      clear ho4 hb4 hi4 HF
      go_wp2_with fail
      refine HEQ.out.mono ?_
      rintro e w5 ⟨rfl, q5, rfl⟩
      go_wp2
      exact bodyPost_ret (v := .tuple #[.bool _, .int .i64 0]) (by simp [results, Try.results32, go_sem, *]) rfl (RV_of rfl (below_drewN HB4.out _))
theorem IsDF_any (v : Int) (s : Value) (n : Nat) (F : Nat → List Int) (w : World) (h : SSB w s n F) :
    Calls Try.prog 32 #[.int .i64 v, s] w (RV (.tuple #[.bool (famF v n F).1, .int .i64 (famF v n F).2]) w) := by
  unfold famF
  by_cases hv : dfV v = true
  · rw [if_pos hv]
    obtain ⟨a, c, rfl⟩ := h.slice
    exact IsDF_in v a n c F w hv h
  · rw [if_neg hv]
    exact IsDF_out v s w (by simpa using hv)
end Go.Proofs.Ytlhiokcdjnmfmaa

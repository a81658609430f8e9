
/- Third points, in plain words. Blocks in ascending order: plain facts. Plain facts on trades, without the program. Plain facts on the points of blocks. Plain facts on difference families. The members of the library that ask whether a value is in a slice; the iterator over the blocks through a point. The iterator over the blocks through a point. The program's ThirdPoint answers as the plain function thirdV. The program's ThirdPoint where it searches. -/
import Derived.Test.YtlhiokcdjnmfmaaJ2
import Derived.Lib.SlicesCompact
import Derived.RangeFuncNested
import Derived.RangeFuncBound
import Derived.RangeFuncCalls
import Derived.RangeFuncLeaves
import Derived.RangeFuncBox
import Derived.Shelf.Abstract
import Derived.Shelf.RegionOpen
import Derived.OwnWalkIn
import Derived.TacticsInMore
import Derived.LoopNIn
import Derived.LoopIn
import Derived.Lib.QuietBelowIn
namespace Go.Proofs.Ytlhiokcdjnmfmaa
open Go.RowKit Go.Maps
def hasB (x : Blk) (p : Int) : Bool := decide (x.a = p) || decide (x.b = p) || decide (x.c = p)
def bothB (a b : Int) (x : Blk) : Bool := hasB x a && hasB x b
def thirdOf (x : Blk) (a b : Int) : Int := x.a + x.b + x.c - a - b
def inP (v a : Int) : Bool := decide (0 ≤ a) && decide (a < v)
/-- The third point, or -1. -/
def third1 (bs : List Blk) (a b : Int) : Int := match bs.find? (bothB a b) with | some x => thirdOf x a b | none => -1
def thirdV (v : Int) (bs : List Blk) (a b : Int) : Value :=
  if isSysImpl v bs then
    (if inP v a && inP v b then (if a = b then .tuple #[.int .i64 0, .int .i64 2] else
      (match bs.find? (bothB a b) with | some x => .tuple #[.int .i64 (thirdOf x a b), .int .i64 0] | none => .tuple #[.int .i64 0, .int .i64 4]))
    else .tuple #[.int .i64 0, .int .i64 2])
  else .tuple #[.int .i64 0, .int .i64 1]
theorem sys_good {v : Int} {bs : List Blk} (h : isSysImpl v bs = true) : ∀ x ∈ bs, goodB v x = true := by
  unfold isSysImpl at h
  simp only [Bool.and_eq_true] at h
  exact order_good h.1.2
theorem third_bounds {v : Int} {x : Blk} {a b : Int} (hg : goodB v x = true) (hv : v ≤ 15) (h : bothB a b x = true) (hab : a ≠ b) : 0 ≤ thirdOf x a b ∧ thirdOf x a b ≤ 15 := by
  rw [goodB_iff] at hg
  unfold bothB hasB at h
  unfold thirdOf
  simp at h
  omega
theorem find_next {p : Blk → Bool} {bs : List Blk} {k : Nat} {x : Blk} (hk : k < bs.length) (hx : bs[k]? = some x) (h : (bs.take k).find? p = none) : (p x = true → bs.find? p = some x) ∧ (p x = false → (bs.take (k + 1)).find? p = none) := by
  have e : bs[k] = x := by
    rw [List.getElem?_eq_getElem hk] at hx
    simpa using hx
  refine ⟨fun hp => ?_, fun hp => ?_⟩
  · rw [← List.take_append_drop k bs, List.find?_append, h, List.drop_eq_getElem_cons hk, e]
    simp [hp]
  · rw [take_next hk, e, List.find?_append, h]
    simp [hp]
end Go.Proofs.Ytlhiokcdjnmfmaa

namespace Go.Proofs.Ytlhiokcdjnmfmaa
theorem bef_iff (x y : Blk) : befB x y = true ↔ x.a < y.a ∨ (x.a = y.a ∧ (x.b < y.b ∨ (x.b = y.b ∧ x.c < y.c))) := by
  unfold befB
  split
  · split
    · simp; omega
    · simp; omega
  · simp; omega
theorem bef_niff (x y : Blk) : befB x y = false ↔ ¬ (x.a < y.a ∨ (x.a = y.a ∧ (x.b < y.b ∨ (x.b = y.b ∧ x.c < y.c)))) := by
  rw [← bef_iff]; simp
theorem bef_irrefl (x : Blk) : befB x x = false := by rw [bef_niff]; omega
theorem bef_trans {x y z : Blk} (h1 : befB x y = true) (h2 : befB y z = true) : befB x z = true := by
  rw [bef_iff] at *; omega
theorem bef_ntrans {x y z : Blk} (h1 : befB x y = false) (h2 : befB y z = false) : befB x z = false := by
  rw [bef_niff] at *; omega
theorem bef_asymm {x y : Blk} (h : befB x y = true) : befB y x = false := by
  rw [bef_niff]; rw [bef_iff] at h; omega
theorem bef_total {x y : Blk} (h1 : befB x y = false) (h2 : befB y x = false) : x = y := by
  rw [bef_niff] at h1 h2
  obtain ⟨a, b, c⟩ := x
  obtain ⟨d, e, f⟩ := y
  simp only at h1 h2
  simp only [Blk.mk.injEq]
  omega
/-- No block stands behind a greater one. -/
def Srt (l : List Blk) : Prop := l.Pairwise fun x y => befB y x = false
theorem srt_unique {l m : List Blk} (h1 : Srt l) (h2 : Srt m) (hp : l.Perm m) : l = m :=
  List.Perm.eq_of_pairwise (le := fun x y => befB y x = false) (fun _ _ _ _ h1 h2 => bef_total h2 h1) h1 h2 hp
/-- Where x goes in among the first n of l. -/
def posB (x : Blk) (l : List Blk) : Nat → Nat
  | 0 => 0
  | n + 1 => if befB x (l[n]?.getD default) then posB x l n else n + 1
theorem posB_le (x : Blk) (l : List Blk) : ∀ n, posB x l n ≤ n
  | 0 => Nat.le_refl _
  | n + 1 => by
    unfold posB
    split
    · have := posB_le x l n; omega
    · exact Nat.le_refl _
theorem posB_after (x : Blk) (l : List Blk) : ∀ n j, posB x l n ≤ j → j < n → befB x (l[j]?.getD default) = true
  | 0, j, _, h => by omega
  | n + 1, j, h1, h2 => by
    unfold posB at h1
    split at h1
    · by_cases e : j = n
      · subst e; assumption
      · exact posB_after x l n j h1 (by omega)
    · omega
theorem posB_at (x : Blk) (l : List Blk) : ∀ n m, posB x l n = m + 1 → befB x (l[m]?.getD default) = false
  | 0, m, h => by simp [posB] at h
  | n + 1, m, h => by
    unfold posB at h
    split at h
    · exact posB_at x l n m h
    · obtain rfl : m = n := by omega
      exact Bool.eq_false_iff.2 ‹¬ befB _ _ = true›
def insB (x : Blk) (l : List Blk) : List Blk := l.take (posB x l l.length) ++ x :: l.drop (posB x l l.length)
theorem insB_perm (x : Blk) (l : List Blk) : (insB x l).Perm (x :: l) := by
  unfold insB
  refine List.perm_middle.trans ?_
  rw [List.take_append_drop]
theorem insB_length (x : Blk) (l : List Blk) : (insB x l).length = l.length + 1 := by
  rw [(insB_perm x l).length_eq]; rfl
theorem insB_srt {x : Blk} {l : List Blk} (h : Srt l) : Srt (insB x l) := by
  unfold insB Srt
  have hle := posB_le x l l.length
  have hb : ∀ y ∈ l.take (posB x l l.length), befB x y = false := by
    intro y hy
    obtain ⟨i, hi, e⟩ := List.getElem_of_mem hy
    rw [List.length_take] at hi
    rw [List.getElem_take] at e
    obtain ⟨m, hm⟩ : ∃ m, posB x l l.length = m + 1 := ⟨posB x l l.length - 1, by omega⟩
    have hm2 := posB_at x l _ m hm
    have hml : m < l.length := by omega
    rw [List.getElem?_eq_getElem hml, Option.getD_some] at hm2
    by_cases hi2 : i = m
    · subst hi2; rw [← e]; exact hm2
    · have hh := List.pairwise_iff_getElem.1 h i m (by omega) hml (by omega)
      rw [← e]
      exact bef_ntrans hm2 hh
  have ha : ∀ y ∈ l.drop (posB x l l.length), befB x y = true := by
    intro y hy
    obtain ⟨i, hi, e⟩ := List.getElem_of_mem hy
    rw [List.length_drop] at hi
    rw [List.getElem_drop] at e
    have h2 := posB_after x l l.length (posB x l l.length + i) (by omega) (by omega)
    rw [List.getElem?_eq_getElem (by omega), Option.getD_some, e] at h2
    exact h2
  have h0 : Srt (l.take (posB x l l.length) ++ l.drop (posB x l l.length)) := by rw [List.take_append_drop]; exact h
  obtain ⟨h1, h2, h3⟩ := List.pairwise_append.1 h0
  refine List.pairwise_append.2 ⟨h1, List.pairwise_cons.2 ⟨fun y hy => bef_asymm (ha y hy), h2⟩, fun y hy z hz => ?_⟩
  rcases List.mem_cons.1 hz with rfl | hz
  · exact hb y hy
  · exact h3 y hy z hz
/-- The blocks in order. -/
def sortB (bs : List Blk) : List Blk := bs.foldl (fun acc x => insB x acc) []
theorem sortB_snoc (bs : List Blk) (x : Blk) : sortB (bs ++ [x]) = insB x (sortB bs) := by simp [sortB]
theorem foldIns_perm : ∀ (bs acc : List Blk), (bs.foldl (fun acc x => insB x acc) acc).Perm (bs ++ acc)
  | [], acc => List.Perm.refl _
  | x :: r, acc => by
    rw [List.foldl_cons]
    refine (foldIns_perm r _).trans ?_
    refine ((insB_perm x acc).append_left r).trans ?_
    exact List.perm_middle
theorem foldIns_srt : ∀ (bs acc : List Blk), Srt acc → Srt (bs.foldl (fun acc x => insB x acc) acc)
  | [], _, h => h
  | x :: r, acc, h => by
    rw [List.foldl_cons]
    exact foldIns_srt r _ (insB_srt h)
theorem sortB_perm (bs : List Blk) : (sortB bs).Perm bs := by
  have := foldIns_perm bs []
  rwa [List.append_nil] at this
theorem sortB_srt (bs : List Blk) : Srt (sortB bs) := foldIns_srt bs [] List.Pairwise.nil
theorem sortB_length (bs : List Blk) : (sortB bs).length = bs.length := (sortB_perm bs).length_eq
theorem sortB_eq {bs l : List Blk} (h1 : Srt l) (h2 : l.Perm bs) : sortB bs = l := srt_unique (sortB_srt bs) h1 ((sortB_perm bs).trans h2.symm)
theorem sortB_of_perm {bs cs : List Blk} (h : bs.Perm cs) : sortB bs = sortB cs := sortB_eq (sortB_srt cs) ((sortB_perm cs).trans h.symm)
theorem sortB_mem {bs : List Blk} {x : Blk} : x ∈ sortB bs ↔ x ∈ bs := (sortB_perm bs).mem_iff
theorem sortB_merge (bs : List Blk) : bs.mergeSort (fun x y => !befB y x) = sortB bs := by
  refine (sortB_eq ?_ (List.mergeSort_perm _ _)).symm
  have := List.pairwise_mergeSort (le := fun x y => !befB y x) (fun x y z h1 h2 => by
    simp only [Bool.not_eq_true'] at *
    exact bef_ntrans h2 h1) (fun x y => by
    cases h : befB y x
    · simp
    · simp [bef_asymm h]) bs
  exact this.imp fun h => by simpa using h
/-- Blocks in strict order are in order. -/
theorem order_srt {v : Int} : ∀ {bs : List Blk} {p : Option Blk}, orderGo v p bs = true → (bs.Pairwise fun x y => befB x y = true) ∧ ∀ y, p = some y → ∀ x ∈ bs, befB y x = true
  | [], _, _ => ⟨List.Pairwise.nil, by simp⟩
  | x :: r, p, h => by
    simp only [orderGo, Bool.and_eq_true] at h
    obtain ⟨⟨_, h1⟩, h2⟩ := h
    obtain ⟨i1, i2⟩ := order_srt h2
    refine ⟨List.pairwise_cons.2 ⟨fun y hy => i2 x rfl y hy, i1⟩, fun y hy z hz => ?_⟩
    subst hy
    simp only at h1
    rcases List.mem_cons.1 hz with rfl | hz
    · exact h1
    · exact bef_trans h1 (i2 x rfl z hz)
theorem sys_strict {v : Int} {bs : List Blk} (h : isSysImpl v bs = true) : bs.Pairwise fun x y => befB x y = true := by
  simp only [isSysImpl, Bool.and_eq_true] at h
  exact (order_srt h.1.2).1
theorem strict_srt {bs : List Blk} (h : bs.Pairwise fun x y => befB x y = true) : Srt bs := h.imp bef_asymm
theorem strict_nodup {bs : List Blk} (h : bs.Pairwise fun x y => befB x y = true) : bs.Nodup :=
  h.imp fun {x y} hxy e => by subst e; rw [bef_irrefl] at hxy; cases hxy
end Go.Proofs.Ytlhiokcdjnmfmaa

namespace Go.Proofs.Ytlhiokcdjnmfmaa
/-- The pairs of a list of blocks. -/
def prs (bs : List Blk) : List (Int × Int) := bs.flatMap pairsL
/-- The same pairs. -/
def samePr (bs cs : List Blk) : Bool := (prs bs).all (fun p => decide (p ∈ prs cs)) && (prs cs).all (fun p => decide (p ∈ prs bs))
/-- No block is in both. -/
def dsj (bs cs : List Blk) : Bool := bs.all fun x => !decide (x ∈ cs)
def trdB (v : Int) (bo bi : List Blk) : Bool := isSysImpl v bo && isSysImpl v bi && (samePr bo bi && dsj bo bi)
theorem samePr_iff {bs cs : List Blk} : samePr bs cs = true ↔ ∀ p, p ∈ prs bs ↔ p ∈ prs cs := by
  simp only [samePr, Bool.and_eq_true, List.all_eq_true, decide_eq_true_eq]
  exact ⟨fun h p => ⟨h.1 p, h.2 p⟩, fun h => ⟨fun p => (h p).1, fun p => (h p).2⟩⟩
theorem dsj_iff {bs cs : List Blk} : dsj bs cs = true ↔ ∀ x ∈ bs, x ∉ cs := by simp [dsj]
theorem dsj_symm (bs cs : List Blk) : dsj bs cs = dsj cs bs := by
  rw [Bool.eq_iff_iff, dsj_iff, dsj_iff]
  exact ⟨fun h x hx hy => h x hy hx, fun h x hx hy => h x hy hx⟩
theorem samePr_symm (bs cs : List Blk) : samePr bs cs = samePr cs bs := by
  rw [Bool.eq_iff_iff, samePr_iff, samePr_iff]
  exact ⟨fun h p => (h p).symm, fun h p => (h p).symm⟩
theorem trdB_symm (v : Int) (bo bi : List Blk) : trdB v bo bi = trdB v bi bo := by
  unfold trdB
  rw [samePr_symm, dsj_symm, Bool.and_comm (isSysImpl v bo)]
theorem prs_length (bs : List Blk) : (prs bs).length = 3 * bs.length := by
  induction bs with
  | nil => rfl
  | cons x r ih =>
    simp only [prs, List.flatMap_cons, List.length_append, List.length_cons] at ih ⊢
    rw [ih]
    simp [pairsL]; omega
theorem share_nodup {v : Int} (hv : v ≤ 15) : ∀ (bs : List Blk) (seen : List (Int × Int)), (∀ x ∈ bs, goodB v x = true) → seen.Nodup → shareGo seen bs = false → (seen ++ prs bs).Nodup
  | [], seen, _, hn, _ => by simpa [prs] using hn
  | x :: r, seen, hb, hn, h => by
    unfold shareGo at h
    split at h
    · rename_i hf
      rw [freeB_iff] at hf
      obtain ⟨g1, _⟩ := good_pairs hv (hb x (by simp))
      have := share_nodup hv r (seen ++ pairsL x) (fun y hy => hb y (by simp [hy])) (List.nodup_append.2 ⟨hn, g1, fun p hp q hq e => hf q hq (e ▸ hp)⟩) h
      simpa [prs, List.append_assoc] using this
    · cases h
theorem sys_parts {v : Int} {bs : List Blk} (h : isSysImpl v bs = true) : 3 ≤ v ∧ v ≤ 15 ∧ (∀ x ∈ bs, goodB v x = true) ∧ shareGo [] bs = false := by
  simp only [isSysImpl, Bool.and_eq_true, decide_eq_true_eq, Bool.not_eq_true'] at h
  exact ⟨h.1.1.1, h.1.1.2, order_good h.1.2, h.2⟩
theorem prs_nodup {v : Int} {bs : List Blk} (h : isSysImpl v bs = true) : (prs bs).Nodup := by
  obtain ⟨_, h2, h3, h4⟩ := sys_parts h
  simpa using share_nodup h2 bs [] h3 List.nodup_nil h4
theorem sub_back {α : Type} [DecidableEq α] {l m : List α} (hn : l.Nodup) (hs : ∀ x ∈ l, x ∈ m) (hl : m.length ≤ l.length) : ∀ x ∈ m, x ∈ l := by
  intro x hx
  apply Classical.byContradiction
  intro hnot
  have h := nodup_length l (m.erase x) hn (fun y hy => by
    have hne : y ≠ x := fun e => hnot (e ▸ hy)
    exact (List.mem_erase_of_ne hne).2 (hs y hy))
  rw [List.length_erase_of_mem hx] at h
  have : 0 < m.length := List.length_pos_of_mem hx
  omega
/-- Of two systems: as many pairs, and those of the first in the second, say the same. -/
theorem samePr_of {v u : Int} {bs cs : List Blk} (h1 : isSysImpl v bs = true) (h2 : isSysImpl u cs = true) : samePr bs cs = (decide ((prs bs).length = (prs cs).length) && (prs bs).all fun p => decide (p ∈ prs cs)) := by
  have n1 := prs_nodup h1
  have n2 := prs_nodup h2
  rw [Bool.eq_iff_iff, samePr_iff]
  simp only [Bool.and_eq_true, List.all_eq_true, decide_eq_true_eq]
  constructor
  · intro h
    exact ⟨Nat.le_antisymm (nodup_length _ _ n1 fun x hx => (h x).1 hx) (nodup_length _ _ n2 fun x hx => (h x).2 hx), fun x hx => (h x).1 hx⟩
  · rintro ⟨h, hs⟩ p
    exact ⟨hs p, sub_back n1 hs (by omega) p⟩
/-- The blocks that are not in the others. -/
def lessL (bs cs : List Blk) : List Blk := bs.filter fun x => !decide (x ∈ cs)
theorem lessL_length (bs cs : List Blk) : (lessL bs cs).length ≤ bs.length := List.length_filter_le _ _
theorem lessL_mem {bs cs : List Blk} {x : Blk} : x ∈ lessL bs cs ↔ x ∈ bs ∧ x ∉ cs := by simp [lessL]
theorem lessL_strict {bs cs : List Blk} (h : bs.Pairwise fun x y => befB x y = true) : (lessL bs cs).Pairwise fun x y => befB x y = true := h.filter _
theorem sortB_strict {bs : List Blk} (h : bs.Pairwise fun x y => befB x y = true) : sortB bs = bs := sortB_eq (strict_srt h) (List.Perm.refl _)
end Go.Proofs.Ytlhiokcdjnmfmaa

namespace Go.Proofs.Ytlhiokcdjnmfmaa
open Go.Lib
/-- All points in blocks, block by block. -/
def ptsAll (bs : List Blk) : List Int := bs.flatMap fun x => [x.a, x.b, x.c]
/-- The points in blocks, ascending. -/
def ptsT (v : Int) (bs : List Blk) : List Int := ((List.range v.toNat).map fun (k : Nat) => (k : Int)).filter fun p => bs.any fun x => hasB x p
theorem asc_unique {l m : List Int} (h1 : l.Pairwise (· < ·)) (h2 : m.Pairwise (· < ·)) (h : ∀ x, x ∈ l ↔ x ∈ m) : l = m := by
  induction l generalizing m with
  | nil =>
    cases m with
    | nil => rfl
    | cons y m => exact absurd ((h y).2 (by simp)) (by simp)
  | cons x l ih =>
    cases m with
    | nil => exact absurd ((h x).1 (by simp)) (by simp)
    | cons y m =>
      rw [List.pairwise_cons] at h1 h2
      have e : x = y := by
        have a := (h x).1 (by simp)
        have b := (h y).2 (by simp)
        rcases List.mem_cons.1 a with a | a
        · exact a
        · rcases List.mem_cons.1 b with b | b
          · exact b.symm
          · have := h1.1 y b
            have := h2.1 x a
            omega
      subst e
      rw [ih h1.2 h2.2 (fun z => ?_)]
      have hz := h z
      simp only [List.mem_cons] at hz
      constructor
      · intro hm
        rcases hz.1 (.inr hm) with rfl | hq
        · have := h1.1 z hm; omega
        · exact hq
      · intro hm
        rcases hz.2 (.inr hm) with rfl | hq
        · have := h2.1 z hm; omega
        · exact hq
theorem compact_mem {zs : List Int} {x : Int} : x ∈ compact zs ↔ x ∈ zs := by
  unfold compact compactUpTo
  rw [List.mem_map]
  constructor
  · rintro ⟨j, hj, rfl⟩
    have hj := List.mem_range.1 (List.mem_filter.1 hj).1
    rw [getElem!_pos zs.toArray j (by simpa using hj)]
    simp
  · intro hx
    obtain ⟨j, hj, rfl⟩ := List.mem_iff_getElem.1 hx
    clear hx
    induction j with
    | zero => exact ⟨0, List.mem_filter.2 ⟨List.mem_range.2 hj, by simp [keeps]⟩, by rw [getElem!_pos zs.toArray 0 (by simpa using hj)]; simp⟩
    | succ j ih =>
      by_cases hk : keeps zs.toArray (j + 1) = true
      · exact ⟨j + 1, List.mem_filter.2 ⟨List.mem_range.2 hj, hk⟩, by rw [getElem!_pos zs.toArray (j + 1) (by simpa using hj)]; simp⟩
      · obtain ⟨i, h1, h2⟩ := ih (by omega)
        refine ⟨i, h1, h2.trans ?_⟩
        rw [Bool.not_eq_true] at hk
        simp only [keeps] at hk
        rw [getElem!_pos zs.toArray (j + 1) (by simpa using hj), getElem!_pos zs.toArray (j + 1 - 1) (by simp; omega)] at hk
        simp at hk
        exact hk.symm
theorem compact_asc {zs : List Int} (h : zs.Pairwise (· ≤ ·)) : (compact zs).Pairwise (· < ·) := by
  unfold compact compactUpTo
  rw [List.pairwise_map]
  have hr : (List.range zs.length).Pairwise (· < ·) := List.pairwise_lt_range
  refine ((hr.filter (keeps zs.toArray)).imp_of_mem ?_)
  intro i j hi hj hlt
  have li := List.mem_range.1 (List.mem_filter.1 hi).1
  have lj := List.mem_range.1 (List.mem_filter.1 hj).1
  have hk := (List.mem_filter.1 hj).2
  simp only [keeps] at hk
  rw [getElem!_pos zs.toArray i (by simpa using li), getElem!_pos zs.toArray j (by simpa using lj)]
  rw [getElem!_pos zs.toArray j (by simpa using lj), getElem!_pos zs.toArray (j - 1) (by simp; omega)] at hk
  simp at hk ⊢
  have e0 : j ≠ 0 := by omega
  have hp := List.pairwise_iff_getElem.1 h
  have h1 : zs[i] ≤ zs[j - 1] := by
    by_cases e : i = j - 1
    · simp [e]
    · exact hp i (j - 1) li (by omega) (by omega)
  have h2 := hp (j - 1) j (by omega) lj (by omega)
  have h3 : zs[j] ≠ zs[j - 1] := by
    rcases hk with hk | hk
    · exact absurd hk e0
    · exact hk
  omega
theorem ptsAll_mem {bs : List Blk} {p : Int} : p ∈ ptsAll bs ↔ bs.any (fun x => hasB x p) = true := by
  simp only [ptsAll, List.mem_flatMap, List.any_eq_true, hasB, List.mem_cons, List.not_mem_nil, or_false, Bool.or_eq_true, decide_eq_true_eq]
  constructor
  · rintro ⟨x, hx, h⟩
    exact ⟨x, hx, by rcases h with rfl | rfl | rfl <;> simp⟩
  · rintro ⟨x, hx, h⟩
    exact ⟨x, hx, by rcases h with (rfl | rfl) | rfl <;> simp⟩
theorem ptsT_mem {v : Int} {bs : List Blk} (h : ∀ x ∈ bs, goodB v x = true) {p : Int} : p ∈ ptsT v bs ↔ p ∈ ptsAll bs := by
  rw [ptsAll_mem, ptsT, List.mem_filter, List.mem_map]
  constructor
  · exact fun hp => hp.2
  · intro hp
    refine ⟨⟨p.toNat, List.mem_range.2 ?_, ?_⟩, hp⟩
    all_goals
      obtain ⟨x, hx, hh⟩ := List.any_eq_true.1 hp
      have hg := goodB_iff.1 (h x hx)
      simp only [hasB, Bool.or_eq_true, decide_eq_true_eq] at hh
      rcases hh with (rfl | rfl) | rfl <;> omega
theorem ptsT_asc (v : Int) (bs : List Blk) : (ptsT v bs).Pairwise (· < ·) := by
  unfold ptsT
  refine List.Pairwise.filter _ ?_
  rw [List.pairwise_map]
  exact List.pairwise_lt_range.imp fun {a b} h => by omega
theorem pts_same {v : Int} {bs : List Blk} (h : ∀ x ∈ bs, goodB v x = true) : compact ((ptsAll bs).mergeSort fun x y => decide (x ≤ y)) = ptsT v bs := by
  have hp := List.mergeSort_perm (ptsAll bs) (fun x y => decide (x ≤ y))
  have hs : ((ptsAll bs).mergeSort fun x y => decide (x ≤ y)).Pairwise (· ≤ ·) := by
    have := List.pairwise_mergeSort (le := fun (x y : Int) => decide (x ≤ y)) (by intro a b c; simp; omega) (by intro a b; simp; omega) (ptsAll bs)
    exact this.imp fun {a b} h => by simpa using h
  refine asc_unique (compact_asc hs) (ptsT_asc v bs) fun x => ?_
  rw [compact_mem, hp.mem_iff, ptsT_mem h]
theorem ptsT_len (v : Int) (bs : List Blk) (hv : v ≤ 15) : (ptsT v bs).length ≤ 15 := by
  unfold ptsT
  refine Nat.le_trans (List.length_filter_le _ _) ?_
  simp; omega
theorem ptsAll_len (bs : List Blk) : (ptsAll bs).length = 3 * bs.length := by
  induction bs with
  | nil => rfl
  | cons x r ih => simp [ptsAll] at ih ⊢; omega
def ptsF (v : Int) (bo bi : List Blk) : List Int × Int := if trdB v bo bi then (ptsT v bo, 0) else ([], 1)
end Go.Proofs.Ytlhiokcdjnmfmaa

namespace Go.Proofs.Ytlhiokcdjnmfmaa
def at3 (t : List Int) (k : Nat) : Int := t[k]?.getD 0
def triB (v : Int) (t : List Int) : Bool :=
  decide (t.length = 3) && decide (1 ≤ at3 t 0) && decide (at3 t 0 < at3 t 1) && decide (at3 t 1 < at3 t 2) && decide (at3 t 2 ≤ (v - 1) / 2) && (decide (at3 t 0 + at3 t 1 = at3 t 2) || decide (at3 t 0 + at3 t 1 + at3 t 2 = v))
def dfV (v : Int) : Bool := decide (v = 7) || decide (v = 13) || decide (v = 15)
/-- The numbers that a family has, ascending, up to the first k. -/
def diffsK (v : Int) (k : Nat) : List Int := ((List.range k).map fun (j : Nat) => (j : Int) + 1).filter fun d => decide (v ≠ 15) || decide (d ≠ 5)
def diffs (v : Int) : List Int := diffsK v ((v - 1) / 2).toNat
def catF (n : Nat) (F : Nat → List Int) : List Int := (List.range n).flatMap F
theorem catF_succ (n : Nat) (F : Nat → List Int) : catF (n + 1) F = catF n F ++ F n := by simp [catF, List.range_succ]
def baseD (v : Int) : List Int := if v = 15 then [5] else []
/-- The first i triples are good: in order, and no number twice. -/
def okD (v : Int) (i : Nat) (F : Nat → List Int) : Bool :=
  ((List.range i).all fun j => triB v (F j) && (decide (j = 0) || decide (at3 (F (j - 1)) 0 < at3 (F j) 0))) && decide ((baseD v ++ catF i F).Nodup)
def famB (v : Int) (n : Nat) (F : Nat → List Int) : Bool := okD v n F && decide (3 * n = (diffs v).length)
/-- What the program asks of the first i triples. -/
def okP (v : Int) (i : Nat) (F : Nat → List Int) : Bool := (List.range i).all fun j => triB v (F j) && (decide (j = 0) || decide (cmpL (F (j - 1)) (F j) < 0))
def sortI (l : List Int) : List Int := l.mergeSort fun x y => decide (x ≤ y)
def famP (v : Int) (n : Nat) (F : Nat → List Int) : Bool := okP v n F && decide (sortI (catF n F) = diffs v)
theorem triB_iff {v : Int} {t : List Int} : triB v t = true ↔ ∃ a b c, t = [a, b, c] ∧ 1 ≤ a ∧ a < b ∧ b < c ∧ c ≤ (v - 1) / 2 ∧ (a + b = c ∨ a + b + c = v) := by
  simp only [triB, Bool.and_eq_true, Bool.or_eq_true, decide_eq_true_eq]
  constructor
  · rintro ⟨⟨⟨⟨⟨h0, h1⟩, h2⟩, h3⟩, h4⟩, h5⟩
    match t, h0 with
    | [a, b, c], _ => exact ⟨a, b, c, rfl, by simpa [at3] using h1, by simpa [at3] using h2, by simpa [at3] using h3, by simpa [at3] using h4, by simpa [at3] using h5⟩
  · rintro ⟨a, b, c, rfl, h1, h2, h3, h4, h5⟩
    simp [at3, h1, h2, h3, h4, h5]
theorem diffs_asc (v : Int) (k : Nat) : (diffsK v k).Pairwise (· < ·) := by
  unfold diffsK
  refine List.Pairwise.filter _ ?_
  rw [List.pairwise_map]
  exact List.pairwise_lt_range.imp fun {a b} h => by omega
theorem diffs_mem {v : Int} {k : Nat} {d : Int} : d ∈ diffsK v k ↔ 1 ≤ d ∧ d ≤ k ∧ (v ≠ 15 ∨ d ≠ 5) := by
  simp only [diffsK, List.mem_filter, List.mem_map, List.mem_range, Bool.or_eq_true, decide_eq_true_eq]
  constructor
  · rintro ⟨⟨j, hj, rfl⟩, h⟩
    exact ⟨by omega, by omega, h⟩
  · rintro ⟨h1, h2, h3⟩
    exact ⟨⟨(d - 1).toNat, by omega, by omega⟩, h3⟩
theorem sortI_asc (l : List Int) : (sortI l).Pairwise (· ≤ ·) := by
  have := List.pairwise_mergeSort (le := fun (x y : Int) => decide (x ≤ y)) (by intro a b c; simp; omega) (by intro a b; simp; omega) l
  exact this.imp fun {a b} h => by simpa using h
theorem sortI_perm (l : List Int) : (sortI l).Perm l := List.mergeSort_perm l _
theorem asc_of {l : List Int} (h : l.Pairwise (· ≤ ·)) (hn : l.Nodup) : l.Pairwise (· < ·) := by
  have : l.Pairwise fun x y => x ≤ y ∧ x ≠ y := List.Pairwise.and h hn
  exact this.imp fun {a b} h => by omega
theorem asc_nodup {l : List Int} (h : l.Pairwise (· < ·)) : l.Nodup := h.imp fun {a b} h => by omega
theorem cat_len {v : Int} {F : Nat → List Int} : ∀ n, (∀ j, j < n → triB v (F j) = true) → (catF n F).length = 3 * n
  | 0, _ => rfl
  | n + 1, h => by
    obtain ⟨a, b, c, e, _⟩ := triB_iff.1 (h n (by omega))
    rw [catF_succ, List.length_append, cat_len n (fun j hj => h j (by omega)), e]
    simp; omega
theorem cat_mem {n : Nat} {F : Nat → List Int} {d : Int} : d ∈ catF n F ↔ ∃ j, j < n ∧ d ∈ F j := by
  simp [catF, List.mem_flatMap]
theorem cat_bound {v : Int} {n : Nat} {F : Nat → List Int} (h : ∀ j, j < n → triB v (F j) = true) {d : Int} (hd : d ∈ catF n F) : 1 ≤ d ∧ d ≤ (v - 1) / 2 := by
  obtain ⟨j, hj, hm⟩ := cat_mem.1 hd
  obtain ⟨a, b, c, e, h1, h2, h3, h4, _⟩ := triB_iff.1 (h j hj)
  rw [e] at hm
  simp only [List.mem_cons, List.not_mem_nil, or_false] at hm
  omega
theorem half_nat {v : Int} (hv : dfV v = true) : (((v - 1) / 2).toNat : Int) = (v - 1) / 2 := by
  simp only [dfV, Bool.or_eq_true, decide_eq_true_eq] at hv
  rcases hv with (rfl | rfl) | rfl <;> decide
theorem fam_same {v : Int} (hv : dfV v = true) (n : Nat) (F : Nat → List Int) : famP v n F = famB v n F := by
  have hh := half_nat hv
  rw [Bool.eq_iff_iff]
  simp only [famP, famB, okP, okD, Bool.and_eq_true, List.all_eq_true, List.mem_range, Bool.or_eq_true, decide_eq_true_eq]
  constructor
  · rintro ⟨h1, h2⟩
    have ht : ∀ j, j < n → triB v (F j) = true := fun j hj => (h1 j hj).1
    have hp := sortI_perm (catF n F)
    have hnd : (catF n F).Nodup := hp.nodup_iff.1 (by rw [h2]; exact asc_nodup (diffs_asc v _))
    have h5 : ∀ d ∈ catF n F, v ≠ 15 ∨ d ≠ 5 := fun d hd => by
      have : d ∈ diffs v := by rw [← h2]; exact hp.mem_iff.2 hd
      exact (diffs_mem.1 this).2.2
    refine ⟨⟨fun j hj => ⟨ht j hj, ?_⟩, ?_⟩, ?_⟩
    · rcases (h1 j hj).2 with e | hlt
      · exact .inl e
      · by_cases e : j = 0
        · exact .inl e
        · refine .inr ?_
          obtain ⟨a, b, c, ea, a1, a2, a3, _⟩ := triB_iff.1 (ht (j - 1) (by omega))
          obtain ⟨a', b', c', ea', b1, b2, b3, _⟩ := triB_iff.1 (ht j hj)
          rw [ea, ea'] at hlt ⊢
          simp only [at3]
          simp only [List.getElem?_cons_zero, Option.getD_some]
          rcases cmp1_cases a a' with ⟨hc, _⟩ | ⟨hc, _⟩ | ⟨hc, he⟩
          · exact hc
          · exfalso
            -- the same number in two triples
            have hsplit : catF n F = catF j F ++ ((List.range (n - j)).flatMap fun i => F (j + i)) := by
              unfold catF
              rw [show n = j + (n - j) by omega, List.range_add, List.flatMap_append, List.flatMap_map, Nat.add_sub_cancel_left]
            rw [hsplit, List.nodup_append] at hnd
            refine hnd.2.2 a ?_ a ?_ rfl
            · exact cat_mem.2 ⟨j - 1, by omega, by rw [ea]; simp⟩
            · refine List.mem_flatMap.2 ⟨0, List.mem_range.2 (by omega), ?_⟩
              rw [Nat.add_zero, ea', hc]
              simp
          · exfalso
            simp only [cmpL, he] at hlt
            simp at hlt
    · unfold baseD
      split
      · rename_i e
        rw [List.nodup_append]
        refine ⟨by simp, hnd, ?_⟩
        intro x hx y hy exy
        simp at hx
        rcases h5 y hy with h | h
        · exact h e
        · exact h (by omega)
      · simpa using hnd
    · rw [← cat_len n ht, ← hp.length_eq, h2]
  · rintro ⟨⟨h1, h2⟩, h3⟩
    have ht : ∀ j, j < n → triB v (F j) = true := fun j hj => (h1 j hj).1
    have hnd : (catF n F).Nodup := (List.nodup_append.1 h2).2.1
    refine ⟨fun j hj => ⟨ht j hj, ?_⟩, ?_⟩
    · rcases (h1 j hj).2 with e | hlt
      · exact .inl e
      · by_cases e : j = 0
        · exact .inl e
        · refine .inr ?_
          obtain ⟨a, b, c, ea, _⟩ := triB_iff.1 (ht (j - 1) (by omega))
          obtain ⟨a', b', c', ea', _⟩ := triB_iff.1 (ht j hj)
          rw [ea, ea'] at hlt ⊢
          simp only [at3, List.getElem?_cons_zero, Option.getD_some] at hlt
          simp [cmpL, cmp1, hlt]
    · have hasc := asc_of (sortI_asc (catF n F)) ((sortI_perm _).nodup_iff.2 hnd)
      have hsub : ∀ d ∈ catF n F, d ∈ diffs v := fun d hd => by
        have hb := cat_bound ht hd
        refine diffs_mem.2 ⟨hb.1, by omega, ?_⟩
        by_cases e : v = 15
        · refine .inr fun e5 => ?_
          have hm : (5 : Int) ∈ baseD v := by simp [baseD, e]
          exact (List.nodup_append.1 h2).2.2 5 hm d hd e5.symm
        · exact .inl e
      refine asc_unique hasc (diffs_asc v _) fun d => ?_
      rw [(sortI_perm _).mem_iff]
      refine ⟨hsub d, fun hd => ?_⟩
      exact sub_back hnd hsub (by rw [cat_len n ht]; exact Nat.le_of_eq h3.symm) d hd
end Go.Proofs.Ytlhiokcdjnmfmaa

namespace Go.Proofs.Ytlhiokcdjnmfmaa
open Go.RowKit Go.Maps Go.Shelf
/-- Whether p is in the list. -/
def inL (p : Int) (zs : List Int) : Bool := zs.any fun z => p == z
theorem Index_any (b off cap : Nat) (zs : List Int) (p : Int) (w : World) (h : Ints w b off zs) (m1 : zs.length ≤ 9223372036854775807) :
    Calls Try.prog 156 #[.slice (some ⟨b, off, none⟩) zs.length cap, .int .i64 p] w fun e w' => ∃ r : Int, e = .returned (.int .i64 r) ∧ w = w' ∧ (decide (r ≥ 0) = inL p zs) := by
  have H1 := Lib.hid h
  clear h
  go_enter Try.func156, Try.ntmps156
  go_wp2
  go_loop [8] (fun i => ∃ k : Nat, k ≤ zs.length ∧ i = .int .i64 k ∧ Hid (inL p zs = inL p (zs.drop k))) (fun i => zs.length - (intOf i).toNat)
  case atStart => exact ⟨0, Nat.zero_le _, rfl, Lib.hid (by simp)⟩
  case round =>
    obtain ⟨k, hk, rfl, HE⟩ := hrel
    by_cases hlt : k < zs.length
    · obtain ⟨x, r, e1, e2, hc1⟩ := ints_next H1.out hlt
      rw [e1] at HE
      have E2 := Lib.hid e2
      clear e1 e2
      go_wp2
      · have hne : (p == x) = true := by assumption
        go_ret
        exact ⟨_, rfl, rfl, by rw [HE.out]; simp [inL, hne]⟩
      · have hne : (p == x) = false := by assumption
        go_round
        case rel => exact ⟨k + 1, by omega, by go_num, Lib.hid (by rw [HE.out, E2.out]; simp [inL, hne])⟩
        case measure => simp [intOf]; omega
    · go_wp2
      go_ret
      exact ⟨_, rfl, rfl, by rw [HE.out, List.drop_eq_nil_of_le (by omega : zs.length ≤ k)]; simp [inL]⟩
theorem Contains_any (b off cap : Nat) (zs : List Int) (p : Int) (w : World) (h : Ints w b off zs) (m1 : zs.length ≤ 9223372036854775807) :
    Calls Try.prog 116 #[.slice (some ⟨b, off, none⟩) zs.length cap, .int .i64 p] w (RS (.bool (inL p zs)) w) := by
  go_enter Try.func116, Try.ntmps116
  go_wp2_with (go_at_call 156; refine (Index_any _ _ _ _ _ _ h m1).mono ?_; rintro e w' ⟨r, rfl, rfl, hr⟩)
  go_ret
  exact RS_of rfl
theorem inL3 (x : Blk) (p : Int) : inL p [x.a, x.b, x.c] = hasB x p := by
  unfold inL hasB
  rw [Bool.eq_iff_iff]
  simp [eq_comm (a := p), or_assoc]
theorem isPointI_any (v a : Int) (w : World) : Calls Try.prog 151 #[.int .i64 v, .int .i64 a] w (RS (.bool (inP v a)) w) := by
  unfold inP
  go_enter Try.func151, Try.ntmps151
  go_wp2
  all_goals go_ret
  all_goals refine RS_of (bool_eq ?_)
  all_goals simp_all
  all_goals omega
end Go.Proofs.Ytlhiokcdjnmfmaa

namespace Go.Proofs.Ytlhiokcdjnmfmaa
open Go.RowKit Go.Maps Go.Shelf
attribute [local go_sem] Oper.semAt_some
/-- The blocks through p among the first k, each with its index. -/
def upTo (p : Int) (bs : List Blk) (k : Nat) : List (Nat × Blk) := ((List.range k).map fun j => (j, bs[j]?.getD default)).filter fun q => hasB q.2 p
theorem upTo_succ (p : Int) (bs : List Blk) (k : Nat) : upTo p bs (k + 1) = upTo p bs k ++ if hasB (bs[k]?.getD default) p then [(k, bs[k]?.getD default)] else [] := by
  unfold upTo
  rw [List.range_succ, List.map_append, List.filter_append]
  congr 1
  simp [List.filter_cons]
theorem upTo_len (p : Int) (bs : List Blk) (k : Nat) : (upTo p bs k).length ≤ k := by
  unfold upTo
  refine Nat.le_trans (List.length_filter_le _ _) ?_
  simp
/-- What a round that goes on keeps: old memory, and the box at Bp. -/
def KpB (n₀ Bp : Nat) (A B : World) : Prop := Below n₀ A B ∧ ∀ v, A.cell? ⟨Bp, 0, none⟩ = some v → B.cell? ⟨Bp, 0, none⟩ = some v
theorem KpB.refl (n₀ Bp : Nat) (A : World) : KpB n₀ Bp A A := ⟨Below.refl _ _, fun _ h => h⟩
theorem KpB.trans {n₀ Bp : Nat} {A B C : World} (h : KpB n₀ Bp A B) (k : KpB n₀ Bp B C) : KpB n₀ Bp A C := ⟨h.1.trans k.1, fun v hv => k.2 v (h.2 v hv)⟩
theorem KpB.put {n₀ Bp : Nat} {w : World} (hn : n₀ ≤ w.heap.size) (W : World) (l : Nat) (o o' : Obj) (hl : w.heap.size ≤ l) (h : W.heap[l]? = some o) (hc : o.isCells = false) (hw : o.isWalk = false) : KpB n₀ Bp W (W.putObj l o') :=
  ⟨belowK_b hn W l o o' hl h hc hw, fun v hv => cell_kept hv (grownBy_putObj' W l o') (fun r e => by cases e; exact ⟨_, h, hc⟩)⟩
/-- The closure captures the box of the system and the box of the point. -/
theorem blocksWith_any (v : Int) (s : Value) (p : Int) (w : World) : Calls Try.prog 63 #[.agg #[.int .i64 v, s], .int .i64 p] w fun e w' =>
    e = .returned (.func (.func 115) #[] #[.pointer (some ⟨w.heap.size, 0, none⟩), .pointer (some ⟨w.heap.size + 1, 0, none⟩)]) ∧ w' = (w.alloc (.cells #[.int .i64 v, s] 31)).alloc (.cells #[.int .i64 p] 2) := by
  go_enter Try.func63, Try.ntmps63
  go_wp2
  go_ret
  exact ⟨rfl, rfl⟩
theorem RS.quietIn {r : Nat} {P : Program} {f : FuncId} {args : Array Value} {w : World} {n : Nat} {v : Value} (h : Calls P f args (w.drewN n) (RS v (w.drewN n))) :
    CallsIn Fence.wide r P f args (w.drewN n) fun e w'' => e = .returned v ∧ ∃ m, w'' = w.drewN m := callsIn_wide.2 (RS.quiet h)
theorem wide_asked {P : Program} {C : World → Prop} {o : Oper} {a : Act} : o.askedIn Fence.wide P a C := fun _ _ _ _ => trivial
theorem grown_drewN (w : World) (n : Nat) : w.grownBy (w.drewN n) none := ⟨rfl, rfl, rfl, Nat.le_refl _, fun _ _ _ => rfl⟩
theorem cell_drewN {w : World} {p : Addr} {u : Value} (h : w.cell? p = some u) (n : Nat) : (w.drewN n).cell? p = some u := h
theorem yes_no {e : Ending} {p q : Prop} (h : (e = .returned (.bool true) ∧ p) ∨ (e = .returned (.bool false) ∧ q)) : ∃ β, e = .returned (.bool β) ∧ (if β = true then p else q) := by
  rcases h with ⟨rfl, h⟩ | ⟨rfl, h⟩
  · exact ⟨true, rfl, by simpa using h⟩
  · exact ⟨false, rfl, by simpa using h⟩
set_option maxRecDepth 100000 in
set_option maxHeartbeats 2000000 in
theorem with1_in (n : Nat) (hn : 1 ≤ n) (l Bx Bp n₀ b off cap : Nat) (p : Int) (bs : List Blk) (hlen : bs.length ≤ 1100000) (hb : b < n₀) (J Jx : List (Nat × Blk) → World → Prop) (W : World)
    (hJ : AbidesFrom W.heap.size J)
    (hY : ∀ pre x W1, J pre W1 → pre.length < bs.length → YieldAt Fence.wide (n - 1) Try.prog l #[.int .i64 (x.1 : Int), bv x.2] W1 fun e W' =>
      (e = .returned (.bool true) ∧ J (pre ++ [x]) W' ∧ KpB n₀ Bp W1 W') ∨ (e = .returned (.bool false) ∧ Jx (pre ++ [x]) W'))
    (hx1 : W.cell? ⟨Bx, 1, none⟩ = some (.slice (some ⟨b, off, none⟩) bs.length cap)) (hp : W.cell? ⟨Bp, 0, none⟩ = some (.int .i64 p)) (hbl : Blks W b off bs) (_hbn : n₀ ≤ W.heap.size) (hBp : Bp < W.heap.size) (h0 : J [] W) :
    CallsIn Fence.wide n Try.prog 115 #[.func (.yield l) #[] #[], .pointer (some ⟨Bx, 0, none⟩), .pointer (some ⟨Bp, 0, none⟩)] W fun e W' => (∃ v, e = .returned v) ∧
      ((∃ ys, ys = upTo p bs bs.length ∧ J ys W') ∨ (∃ pre, (∃ k, k ≤ bs.length ∧ pre = upTo p bs k) ∧ Jx pre W')) := by
  have hro : Fence.wide.round = none := rfl
  have hmx : Try.prog.follows .mixedOrders = true := by kernel_rfl
  have HJ := Lib.hid hJ
  clear hJ
  refine callsIn_of_wp Try.func115 rfl trivial ?_ hro
  simp only [Try.ntmps115, List.size_toArray, List.length_cons, List.length_nil, Nat.reduceAdd, Nat.reduceSub, Array.replicate_succ, Array.replicate_zero, List.push_toArray, List.append_toArray, List.nil_append, List.cons_append]
  gi_wp2
  gi_loopw [9] (fun i wr => ∃ k : Nat, k ≤ bs.length ∧ i = .int .i64 k ∧ J (upTo p bs k) wr ∧ KpB n₀ Bp W wr ∧ W.heap.size ≤ wr.heap.size)
    (fun i _ => bs.length - (intOf i).toNat)
  case atStart => exact ⟨0, Nat.zero_le _, rfl, h0, KpB.refl _ _ _, Nat.le_refl _⟩
  case round =>
    obtain ⟨k, hk, rfl, hJs, hK, hsz⟩ := hrel
    have hcp := hK.2 _ hp
    have hbl1 : Bp < wr.heap.size := by omega
    have hcp2 : (wr.alloc (.cells #[.int .i64 (bs[k]?.getD default).a, .int .i64 (bs[k]?.getD default).b, .int .i64 (bs[k]?.getD default).c] 77)).cell? ⟨Bp, 0, none⟩ = some (.int .i64 p) := cell_past hcp hbl1
    have hcp3 := (below_drewN (Below.refl (Bp + 1) _) 1).cell (p := ⟨Bp, 0, none⟩) (by simp) |>.trans hcp2
    by_cases hlt : k < bs.length
    · obtain ⟨c1, c2, c3⟩ := (hbl.below hK.1 hb) k hlt
      obtain ⟨x, hx⟩ : ∃ x, x = bs[k]?.getD default := ⟨_, rfl⟩
      rw [← hx] at c1 c2 c3 hcp2 hcp3
      have hsucc := upTo_succ p bs k
      rw [← hx] at hsucc
      have hul := upTo_len p bs k
      have HX := Lib.hid hx
      have HS := Lib.hid hsucc
      clear hx hsucc
      have hcont : ∀ W', W'.cell? ⟨wr.heap.size, 0, none⟩ = some (.int .i64 x.a) → W'.cell? ⟨wr.heap.size, 1, none⟩ = some (.int .i64 x.b) → W'.cell? ⟨wr.heap.size, 2, none⟩ = some (.int .i64 x.c) → Calls Try.prog 116 #[.slice (some ⟨wr.heap.size, 0, none⟩) 3 3, .int .i64 p] W' (RS (.bool (hasB x p)) W') := fun W' g1 g2 g3 => by
        rw [← inL3]
        exact Contains_any wr.heap.size 0 3 [x.a, x.b, x.c] p W' (ints3 g1 g2 g3) (by simp)
      have HC := Lib.hid hcont
      clear hcont
      cases hB : hasB x p with
      | true =>
        rw [hB] at HC HS
        have hJ2 : J (upTo p bs k) (wr.alloc (.cells #[.int .i64 x.a, .int .i64 x.b, .int .i64 x.c] 77)).drew := HJ.out _ _ _ none (HJ.out _ _ _ none hJs (World.grownBy_alloc wr _ none) nofun) ⟨rfl, rfl, rfl, Nat.le_refl _, fun _ _ _ => rfl⟩ nofun
        obtain ⟨fn, tmps, assign, body, hy, hR⟩ := hY _ (k, x) _ hJ2 (by omega)
        dsimp only [bv] at hy
        gi_wp2
        gi_region_with_o (first | (refine ⟨trivial, ?_⟩; gi_at_call 116; refine (callsIn_wide.2 (HC.out _ (by simp) (by simp) (by simp))).mono ?_; rintro e w' ⟨rfl, rfl⟩) | (gi_at_call 116; refine (callsIn_wide.2 (HC.out _ (by simp) (by simp) (by simp))).mono ?_; rintro e w' ⟨rfl, rfl⟩) | (refine hR.mono ?_; intro e W3 hc; obtain ⟨β, rfl, hβ⟩ := yes_no hc; clear hc))
        cases β with
        | true =>
          rw [if_pos rfl] at hβ
          obtain ⟨hJ3, hK3⟩ := hβ
          have hsz3 := hK3.1.size
          simp at hsz3
          gi_wp2
          refine ⟨⟨k + 1, by omega, by simp, by rw [HS.out, if_pos trivial]; exact hJ3, hK.trans (KpB.trans ⟨((Below.refl _ _).alloc (by omega) _).trans (below_drewN (Below.refl _ _) 1), fun u hu => cell_drewN (cell_past hu hbl1) 1⟩ hK3), by omega⟩, by simp [intOf]; omega⟩
        | false =>
          rw [if_neg (by decide)] at hβ
          gi_wp2
          refine bodyPost_ret (results_none rfl _ _ _) rfl ?_
          exact ⟨⟨_, rfl⟩, .inr ⟨_, ⟨k + 1, by omega, by rw [HS.out, if_pos trivial]⟩, hβ⟩⟩
      | false =>
        rw [hB] at HC HS
        gi_wp2
        refine wpIn_region_quiet_lit rfl (by kernel_rfl) (by kernel_rfl) ?_
        repeat (refine wpQuietIn_step (by first | exact wide_asked | quiet_asked_in) (fun K hK => ?_); go_simp; first | (refine hK _ ?_; clear hK K) | (apply Exists.intro; refine ⟨fun _ => ?_, hK _ ?_⟩; (gi_at_call 116; exact RS.quietIn (HC.out _ (by simp [go_sem]) (by simp [go_sem]) (by simp [go_sem]))); clear hK K))
        refine wpQuietIn_nil ?_
        rintro _ ⟨nq, rfl⟩
        gi_wp2
        refine ⟨⟨k + 1, by omega, by simp, by rw [HS.out, if_neg (by decide), List.append_nil]; exact HJ.out _ _ _ none (HJ.out _ _ _ none hJs (World.grownBy_alloc wr _ none) nofun) (grown_drewN _ _) nofun, hK.trans ⟨((Below.refl _ _).alloc (by omega) _).trans (below_drewN (Below.refl _ _) _), fun u hu => (cell_drewN (cell_past hu hbl1) _)⟩, by simp; omega⟩, by simp [intOf]; omega⟩
    · obtain rfl : k = bs.length := by omega
      gi_wp2
      go_end0
      exact ⟨⟨_, rfl⟩, .inl ⟨_, rfl, hJs⟩⟩
set_option maxRecDepth 100000 in
theorem with1_nil_in (n : Nat) (l Bx Bp : Nat) (a0 : Option Addr) (c0 : Nat) (p : Int) (J : List (Nat × Blk) → World → Prop) (W : World) (hx1 : W.cell? ⟨Bx, 1, none⟩ = some (.slice a0 0 c0)) (_hp : W.cell? ⟨Bp, 0, none⟩ = some (.int .i64 p)) (h0 : J [] W) :
    CallsIn Fence.wide n Try.prog 115 #[.func (.yield l) #[] #[], .pointer (some ⟨Bx, 0, none⟩), .pointer (some ⟨Bp, 0, none⟩)] W fun e W' => (∃ v, e = .returned v) ∧ J [] W' := by
  have hro : Fence.wide.round = none := rfl
  refine callsIn_of_wp Try.func115 rfl trivial ?_ hro
  simp only [Try.ntmps115, List.size_toArray, List.length_cons, List.length_nil, Nat.reduceAdd, Nat.reduceSub, Array.replicate_succ, Array.replicate_zero, List.push_toArray, List.append_toArray, List.nil_append, List.cons_append]
  gi_wp2
  gi_loopw [9] (fun i wr => i = .int .i64 0 ∧ J [] wr) (fun _ _ => 0)
  case atStart => exact ⟨rfl, h0⟩
  case round =>
    obtain ⟨rfl, hJs⟩ := hrel
    gi_wp2
    go_end0
    exact ⟨⟨_, rfl⟩, hJs⟩
/-- The encoding of a round's two variables. -/
def encQ (x : Nat × Blk) : Array Value := #[.int .i64 (x.1 : Int), bv x.2]
theorem with_stops (n : Nat) (hn : 1 ≤ n) (Bx Bp : Nat) (p : Int) (s : Value) (bs : List Blk) (w0 w : World) (hS : SB w0 s bs) (hb0 : Below w0.heap.size w0 w) (hx : w.cell? ⟨Bx, 1, none⟩ = some s) (hBx : Bx < w.heap.size)
    (hp : w.cell? ⟨Bp, 0, none⟩ = some (.int .i64 p)) (hBp : Bp < w.heap.size) :
    SeqStopsK Fence.wide n Try.prog 115 #[.pointer (some ⟨Bx, 0, none⟩), .pointer (some ⟨Bp, 0, none⟩)] encQ (KpB w0.heap.size Bp) (fun ys => ys = upTo p bs bs.length)
      (fun pre => ∃ k, k ≤ bs.length ∧ pre = upTo p bs k) bs.length w := fun l J Jx W hW hJ _ hY h0 => by
  have hx' := (hW.cell (p := ⟨Bx, 1, none⟩) hBx).trans hx
  have hp' := (hW.cell (p := ⟨Bp, 0, none⟩) hBp).trans hp
  have hsz := hW.size
  have hsz0 := hb0.size
  obtain ⟨_, hlen, hr⟩ := hS
  rcases hr with ⟨a0, c0, rfl, rfl⟩ | ⟨b, off, cap, rfl, hb, hbl⟩
  · exact (with1_nil_in n l Bx Bp a0 c0 p J W hx' hp' h0).mono fun e W' ⟨he, hj⟩ => ⟨he, .inl ⟨_, rfl, hj⟩⟩
  · refine with1_in n hn l Bx Bp w0.heap.size b off cap p bs hlen hb J Jx W hJ hY hx' hp' (hbl.below (hb0.trans (hW.mono hsz0)) hb) (by omega) (by omega) h0
end Go.Proofs.Ytlhiokcdjnmfmaa

namespace Go.Proofs.Ytlhiokcdjnmfmaa
open Go.RowKit Go.Maps Go.Shelf
theorem Boxed.below {W W' : World} {B n : Nat} {t : TypeId} {v : Value} (h : Boxed W B t v) (hb : Below n W W') (hl : B < n) : Boxed W' B t v := (hb.block B hl).trans h
/-- The world behind the five boxes. -/
def w5 (v : Int) (s : Value) (a b : Int) (w : World) : World := ((((w.alloc (.cells #[.int .i64 v, s] 31)).alloc (.cells #[.int .i64 a] 2)).alloc (.cells #[.int .i64 b] 2)).alloc (.cells #[.int .i64 0] 2)).alloc (.cells #[.int .i64 0] 2)
theorem w5_size (v : Int) (s : Value) (a b : Int) (w : World) : (w5 v s a b w).heap.size = w.heap.size + 1 + 1 + 1 + 1 + 1 := by simp [w5]
theorem w5_below (v : Int) (s : Value) (a b : Int) (w : World) : Below w.heap.size w (w5 v s a b w) :=
  (((((Below.refl _ _).alloc (Nat.le_refl _) _).alloc (by simp) _).alloc (by simp; omega) _).alloc (by simp; omega) _).alloc (by simp; omega) _
theorem boxes5 {v : Int} {s : Value} {a b : Int} {w w1 : World} (h : Below (w5 v s a b w).heap.size (w5 v s a b w) w1) :
    w1.cell? ⟨w.heap.size, 0, none⟩ = some (.int .i64 v) ∧ w1.cell? ⟨w.heap.size, 1, none⟩ = some s ∧ Boxed w1 (w.heap.size + 1) 2 (.int .i64 a) ∧ Boxed w1 (w.heap.size + 1 + 1) 2 (.int .i64 b) ∧
    Boxed w1 (w.heap.size + 1 + 1 + 1) 2 (.int .i64 0) ∧ Boxed w1 (w.heap.size + 1 + 1 + 1 + 1) 2 (.int .i64 0) ∧ w.heap.size + 1 + 1 + 1 + 1 < w1.heap.size ∧ Below w.heap.size w w1 := by
  have hs := h.size
  have hz := w5_size v s a b w
  have past : ∀ j u, (w.alloc (.cells #[.int .i64 v, s] 31)).cell? ⟨w.heap.size, j, none⟩ = some u → (w5 v s a b w).cell? ⟨w.heap.size, j, none⟩ = some u := fun j u e =>
    cell_past (cell_past (cell_past (cell_past e (by simp)) (by simp; omega)) (by simp; omega)) (by simp; omega)
  refine ⟨(h.cell (p := ⟨w.heap.size, 0, none⟩) (by show w.heap.size < _; omega)).trans (past 0 _ (new_at 0 rfl)), (h.cell (p := ⟨w.heap.size, 1, none⟩) (by show w.heap.size < _; omega)).trans (past 1 _ (new_at 1 rfl)), ?_, ?_, ?_, ?_, by omega, (w5_below v s a b w).trans (h.mono (by omega))⟩
  · refine Boxed.below ?_ h (by omega)
    have := (((Boxed.new (w.alloc (.cells #[.int .i64 v, s] 31)) 2 (.int .i64 a)).alloc (.cells #[.int .i64 b] 2)).alloc (.cells #[.int .i64 0] 2)).alloc (.cells #[.int .i64 0] 2)
    simpa [w5] using this
  · refine Boxed.below ?_ h (by omega)
    have := ((Boxed.new ((w.alloc (.cells #[.int .i64 v, s] 31)).alloc (.cells #[.int .i64 a] 2)) 2 (.int .i64 b)).alloc (.cells #[.int .i64 0] 2)).alloc (.cells #[.int .i64 0] 2)
    simpa [w5] using this
  · refine Boxed.below ?_ h (by omega)
    have := (Boxed.new (((w.alloc (.cells #[.int .i64 v, s] 31)).alloc (.cells #[.int .i64 a] 2)).alloc (.cells #[.int .i64 b] 2)) 2 (.int .i64 0)).alloc (.cells #[.int .i64 0] 2)
    simpa [w5] using this
  · refine Boxed.below ?_ h (by omega)
    have := Boxed.new ((((w.alloc (.cells #[.int .i64 v, s] 31)).alloc (.cells #[.int .i64 a] 2)).alloc (.cells #[.int .i64 b] 2)).alloc (.cells #[.int .i64 0] 2)) 2 (.int .i64 0)
    simpa [w5] using this
theorem areTwo_any (v a b : Int) (w : World) : Calls Try.prog 186 #[.int .i64 v, .int .i64 a, .int .i64 b] w (RS (.bool (inP v a && inP v b && !(a == b))) w) := by
  have HA := Lib.hid fun W => isPointI_any v a W
  have HB := Lib.hid fun W => isPointI_any v b W
  cases ha : inP v a with
  | false =>
    rw [ha] at HA
    clear ha HB
    go_enter Try.func186, Try.ntmps186
    go_wp2_with (go_at_call 151; refine (HA.out _).mono ?_; rintro e w2 ⟨rfl, rfl⟩)
    go_ret
    exact RS_of rfl
  | true =>
    rw [ha] at HA
    cases hb : inP v b with
    | false =>
      rw [hb] at HB
      clear ha hb
      go_enter Try.func186, Try.ntmps186
      go_wp2_with fail
      refine (HA.out _).mono ?_
      rintro e w2 ⟨rfl, rfl⟩
      go_wp2_with fail
      refine (HB.out _).mono ?_
      rintro e w2 ⟨rfl, rfl⟩
      go_wp2
      go_ret
      exact RS_of rfl
    | true =>
      rw [hb] at HB
      clear ha hb
      go_enter Try.func186, Try.ntmps186
      go_wp2_with fail
      refine (HA.out _).mono ?_
      rintro e w2 ⟨rfl, rfl⟩
      go_wp2_with fail
      refine (HB.out _).mono ?_
      rintro e w2 ⟨rfl, rfl⟩
      go_wp2
      go_ret
      exact RS_of (bool_eq (by simp [bne]))
set_option maxRecDepth 100000 in
theorem ThirdPoint_no (v : Int) (s : Value) (bs : List Blk) (a b : Int) (w : World) (h : SB w s bs) (hn : (isSysImpl v bs && (inP v a && inP v b && !(a == b))) = false) :
    Calls Try.prog 150 #[.agg #[.int .i64 v, s], .int .i64 a, .int .i64 b] w (RV (thirdV v bs a b) w) := by
  have hs := h.slice
  have HI := Lib.hid fun W (hb : Below w.heap.size w W) => IsSystem_any v s bs W (h.below hb (Nat.le_refl _))
  clear h
  obtain ⟨a0, c0, rfl⟩ := hs
  have hval : thirdV v bs a b = if isSysImpl v bs then (if inP v a && inP v b then (if a = b then .tuple #[.int .i64 0, .int .i64 2] else
      (match bs.find? (bothB a b) with | some x => .tuple #[.int .i64 (thirdOf x a b), .int .i64 0] | none => .tuple #[.int .i64 0, .int .i64 4]))
      else .tuple #[.int .i64 0, .int .i64 2]) else .tuple #[.int .i64 0, .int .i64 1] := rfl
  cases hi : isSysImpl v bs with
  | false =>
    rw [hi] at HI hval
    rw [if_neg (by decide)] at hval
    rw [hval]
    clear hval hn hi
    go_enter Try.func150, Try.ntmps150
    go_wp2_with (go_at_call 62; refine (HI.out (w5 v _ a b w) (w5_below _ _ _ _ _)).mono ?_; rintro e w1 ⟨rfl, hb1⟩; obtain ⟨q0, q1, b1, b2, b3, b4, hsz, hbw⟩ := boxes5 hb1; have q2 := b1.cell; have q3 := b2.cell; have q6 := b3.cell; have q7 := b4.cell; have f6 := b3.frozen; have f7 := b4.frozen)
    have c6 := ((b3.set (.int .i64 0)).other (B' := w.heap.size + 1 + 1 + 1 + 1) (by omega) (.int .i64 1)).cell
    have c7 := ((b4.other (B' := w.heap.size + 1 + 1 + 1) (by omega) (.int .i64 0)).set (.int .i64 1)).cell
    refine bodyPost_ret (v := .tuple #[.int .i64 0, .int .i64 1]) (by simp [results, Try.f150, go_sem, c6, c7]) rfl ?_
    exact RV_of rfl ((hbw.setCell (p := ⟨w.heap.size + 1 + 1 + 1, 0, none⟩) (by simp; omega) _).setCell (p := ⟨w.heap.size + 1 + 1 + 1 + 1, 0, none⟩) (by simp; omega) _)
  | true =>
    rw [hi] at HI hn
    clear hval
    have hn2 : (inP v a && inP v b && !(a == b)) = false := by simpa using hn
    have HT := Lib.hid fun W => areTwo_any v a b W
    rw [hn2] at HT
    have hval : thirdV v bs a b = .tuple #[.int .i64 0, .int .i64 2] := by
      unfold thirdV
      rw [if_pos hi]
      cases ha : inP v a <;> cases hb : inP v b <;> simp [ha, hb] at hn2 ⊢
      exact fun h => absurd hn2 h
    rw [hval]
    clear hval hn hn2 hi
    go_enter Try.func150, Try.ntmps150
    go_wp2_with (first | (go_at_call 62; refine (HI.out (w5 v _ a b w) (w5_below _ _ _ _ _)).mono ?_; rintro e w1 ⟨rfl, hb1⟩; obtain ⟨q0, q1, b1, b2, b3, b4, hsz, hbw⟩ := boxes5 hb1; have q2 := b1.cell; have q3 := b2.cell; have q6 := b3.cell; have q7 := b4.cell; have f6 := b3.frozen; have f7 := b4.frozen) | (go_at_call 186; refine (HT.out _).mono ?_; rintro e w2 ⟨rfl, rfl⟩))
    have c6 := ((b3.set (.int .i64 0)).other (B' := w.heap.size + 1 + 1 + 1 + 1) (by omega) (.int .i64 2)).cell
    have c7 := ((b4.other (B' := w.heap.size + 1 + 1 + 1) (by omega) (.int .i64 0)).set (.int .i64 2)).cell
    refine bodyPost_ret (v := .tuple #[.int .i64 0, .int .i64 2]) (by simp [results, Try.f150, go_sem, c6, c7]) rfl ?_
    exact RV_of rfl ((hbw.setCell (p := ⟨w.heap.size + 1 + 1 + 1, 0, none⟩) (by simp; omega) _).setCell (p := ⟨w.heap.size + 1 + 1 + 1 + 1, 0, none⟩) (by simp; omega) _)
end Go.Proofs.Ytlhiokcdjnmfmaa

namespace Go.Proofs.Ytlhiokcdjnmfmaa
open Go.RowKit Go.Maps Go.Shelf
attribute [local go_sem] Oper.semAt_some
/-- A block in a box. -/
def B3 (W : World) (B : Nat) (x : Blk) : Prop := W.heap[B]? = some (.cells #[.int .i64 x.a, .int .i64 x.b, .int .i64 x.c] 77 (0, 0))
theorem B3.lt {W : World} {B : Nat} {x : Blk} (h : B3 W B x) : B < W.heap.size := (Array.getElem?_eq_some_iff.1 h).1
theorem B3.cells {W : World} {B : Nat} {x : Blk} (h : B3 W B x) : W.cell? ⟨B, 0, none⟩ = some (.int .i64 x.a) ∧ W.cell? ⟨B, 1, none⟩ = some (.int .i64 x.b) ∧ W.cell? ⟨B, 2, none⟩ = some (.int .i64 x.c) := by
  have : W.heap[B]? = _ := h
  refine ⟨?_, ?_, ?_⟩ <;> simp [World.cell?, this]
theorem B3.own (B : Nat) (x : Blk) : Own (fun (_ : Unit) W => B3 W B x) := fun _ X Y row hs hg hrow =>
  (hg.block B hs.lt (fun e' => by obtain ⟨o, ho, hc⟩ := hrow B e'.symm; rw [show X.heap[B]? = _ from hs] at ho; cases ho; cases hc)).trans hs
/-- The third point as it is reckoned. -/
def thirdW (x : Blk) (a b : Int) : Int := wrap64 (wrap64 (wrap64 (wrap64 (x.a + x.b) + x.c) - a) - b)
theorem upTo_snd (bs : List Blk) {k : Nat} (hk : k ≤ bs.length) : ((List.range k).map fun j => ((j, bs[j]?.getD default) : Nat × Blk)).map (·.2) = bs.take k := by
  apply List.ext_getElem
  · simp [hk]
  · intro i h1 h2
    have : i < bs.length := by simp at h1; omega
    simp [this]
theorem upTo_find (p b : Int) (bs : List Blk) {k : Nat} (hk : k ≤ bs.length) : ((upTo p bs k).find? fun q => hasB q.2 b).map (·.2) = (bs.take k).find? (bothB p b) := by
  rw [← upTo_snd bs hk, List.find?_map]
  unfold upTo
  rw [List.find?_filter]
  congr 2
  funext q
  simp [bothB]
theorem find_done {p b : Int} {bs : List Blk} (h : ∀ q ∈ upTo p bs bs.length, hasB q.2 b = false) : bs.find? (bothB p b) = none := by
  have e := upTo_find p b bs (Nat.le_refl _)
  rw [List.take_length] at e
  rw [← e, List.find?_eq_none.2 (fun q hq => by simp [h q hq])]
  rfl
theorem find_stop {p b : Int} {bs : List Blk} {k : Nat} (hk : k ≤ bs.length) {ini : List (Nat × Blk)} {last : Nat × Blk} (e : upTo p bs k = ini ++ [last]) (h : ∀ q ∈ ini, hasB q.2 b = false) (hl : hasB last.2 b = true) : bs.find? (bothB p b) = some last.2 := by
  have e2 := upTo_find p b bs hk
  rw [e, List.find?_append, List.find?_eq_none.2 (fun q hq => by simp [h q hq])] at e2
  simp [hl] at e2
  rw [← List.take_append_drop k bs, List.find?_append, ← e2]
  rfl
theorem inP_iff {v a : Int} : inP v a = true ↔ 0 ≤ a ∧ a < v := by simp [inP]
theorem thirdW_eq {v a b : Int} {bs : List Blk} {x : Blk} (hi : isSysImpl v bs = true) (hx : bs.find? (bothB a b) = some x) (ha : inP v a = true) (hb : inP v b = true) : thirdW x a b = thirdOf x a b := by
  have hg := sys_good hi x (List.mem_of_find?_eq_some hx)
  have hv := (sys_size hi).2.1
  rw [goodB_iff] at hg
  rw [inP_iff] at ha hb
  unfold thirdW thirdOf wrap64
  omega
theorem KpB.alloc {n₀ Bp : Nat} {W : World} (hn : n₀ ≤ W.heap.size) (o : Obj) : KpB n₀ Bp W (W.alloc o) := ⟨(Below.refl _ _).alloc hn _, fun _ hu => cell_past hu (by obtain ⟨ob, ho, _⟩ := cells_of_cell hu; exact (Array.getElem?_eq_some_iff.1 ho).1)⟩
theorem KpB.drew (n₀ Bp : Nat) (W : World) : KpB n₀ Bp W W.drew := ⟨below_drewN (Below.refl _ _) 1, fun _ hu => cell_drewN hu 1⟩
theorem boxed_drew {W : World} {B : Nat} {t : TypeId} {u : Value} (h : Boxed W B t u) : Boxed W.drew B t u := h
theorem three (W : World) (B : Nat) (x : Blk) (p : Int) (h : B3 W B x) : Calls Try.prog 116 #[.slice (some ⟨B, 0, none⟩) 3 3, .int .i64 p] W (RS (.bool (hasB x p)) W) := by
  obtain ⟨g1, g2, g3⟩ := h.cells
  rw [← inL3]
  exact Contains_any B 0 3 [x.a, x.b, x.c] p W (ints3 g1 g2 g3) (by simp)
set_option maxRecDepth 100000 in
set_option maxHeartbeats 2000000 in
theorem ThirdPoint_main (v : Int) (s : Value) (bs : List Blk) (a b : Int) (w : World) (h : SB w s bs) (hi : isSysImpl v bs = true) (ha : inP v a = true) (hb : inP v b = true) (hab : (a == b) = false) :
    Calls Try.prog 150 #[.agg #[.int .i64 v, s], .int .i64 a, .int .i64 b] w (RV (thirdV v bs a b) w) := by
  have hs := h.slice
  have HI := Lib.hid fun W (hb : Below w.heap.size w W) => IsSystem_any v s bs W (h.below hb (Nat.le_refl _))
  rw [hi] at HI
  have H := Lib.hid h
  have HI1 := Lib.hid hi
  have HP1 := Lib.hid ha
  have HP2 := Lib.hid hb
  have HAB := Lib.hid hab
  have HPB := Lib.hid fun W => areTwo_any v a b W
  rw [ha, hb, hab] at HPB
  simp only [Bool.and_self, Bool.not_false] at HPB
  clear h hi ha hb
  obtain ⟨a0, c0, rfl⟩ := hs
  have hro : Fence.wide.round = none := rfl
  have hmx : Try.prog.follows .mixedOrders = true := by kernel_rfl
  refine (callsIn_wide (n := 9)).1 ?_
  refine callsIn_of_wp_marks Try.func150 rfl trivial ?_ hro
  simp only [Try.ntmps150, List.size_toArray, List.length_cons, List.length_nil, Nat.reduceAdd, Nat.reduceSub, Array.replicate_succ, Array.replicate_zero, List.push_toArray, List.append_toArray, List.nil_append, List.cons_append]
  gi_wp2_with (first
    | (refine ⟨trivial, ?_⟩; gi_at_call 62; refine (callsIn_wide.2 (HI.out (w5 v _ a b w) (w5_below _ _ _ _ _))).mono ?_; rintro e w1 ⟨rfl, hb1⟩; obtain ⟨q0, q1, b1, b2, b3, b4, hsz, hbw⟩ := boxes5 hb1; have q2 := b1.cell; have q3 := b2.cell)
    | (refine ⟨trivial, ?_⟩; gi_at_call 186; refine (callsIn_wide.2 (HPB.out _)).mono ?_; rintro e w2 ⟨rfl, rfl⟩)
    | (refine ⟨trivial, ?_⟩; gi_at_call 63; refine (callsIn_wide.2 (blocksWith_any _ _ _ _)).mono ?_; rintro e w3 ⟨rfl, rfl⟩))
  have hsW := hbw.size
  have c1 := b1.alloc (.cells #[.int .i64 v, .slice a0 bs.length c0] 31) |>.alloc (.cells #[.int .i64 a] 2)
  have c2 := b2.alloc (.cells #[.int .i64 v, .slice a0 bs.length c0] 31) |>.alloc (.cells #[.int .i64 a] 2)
  have c3 := b3.alloc (.cells #[.int .i64 v, .slice a0 bs.length c0] 31) |>.alloc (.cells #[.int .i64 a] 2)
  have c4 := b4.alloc (.cells #[.int .i64 v, .slice a0 bs.length c0] 31) |>.alloc (.cells #[.int .i64 a] 2)
  have hB0 : Below w.heap.size w ((w1.alloc (.cells #[.int .i64 v, .slice a0 bs.length c0] 31)).alloc (.cells #[.int .i64 a] 2)) := (hbw.alloc hsW _).alloc (by simp; omega) _
  have hx : ((w1.alloc (.cells #[.int .i64 v, .slice a0 bs.length c0] 31)).alloc (.cells #[.int .i64 a] 2)).cell? ⟨w1.heap.size, 1, none⟩ = some (.slice a0 bs.length c0) := cell_past (new_at 1 rfl) (by simp)
  have hp : ((w1.alloc (.cells #[.int .i64 v, .slice a0 bs.length c0] 31)).alloc (.cells #[.int .i64 a] 2)).cell? ⟨w1.heap.size + 1, 0, none⟩ = some (.int .i64 a) := by
    simp
  have hsz0 : ((w1.alloc (.cells #[.int .i64 v, .slice a0 bs.length c0] 31)).alloc (.cells #[.int .i64 a] 2)).heap.size = w1.heap.size + 1 + 1 := by simp
  obtain ⟨W0, hW0⟩ : ∃ W0, ((w1.alloc (.cells #[.int .i64 v, .slice a0 bs.length c0] 31)).alloc (.cells #[.int .i64 a] 2)) = W0 := ⟨_, rfl⟩
  rw [hW0] at c1 c2 c3 c4 hB0 hx hp hsz0 ⊢
  clear hW0 q0 q1 q2 q3 b1 b2 b3 b4 hb1 HI HPB
  refine wpIn_rangeFunc_ownH hro (by omega) (gf := 115) (lb := #[.pointer (some ⟨w1.heap.size, 0, none⟩), .pointer (some ⟨w1.heap.size + 1, 0, none⟩)]) rfl trivial (enters_of Try.func115 (by kernel_rfl) rfl)
    (with_stops (9 - 1) (by omega) w1.heap.size (w1.heap.size + 1) a _ bs w W0 H.out hB0 hx (by omega) hp (by omega)) KpB.trans (KpB.put (by omega)) (Below.refl _ _) (fun _ => rfl)
    (fun pre W => ((∀ q ∈ pre, hasB q.2 b = false) ∧ (Boxed W (w.heap.size + 1) 2 (.int .i64 a) ∧ Boxed W (w.heap.size + 1 + 1) 2 (.int .i64 b)) ∧ (Boxed W (w.heap.size + 1 + 1 + 1) 2 (.int .i64 0) ∧ Boxed W (w.heap.size + 1 + 1 + 1 + 1) 2 (.int .i64 0))) ∧ Below w.heap.size w W)
    (fun c pre W => (c = .ret ∧ ∃ ini last, pre = ini ++ [last] ∧ (∀ q ∈ ini, hasB q.2 b = false) ∧ hasB last.2 b = true ∧ W.cell? ⟨w.heap.size + 1 + 1 + 1, 0, none⟩ = some (.int .i64 (thirdW last.2 a b)) ∧ W.cell? ⟨w.heap.size + 1 + 1 + 1 + 1, 0, none⟩ = some (.int .i64 0)) ∧ Below w.heap.size w W)
    (OwnFrom.and (OwnFrom.and (ownFrom_pure _ _) (OwnFrom.and (OwnFrom.and (Own.from (boxed_own _ _ _) _) (Own.from (boxed_own _ _ _) _)) (OwnFrom.and (Own.from (boxed_own _ _ _) _) (Own.from (boxed_own _ _ _) _)))) (ownFrom_below (Nat.le_refl _) (by omega)))
    (fun c => OwnFrom.and (Own.from (fun s A B row hs hg hr => by obtain ⟨hc, ini, last, e1, e2, e3, e4, e5⟩ := hs; exact ⟨hc, ini, last, e1, e2, e3, cell_kept e4 hg hr, cell_kept e5 hg hr⟩) _) (ownFrom_below (Nat.le_refl _) (by omega)))
    ⟨⟨by simp, ⟨c1, c2⟩, c3, c4⟩, hB0⟩
    (fun x a' W => ∃ Bx, B3 W Bx x.2 ∧ a' = { tmps := #[.agg #[.int .i64 v, .slice a0 bs.length c0], .int .i64 a, .int .i64 b, .pointer (some ⟨w.heap.size, 0, none⟩), .pointer (some ⟨w.heap.size + 1, 0, none⟩), .pointer (some ⟨w.heap.size + 1 + 1, 0, none⟩), .pointer (some ⟨w.heap.size + 1 + 1 + 1, 0, none⟩), .pointer (some ⟨w.heap.size + 1 + 1 + 1 + 1, 0, none⟩), undef, .pointer (some ⟨Bx, 0, none⟩), .agg #[.int .i64 v, .slice a0 bs.length c0], .bool true, .bool false, .pointer (some ⟨w.heap.size, 0, none⟩), .int .i64 v, .int .i64 a, .int .i64 b, .bool true, .bool false, .agg #[.int .i64 v, .slice a0 bs.length c0], .int .i64 a, .func (.func 115) #[] #[.pointer (some ⟨w1.heap.size, 0, none⟩), .pointer (some ⟨w1.heap.size + 1, 0, none⟩)], .int .i64 (x.1 : Int), bv x.2, undef, undef, undef, undef, undef, undef, undef, undef, undef, undef, undef, undef, undef, undef, undef], defers := [] })
    (fun x a' _ X Y row hs hg hr => by obtain ⟨Bx, h1, h2⟩ := hs; exact ⟨Bx, B3.own Bx x.2 () X Y row h1 hg (fun r e => (hr r e).2), h2⟩)
    ?assign ?body ?done ?stop
  case assign =>
    rintro l pre x W K ⟨⟨hpre, ⟨d1, d2⟩, d3, d4⟩, hBW⟩ hK
    have hsW2 := hBW.size
    dsimp only [encQ, bv]
    gi_wp2
    exact hK _ _ ((KeepsOthers.alloc _ _).from _) (KpB.alloc (by omega) _) ⟨⟨hpre, ⟨d1.alloc _, d2.alloc _⟩, d3.alloc _, d4.alloc _⟩, hBW.alloc hsW2 _⟩ ⟨W.heap.size, World.alloc_heap_new W _, rfl⟩
  case body =>
    rintro l pre x a' W hl ⟨r, hr⟩ ⟨⟨hpre, ⟨d1, d2⟩, d3, d4⟩, hBW⟩ ⟨Bx, bX, rfl⟩ hlt
    have k1 := (boxed_drew d1).cell
    have k2 := d2.cell
    have k2' := (boxed_drew d2).cell
    have k3 := (boxed_drew d3).cell
    have k4 := (boxed_drew d4).cell
    have g3 := (boxed_drew d3).frozen
    have g4 := (boxed_drew d4).frozen
    have n4 := boxed_drew (d4.other (B' := w.heap.size + 1 + 1 + 1) (by omega) (.int .i64 (wrap64 (wrap64 (wrap64 (wrap64 (x.2.a + x.2.b) + x.2.c) - a) - b))))
    have k5 := n4.cell
    have g5 := n4.frozen
    have hd : 1 ≤ 9 - 1 - 1 := by omega
    obtain ⟨x1, x2, x3⟩ := (show B3 W.drew Bx x.2 from bX).cells
    obtain ⟨y1, y2, y3⟩ := bX.cells
    have HT := Lib.hid (three W.drew Bx x.2 b bX)
    cases hq : hasB x.2 b with
    | true =>
      rw [hq] at HT
      gi_wp2
      gi_region_with_o (refine ⟨trivial, ?_⟩; gi_at_call 116; refine (CallsIn.inRound l (callsIn_wide.2 HT.out)).mono ?_; rintro e w' ⟨rfl, rfl⟩)
      all_goals gi_wp2
      all_goals
        have m3 := boxed_drew ((d3.set (.int .i64 (wrap64 (wrap64 (wrap64 (wrap64 (x.2.a + x.2.b) + x.2.c) - a) - b)))).other (B' := w.heap.size + 1 + 1 + 1 + 1) (by omega) (.int .i64 0))
        have m4 := boxed_drew (Boxed.set (.int .i64 0) (d4.other (B' := w.heap.size + 1 + 1 + 1) (by omega) (.int .i64 (wrap64 (wrap64 (wrap64 (wrap64 (x.2.a + x.2.b) + x.2.c) - a) - b)))))
        exact ⟨(((KeepsOthers.setCell _ _ _).trans (KeepsOthers.setCell _ _ _)).trans (KeepsOthers.drew _)).from _, ⟨rfl, pre, x, rfl, hpre, hq, m3.cell, m4.cell⟩, below_drewN ((hBW.setCell (p := ⟨w.heap.size + 1 + 1 + 1, 0, none⟩) (by simp; omega) _).setCell (p := ⟨w.heap.size + 1 + 1 + 1 + 1, 0, none⟩) (by simp; omega) _) 1⟩
    | false =>
      rw [hq] at HT
      gi_wp2
      gi_region_with_o (refine ⟨trivial, ?_⟩; gi_at_call 116; refine (CallsIn.inRound l (callsIn_wide.2 HT.out)).mono ?_; rintro e w' ⟨rfl, rfl⟩)
      all_goals gi_wp2
      all_goals exact ⟨(KeepsOthers.drew _).from _, KpB.drew _ _ _, ⟨fun q hq' => (List.mem_append.1 hq').elim (hpre q) (fun e => by simp at e; subst e; exact hq), ⟨boxed_drew d1, boxed_drew d2⟩, boxed_drew d3, boxed_drew d4⟩, below_drewN hBW 1⟩
  case done =>
    rintro D ys W hD rfl ⟨⟨hpre, ⟨d1, d2⟩, d3, d4⟩, hBW⟩ hK
    have k3 := d3.cell
    have k4 := d4.cell
    have g3 := d3.frozen
    have g4 := d4.frozen
    have hval : thirdV v bs a b = .tuple #[.int .i64 0, .int .i64 4] := by
      unfold thirdV
      rw [if_pos HI1.out, HP1.out, HP2.out, if_pos (by decide), if_neg (by simpa using HAB.out), find_done hpre]
    rw [hval]
    have n4 := d4.other (B' := w.heap.size + 1 + 1 + 1) (by omega) (.int .i64 0)
    have k5 := n4.cell
    have g5 := n4.frozen
    gi_wp2
    have hK1 := (KeepsOthers.setCell W ⟨w.heap.size + 1 + 1 + 1, 0, none⟩ (.int .i64 0)).same D _ hK rfl
    have hK2 := (KeepsOthers.setCell (W.setCell ⟨w.heap.size + 1 + 1 + 1, 0, none⟩ (.int .i64 0)) ⟨w.heap.size + 1 + 1 + 1 + 1, 0, none⟩ (.int .i64 4)).same D _ hK1 rfl
    have m6 := cell_kept ((d3.set (.int .i64 0)).other (B' := w.heap.size + 1 + 1 + 1 + 1) (by omega) (.int .i64 4)).cell (grownBy_putObj' _ D (.deferred none)) (fun r e => by cases e; exact ⟨_, hK2, rfl⟩)
    have m7 := cell_kept (n4.set (.int .i64 4)).cell (grownBy_putObj' _ D (.deferred none)) (fun r e => by cases e; exact ⟨_, hK2, rfl⟩)
    refine ⟨by simp, .inl ⟨_, _, rfl, run_takeDeferred hK2, ?_⟩⟩
    refine ⟨.tuple #[.int .i64 0, .int .i64 4], by simp [results, Try.f150, go_sem, m6, m7], by rw [hval], ?_⟩
    exact ((hBW.setCell (p := ⟨w.heap.size + 1 + 1 + 1, 0, none⟩) (by simp; omega) _).setCell (p := ⟨w.heap.size + 1 + 1 + 1 + 1, 0, none⟩) (by simp; omega) _).trans (belowK_b (w := w) (Nat.le_refl _) _ D _ _ (by omega) hK2 rfl rfl)
  case stop =>
    rintro D c pre W hD ⟨k, hk, rfl⟩ ⟨⟨rfl, ini, last, e1, e2, e3, e4, e5⟩, hBW⟩ hK
    have hf := find_stop hk e1 e2 e3
    have hval : thirdV v bs a b = .tuple #[.int .i64 (thirdW last.2 a b), .int .i64 0] := by
      unfold thirdV
      rw [if_pos HI1.out, HP1.out, HP2.out, if_pos (by decide), if_neg (by simpa using HAB.out), hf, thirdW_eq HI1.out hf HP1.out HP2.out]
    rw [hval]
    gi_wp2
    have m6 := cell_kept e4 (grownBy_putObj' _ D (.deferred none)) (fun r e => by cases e; exact ⟨_, hK, rfl⟩)
    have m7 := cell_kept e5 (grownBy_putObj' _ D (.deferred none)) (fun r e => by cases e; exact ⟨_, hK, rfl⟩)
    refine ⟨by simp, .inl ⟨_, _, rfl, run_takeDeferred hK, ?_⟩⟩
    refine ⟨.tuple #[.int .i64 (thirdW last.2 a b), .int .i64 0], by simp [results, Try.f150, go_sem, m6, m7], rfl, ?_⟩
    exact hBW.trans (belowK_b (w := w) (Nat.le_refl _) _ D _ _ (by omega) hK rfl rfl)
theorem ThirdPoint_any (v : Int) (s : Value) (bs : List Blk) (a b : Int) (w : World) (h : SB w s bs) :
    Calls Try.prog 150 #[.agg #[.int .i64 v, s], .int .i64 a, .int .i64 b] w (RV (thirdV v bs a b) w) := by
  cases hn : (isSysImpl v bs && (inP v a && inP v b && !(a == b))) with
  | false => exact ThirdPoint_no v s bs a b w h hn
  | true =>
    simp only [Bool.and_eq_true, Bool.not_eq_true'] at hn
    exact ThirdPoint_main v s bs a b w h hn.1 hn.2.1.1 hn.2.1.2 hn.2.2
end Go.Proofs.Ytlhiokcdjnmfmaa

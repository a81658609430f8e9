
/- Plain facts on the points of blocks. Plain facts on difference families. impl.isDifferenceTriple, differencesOf; spec.l02Triple. Helpers on difference families. impl.columnOf. impl.checkedSquare. checkSets of the program. What the doors have in common. The door at bool. AreDisjoint and IsClass of the program. -/
import Derived.Test.YtlkjacgpjolbdaaJ5
import Derived.Lib.SlicesCompact
import Derived.Deep.QuietTactic
import Derived.BigQuiet
import Derived.WalkLawsBesides
import Derived.Defers
import Derived.Recover
import Derived.Laws.Pointers
import Derived.IntWalk
namespace Go.Proofs.Ytlkjacgpjolbdaa
open Go.Lib
/-- All points in blocks, block by block. -/
def ptsAll (bs : List Blk) : List Int := bs.flatMap fun x => [x.a, x.b, x.c]
/-- The points in blocks, ascending. -/
def ptsT (v : Int) (bs : List Blk) : List Int := ((List.range v.toNat).map fun (k : Nat) => (k : Int)).filter fun p => bs.any fun x => hasB x p
theorem asc_unique {l m : List Int} (h1 : l.Pairwise (· < ·)) (h2 : m.Pairwise (· < ·)) (h : ∀ x, x ∈ l ↔ x ∈ m) : l = m := by
  induction l generalizing m with
  | nil =>
    cases m with
    | nil => rfl
    | cons y m => exact absurd ((h y).2 (by simp)) (by simp)
  | cons x l ih =>
    cases m with
    | nil => exact absurd ((h x).1 (by simp)) (by simp)
    | cons y m =>
      rw [List.pairwise_cons] at h1 h2
      have e : x = y := by
        have a := (h x).1 (by simp)
        have b := (h y).2 (by simp)
        rcases List.mem_cons.1 a with a | a
        · exact a
        · rcases List.mem_cons.1 b with b | b
          · exact b.symm
          · have := h1.1 y b
            have := h2.1 x a
            omega
      subst e
      rw [ih h1.2 h2.2 (fun z => ?_)]
      have hz := h z
      simp only [List.mem_cons] at hz
      constructor
      · intro hm
        rcases hz.1 (.inr hm) with rfl | hq
        · have := h1.1 z hm; omega
        · exact hq
      · intro hm
        rcases hz.2 (.inr hm) with rfl | hq
        · have := h2.1 z hm; omega
        · exact hq
theorem compact_mem {zs : List Int} {x : Int} : x ∈ compact zs ↔ x ∈ zs := by
  unfold compact compactUpTo
  rw [List.mem_map]
  constructor
  · rintro ⟨j, hj, rfl⟩
    have hj := List.mem_range.1 (List.mem_filter.1 hj).1
    rw [getElem!_pos zs.toArray j (by simpa using hj)]
    simp
  · intro hx
    obtain ⟨j, hj, rfl⟩ := List.mem_iff_getElem.1 hx
    clear hx
    induction j with
    | zero => exact ⟨0, List.mem_filter.2 ⟨List.mem_range.2 hj, by simp [keeps]⟩, by rw [getElem!_pos zs.toArray 0 (by simpa using hj)]; simp⟩
    | succ j ih =>
      by_cases hk : keeps zs.toArray (j + 1) = true
      · exact ⟨j + 1, List.mem_filter.2 ⟨List.mem_range.2 hj, hk⟩, by rw [getElem!_pos zs.toArray (j + 1) (by simpa using hj)]; simp⟩
      · obtain ⟨i, h1, h2⟩ := ih (by omega)
        refine ⟨i, h1, h2.trans ?_⟩
        rw [Bool.not_eq_true] at hk
        simp only [keeps] at hk
        rw [getElem!_pos zs.toArray (j + 1) (by simpa using hj), getElem!_pos zs.toArray (j + 1 - 1) (by simp; omega)] at hk
        simp at hk
        exact hk.symm
theorem compact_asc {zs : List Int} (h : zs.Pairwise (· ≤ ·)) : (compact zs).Pairwise (· < ·) := by
  unfold compact compactUpTo
  rw [List.pairwise_map]
  have hr : (List.range zs.length).Pairwise (· < ·) := List.pairwise_lt_range
  refine ((hr.filter (keeps zs.toArray)).imp_of_mem ?_)
  intro i j hi hj hlt
  have li := List.mem_range.1 (List.mem_filter.1 hi).1
  have lj := List.mem_range.1 (List.mem_filter.1 hj).1
  have hk := (List.mem_filter.1 hj).2
  simp only [keeps] at hk
  rw [getElem!_pos zs.toArray i (by simpa using li), getElem!_pos zs.toArray j (by simpa using lj)]
  rw [getElem!_pos zs.toArray j (by simpa using lj), getElem!_pos zs.toArray (j - 1) (by simp; omega)] at hk
  simp at hk ⊢
  have e0 : j ≠ 0 := by omega
  have hp := List.pairwise_iff_getElem.1 h
  have h1 : zs[i] ≤ zs[j - 1] := by
    by_cases e : i = j - 1
    · simp [e]
    · exact hp i (j - 1) li (by omega) (by omega)
  have h2 := hp (j - 1) j (by omega) lj (by omega)
  have h3 : zs[j] ≠ zs[j - 1] := by
    rcases hk with hk | hk
    · exact absurd hk e0
    · exact hk
  omega
theorem ptsAll_mem {bs : List Blk} {p : Int} : p ∈ ptsAll bs ↔ bs.any (fun x => hasB x p) = true := by
  simp only [ptsAll, List.mem_flatMap, List.any_eq_true, hasB, List.mem_cons, List.not_mem_nil, or_false, Bool.or_eq_true, decide_eq_true_eq]
  constructor
  · rintro ⟨x, hx, h⟩
    exact ⟨x, hx, by rcases h with rfl | rfl | rfl <;> simp⟩
  · rintro ⟨x, hx, h⟩
    exact ⟨x, hx, by rcases h with (rfl | rfl) | rfl <;> simp⟩
theorem ptsT_mem {v : Int} {bs : List Blk} (h : ∀ x ∈ bs, goodB v x = true) {p : Int} : p ∈ ptsT v bs ↔ p ∈ ptsAll bs := by
  rw [ptsAll_mem, ptsT, List.mem_filter, List.mem_map]
  constructor
  · exact fun hp => hp.2
  · intro hp
    refine ⟨⟨p.toNat, List.mem_range.2 ?_, ?_⟩, hp⟩
    all_goals
      obtain ⟨x, hx, hh⟩ := List.any_eq_true.1 hp
      have hg := goodB_iff.1 (h x hx)
      simp only [hasB, Bool.or_eq_true, decide_eq_true_eq] at hh
      rcases hh with (rfl | rfl) | rfl <;> omega
theorem ptsT_asc (v : Int) (bs : List Blk) : (ptsT v bs).Pairwise (· < ·) := by
  unfold ptsT
  refine List.Pairwise.filter _ ?_
  rw [List.pairwise_map]
  exact List.pairwise_lt_range.imp fun {a b} h => by omega
theorem pts_same {v : Int} {bs : List Blk} (h : ∀ x ∈ bs, goodB v x = true) : compact ((ptsAll bs).mergeSort fun x y => decide (x ≤ y)) = ptsT v bs := by
  have hp := List.mergeSort_perm (ptsAll bs) (fun x y => decide (x ≤ y))
  have hs : ((ptsAll bs).mergeSort fun x y => decide (x ≤ y)).Pairwise (· ≤ ·) := by
    have := List.pairwise_mergeSort (le := fun (x y : Int) => decide (x ≤ y)) (by intro a b c; simp; omega) (by intro a b; simp; omega) (ptsAll bs)
    exact this.imp fun {a b} h => by simpa using h
  refine asc_unique (compact_asc hs) (ptsT_asc v bs) fun x => ?_
  rw [compact_mem, hp.mem_iff, ptsT_mem h]
theorem ptsT_len (v : Int) (bs : List Blk) (hv : v ≤ 15) : (ptsT v bs).length ≤ 15 := by
  unfold ptsT
  refine Nat.le_trans (List.length_filter_le _ _) ?_
  simp; omega
theorem ptsAll_len (bs : List Blk) : (ptsAll bs).length = 3 * bs.length := by
  induction bs with
  | nil => rfl
  | cons x r ih => simp [ptsAll] at ih ⊢; omega
def ptsF (v : Int) (bo bi : List Blk) : List Int × Int := if trdB v bo bi then (ptsT v bo, 0) else ([], 1)
end Go.Proofs.Ytlkjacgpjolbdaa

namespace Go.Proofs.Ytlkjacgpjolbdaa
def at3 (t : List Int) (k : Nat) : Int := t[k]?.getD 0
def triB (v : Int) (t : List Int) : Bool :=
  decide (t.length = 3) && decide (1 ≤ at3 t 0) && decide (at3 t 0 < at3 t 1) && decide (at3 t 1 < at3 t 2) && decide (at3 t 2 ≤ (v - 1) / 2) && (decide (at3 t 0 + at3 t 1 = at3 t 2) || decide (at3 t 0 + at3 t 1 + at3 t 2 = v))
def dfV (v : Int) : Bool := decide (v = 7) || decide (v = 13) || decide (v = 15)
/-- The numbers that a family has, ascending, up to the first k. -/
def diffsK (v : Int) (k : Nat) : List Int := ((List.range k).map fun (j : Nat) => (j : Int) + 1).filter fun d => decide (v ≠ 15) || decide (d ≠ 5)
def diffs (v : Int) : List Int := diffsK v ((v - 1) / 2).toNat
def catF (n : Nat) (F : Nat → List Int) : List Int := (List.range n).flatMap F
theorem catF_succ (n : Nat) (F : Nat → List Int) : catF (n + 1) F = catF n F ++ F n := by simp [catF, List.range_succ]
def baseD (v : Int) : List Int := if v = 15 then [5] else []
/-- The first i triples are good: in order, and no number twice. -/
def okD (v : Int) (i : Nat) (F : Nat → List Int) : Bool :=
  ((List.range i).all fun j => triB v (F j) && (decide (j = 0) || decide (at3 (F (j - 1)) 0 < at3 (F j) 0))) && decide ((baseD v ++ catF i F).Nodup)
def famB (v : Int) (n : Nat) (F : Nat → List Int) : Bool := okD v n F && decide (3 * n = (diffs v).length)
/-- What the program asks of the first i triples. -/
def okP (v : Int) (i : Nat) (F : Nat → List Int) : Bool := (List.range i).all fun j => triB v (F j) && (decide (j = 0) || decide (cmpL (F (j - 1)) (F j) < 0))
def sortI (l : List Int) : List Int := l.mergeSort fun x y => decide (x ≤ y)
def famP (v : Int) (n : Nat) (F : Nat → List Int) : Bool := okP v n F && decide (sortI (catF n F) = diffs v)
theorem triB_iff {v : Int} {t : List Int} : triB v t = true ↔ ∃ a b c, t = [a, b, c] ∧ 1 ≤ a ∧ a < b ∧ b < c ∧ c ≤ (v - 1) / 2 ∧ (a + b = c ∨ a + b + c = v) := by
  simp only [triB, Bool.and_eq_true, Bool.or_eq_true, decide_eq_true_eq]
  constructor
  · rintro ⟨⟨⟨⟨⟨h0, h1⟩, h2⟩, h3⟩, h4⟩, h5⟩
    match t, h0 with
    | [a, b, c], _ => exact ⟨a, b, c, rfl, by simpa [at3] using h1, by simpa [at3] using h2, by simpa [at3] using h3, by simpa [at3] using h4, by simpa [at3] using h5⟩
  · rintro ⟨a, b, c, rfl, h1, h2, h3, h4, h5⟩
    simp [at3, h1, h2, h3, h4, h5]
theorem diffs_asc (v : Int) (k : Nat) : (diffsK v k).Pairwise (· < ·) := by
  unfold diffsK
  refine List.Pairwise.filter _ ?_
  rw [List.pairwise_map]
  exact List.pairwise_lt_range.imp fun {a b} h => by omega
theorem diffs_mem {v : Int} {k : Nat} {d : Int} : d ∈ diffsK v k ↔ 1 ≤ d ∧ d ≤ k ∧ (v ≠ 15 ∨ d ≠ 5) := by
  simp only [diffsK, List.mem_filter, List.mem_map, List.mem_range, Bool.or_eq_true, decide_eq_true_eq]
  constructor
  · rintro ⟨⟨j, hj, rfl⟩, h⟩
    exact ⟨by omega, by omega, h⟩
  · rintro ⟨h1, h2, h3⟩
    exact ⟨⟨(d - 1).toNat, by omega, by omega⟩, h3⟩
theorem sortI_asc (l : List Int) : (sortI l).Pairwise (· ≤ ·) := by
  have := List.pairwise_mergeSort (le := fun (x y : Int) => decide (x ≤ y)) (by intro a b c; simp; omega) (by intro a b; simp; omega) l
  exact this.imp fun {a b} h => by simpa using h
theorem sortI_perm (l : List Int) : (sortI l).Perm l := List.mergeSort_perm l _
theorem asc_of {l : List Int} (h : l.Pairwise (· ≤ ·)) (hn : l.Nodup) : l.Pairwise (· < ·) := by
  have : l.Pairwise fun x y => x ≤ y ∧ x ≠ y := List.Pairwise.and h hn
  exact this.imp fun {a b} h => by omega
theorem asc_nodup {l : List Int} (h : l.Pairwise (· < ·)) : l.Nodup := h.imp fun {a b} h => by omega
theorem cat_len {v : Int} {F : Nat → List Int} : ∀ n, (∀ j, j < n → triB v (F j) = true) → (catF n F).length = 3 * n
  | 0, _ => rfl
  | n + 1, h => by
    obtain ⟨a, b, c, e, _⟩ := triB_iff.1 (h n (by omega))
    rw [catF_succ, List.length_append, cat_len n (fun j hj => h j (by omega)), e]
    simp; omega
theorem cat_mem {n : Nat} {F : Nat → List Int} {d : Int} : d ∈ catF n F ↔ ∃ j, j < n ∧ d ∈ F j := by
  simp [catF, List.mem_flatMap]
theorem cat_bound {v : Int} {n : Nat} {F : Nat → List Int} (h : ∀ j, j < n → triB v (F j) = true) {d : Int} (hd : d ∈ catF n F) : 1 ≤ d ∧ d ≤ (v - 1) / 2 := by
  obtain ⟨j, hj, hm⟩ := cat_mem.1 hd
  obtain ⟨a, b, c, e, h1, h2, h3, h4, _⟩ := triB_iff.1 (h j hj)
  rw [e] at hm
  simp only [List.mem_cons, List.not_mem_nil, or_false] at hm
  omega
theorem half_nat {v : Int} (hv : dfV v = true) : (((v - 1) / 2).toNat : Int) = (v - 1) / 2 := by
  simp only [dfV, Bool.or_eq_true, decide_eq_true_eq] at hv
  rcases hv with (rfl | rfl) | rfl <;> decide
theorem fam_same {v : Int} (hv : dfV v = true) (n : Nat) (F : Nat → List Int) : famP v n F = famB v n F := by
  have hh := half_nat hv
  rw [Bool.eq_iff_iff]
  simp only [famP, famB, okP, okD, Bool.and_eq_true, List.all_eq_true, List.mem_range, Bool.or_eq_true, decide_eq_true_eq]
  constructor
  · rintro ⟨h1, h2⟩
    have ht : ∀ j, j < n → triB v (F j) = true := fun j hj => (h1 j hj).1
    have hp := sortI_perm (catF n F)
    have hnd : (catF n F).Nodup := hp.nodup_iff.1 (by rw [h2]; exact asc_nodup (diffs_asc v _))
    have h5 : ∀ d ∈ catF n F, v ≠ 15 ∨ d ≠ 5 := fun d hd => by
      have : d ∈ diffs v := by rw [← h2]; exact hp.mem_iff.2 hd
      exact (diffs_mem.1 this).2.2
    refine ⟨⟨fun j hj => ⟨ht j hj, ?_⟩, ?_⟩, ?_⟩
    · rcases (h1 j hj).2 with e | hlt
      · exact .inl e
      · by_cases e : j = 0
        · exact .inl e
        · refine .inr ?_
          obtain ⟨a, b, c, ea, a1, a2, a3, _⟩ := triB_iff.1 (ht (j - 1) (by omega))
          obtain ⟨a', b', c', ea', b1, b2, b3, _⟩ := triB_iff.1 (ht j hj)
          rw [ea, ea'] at hlt ⊢
          simp only [at3]
          simp only [List.getElem?_cons_zero, Option.getD_some]
          rcases cmp1_cases a a' with ⟨hc, _⟩ | ⟨hc, _⟩ | ⟨hc, he⟩
          · exact hc
          · exfalso
            -- the same number in two triples
            have hsplit : catF n F = catF j F ++ ((List.range (n - j)).flatMap fun i => F (j + i)) := by
              unfold catF
              rw [show n = j + (n - j) by omega, List.range_add, List.flatMap_append, List.flatMap_map, Nat.add_sub_cancel_left]
            rw [hsplit, List.nodup_append] at hnd
            refine hnd.2.2 a ?_ a ?_ rfl
            · exact cat_mem.2 ⟨j - 1, by omega, by rw [ea]; simp⟩
            · refine List.mem_flatMap.2 ⟨0, List.mem_range.2 (by omega), ?_⟩
              rw [Nat.add_zero, ea', hc]
              simp
          · exfalso
            simp only [cmpL, he] at hlt
            simp at hlt
    · unfold baseD
      split
      · rename_i e
        rw [List.nodup_append]
        refine ⟨by simp, hnd, ?_⟩
        intro x hx y hy exy
        simp at hx
        rcases h5 y hy with h | h
        · exact h e
        · exact h (by omega)
      · simpa using hnd
    · rw [← cat_len n ht, ← hp.length_eq, h2]
  · rintro ⟨⟨h1, h2⟩, h3⟩
    have ht : ∀ j, j < n → triB v (F j) = true := fun j hj => (h1 j hj).1
    have hnd : (catF n F).Nodup := (List.nodup_append.1 h2).2.1
    refine ⟨fun j hj => ⟨ht j hj, ?_⟩, ?_⟩
    · rcases (h1 j hj).2 with e | hlt
      · exact .inl e
      · by_cases e : j = 0
        · exact .inl e
        · refine .inr ?_
          obtain ⟨a, b, c, ea, _⟩ := triB_iff.1 (ht (j - 1) (by omega))
          obtain ⟨a', b', c', ea', _⟩ := triB_iff.1 (ht j hj)
          rw [ea, ea'] at hlt ⊢
          simp only [at3, List.getElem?_cons_zero, Option.getD_some] at hlt
          simp [cmpL, cmp1, hlt]
    · have hasc := asc_of (sortI_asc (catF n F)) ((sortI_perm _).nodup_iff.2 hnd)
      have hsub : ∀ d ∈ catF n F, d ∈ diffs v := fun d hd => by
        have hb := cat_bound ht hd
        refine diffs_mem.2 ⟨hb.1, by omega, ?_⟩
        by_cases e : v = 15
        · refine .inr fun e5 => ?_
          have hm : (5 : Int) ∈ baseD v := by simp [baseD, e]
          exact (List.nodup_append.1 h2).2.2 5 hm d hd e5.symm
        · exact .inl e
      refine asc_unique hasc (diffs_asc v _) fun d => ?_
      rw [(sortI_perm _).mem_iff]
      refine ⟨hsub d, fun hd => ?_⟩
      exact sub_back hnd hsub (by rw [cat_len n ht]; exact Nat.le_of_eq h3.symm) d hd
end Go.Proofs.Ytlkjacgpjolbdaa

namespace Go.Proofs.Ytlkjacgpjolbdaa
open Go.RowKit Go.Maps
theorem dfV_half {v : Int} (h : dfV v = true) : (v - 1).tdiv 2 = (v - 1) / 2 ∧ 7 ≤ v ∧ v ≤ 15 ∧ 3 ≤ (v - 1) / 2 ∧ (v - 1) / 2 ≤ 7 := by
  simp only [dfV, Bool.or_eq_true, decide_eq_true_eq] at h
  rcases h with (rfl | rfl) | rfl <;> decide
theorem diffsK_succ (v : Int) (k : Nat) : diffsK v (k + 1) = diffsK v k ++ if decide (v ≠ 15) || decide (((k : Int) + 1) ≠ 5) then [(k : Int) + 1] else [] := by
  simp only [diffsK, List.range_succ, List.map_append, List.filter_append, List.map_cons, List.map_nil]
  congr 1
  by_cases e1 : v = 15 <;> by_cases e2 : (k : Int) + 1 = 5 <;> simp [e1, e2]
theorem diffsK_len (v : Int) (k : Nat) : (diffsK v k).length ≤ k := by
  unfold diffsK
  exact Nat.le_trans (List.length_filter_le _ _) (by simp)
end Go.Proofs.Ytlkjacgpjolbdaa

namespace Go.Proofs.Ytlkjacgpjolbdaa
open Go.RowKit Go.Maps
def famF (v : Int) (n : Nat) (F : Nat → List Int) : Bool × Int := if dfV v = true then (famB v n F, 0) else (false, 2)
def okP1 (v : Int) (k : Nat) (F : Nat → List Int) : Bool := triB v (F k) && (decide (k = 0) || decide (cmpL (F (k - 1)) (F k) < 0))
theorem okP_succ (v : Int) (k : Nat) (F : Nat → List Int) : okP v (k + 1) F = (okP v k F && okP1 v k F) := by
  unfold okP okP1
  simp [List.range_succ, List.all_append]
theorem okP_false {v : Int} {k n : Nat} {F : Nat → List Int} (hk : k < n) (h : okP1 v k F = false) : okP v n F = false := by
  unfold okP
  rw [List.all_eq_false]
  exact ⟨k, List.mem_range.2 hk, by unfold okP1 at h; simp only [h]; decide⟩
theorem okP_tri {v : Int} {k n : Nat} {F : Nat → List Int} (hk : k < n) (h : okP v n F = true) : triB v (F k) = true := by
  unfold okP at h
  have := List.all_eq_true.1 h k (List.mem_range.2 hk)
  simp only [Bool.and_eq_true] at this
  exact this.1
theorem tri_len {v : Int} {t : List Int} (h : triB v t = true) : t.length = 3 := by
  obtain ⟨a, b, c, rfl, _⟩ := triB_iff.1 h
  rfl
theorem SSB.rows {w : World} {a : Option Addr} {c n : Nat} {F : Nat → List Int} (h : SSB w (.slice a n c) n F) : ∀ k, k < n → ∃ b off a' c', a = some ⟨b, off, none⟩ ∧ b < w.heap.size ∧ w.cell? ⟨b, off + k, none⟩ = some (.slice a' (F k).length c') ∧ IB w (.slice a' (F k).length c') (F k) := fun k hk => by
  rcases h.2 with ⟨h0, _⟩ | ⟨b, off, cap, e, hlt, hr⟩
  · omega
  · simp at e
    obtain ⟨rfl, rfl⟩ := e
    obtain ⟨a', c', hc, hi⟩ := hr k hk
    exact ⟨b, off, a', c', rfl, hlt, hc, hi⟩
theorem IB.three {w : World} {a : Option Addr} {n c : Nat} {t : List Int} (h : IB w (.slice a n c) t) (h3 : t.length = 3) : ∃ b off, a = some ⟨b, off, none⟩ ∧ n = 3 ∧ b < w.heap.size ∧ Ints w b off t := by
  rcases h.2 with ⟨_, _, _, rfl⟩ | ⟨b, off, cap, e, hlt, hr⟩
  · simp at h3
  · simp at e
    obtain ⟨rfl, rfl, rfl⟩ := e
    exact ⟨b, off, rfl, h3, hlt, hr⟩
theorem diffs_ne {v : Int} (hv : dfV v = true) : diffs v ≠ [] ∧ (diffs v).length ≤ 7 := by
  simp only [dfV, Bool.or_eq_true, decide_eq_true_eq] at hv
  rcases hv with (rfl | rfl) | rfl <;> decide
end Go.Proofs.Ytlkjacgpjolbdaa

namespace Go.Proofs.Ytlkjacgpjolbdaa
open Go.RowKit Go.Maps
end Go.Proofs.Ytlkjacgpjolbdaa

namespace Go.Proofs.Ytlkjacgpjolbdaa
open Go.RowKit Go.Maps
/-- What a door of the program's recovers: a code. -/
def codeP (κ : Int) : PanicEntry := { v := .iface 114 (.int .i64 κ), recovered := false }
/-- The value, or the panic with a code; old memory stays. -/
def RP (good : Bool) (v : Value) (κ : Int) (w : World) (e : Ending) (w' : World) : Prop := (if good = true then e = .returned v else e = .panicked [codeP κ]) ∧ Below w.heap.size w w'
theorem RP_yes {good : Bool} {v : Value} {κ : Int} {w w' : World} (h : good = true) (hb : Below w.heap.size w w') : RP good v κ w (.returned v) w' := ⟨by rw [if_pos h], hb⟩
theorem RP_no {good : Bool} {v : Value} {κ : Int} {w w' : World} (h : good = false) (hb : Below w.heap.size w w') : RP good v κ w (.panicked [codeP κ]) w' := ⟨by rw [if_neg (by rw [h]; decide)], hb⟩
end Go.Proofs.Ytlkjacgpjolbdaa

namespace Go.Proofs.Ytlkjacgpjolbdaa
open Go.RowKit Go.Maps
def setsOk (m : Int) (n : Nat) (F : Nat → List Int) : Bool := (List.range n).all fun k => ptGo m none (F k)
theorem setsOk_succ (m : Int) (n : Nat) (F : Nat → List Int) : setsOk m (n + 1) F = (setsOk m n F && ptGo m none (F n)) := by simp [setsOk, List.range_succ]
theorem setsOk_false {m : Int} {n k : Nat} {F : Nat → List Int} (hk : k < n) (h : ptGo m none (F k) = false) : setsOk m n F = false := by
  unfold setsOk
  rw [List.all_eq_false]
  exact ⟨k, List.mem_range.2 hk, by rw [h]; decide⟩
def chkF (v : Int) (bs : List Blk) (n : Nat) (F : Nat → List Int) : Int := if isSysImpl v bs then (if setsOk (bs.length : Int) n F then 0 else 2) else 1
def RC (κ : Int) (w : World) (e : Ending) (w' : World) : Prop := (if κ = 0 then e = .returned (.tuple #[]) else e = .panicked [codeP κ]) ∧ Below w.heap.size w w'
theorem RC_yes {κ : Int} {w w' : World} (h : κ = 0) (hb : Below w.heap.size w w') : RC κ w (.returned (.tuple #[])) w' := ⟨by rw [if_pos h], hb⟩
theorem RC_no {κ c : Int} {w w' : World} (h : κ = c) (h0 : c ≠ 0) (hb : Below w.heap.size w w') : RC κ w (.panicked [codeP c]) w' := ⟨by rw [if_neg (by rw [h]; exact h0), h], hb⟩
set_option maxRecDepth 100000 in
set_option maxHeartbeats 1000000 in
theorem checkSets_any (v : Int) (s : Value) (bs : List Blk) (t : Value) (n : Nat) (F : Nat → List Int) (w : World) (h : SB w s bs) (ht : SSB w t n F) :
    Calls Try.prog 83 #[.agg #[.int .i64 v, s], t] w (RC (chkF v bs n F) w) := by
  have hs := h.slice
  have hn := ht.1
  have HI := Lib.hid fun W (hb : Below w.heap.size w W) => IsSystem_any v s bs W (h.below hb (Nat.le_refl _))
  have hlen := h.2.1
  obtain ⟨a, c, rfl⟩ := ht.slice
  have HROW := Lib.hid ht.rows
  clear h ht
  obtain ⟨a0, c0, rfl⟩ := hs
  cases hi : isSysImpl v bs with
  | false =>
    rw [hi] at HI
    have HV := Lib.hid (show chkF v bs n F = 1 by simp [chkF, hi])
    clear hi HROW
    go_enter Try.func83, Try.ntmps83
    go_wp2_with fail
    refine (HI.out _ ((Below.refl _ _).alloc (Nat.le_refl _) _)).mono ?_
    rintro e w1 ⟨rfl, hb1⟩
    have hb2 := below_new hb1
    go_wp2
    exact ⟨rfl, RC_no HV.out (by decide) hb2⟩
  | true =>
    rw [hi] at HI
    have HV := Lib.hid (show chkF v bs n F = if setsOk (bs.length : Int) n F then 0 else 2 by simp [chkF, hi])
    clear hi
    go_enter Try.func83, Try.ntmps83
    go_wp2_with fail
    refine (HI.out _ ((Below.refl _ _).alloc (Nat.le_refl _) _)).mono ?_
    rintro e w1 ⟨rfl, hb1⟩
    have hb2 := below_new hb1
    have p1 := cell_new hb1 1 rfl
    have hz1 := hb2.size
    have HB2 := Lib.hid hb2
    have hlt := block_lt_of_cell p1
    clear hb1 hb2 HI
    go_wp2_with fail
    go_loop [12] (fun i => ∃ k : Nat, k ≤ n ∧ i = .int .i64 k ∧ Hid (setsOk (bs.length : Int) k F = true)) (fun i => n - (intOf i).toNat)
    case atStart => exact ⟨0, Nat.zero_le _, rfl, Lib.hid rfl⟩
    case round =>
      obtain ⟨k, hk, rfl, HK⟩ := hrel
      by_cases hkl : k < n
      · obtain ⟨b, off, a', c', rfl, hlt', hc, hib⟩ := HROW.out k hkl
        have q := (HB2.out.cell (p := ⟨b, off + k, none⟩) hlt').trans hc
        have HR := Lib.hid (isNumberSet_any (bs.length : Int) _ (F k) _ (hib.below HB2.out (Nat.le_refl _)))
        clear hc hib
        cases hr : ptGo (bs.length : Int) none (F k) with
        | true =>
          rw [hr] at HR
          have HS := Lib.hid (show setsOk (bs.length : Int) (k + 1) F = true by rw [setsOk_succ, HK.out, hr]; rfl)
          clear hr
          go_wp2_with fail
          refine HR.out.mono ?_
          rintro e w2 ⟨rfl, rfl⟩
          go_wp2
          go_round
          case rel => exact ⟨k + 1, by omega, by go_num, HS⟩
          case measure => simp [intOf]; omega
        | false =>
          rw [hr] at HR
          have HS := Lib.hid (show chkF v bs n F = 2 by rw [HV.out, setsOk_false hkl hr]; rfl)
          clear hr
          go_wp2_with fail
          refine HR.out.mono ?_
          rintro e w2 ⟨rfl, rfl⟩
          go_wp2
          exact ⟨rfl, RC_no HS.out (by decide) HB2.out⟩
      · have e : k = n := by omega
        subst e
        have HS := Lib.hid (show chkF v bs k F = 0 by rw [HV.out, HK.out]; rfl)
        go_wp2
        exact bodyPost_ret (v := .tuple #[]) (by simp [results, Try.results83]) rfl (RC_yes HS.out HB2.out)
end Go.Proofs.Ytlkjacgpjolbdaa

namespace Go.Proofs.Ytlkjacgpjolbdaa
open Go.RowKit Go.Maps
theorem assert_nil (w : World) : Sem.run Try.prog (Instr.typeAssert .nilIface 20 114 true) w = .ok (.tuple #[.int .i64 0, .bool false]) w := by kernel_rfl
theorem assert_code (κ : Int) (w : World) : Sem.run Try.prog (Instr.typeAssert (.iface 114 (.int .i64 κ)) 20 114 true) w = .ok (.tuple #[.int .i64 κ, .bool true]) w := by kernel_rfl
/-- The world in which the door calls its builder. -/
def doorW (w : World) (zero : Array Value) (T : TypeId) : World := (w.alloc (.cells zero T)).alloc (.cells #[.int .i64 1] 2)
end Go.Proofs.Ytlkjacgpjolbdaa

namespace Go.Proofs.Ytlkjacgpjolbdaa
open Go.RowKit Go.Maps
set_option maxRecDepth 100000 in
theorem catchB_idle (p : Addr) (w : World) :
    CallsD Try.prog 129 #[.pointer (some p)] .returning w fun e u' w' => e = .returned (.tuple #[]) ∧ u' = .returning ∧ w' = w := by
  refine callsD_of_wpS Try.func129 rfl fun c₀ cs hu => ?_
  apply wpS_seq
  apply wpS_region
  simp [wpOpsS, go_sem, recoverD, hu, Try.ntmps129, Exit.thenS, assert_nil]
  apply wpS_seq
  apply wpS_region
  simp [wpOpsS, go_sem, Exit.thenS]
  refine wpS_cond (t := false) (by simp [Act.eval, Array.replicate]) ?_
  simp only [Bool.false_eq_true, if_false]
  refine wpS_of_wp (wp_skip ?_)
  cases c₀
  simp_all [bodyPostS, results, Try.results129]
set_option maxRecDepth 100000 in
theorem catchB_code (p : Addr) (x κ : Int) (older : List PanicEntry) (w : World) (hc : w.cell? p = some (.int .i64 x)) (hz : w.frozen? p = false) :
    CallsD Try.prog 129 #[.pointer (some p)] (.panicking (codeP κ :: older)) w fun e u' w' =>
      e = .returned (.tuple #[]) ∧ u' = .panicking ({ v := .iface 114 (.int .i64 κ), recovered := true } :: older) ∧ w' = w.setCell p (.int .i64 κ) := by
  refine callsD_of_wpS Try.func129 rfl fun c₀ cs hu => ?_
  apply wpS_seq
  apply wpS_region
  simp [wpOpsS, go_sem, recoverD, hu, codeP, Try.ntmps129, Exit.thenS, assert_code]
  apply wpS_seq
  apply wpS_region
  simp [wpOpsS, go_sem, Exit.thenS]
  refine wpS_cond (t := true) (by simp [Act.eval, Array.replicate]) ?_
  simp only [if_true]
  apply wpS_region
  simp [wpOpsS, go_sem, hc, hz, bodyPostS, results, Try.results129]
set_option maxRecDepth 100000 in
set_option maxHeartbeats 2000000 in
theorem doorAreDisjoint_no (caps : Array Value) (κ : Int) (w : World) (hc : Calls Try.prog 82 caps (w.alloc (.cells #[.int .i64 1] 2)) (fun e w' => e = .panicked [codeP κ] ∧ Below (w.heap.size + 1) (w.alloc (.cells #[.int .i64 1] 2)) w')) :
    Calls Try.prog 81 #[.func (.func 82) #[] caps] w (RV (.tuple #[.bool false, .int .i64 κ]) w) := by
  have hmf : ∀ (fn : Fn) (first cap : Array Value) (w : World), (Instr.makeFunc fn first cap).run Try.prog w = .ok (.func fn first cap) w := fun _ _ _ _ => rfl
  go_enter_defers Try.func81, Try.ntmps81
  go_wp2_with fail
  refine hc.mono ?_
  rintro e w' ⟨rfl, hb⟩
  have hz := hb.size
  have c2 : w'.cell? ⟨w.heap.size, 0, none⟩ = some (.int .i64 1) := (hb.cell (p := ⟨w.heap.size, 0, none⟩) (by simp)).trans (by simp)
  have f2 : w'.frozen? ⟨w.heap.size, 0, none⟩ = false := (hb.frozen (p := ⟨w.heap.size, 0, none⟩) (by simp)).trans (by simp)
  have d2 : (w'.setCell ⟨w.heap.size, 0, none⟩ (.int .i64 κ)).cell? ⟨w.heap.size, 0, none⟩ = some (.int .i64 κ) := World.cell?_setCell_same' _ _ _ (by rw [c2]; rfl)
  have hB : Below w.heap.size w (w'.setCell ⟨w.heap.size, 0, none⟩ (.int .i64 κ)) := (((Below.refl _ _).alloc (Nat.le_refl _) _).trans (hb.mono (by omega))).setCell (p := ⟨w.heap.size, 0, none⟩) (by simp) _
  go_wp2_with fail
  refine leaves_cons (f := 129) (args := #[.pointer (some ⟨w.heap.size, 0, none⟩)]) (by simp) (by simp [go_sem]) ?_
  refine (catchB_code ⟨w.heap.size, 0, none⟩ 1 κ [] _ c2 f2).mono ?_
  rintro e u' w'' ⟨rfl, rfl, rfl⟩
  simp [Leaves, settle, results, Try.results81, go_sem, d2, hB, RV]
set_option maxRecDepth 100000 in
set_option maxHeartbeats 2000000 in
theorem doorAreDisjoint_ok (caps : Array Value) (β : Bool) (w : World) (hc : Calls Try.prog 82 caps (w.alloc (.cells #[.int .i64 1] 2)) (fun e w' => e = .returned (.bool β) ∧ Below (w.heap.size + 1) (w.alloc (.cells #[.int .i64 1] 2)) w')) :
    Calls Try.prog 81 #[.func (.func 82) #[] caps] w (RV (.tuple #[.bool β, .int .i64 0]) w) := by
  have hmf : ∀ (fn : Fn) (first cap : Array Value) (w : World), (Instr.makeFunc fn first cap).run Try.prog w = .ok (.func fn first cap) w := fun _ _ _ _ => rfl
  go_enter_defers Try.func81, Try.ntmps81
  go_wp2_with fail
  refine hc.mono ?_
  rintro e w' ⟨rfl, hb⟩
  have hz := hb.size
  simp at hz
  have c2 : w'.cell? ⟨w.heap.size, 0, none⟩ = some (.int .i64 1) := (hb.cell (p := ⟨w.heap.size, 0, none⟩) (by simp)).trans (by simp)
  have f2 : w'.frozen? ⟨w.heap.size, 0, none⟩ = false := (hb.frozen (p := ⟨w.heap.size, 0, none⟩) (by simp)).trans (by simp)
  have hB : Below w.heap.size w (w'.setCell ⟨w.heap.size, 0, none⟩ (.int .i64 0)) := (((Below.refl _ _).alloc (Nat.le_refl _) _).trans (hb.mono (by omega))).setCell (p := ⟨w.heap.size, 0, none⟩) (by simp) _
  go_wp2_with fail
  refine leaves_cons (f := 129) (args := #[.pointer (some ⟨w.heap.size, 0, none⟩)]) (by simp) (by simp [go_sem]) ?_
  refine (catchB_idle ⟨w.heap.size, 0, none⟩ _).mono ?_
  rintro e u' w'' ⟨rfl, rfl, rfl⟩
  have k2 : (w'.setCell ⟨w.heap.size, 0, none⟩ (.int .i64 0)).cell? ⟨w.heap.size, 0, none⟩ = some (.int .i64 0) := World.cell?_setCell_same' _ _ _ (by rw [c2]; rfl)
  simp [Leaves, settle, results, Try.results81, go_sem, k2, hB, RV]
set_option maxRecDepth 100000 in
set_option maxHeartbeats 2000000 in
theorem doorIsClass_no (caps : Array Value) (κ : Int) (w : World) (hc : Calls Try.prog 86 caps (w.alloc (.cells #[.int .i64 1] 2)) (fun e w' => e = .panicked [codeP κ] ∧ Below (w.heap.size + 1) (w.alloc (.cells #[.int .i64 1] 2)) w')) :
    Calls Try.prog 81 #[.func (.func 86) #[] caps] w (RV (.tuple #[.bool false, .int .i64 κ]) w) := by
  have hmf : ∀ (fn : Fn) (first cap : Array Value) (w : World), (Instr.makeFunc fn first cap).run Try.prog w = .ok (.func fn first cap) w := fun _ _ _ _ => rfl
  go_enter_defers Try.func81, Try.ntmps81
  go_wp2_with fail
  refine hc.mono ?_
  rintro e w' ⟨rfl, hb⟩
  have hz := hb.size
  have c2 : w'.cell? ⟨w.heap.size, 0, none⟩ = some (.int .i64 1) := (hb.cell (p := ⟨w.heap.size, 0, none⟩) (by simp)).trans (by simp)
  have f2 : w'.frozen? ⟨w.heap.size, 0, none⟩ = false := (hb.frozen (p := ⟨w.heap.size, 0, none⟩) (by simp)).trans (by simp)
  have d2 : (w'.setCell ⟨w.heap.size, 0, none⟩ (.int .i64 κ)).cell? ⟨w.heap.size, 0, none⟩ = some (.int .i64 κ) := World.cell?_setCell_same' _ _ _ (by rw [c2]; rfl)
  have hB : Below w.heap.size w (w'.setCell ⟨w.heap.size, 0, none⟩ (.int .i64 κ)) := (((Below.refl _ _).alloc (Nat.le_refl _) _).trans (hb.mono (by omega))).setCell (p := ⟨w.heap.size, 0, none⟩) (by simp) _
  go_wp2_with fail
  refine leaves_cons (f := 129) (args := #[.pointer (some ⟨w.heap.size, 0, none⟩)]) (by simp) (by simp [go_sem]) ?_
  refine (catchB_code ⟨w.heap.size, 0, none⟩ 1 κ [] _ c2 f2).mono ?_
  rintro e u' w'' ⟨rfl, rfl, rfl⟩
  simp [Leaves, settle, results, Try.results81, go_sem, d2, hB, RV]
set_option maxRecDepth 100000 in
set_option maxHeartbeats 2000000 in
theorem doorIsClass_ok (caps : Array Value) (β : Bool) (w : World) (hc : Calls Try.prog 86 caps (w.alloc (.cells #[.int .i64 1] 2)) (fun e w' => e = .returned (.bool β) ∧ Below (w.heap.size + 1) (w.alloc (.cells #[.int .i64 1] 2)) w')) :
    Calls Try.prog 81 #[.func (.func 86) #[] caps] w (RV (.tuple #[.bool β, .int .i64 0]) w) := by
  have hmf : ∀ (fn : Fn) (first cap : Array Value) (w : World), (Instr.makeFunc fn first cap).run Try.prog w = .ok (.func fn first cap) w := fun _ _ _ _ => rfl
  go_enter_defers Try.func81, Try.ntmps81
  go_wp2_with fail
  refine hc.mono ?_
  rintro e w' ⟨rfl, hb⟩
  have hz := hb.size
  simp at hz
  have c2 : w'.cell? ⟨w.heap.size, 0, none⟩ = some (.int .i64 1) := (hb.cell (p := ⟨w.heap.size, 0, none⟩) (by simp)).trans (by simp)
  have f2 : w'.frozen? ⟨w.heap.size, 0, none⟩ = false := (hb.frozen (p := ⟨w.heap.size, 0, none⟩) (by simp)).trans (by simp)
  have hB : Below w.heap.size w (w'.setCell ⟨w.heap.size, 0, none⟩ (.int .i64 0)) := (((Below.refl _ _).alloc (Nat.le_refl _) _).trans (hb.mono (by omega))).setCell (p := ⟨w.heap.size, 0, none⟩) (by simp) _
  go_wp2_with fail
  refine leaves_cons (f := 129) (args := #[.pointer (some ⟨w.heap.size, 0, none⟩)]) (by simp) (by simp [go_sem]) ?_
  refine (catchB_idle ⟨w.heap.size, 0, none⟩ _).mono ?_
  rintro e u' w'' ⟨rfl, rfl, rfl⟩
  have k2 : (w'.setCell ⟨w.heap.size, 0, none⟩ (.int .i64 0)).cell? ⟨w.heap.size, 0, none⟩ = some (.int .i64 0) := World.cell?_setCell_same' _ _ _ (by rw [c2]; rfl)
  simp [Leaves, settle, results, Try.results81, go_sem, k2, hB, RV]
set_option maxRecDepth 100000 in
set_option maxHeartbeats 2000000 in
theorem doorIsResolution_no (caps : Array Value) (κ : Int) (w : World) (hc : Calls Try.prog 94 caps (w.alloc (.cells #[.int .i64 1] 2)) (fun e w' => e = .panicked [codeP κ] ∧ Below (w.heap.size + 1) (w.alloc (.cells #[.int .i64 1] 2)) w')) :
    Calls Try.prog 81 #[.func (.func 94) #[] caps] w (RV (.tuple #[.bool false, .int .i64 κ]) w) := by
  have hmf : ∀ (fn : Fn) (first cap : Array Value) (w : World), (Instr.makeFunc fn first cap).run Try.prog w = .ok (.func fn first cap) w := fun _ _ _ _ => rfl
  go_enter_defers Try.func81, Try.ntmps81
  go_wp2_with fail
  refine hc.mono ?_
  rintro e w' ⟨rfl, hb⟩
  have hz := hb.size
  have c2 : w'.cell? ⟨w.heap.size, 0, none⟩ = some (.int .i64 1) := (hb.cell (p := ⟨w.heap.size, 0, none⟩) (by simp)).trans (by simp)
  have f2 : w'.frozen? ⟨w.heap.size, 0, none⟩ = false := (hb.frozen (p := ⟨w.heap.size, 0, none⟩) (by simp)).trans (by simp)
  have d2 : (w'.setCell ⟨w.heap.size, 0, none⟩ (.int .i64 κ)).cell? ⟨w.heap.size, 0, none⟩ = some (.int .i64 κ) := World.cell?_setCell_same' _ _ _ (by rw [c2]; rfl)
  have hB : Below w.heap.size w (w'.setCell ⟨w.heap.size, 0, none⟩ (.int .i64 κ)) := (((Below.refl _ _).alloc (Nat.le_refl _) _).trans (hb.mono (by omega))).setCell (p := ⟨w.heap.size, 0, none⟩) (by simp) _
  go_wp2_with fail
  refine leaves_cons (f := 129) (args := #[.pointer (some ⟨w.heap.size, 0, none⟩)]) (by simp) (by simp [go_sem]) ?_
  refine (catchB_code ⟨w.heap.size, 0, none⟩ 1 κ [] _ c2 f2).mono ?_
  rintro e u' w'' ⟨rfl, rfl, rfl⟩
  simp [Leaves, settle, results, Try.results81, go_sem, d2, hB, RV]
set_option maxRecDepth 100000 in
set_option maxHeartbeats 2000000 in
theorem doorIsResolution_ok (caps : Array Value) (β : Bool) (w : World) (hc : Calls Try.prog 94 caps (w.alloc (.cells #[.int .i64 1] 2)) (fun e w' => e = .returned (.bool β) ∧ Below (w.heap.size + 1) (w.alloc (.cells #[.int .i64 1] 2)) w')) :
    Calls Try.prog 81 #[.func (.func 94) #[] caps] w (RV (.tuple #[.bool β, .int .i64 0]) w) := by
  have hmf : ∀ (fn : Fn) (first cap : Array Value) (w : World), (Instr.makeFunc fn first cap).run Try.prog w = .ok (.func fn first cap) w := fun _ _ _ _ => rfl
  go_enter_defers Try.func81, Try.ntmps81
  go_wp2_with fail
  refine hc.mono ?_
  rintro e w' ⟨rfl, hb⟩
  have hz := hb.size
  simp at hz
  have c2 : w'.cell? ⟨w.heap.size, 0, none⟩ = some (.int .i64 1) := (hb.cell (p := ⟨w.heap.size, 0, none⟩) (by simp)).trans (by simp)
  have f2 : w'.frozen? ⟨w.heap.size, 0, none⟩ = false := (hb.frozen (p := ⟨w.heap.size, 0, none⟩) (by simp)).trans (by simp)
  have hB : Below w.heap.size w (w'.setCell ⟨w.heap.size, 0, none⟩ (.int .i64 0)) := (((Below.refl _ _).alloc (Nat.le_refl _) _).trans (hb.mono (by omega))).setCell (p := ⟨w.heap.size, 0, none⟩) (by simp) _
  go_wp2_with fail
  refine leaves_cons (f := 129) (args := #[.pointer (some ⟨w.heap.size, 0, none⟩)]) (by simp) (by simp [go_sem]) ?_
  refine (catchB_idle ⟨w.heap.size, 0, none⟩ _).mono ?_
  rintro e u' w'' ⟨rfl, rfl, rfl⟩
  have k2 : (w'.setCell ⟨w.heap.size, 0, none⟩ (.int .i64 0)).cell? ⟨w.heap.size, 0, none⟩ = some (.int .i64 0) := World.cell?_setCell_same' _ _ _ (by rw [c2]; rfl)
  simp [Leaves, settle, results, Try.results81, go_sem, k2, hB, RV]
end Go.Proofs.Ytlkjacgpjolbdaa

namespace Go.Proofs.Ytlkjacgpjolbdaa
open Go.RowKit Go.Maps
/-- What a test of a set of blocks answers, beside its code. -/
def setF (good : Bool) (v : Int) (bs : List Blk) (zs : List Int) : Bool × Int := if isSysImpl v bs then (if ptGo (bs.length : Int) none zs then (good, 0) else (false, 2)) else (false, 1)
def clsB (v : Int) (L : List Blk) : Bool := decide (3 * (L.length : Int) = v) && disGo [] L
def disF (v : Int) (bs : List Blk) (zs : List Int) : Bool × Int := setF (disGo [] (blksAt bs zs)) v bs zs
def clsF (v : Int) (bs : List Blk) (zs : List Int) : Bool × Int := setF (clsB v (blksAt bs zs)) v bs zs
theorem setF_chk (good : Bool) (v : Int) (bs : List Blk) (zs : List Int) : setF good v bs zs = (good && decide (chkF v bs 1 (fun _ => zs) = 0), chkF v bs 1 (fun _ => zs)) := by
  unfold setF chkF
  have e : setsOk (bs.length : Int) 1 (fun _ => zs) = ptGo (bs.length : Int) none zs := by simp [setsOk, List.range_succ]
  rw [e]
  cases isSysImpl v bs <;> cases ptGo (bs.length : Int) none zs <;> simp
theorem chk_in {v : Int} {bs : List Blk} {zs : List Int} (h : chkF v bs 1 (fun _ => zs) = 0) : isSysImpl v bs = true ∧ ∀ z ∈ zs, 0 ≤ z ∧ z < (bs.length : Int) := by
  unfold chkF at h
  have e : setsOk (bs.length : Int) 1 (fun _ => zs) = ptGo (bs.length : Int) none zs := by simp [setsOk, List.range_succ]
  rw [e] at h
  cases hi : isSysImpl v bs with
  | false => rw [hi] at h; simp at h
  | true =>
    cases hp : ptGo (bs.length : Int) none zs with
    | false => rw [hi, hp] at h; simp at h
    | true =>
      refine ⟨rfl, fun z hz => ?_⟩
      rw [ptGo_split, Bool.and_eq_true, List.all_eq_true] at hp
      have := hp.1 z hz
      simpa [inP] using this
theorem ssb_one {w : World} {t : Value} {zs : List Int} (h : IB w t zs) : SSB (w.alloc (.cells #[t] 35)) (.slice (some ⟨w.heap.size, 0, none⟩) 1 1) 1 (fun _ => zs) := by
  have hts : ∃ a c, t = .slice a zs.length c := by rcases h.2 with ⟨a, c, rfl, rfl⟩ | ⟨b, off, cap, rfl, _⟩ <;> exact ⟨_, _, rfl⟩
  have h2 := h.below ((Below.refl w.heap.size w).alloc (Nat.le_refl _) (.cells #[t] 35)) (Nat.le_refl _)
  obtain ⟨a, c, rfl⟩ := hts
  refine ⟨by omega, .inr ⟨w.heap.size, 0, 1, rfl, by simp, fun k hk => ?_⟩⟩
  obtain rfl : k = 0 := by omega
  exact ⟨a, c, by simp, h2⟩
set_option maxRecDepth 100000 in
theorem isClass_any (v : Int) (s : Value) (bs : List Blk) (t : Value) (zs : List Int) (w : World) (h : SB w s bs) (ht : IB w t zs) (hin : ∀ z ∈ zs, 0 ≤ z ∧ z < (bs.length : Int)) :
    Calls Try.prog 87 #[.agg #[.int .i64 v, s], t] w (RV (.bool (clsB v (blksAt bs zs))) w) := by
  have hs := h.slice
  have hts : ∃ a c, t = .slice a zs.length c := by rcases ht.2 with ⟨a, c, rfl, rfl⟩ | ⟨b, off, cap, rfl, _⟩ <;> exact ⟨_, _, rfl⟩
  have HA := Lib.hid fun W (hb : Below w.heap.size w W) => areDisjoint_any v s bs t zs W (h.below hb (Nat.le_refl _)) (ht.below hb (Nat.le_refl _)) hin
  have htl := ht.1
  have HV := Lib.hid (show clsB v (blksAt bs zs) = (decide (3 * (zs.length : Int) = v) && disGo [] (blksAt bs zs)) by unfold clsB; rw [blksAt_len])
  obtain ⟨β, hβ⟩ : ∃ β, β = disGo [] (blksAt bs zs) := ⟨_, rfl⟩
  rw [← hβ] at HA HV
  clear h ht hin hβ
  obtain ⟨a0, c0, rfl⟩ := hs
  obtain ⟨a1, c1, rfl⟩ := hts
  have hw3 : IntKind.i64.wrap (3 * (zs.length : Int)) = 3 * (zs.length : Int) := IntWalk.i64_in _ (by omega)
  by_cases h3 : 3 * (zs.length : Int) = v
  · have q1 : (3 * (zs.length : Int) == v) = true := by simpa using h3
    have HW := Lib.hid (show clsB v (blksAt bs zs) = β by rw [HV.out, show decide (3 * (zs.length : Int) = v) = true from decide_eq_true h3]; rfl)
    clear h3 HV
    go_enter Try.func87, Try.ntmps87
    go_wp2_with fail
    refine (HA.out _ ((Below.refl _ _).alloc (Nat.le_refl _) _)).mono ?_
    rintro e w1 ⟨rfl, hb1⟩
    have hb2 := below_new hb1
    go_wp2
    go_ret
    exact RV_of (bool_eq (by rw [HW.out])) hb2
  · have q1 : (3 * (zs.length : Int) == v) = false := by simpa using h3
    have HW := Lib.hid (show clsB v (blksAt bs zs) = false by rw [HV.out, show decide (3 * (zs.length : Int) = v) = false from decide_eq_false h3]; rfl)
    clear h3 HV
    go_enter Try.func87, Try.ntmps87
    go_wp2
    go_ret
    exact RV_of (bool_eq (by rw [HW.out])) ((Below.refl _ _).alloc (Nat.le_refl _) _)
set_option maxRecDepth 100000 in
theorem AreDisjointB_any (B0 B1 : Nat) (v : Int) (s : Value) (bs : List Blk) (t : Value) (zs : List Int) (w : World) (h0 : w.cell? ⟨B0, 0, none⟩ = some (.int .i64 v)) (h1 : w.cell? ⟨B0, 1, none⟩ = some s) (h2 : w.cell? ⟨B1, 0, none⟩ = some t) (h : SB w s bs) (ht : IB w t zs) :
    Calls Try.prog 82 #[.pointer (some ⟨B0, 0, none⟩), .pointer (some ⟨B1, 0, none⟩)] w (fun e w' => (if chkF v bs 1 (fun _ => zs) = 0 then e = .returned (.bool (disGo [] (blksAt bs zs))) else e = .panicked [codeP (chkF v bs 1 (fun _ => zs))]) ∧ Below w.heap.size w w') := by
  have hb0 : Below w.heap.size w (w.alloc (.cells #[t] 35)) := (Below.refl _ _).alloc (Nat.le_refl _) _
  have HC := Lib.hid (checkSets_any v s bs _ 1 (fun _ => zs) (w.alloc (.cells #[t] 35)) (h.below hb0 (Nat.le_refl _)) (ssb_one ht))
  have HD := Lib.hid fun (hk : chkF v bs 1 (fun _ => zs) = 0) W (hb : Below w.heap.size w W) => areDisjoint_any v s bs t zs W (h.below hb (Nat.le_refl _)) (ht.below hb (Nat.le_refl _)) (chk_in hk).2
  have hlt0 := block_lt_of_cell h0
  have hlt1 := block_lt_of_cell h2
  obtain ⟨κ, hκ⟩ : ∃ κ, κ = chkF v bs 1 (fun _ => zs) := ⟨_, rfl⟩
  rw [← hκ] at HC HD ⊢
  have hts : ∃ a c, t = .slice a zs.length c := by rcases ht.2 with ⟨a, c, rfl, rfl⟩ | ⟨b, off, cap, rfl, _⟩ <;> exact ⟨_, _, rfl⟩
  have hs := h.slice
  clear hκ h ht hb0
  obtain ⟨a0, c0, rfl⟩ := hs
  obtain ⟨a1, c1, rfl⟩ := hts
  by_cases hk : κ = 0
  · have HD0 := Lib.hid (HD.out hk)
    simp only [if_pos hk]
    subst hk
    clear HD
    go_enter Try.func82, Try.ntmps82
    go_wp2_with fail
    refine HC.out.mono ?_
    rintro e w1 ⟨he, hb1⟩
    simp only [if_true] at he
    subst he
    have hb2 := below_new hb1
    have k0 := (hb2.cell (p := ⟨B0, 0, none⟩) hlt0).trans h0
    have k1 := (hb2.cell (p := ⟨B0, 1, none⟩) hlt0).trans h1
    have k2 := (hb2.cell (p := ⟨B1, 0, none⟩) hlt1).trans h2
    have HB2 := Lib.hid hb2
    have hz := hb2.size
    clear hb1 hb2 h0 h1 h2 HC
    go_wp2_with fail
    refine (HD0.out _ HB2.out).mono ?_
    rintro e w2 ⟨rfl, hb3⟩
    go_wp2
    go_ret
    exact ⟨rfl, HB2.out.trans (hb3.mono hz)⟩
  · simp only [if_neg hk]
    go_enter Try.func82, Try.ntmps82
    go_wp2_with fail
    refine HC.out.mono ?_
    rintro e w1 ⟨he, hb1⟩
    rw [if_neg hk] at he
    subst he
    have hb2 := below_new hb1
    go_wp2_with fail
    exact ⟨rfl, rfl, hb2⟩
set_option maxRecDepth 100000 in
set_option maxHeartbeats 1000000 in
theorem AreDisjoint_any (v : Int) (s : Value) (bs : List Blk) (t : Value) (zs : List Int) (w : World) (h : SB w s bs) (ht : IB w t zs) :
    Calls Try.prog 32 #[.agg #[.int .i64 v, s], t] w (RV (boolCode (disF v bs zs).1 (disF v bs zs).2) w) := by
  have hmf : ∀ (fn : Fn) (first cap : Array Value) (w : World), (Instr.makeFunc fn first cap).run Try.prog w = .ok (.func fn first cap) w := fun _ _ _ _ => rfl
  have hb0 : Below w.heap.size w (((w.alloc (.cells #[.int .i64 v, s] 28)).alloc (.cells #[t] 35)).alloc (.cells #[.int .i64 1] 2)) := (((Below.refl _ _).alloc (Nat.le_refl _) _).alloc (by simp) _).alloc (by simp; omega) _
  have hB := AreDisjointB_any w.heap.size (w.heap.size + 1) v s bs t zs (((w.alloc (.cells #[.int .i64 v, s] 28)).alloc (.cells #[t] 35)).alloc (.cells #[.int .i64 1] 2)) (by simp [go_sem]) (by simp [go_sem]) (by simp [go_sem]) (h.below hb0 (Nat.le_refl _)) (ht.below hb0 (Nat.le_refl _))
  have hp : (disF v bs zs) = (disGo [] (blksAt bs zs) && decide (chkF v bs 1 (fun _ => zs) = 0), chkF v bs 1 (fun _ => zs)) := setF_chk _ v bs zs
  have hts : ∃ a c, t = .slice a zs.length c := by rcases ht.2 with ⟨a, c, rfl, rfl⟩ | ⟨b, off, cap, rfl, _⟩ <;> exact ⟨_, _, rfl⟩
  have hs := h.slice
  rw [hp]
  obtain ⟨κ, hκ⟩ : ∃ κ, κ = chkF v bs 1 (fun _ => zs) := ⟨_, rfl⟩
  rw [← hκ] at hB ⊢
  clear hκ h ht hb0 hp
  obtain ⟨a0, c0, rfl⟩ := hs
  obtain ⟨a1, c1, rfl⟩ := hts
  by_cases hk : κ = 0
  · have HD := Lib.hid (doorAreDisjoint_ok #[.pointer (some ⟨w.heap.size, 0, none⟩), .pointer (some ⟨w.heap.size + 1, 0, none⟩)] (disGo [] (blksAt bs zs)) ((w.alloc (.cells #[.int .i64 v, .slice a0 bs.length c0] 28)).alloc (.cells #[.slice a1 zs.length c1] 35)) (hB.mono fun e w' ⟨he, hb⟩ => ⟨by rwa [if_pos hk] at he, by simpa using hb⟩))
    have HG := Lib.hid (show (disGo [] (blksAt bs zs) && decide (κ = 0)) = (disGo [] (blksAt bs zs)) by rw [show decide (κ = 0) = true from decide_eq_true hk, Bool.and_true])
    rw [HG.out]
    subst hk
    clear hB
    go_enter Try.func32, Try.ntmps32
    go_wp2_with fail
    refine HD.out.mono ?_
    rintro e w1 ⟨rfl, hb1⟩
    have hb2 := below_new (below_new hb1)
    clear hb1
    go_wp2
    go_ret2
    exact ⟨rfl, hb2⟩
  · have HD := Lib.hid (doorAreDisjoint_no #[.pointer (some ⟨w.heap.size, 0, none⟩), .pointer (some ⟨w.heap.size + 1, 0, none⟩)] κ ((w.alloc (.cells #[.int .i64 v, .slice a0 bs.length c0] 28)).alloc (.cells #[.slice a1 zs.length c1] 35)) (hB.mono fun e w' ⟨he, hb⟩ => ⟨by rwa [if_neg hk] at he, by simpa using hb⟩))
    have HG := Lib.hid (show (disGo [] (blksAt bs zs) && decide (κ = 0)) = false by rw [show decide (κ = 0) = false from decide_eq_false hk, Bool.and_false])
    rw [HG.out]
    clear hB hk
    go_enter Try.func32, Try.ntmps32
    go_wp2_with fail
    refine HD.out.mono ?_
    rintro e w1 ⟨rfl, hb1⟩
    have hb2 := below_new (below_new hb1)
    clear hb1
    go_wp2
    go_ret2
    exact ⟨rfl, hb2⟩
set_option maxRecDepth 100000 in
theorem IsClassB_any (B0 B1 : Nat) (v : Int) (s : Value) (bs : List Blk) (t : Value) (zs : List Int) (w : World) (h0 : w.cell? ⟨B0, 0, none⟩ = some (.int .i64 v)) (h1 : w.cell? ⟨B0, 1, none⟩ = some s) (h2 : w.cell? ⟨B1, 0, none⟩ = some t) (h : SB w s bs) (ht : IB w t zs) :
    Calls Try.prog 86 #[.pointer (some ⟨B0, 0, none⟩), .pointer (some ⟨B1, 0, none⟩)] w (fun e w' => (if chkF v bs 1 (fun _ => zs) = 0 then e = .returned (.bool (clsB v (blksAt bs zs))) else e = .panicked [codeP (chkF v bs 1 (fun _ => zs))]) ∧ Below w.heap.size w w') := by
  have hb0 : Below w.heap.size w (w.alloc (.cells #[t] 35)) := (Below.refl _ _).alloc (Nat.le_refl _) _
  have HC := Lib.hid (checkSets_any v s bs _ 1 (fun _ => zs) (w.alloc (.cells #[t] 35)) (h.below hb0 (Nat.le_refl _)) (ssb_one ht))
  have HD := Lib.hid fun (hk : chkF v bs 1 (fun _ => zs) = 0) W (hb : Below w.heap.size w W) => isClass_any v s bs t zs W (h.below hb (Nat.le_refl _)) (ht.below hb (Nat.le_refl _)) (chk_in hk).2
  have hlt0 := block_lt_of_cell h0
  have hlt1 := block_lt_of_cell h2
  obtain ⟨κ, hκ⟩ : ∃ κ, κ = chkF v bs 1 (fun _ => zs) := ⟨_, rfl⟩
  rw [← hκ] at HC HD ⊢
  have hts : ∃ a c, t = .slice a zs.length c := by rcases ht.2 with ⟨a, c, rfl, rfl⟩ | ⟨b, off, cap, rfl, _⟩ <;> exact ⟨_, _, rfl⟩
  have hs := h.slice
  clear hκ h ht hb0
  obtain ⟨a0, c0, rfl⟩ := hs
  obtain ⟨a1, c1, rfl⟩ := hts
  by_cases hk : κ = 0
  · have HD0 := Lib.hid (HD.out hk)
    simp only [if_pos hk]
    subst hk
    clear HD
    go_enter Try.func86, Try.ntmps86
    go_wp2_with fail
    refine HC.out.mono ?_
    rintro e w1 ⟨he, hb1⟩
    simp only [if_true] at he
    subst he
    have hb2 := below_new hb1
    have k0 := (hb2.cell (p := ⟨B0, 0, none⟩) hlt0).trans h0
    have k1 := (hb2.cell (p := ⟨B0, 1, none⟩) hlt0).trans h1
    have k2 := (hb2.cell (p := ⟨B1, 0, none⟩) hlt1).trans h2
    have HB2 := Lib.hid hb2
    have hz := hb2.size
    clear hb1 hb2 h0 h1 h2 HC
    go_wp2_with fail
    refine (HD0.out _ HB2.out).mono ?_
    rintro e w2 ⟨rfl, hb3⟩
    go_wp2
    go_ret
    exact ⟨rfl, HB2.out.trans (hb3.mono hz)⟩
  · simp only [if_neg hk]
    go_enter Try.func86, Try.ntmps86
    go_wp2_with fail
    refine HC.out.mono ?_
    rintro e w1 ⟨he, hb1⟩
    rw [if_neg hk] at he
    subst he
    have hb2 := below_new hb1
    go_wp2_with fail
    exact ⟨rfl, rfl, hb2⟩
set_option maxRecDepth 100000 in
set_option maxHeartbeats 1000000 in
theorem IsClass_any (v : Int) (s : Value) (bs : List Blk) (t : Value) (zs : List Int) (w : World) (h : SB w s bs) (ht : IB w t zs) :
    Calls Try.prog 34 #[.agg #[.int .i64 v, s], t] w (RV (boolCode (clsF v bs zs).1 (clsF v bs zs).2) w) := by
  have hmf : ∀ (fn : Fn) (first cap : Array Value) (w : World), (Instr.makeFunc fn first cap).run Try.prog w = .ok (.func fn first cap) w := fun _ _ _ _ => rfl
  have hb0 : Below w.heap.size w (((w.alloc (.cells #[.int .i64 v, s] 28)).alloc (.cells #[t] 35)).alloc (.cells #[.int .i64 1] 2)) := (((Below.refl _ _).alloc (Nat.le_refl _) _).alloc (by simp) _).alloc (by simp; omega) _
  have hB := IsClassB_any w.heap.size (w.heap.size + 1) v s bs t zs (((w.alloc (.cells #[.int .i64 v, s] 28)).alloc (.cells #[t] 35)).alloc (.cells #[.int .i64 1] 2)) (by simp [go_sem]) (by simp [go_sem]) (by simp [go_sem]) (h.below hb0 (Nat.le_refl _)) (ht.below hb0 (Nat.le_refl _))
  have hp : (clsF v bs zs) = (clsB v (blksAt bs zs) && decide (chkF v bs 1 (fun _ => zs) = 0), chkF v bs 1 (fun _ => zs)) := setF_chk _ v bs zs
  have hts : ∃ a c, t = .slice a zs.length c := by rcases ht.2 with ⟨a, c, rfl, rfl⟩ | ⟨b, off, cap, rfl, _⟩ <;> exact ⟨_, _, rfl⟩
  have hs := h.slice
  rw [hp]
  obtain ⟨κ, hκ⟩ : ∃ κ, κ = chkF v bs 1 (fun _ => zs) := ⟨_, rfl⟩
  rw [← hκ] at hB ⊢
  clear hκ h ht hb0 hp
  obtain ⟨a0, c0, rfl⟩ := hs
  obtain ⟨a1, c1, rfl⟩ := hts
  by_cases hk : κ = 0
  · have HD := Lib.hid (doorIsClass_ok #[.pointer (some ⟨w.heap.size, 0, none⟩), .pointer (some ⟨w.heap.size + 1, 0, none⟩)] (clsB v (blksAt bs zs)) ((w.alloc (.cells #[.int .i64 v, .slice a0 bs.length c0] 28)).alloc (.cells #[.slice a1 zs.length c1] 35)) (hB.mono fun e w' ⟨he, hb⟩ => ⟨by rwa [if_pos hk] at he, by simpa using hb⟩))
    have HG := Lib.hid (show (clsB v (blksAt bs zs) && decide (κ = 0)) = (clsB v (blksAt bs zs)) by rw [show decide (κ = 0) = true from decide_eq_true hk, Bool.and_true])
    rw [HG.out]
    subst hk
    clear hB
    go_enter Try.func34, Try.ntmps34
    go_wp2_with fail
    refine HD.out.mono ?_
    rintro e w1 ⟨rfl, hb1⟩
    have hb2 := below_new (below_new hb1)
    clear hb1
    go_wp2
    go_ret2
    exact ⟨rfl, hb2⟩
  · have HD := Lib.hid (doorIsClass_no #[.pointer (some ⟨w.heap.size, 0, none⟩), .pointer (some ⟨w.heap.size + 1, 0, none⟩)] κ ((w.alloc (.cells #[.int .i64 v, .slice a0 bs.length c0] 28)).alloc (.cells #[.slice a1 zs.length c1] 35)) (hB.mono fun e w' ⟨he, hb⟩ => ⟨by rwa [if_neg hk] at he, by simpa using hb⟩))
    have HG := Lib.hid (show (clsB v (blksAt bs zs) && decide (κ = 0)) = false by rw [show decide (κ = 0) = false from decide_eq_false hk, Bool.and_false])
    rw [HG.out]
    clear hB hk
    go_enter Try.func34, Try.ntmps34
    go_wp2_with fail
    refine HD.out.mono ?_
    rintro e w1 ⟨rfl, hb1⟩
    have hb2 := below_new (below_new hb1)
    clear hb1
    go_wp2
    go_ret2
    exact ⟨rfl, hb2⟩
end Go.Proofs.Ytlkjacgpjolbdaa

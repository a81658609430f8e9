
/- Plain facts on difference families. impl.isDifferenceTriple, differencesOf; spec.l02Triple. spec.l02Triple, the first cases. spec.l02Triple, the other cases. Masks: plain. Masks of small numbers. Squares and masks: plain. Masks of points of blocks: plain. Masks of disjoint blocks: plain. MeetingBlocks of the program. The part of a system on some points: plain. Helpers on difference families. -/
import Derived.Test.YtahgialnhomefaaJ9
import Derived.Deep.QuietTactic
import Derived.BigQuiet
import Derived.Laws.BitsLemmas
import Derived.IntWalk
namespace Go.Proofs.Ytahgialnhomefaa
def at3 (t : List Int) (k : Nat) : Int := t[k]?.getD 0
def triB (v : Int) (t : List Int) : Bool :=
  decide (t.length = 3) && decide (1 ≤ at3 t 0) && decide (at3 t 0 < at3 t 1) && decide (at3 t 1 < at3 t 2) && decide (at3 t 2 ≤ (v - 1) / 2) && (decide (at3 t 0 + at3 t 1 = at3 t 2) || decide (at3 t 0 + at3 t 1 + at3 t 2 = v))
def dfV (v : Int) : Bool := decide (v = 7) || decide (v = 13) || decide (v = 15)
/-- The numbers that a family has, ascending, up to the first k. -/
def diffsK (v : Int) (k : Nat) : List Int := ((List.range k).map fun (j : Nat) => (j : Int) + 1).filter fun d => decide (v ≠ 15) || decide (d ≠ 5)
def diffs (v : Int) : List Int := diffsK v ((v - 1) / 2).toNat
def catF (n : Nat) (F : Nat → List Int) : List Int := (List.range n).flatMap F
theorem catF_succ (n : Nat) (F : Nat → List Int) : catF (n + 1) F = catF n F ++ F n := by simp [catF, List.range_succ]
def baseD (v : Int) : List Int := if v = 15 then [5] else []
/-- The first i triples are good: in order, and no number twice. -/
def okD (v : Int) (i : Nat) (F : Nat → List Int) : Bool :=
  ((List.range i).all fun j => triB v (F j) && (decide (j = 0) || decide (at3 (F (j - 1)) 0 < at3 (F j) 0))) && decide ((baseD v ++ catF i F).Nodup)
def famB (v : Int) (n : Nat) (F : Nat → List Int) : Bool := okD v n F && decide (3 * n = (diffs v).length)
/-- What the program asks of the first i triples. -/
def okP (v : Int) (i : Nat) (F : Nat → List Int) : Bool := (List.range i).all fun j => triB v (F j) && (decide (j = 0) || decide (cmpL (F (j - 1)) (F j) < 0))
def sortI (l : List Int) : List Int := l.mergeSort fun x y => decide (x ≤ y)
def famP (v : Int) (n : Nat) (F : Nat → List Int) : Bool := okP v n F && decide (sortI (catF n F) = diffs v)
theorem triB_iff {v : Int} {t : List Int} : triB v t = true ↔ ∃ a b c, t = [a, b, c] ∧ 1 ≤ a ∧ a < b ∧ b < c ∧ c ≤ (v - 1) / 2 ∧ (a + b = c ∨ a + b + c = v) := by
  simp only [triB, Bool.and_eq_true, Bool.or_eq_true, decide_eq_true_eq]
  constructor
  · rintro ⟨⟨⟨⟨⟨h0, h1⟩, h2⟩, h3⟩, h4⟩, h5⟩
    match t, h0 with
    | [a, b, c], _ => exact ⟨a, b, c, rfl, by simpa [at3] using h1, by simpa [at3] using h2, by simpa [at3] using h3, by simpa [at3] using h4, by simpa [at3] using h5⟩
  · rintro ⟨a, b, c, rfl, h1, h2, h3, h4, h5⟩
    simp [at3, h1, h2, h3, h4, h5]
theorem diffs_asc (v : Int) (k : Nat) : (diffsK v k).Pairwise (· < ·) := by
  unfold diffsK
  refine List.Pairwise.filter _ ?_
  rw [List.pairwise_map]
  exact List.pairwise_lt_range.imp fun {a b} h => by omega
theorem diffs_mem {v : Int} {k : Nat} {d : Int} : d ∈ diffsK v k ↔ 1 ≤ d ∧ d ≤ k ∧ (v ≠ 15 ∨ d ≠ 5) := by
  simp only [diffsK, List.mem_filter, List.mem_map, List.mem_range, Bool.or_eq_true, decide_eq_true_eq]
  constructor
  · rintro ⟨⟨j, hj, rfl⟩, h⟩
    exact ⟨by omega, by omega, h⟩
  · rintro ⟨h1, h2, h3⟩
    exact ⟨⟨(d - 1).toNat, by omega, by omega⟩, h3⟩
theorem sortI_asc (l : List Int) : (sortI l).Pairwise (· ≤ ·) := by
  have := List.pairwise_mergeSort (le := fun (x y : Int) => decide (x ≤ y)) (by intro a b c; simp; omega) (by intro a b; simp; omega) l
  exact this.imp fun {a b} h => by simpa using h
theorem sortI_perm (l : List Int) : (sortI l).Perm l := List.mergeSort_perm l _
theorem asc_of {l : List Int} (h : l.Pairwise (· ≤ ·)) (hn : l.Nodup) : l.Pairwise (· < ·) := by
  have : l.Pairwise fun x y => x ≤ y ∧ x ≠ y := List.Pairwise.and h hn
  exact this.imp fun {a b} h => by omega
theorem asc_nodup {l : List Int} (h : l.Pairwise (· < ·)) : l.Nodup := h.imp fun {a b} h => by omega
theorem cat_len {v : Int} {F : Nat → List Int} : ∀ n, (∀ j, j < n → triB v (F j) = true) → (catF n F).length = 3 * n
  | 0, _ => rfl
  | n + 1, h => by
    obtain ⟨a, b, c, e, _⟩ := triB_iff.1 (h n (by omega))
    rw [catF_succ, List.length_append, cat_len n (fun j hj => h j (by omega)), e]
    simp; omega
theorem cat_mem {n : Nat} {F : Nat → List Int} {d : Int} : d ∈ catF n F ↔ ∃ j, j < n ∧ d ∈ F j := by
  simp [catF, List.mem_flatMap]
theorem cat_bound {v : Int} {n : Nat} {F : Nat → List Int} (h : ∀ j, j < n → triB v (F j) = true) {d : Int} (hd : d ∈ catF n F) : 1 ≤ d ∧ d ≤ (v - 1) / 2 := by
  obtain ⟨j, hj, hm⟩ := cat_mem.1 hd
  obtain ⟨a, b, c, e, h1, h2, h3, h4, _⟩ := triB_iff.1 (h j hj)
  rw [e] at hm
  simp only [List.mem_cons, List.not_mem_nil, or_false] at hm
  omega
theorem half_nat {v : Int} (hv : dfV v = true) : (((v - 1) / 2).toNat : Int) = (v - 1) / 2 := by
  simp only [dfV, Bool.or_eq_true, decide_eq_true_eq] at hv
  rcases hv with (rfl | rfl) | rfl <;> decide
theorem fam_same {v : Int} (hv : dfV v = true) (n : Nat) (F : Nat → List Int) : famP v n F = famB v n F := by
  have hh := half_nat hv
  rw [Bool.eq_iff_iff]
  simp only [famP, famB, okP, okD, Bool.and_eq_true, List.all_eq_true, List.mem_range, Bool.or_eq_true, decide_eq_true_eq]
  constructor
  · rintro ⟨h1, h2⟩
    have ht : ∀ j, j < n → triB v (F j) = true := fun j hj => (h1 j hj).1
    have hp := sortI_perm (catF n F)
    have hnd : (catF n F).Nodup := hp.nodup_iff.1 (by rw [h2]; exact asc_nodup (diffs_asc v _))
    have h5 : ∀ d ∈ catF n F, v ≠ 15 ∨ d ≠ 5 := fun d hd => by
      have : d ∈ diffs v := by rw [← h2]; exact hp.mem_iff.2 hd
      exact (diffs_mem.1 this).2.2
    refine ⟨⟨fun j hj => ⟨ht j hj, ?_⟩, ?_⟩, ?_⟩
    · rcases (h1 j hj).2 with e | hlt
      · exact .inl e
      · by_cases e : j = 0
        · exact .inl e
        · refine .inr ?_
          obtain ⟨a, b, c, ea, a1, a2, a3, _⟩ := triB_iff.1 (ht (j - 1) (by omega))
          obtain ⟨a', b', c', ea', b1, b2, b3, _⟩ := triB_iff.1 (ht j hj)
          rw [ea, ea'] at hlt ⊢
          simp only [at3]
          simp only [List.getElem?_cons_zero, Option.getD_some]
          rcases cmp1_cases a a' with ⟨hc, _⟩ | ⟨hc, _⟩ | ⟨hc, he⟩
          · exact hc
          · exfalso
            -- the same number in two triples
            have hsplit : catF n F = catF j F ++ ((List.range (n - j)).flatMap fun i => F (j + i)) := by
              unfold catF
              rw [show n = j + (n - j) by omega, List.range_add, List.flatMap_append, List.flatMap_map, Nat.add_sub_cancel_left]
            rw [hsplit, List.nodup_append] at hnd
            refine hnd.2.2 a ?_ a ?_ rfl
            · exact cat_mem.2 ⟨j - 1, by omega, by rw [ea]; simp⟩
            · refine List.mem_flatMap.2 ⟨0, List.mem_range.2 (by omega), ?_⟩
              rw [Nat.add_zero, ea', hc]
              simp
          · exfalso
            simp only [cmpL, he] at hlt
            simp at hlt
    · unfold baseD
      split
      · rename_i e
        rw [List.nodup_append]
        refine ⟨by simp, hnd, ?_⟩
        intro x hx y hy exy
        simp at hx
        rcases h5 y hy with h | h
        · exact h e
        · exact h (by omega)
      · simpa using hnd
    · rw [← cat_len n ht, ← hp.length_eq, h2]
  · rintro ⟨⟨h1, h2⟩, h3⟩
    have ht : ∀ j, j < n → triB v (F j) = true := fun j hj => (h1 j hj).1
    have hnd : (catF n F).Nodup := (List.nodup_append.1 h2).2.1
    refine ⟨fun j hj => ⟨ht j hj, ?_⟩, ?_⟩
    · rcases (h1 j hj).2 with e | hlt
      · exact .inl e
      · by_cases e : j = 0
        · exact .inl e
        · refine .inr ?_
          obtain ⟨a, b, c, ea, _⟩ := triB_iff.1 (ht (j - 1) (by omega))
          obtain ⟨a', b', c', ea', _⟩ := triB_iff.1 (ht j hj)
          rw [ea, ea'] at hlt ⊢
          simp only [at3, List.getElem?_cons_zero, Option.getD_some] at hlt
          simp [cmpL, cmp1, hlt]
    · have hasc := asc_of (sortI_asc (catF n F)) ((sortI_perm _).nodup_iff.2 hnd)
      have hsub : ∀ d ∈ catF n F, d ∈ diffs v := fun d hd => by
        have hb := cat_bound ht hd
        refine diffs_mem.2 ⟨hb.1, by omega, ?_⟩
        by_cases e : v = 15
        · refine .inr fun e5 => ?_
          have hm : (5 : Int) ∈ baseD v := by simp [baseD, e]
          exact (List.nodup_append.1 h2).2.2 5 hm d hd e5.symm
        · exact .inl e
      refine asc_unique hasc (diffs_asc v _) fun d => ?_
      rw [(sortI_perm _).mem_iff]
      refine ⟨hsub d, fun hd => ?_⟩
      exact sub_back hnd hsub (by rw [cat_len n ht]; exact Nat.le_of_eq h3.symm) d hd
end Go.Proofs.Ytahgialnhomefaa

namespace Go.Proofs.Ytahgialnhomefaa
open Go.RowKit Go.Maps
theorem dfV_half {v : Int} (h : dfV v = true) : (v - 1).tdiv 2 = (v - 1) / 2 ∧ 7 ≤ v ∧ v ≤ 15 ∧ 3 ≤ (v - 1) / 2 ∧ (v - 1) / 2 ≤ 7 := by
  simp only [dfV, Bool.or_eq_true, decide_eq_true_eq] at h
  rcases h with (rfl | rfl) | rfl <;> decide
theorem diffsK_succ (v : Int) (k : Nat) : diffsK v (k + 1) = diffsK v k ++ if decide (v ≠ 15) || decide (((k : Int) + 1) ≠ 5) then [(k : Int) + 1] else [] := by
  simp only [diffsK, List.range_succ, List.map_append, List.filter_append, List.map_cons, List.map_nil]
  congr 1
  by_cases e1 : v = 15 <;> by_cases e2 : (k : Int) + 1 = 5 <;> simp [e1, e2]
theorem diffsK_len (v : Int) (k : Nat) : (diffsK v k).length ≤ k := by
  unfold diffsK
  exact Nat.le_trans (List.length_filter_le _ _) (by simp)
end Go.Proofs.Ytahgialnhomefaa

namespace Go.Proofs.Ytahgialnhomefaa
open Go.RowKit Go.Maps
/-- Returns v; only draws. -/
def RQ (v : Value) (w : World) (e : Ending) (w' : World) : Prop := e = .returned v ∧ ∃ n, w' = w.drewN n
end Go.Proofs.Ytahgialnhomefaa

namespace Go.Proofs.Ytahgialnhomefaa
open Go.RowKit Go.Maps
end Go.Proofs.Ytahgialnhomefaa

namespace Go.Proofs.Ytahgialnhomefaa
open Go.RowKit Go.Maps
def msk (L : List Int) : Nat := L.foldl (fun m d => m ||| 2 ^ d.toNat) 0
theorem msk_snoc (L : List Int) (d : Int) : msk (L ++ [d]) = msk L ||| 2 ^ d.toNat := by simp [msk, List.foldl_append]
theorem foldM_test (t : Nat) : ∀ (L : List Int) (m : Nat), (L.foldl (fun m d => m ||| 2 ^ d.toNat) m).testBit t = (m.testBit t || L.any fun d => decide (d.toNat = t))
  | [], m => by simp
  | d :: L, m => by
    rw [List.foldl_cons, foldM_test t L, Nat.testBit_or, Nat.testBit_two_pow, List.any_cons, Bool.or_assoc]
theorem msk_test (L : List Int) (t : Nat) : (msk L).testBit t = L.any fun d => decide (d.toNat = t) := by
  rw [msk, foldM_test]; simp
end Go.Proofs.Ytahgialnhomefaa

namespace Go.Proofs.Ytahgialnhomefaa
open Go.RowKit Go.Maps
theorem foldM_lt : ∀ (L : List Int) (m : Nat), m < 256 → (∀ d ∈ L, 1 ≤ d ∧ d ≤ 7) → L.foldl (fun m d => m ||| 2 ^ d.toNat) m < 256
  | [], m, h, _ => h
  | d :: L, m, h, hd => by
    rw [List.foldl_cons]
    have hq := hd d (List.mem_cons_self)
    refine foldM_lt L _ ?_ fun e he => hd e (List.mem_cons_of_mem _ he)
    refine Nat.or_lt_two_pow (n := 8) h ?_
    exact Nat.pow_lt_pow_right (by decide) (by omega)
theorem msk_lt {L : List Int} (h : ∀ d ∈ L, 1 ≤ d ∧ d ≤ 7) : msk L < 256 := foldM_lt L 0 (by decide) h
theorem bits_small : ∀ t : Fin 8, ∀ u : Fin 256, bits .and .i64 (u.val : Int) ((2 ^ t.val : Nat) : Int) = ((u.val &&& 2 ^ t.val : Nat) : Int) ∧ bits .or .i64 (u.val : Int) ((2 ^ t.val : Nat) : Int) = ((u.val ||| 2 ^ t.val : Nat) : Int) := by
  decide +kernel
theorem and_pow_ne : ∀ t : Fin 8, ∀ u : Fin 256, decide (u.val &&& 2 ^ t.val ≠ 0) = u.val.testBit t.val := by
  decide +kernel
/-- Is d among L: the bit says it. -/
theorem bit_in {L : List Int} (h : ∀ d ∈ L, 1 ≤ d ∧ d ≤ 7) {d : Int} (h1 : 1 ≤ d) (h7 : d ≤ 7) : (bits .and .i64 (msk L : Int) ((2 ^ d.toNat : Nat) : Int) != 0) = decide (d ∈ L) ∧ bits .or .i64 (msk L : Int) ((2 ^ d.toNat : Nat) : Int) = (msk (L ++ [d]) : Int) := by
  have hb := bits_small ⟨d.toNat, by omega⟩ ⟨msk L, msk_lt h⟩
  simp only at hb
  refine ⟨?_, by rw [hb.2, msk_snoc]⟩
  rw [hb.1, Bool.eq_iff_iff]
  simp only [bne_iff_ne, ne_eq, decide_eq_true_eq]
  have e1 : (¬ ((msk L &&& 2 ^ d.toNat : Nat) : Int) = 0) ↔ (msk L &&& 2 ^ d.toNat ≠ 0) := by omega
  have e2 := and_pow_ne ⟨d.toNat, by omega⟩ ⟨msk L, msk_lt h⟩
  simp only at e2
  rw [e1, ← decide_eq_true_iff (p := msk L &&& 2 ^ d.toNat ≠ 0), e2, msk_test, List.any_eq_true]
  constructor
  · rintro ⟨e, he, hq⟩
    have := h e he
    simp at hq
    have : e = d := by omega
    exact this ▸ he
  · intro hd
    exact ⟨d, hd, by simp⟩
end Go.Proofs.Ytahgialnhomefaa

namespace Go.Proofs.Ytahgialnhomefaa
open Go.RowKit
theorem rnGo_iff {v : Int} : ∀ {l seen : List Int}, rnGo v seen l = true ↔ (∀ a ∈ l, 0 ≤ a ∧ a < v) ∧ l.Nodup ∧ ∀ a ∈ l, a ∉ seen
  | [], seen => by simp [rnGo]
  | b :: r, seen => by
    simp only [rnGo, Bool.and_eq_true, rnGo_iff (l := r), inP, decide_eq_true_eq, Bool.not_eq_true', decide_eq_false_iff_not, List.forall_mem_cons, List.nodup_cons, List.mem_append, List.mem_singleton, not_or]
    constructor
    · rintro ⟨⟨h1, h2⟩, h3, h4, h5⟩
      exact ⟨⟨h1, h3⟩, ⟨fun e => (h5 b e).2 rfl, h4⟩, h2, fun a ha => (h5 a ha).1⟩
    · rintro ⟨⟨h1, h3⟩, ⟨h6, h4⟩, h2, h5⟩
      exact ⟨⟨h1, h2⟩, h3, h4, fun a ha => ⟨h5 a ha, fun e => h6 (e ▸ ha)⟩⟩
theorem isRen_iff {n : Nat} {p : List Int} : isRen (n : Int) p = true ↔ p.length = n ∧ (∀ a ∈ p, 0 ≤ a ∧ a < (n : Int)) ∧ p.Nodup := by
  simp only [isRen, Bool.and_eq_true, decide_eq_true_eq, rnGo_iff]
  constructor
  · rintro ⟨h1, h2, h3, _⟩
    exact ⟨by omega, h2, h3⟩
  · rintro ⟨h1, h2, h3⟩
    exact ⟨by omega, h2, h3, by simp⟩
theorem nodup_of_cover {α : Type} [DecidableEq α] {l m : List α} (hn : l.Nodup) (hs : ∀ x ∈ l, x ∈ m) (hl : m.length ≤ l.length) : m.Nodup := by
  apply Classical.byContradiction
  intro hnot
  rw [List.Nodup, List.pairwise_iff_getElem] at hnot
  have ⟨i, j, hi, hj, hij, he⟩ : ∃ i j, ∃ (hi : i < m.length) (hj : j < m.length), i < j ∧ m[i] = m[j] := by
    apply Classical.byContradiction
    intro hc
    exact hnot fun i j hi hj hij he => hc ⟨i, j, hi, hj, hij, he⟩
  have h := List.Nodup.length_le_of_subset (l₂ := m.eraseIdx j) hn fun x hx => by
    obtain ⟨k, hk, rfl⟩ := List.getElem_of_mem (hs x hx)
    rw [List.mem_eraseIdx_iff_getElem]
    by_cases e : k = j
    · subst e
      exact ⟨i, hi, by omega, he⟩
    · exact ⟨k, hk, e, rfl⟩
  rw [List.length_eraseIdx, if_pos hj] at h
  omega
theorem msk_lt' {L : List Int} (h : ∀ d ∈ L, 0 ≤ d ∧ d ≤ 7) : msk L < 256 := by
  suffices ∀ (L : List Int) (m : Nat), m < 256 → (∀ d ∈ L, 0 ≤ d ∧ d ≤ 7) → L.foldl (fun m d => m ||| 2 ^ d.toNat) m < 256 from this L 0 (by decide) h
  intro L
  induction L with
  | nil => exact fun m hm _ => hm
  | cons d L ih =>
    intro m hm hd
    rw [List.foldl_cons]
    have hq := hd d (List.mem_cons_self)
    refine ih _ ?_ fun e he => hd e (List.mem_cons_of_mem _ he)
    refine Nat.or_lt_two_pow (n := 8) hm ?_
    exact Nat.pow_lt_pow_right (by decide) (by omega)
theorem bit_or {L : List Int} (h : ∀ d ∈ L, 0 ≤ d ∧ d ≤ 7) {d : Int} (h1 : 0 ≤ d) (h7 : d ≤ 7) : bits .or .i64 (msk L : Int) ((2 ^ d.toNat : Nat) : Int) = (msk (L ++ [d]) : Int) := by
  have hb := bits_small ⟨d.toNat, by omega⟩ ⟨msk L, msk_lt' h⟩
  simp only at hb
  rw [hb.2, msk_snoc]
theorem isRen_msk {n : Nat} {p : List Int} (hl : p.length = n) (hr : ∀ a ∈ p, 0 ≤ a ∧ a < (n : Int)) : isRen (n : Int) p = decide (msk p = 2 ^ n - 1) := by
  have hR : ((List.range n).map fun (k : Nat) => (k : Int)).Nodup := by
    rw [List.Nodup, List.pairwise_map]
    exact List.nodup_range.imp fun h e => h (by omega)
  rw [Bool.eq_iff_iff, isRen_iff, decide_eq_true_eq]
  have hm : msk p = 2 ^ n - 1 ↔ ∀ k : Nat, k < n → (k : Int) ∈ p := by
    constructor
    · intro h k hk
      have ht : (msk p).testBit k = true := by rw [h, Nat.testBit_two_pow_sub_one]; simpa using hk
      rw [msk_test, List.any_eq_true] at ht
      obtain ⟨d, hd, e⟩ := ht
      have := hr d hd
      simp at e
      have : d = (k : Int) := by omega
      exact this ▸ hd
    · intro h
      apply Nat.eq_of_testBit_eq
      intro k
      rw [msk_test, Nat.testBit_two_pow_sub_one, Bool.eq_iff_iff, List.any_eq_true, decide_eq_true_eq]
      constructor
      · rintro ⟨d, hd, e⟩
        have := hr d hd
        simp at e
        omega
      · intro hk
        exact ⟨_, h k hk, by simp⟩
  rw [hm]
  constructor
  · rintro ⟨_, _, hn⟩ k hk
    refine sub_back hn (m := (List.range n).map fun (k : Nat) => (k : Int)) (fun x hx => ?_) (by simp [hl]) _ (List.mem_map.2 ⟨k, List.mem_range.2 hk, rfl⟩)
    have := hr x hx
    exact List.mem_map.2 ⟨x.toNat, List.mem_range.2 (by omega), by omega⟩
  · intro h
    refine ⟨hl, hr, nodup_of_cover hR (fun x hx => ?_) (by simp [hl])⟩
    obtain ⟨k, hk, rfl⟩ := List.mem_map.1 hx
    exact h k (List.mem_range.1 hk)
end Go.Proofs.Ytahgialnhomefaa

namespace Go.Proofs.Ytahgialnhomefaa
open Go.RowKit
def ptsB (x : Blk) : List Int := [x.a, x.b, x.c]
def allP (L : List Blk) : List Int := L.flatMap ptsB
/-- Good blocks of at most 15 points. -/
def okB (x : Blk) : Prop := 0 ≤ x.a ∧ x.a < x.b ∧ x.b < x.c ∧ x.c < 15
theorem okB_small {x : Blk} (h : okB x) : ∀ z ∈ ptsB x, 0 ≤ z ∧ z < 15 := fun z hz => by
  obtain ⟨h1, h2, h3, h4⟩ := h
  simp only [ptsB, List.mem_cons, List.not_mem_nil, or_false] at hz
  omega
theorem allP_small {L : List Blk} (h : ∀ x ∈ L, okB x) : ∀ z ∈ allP L, 0 ≤ z ∧ z < 15 := fun z hz => by
  obtain ⟨x, hx, hz⟩ := List.mem_flatMap.1 hz
  exact okB_small (h x hx) z hz
def mkB (x : Blk) : Nat := 2 ^ x.a.toNat + 2 ^ x.b.toNat + 2 ^ x.c.toNat
theorem pow3 : ∀ a b c : Fin 15, a < b → b < c → 2 ^ a.val + 2 ^ b.val + 2 ^ c.val = 2 ^ a.val ||| 2 ^ b.val ||| 2 ^ c.val := by decide +kernel
theorem mkB_msk {x : Blk} (h : okB x) : mkB x = msk (ptsB x) := by
  obtain ⟨h1, h2, h3, h4⟩ := h
  have := pow3 ⟨x.a.toNat, by omega⟩ ⟨x.b.toNat, by omega⟩ ⟨x.c.toNat, by omega⟩ (by simp [Fin.lt_def]; omega) (by simp [Fin.lt_def]; omega)
  simpa [mkB, msk, ptsB] using this
theorem msk_lt15 {L : List Int} (h : ∀ d ∈ L, 0 ≤ d ∧ d < 15) : msk L < 32768 := by
  suffices ∀ (L : List Int) (m : Nat), m < 32768 → (∀ d ∈ L, 0 ≤ d ∧ d < 15) → L.foldl (fun m d => m ||| 2 ^ d.toNat) m < 32768 from this L 0 (by decide) h
  intro L
  induction L with
  | nil => exact fun m hm _ => hm
  | cons d L ih =>
    intro m hm hd
    rw [List.foldl_cons]
    have hq := hd d (List.mem_cons_self)
    refine ih _ ?_ fun e he => hd e (List.mem_cons_of_mem _ he)
    refine Nat.or_lt_two_pow (n := 15) hm ?_
    exact Nat.pow_lt_pow_right (by decide) (by omega)
theorem msk_mem {L : List Int} (h : ∀ d ∈ L, 0 ≤ d) {t : Nat} : (msk L).testBit t = true ↔ (t : Int) ∈ L := by
  rw [msk_test, List.any_eq_true]
  constructor
  · rintro ⟨e, he, hq⟩
    have := h e he
    simp at hq
    have : e = (t : Int) := by omega
    exact this ▸ he
  · intro ht
    exact ⟨_, ht, by simp⟩
theorem msk_append (L M : List Int) : msk (L ++ M) = msk L ||| msk M := by
  apply Nat.eq_of_testBit_eq
  intro t
  rw [Nat.testBit_or, msk_test, msk_test, msk_test, List.any_append]
theorem bits15 {x y : Nat} (hx : x < 32768) (hy : y < 32768) : bits .and .i64 (x : Int) (y : Int) = ((x &&& y : Nat) : Int) ∧ bits .or .i64 (x : Int) (y : Int) = ((x ||| y : Nat) : Int) := by
  have h := bits_nat .i64 63 (by decide) (fun n h0 h1 => IntWalk.i64_in _ (by omega)) x y (by omega) (by omega)
  exact h
end Go.Proofs.Ytahgialnhomefaa

namespace Go.Proofs.Ytahgialnhomefaa
open Go.RowKit
theorem touch_iff {x y : Blk} : touch x y = true ↔ ∃ z ∈ ptsB x, z ∈ ptsB y := by
  unfold touch comP ptsB hasB
  obtain ⟨a, b, c⟩ := x
  obtain ⟨d, e, f⟩ := y
  dsimp only
  constructor
  · intro h
    split at h
    · exact ⟨a, by simp, by simp_all; omega⟩
    · split at h
      · exact ⟨b, by simp, by simp_all; omega⟩
      · split at h
        · exact ⟨c, by simp, by simp_all; omega⟩
        · simp at h
  · rintro ⟨z, hz, hy⟩
    simp only [List.mem_cons, List.not_mem_nil, or_false] at hz hy
    split
    · rfl
    · split
      · rfl
      · split
        · rfl
        · simp_all
          omega
def dmk (L : List Blk) : Nat := msk (allP L)
theorem dmk_snoc (L : List Blk) (x : Blk) : dmk (L ++ [x]) = dmk L ||| msk (ptsB x) := by
  simp [dmk, allP, msk_append]
theorem dmk_and {L : List Blk} {x : Blk} (hL : ∀ y ∈ L, okB y) (hx : okB x) : (dmk L &&& mkB x ≠ 0) ↔ L.any (touch x) = true := by
  rw [mkB_msk hx, List.any_eq_true]
  have hs : ∀ d ∈ allP L, 0 ≤ d := fun d hd => (allP_small hL d hd).1
  have hsx : ∀ d ∈ ptsB x, 0 ≤ d := fun d hd => (okB_small hx d hd).1
  constructor
  · intro h
    obtain ⟨t, ht⟩ : ∃ t, (dmk L &&& msk (ptsB x)).testBit t = true := Nat.exists_testBit_of_ne_zero h
    rw [Nat.testBit_and, Bool.and_eq_true] at ht
    have h1 := (msk_mem hs).1 ht.1
    have h2 := (msk_mem hsx).1 ht.2
    obtain ⟨y, hy, hz⟩ := List.mem_flatMap.1 h1
    exact ⟨y, hy, touch_iff.2 ⟨_, h2, hz⟩⟩
  · rintro ⟨y, hy, ht⟩ e
    obtain ⟨z, hz, hzy⟩ := touch_iff.1 ht
    have hz0 := hsx z hz
    have h1 : (dmk L).testBit z.toNat = true := (msk_mem hs).2 (by rw [Int.toNat_of_nonneg hz0]; exact List.mem_flatMap.2 ⟨y, hy, hzy⟩)
    have h2 : (msk (ptsB x)).testBit z.toNat = true := (msk_mem hsx).2 (by rw [Int.toNat_of_nonneg hz0]; exact hz)
    have : (dmk L &&& msk (ptsB x)).testBit z.toNat = true := by rw [Nat.testBit_and, h1, h2]; rfl
    rw [e] at this
    simp at this
/-- What the model's loop does with one block more. -/
theorem dmk_step {L : List Blk} {x : Blk} (hL : ∀ y ∈ L, okB y) (hx : okB x) : (bits .and .i64 (dmk L : Int) (mkB x : Int) != 0) = L.any (touch x) ∧ bits .or .i64 (dmk L : Int) (mkB x : Int) = (dmk (L ++ [x]) : Int) := by
  have h1 : dmk L < 32768 := msk_lt15 (allP_small hL)
  have h2 : mkB x < 32768 := by rw [mkB_msk hx]; exact msk_lt15 (okB_small hx)
  obtain ⟨e1, e2⟩ := bits15 h1 h2
  refine ⟨?_, by rw [e2, dmk_snoc, mkB_msk hx]⟩
  rw [e1, Bool.eq_iff_iff, ← dmk_and hL hx]
  simp only [bne_iff_ne, ne_eq]
  omega
end Go.Proofs.Ytahgialnhomefaa

namespace Go.Proofs.Ytahgialnhomefaa
open Go.RowKit Go.Maps
/-- The numbers below k, other than i, of the blocks that touch a block. -/
def meetN (x : Blk) (i : Nat) (bs : List Blk) (k : Nat) : List Nat := (List.range k).filter fun q => decide (q ≠ i) && touch (bs[q]?.getD default) x
def meetI (x : Blk) (i : Nat) (bs : List Blk) (k : Nat) : List Int := (meetN x i bs k).map fun (q : Nat) => (q : Int)
theorem meetI_succ (x : Blk) (i : Nat) (bs : List Blk) (k : Nat) : meetI x i bs (k + 1) = meetI x i bs k ++ if (decide (k ≠ i) && touch (bs[k]?.getD default) x) = true then [(k : Int)] else [] := by
  unfold meetI meetN
  rw [List.range_succ, List.filter_append, List.map_append]
  congr 1
  rw [List.filter_cons]
  split <;> rfl
theorem meetI_len (x : Blk) (i : Nat) (bs : List Blk) (k : Nat) : (meetI x i bs k).length ≤ k := by
  unfold meetI meetN
  rw [List.length_map]
  exact Nat.le_trans (List.length_filter_le _ _) (by simp)
def meetF (v : Int) (bs : List Blk) (i : Int) : List Int × Int := if isSysImpl v bs then (if inP (bs.length : Int) i then (meetI (bs[i.toNat]?.getD default) i.toNat bs bs.length, 0) else ([], 2)) else ([], 1)
theorem meetF_len (v : Int) (bs : List Blk) (i : Int) : (meetF v bs i).1.length ≤ bs.length := by
  unfold meetF
  split
  · split
    · exact meetI_len _ _ _ _
    · simp
  · simp
set_option maxRecDepth 100000 in
set_option maxHeartbeats 1000000 in
theorem MeetingBlocks_any (v : Int) (s : Value) (bs : List Blk) (i : Int) (w : World) (h : SB w s bs) :
    Calls Try.prog 75 #[.agg #[.int .i64 v, s], .int .i64 i] w (RJ (meetF v bs i) w) := by
  have hs := h.slice
  have HI := Lib.hid fun W (hb : Below w.heap.size w W) => IsSystem_any v s bs W (h.below hb (Nat.le_refl _))
  have HSB := Lib.hid h
  have hlen := h.2.1
  clear h
  obtain ⟨a0, c0, rfl⟩ := hs
  cases hi : isSysImpl v bs with
  | false =>
    have HV := Lib.hid (show meetF v bs i = ([], 1) by simp [meetF, hi])
    rw [HV.out]
    rw [hi] at HI
    clear hi HSB
    go_enter Try.func75, Try.ntmps75
    go_wp2_with fail
    refine (HI.out _ ((Below.refl _ _).alloc (Nat.le_refl _) _)).mono ?_
    rintro e w1 ⟨rfl, hb1⟩
    have hb2 := below_new hb1
    clear hb1
    go_wp2
    go_ret2
    exact ⟨_, rfl, OwnJ.nil _ _, hb2⟩
  | true =>
    rw [hi] at HI
    have HN := Lib.hid fun a0 c0 W => isBlockNumber_any v a0 bs.length c0 i W
    cases hn : inP (bs.length : Int) i with
    | false =>
      have HV := Lib.hid (show meetF v bs i = ([], 2) by simp [meetF, hi, hn])
      rw [HV.out]
      rw [hn] at HN
      clear hi hn HSB
      go_enter Try.func75, Try.ntmps75
      go_wp2_with fail
      refine (HI.out _ ((Below.refl _ _).alloc (Nat.le_refl _) _)).mono ?_
      rintro e w1 ⟨rfl, hb1⟩
      have hb2 := below_new hb1
      have q0 := cell_new hb1 0 rfl
      have q1 := cell_new hb1 1 rfl
      have hz := hb2.size
      clear hb1
      go_wp2_with fail
      refine (HN.out _ _ _).mono ?_
      rintro e w2 ⟨rfl, hb3⟩
      go_wp2
      go_ret2
      exact ⟨_, rfl, OwnJ.nil _ _, hb2.trans (hb3.mono hz)⟩
    | true =>
      have hij : 0 ≤ i ∧ i < (bs.length : Int) := by simpa [inP] using hn
      obtain ⟨j, rfl⟩ : ∃ j : Nat, i = (j : Int) := ⟨i.toNat, by omega⟩
      have hj : j < bs.length := by omega
      have HV := Lib.hid (show meetF v bs (j : Int) = (meetI (bs[j]?.getD default) j bs bs.length, 0) by simp [meetF, hi, hn])
      rw [HV.out]
      rw [hn] at HN
      have j0 : (0 : Int) ≤ (j : Int) := by omega
      have j1 : (j : Int) < (bs.length : Int) := by omega
      clear hi hn hij HV
      obtain ⟨x, hx⟩ : ∃ x, x = bs[j]?.getD default := ⟨_, rfl⟩
      rw [← hx]
      have HX := Lib.hid hx
      clear hx
      go_enter Try.func75, Try.ntmps75
      go_wp2_with fail
      refine (HI.out _ ((Below.refl _ _).alloc (Nat.le_refl _) _)).mono ?_
      rintro e wq ⟨rfl, hbq⟩
      have hb2 := below_new hbq
      have q0 := cell_new hbq 0 rfl
      have q1 := cell_new hbq 1 rfl
      have hlq := block_lt_of_cell q0
      clear hbq
      go_wp2_with fail
      refine (HN.out _ _ _).mono ?_
      rintro e w1 ⟨rfl, hb3⟩
      have p1 := (hb3.cell (p := ⟨w.heap.size, 1, none⟩) hlq).trans q1
      have hl1 : w.heap.size < w1.heap.size := by have := hb3.size; omega
      have HB1 := Lib.hid (hb2.trans (hb3.mono hb2.size))
      clear hb2 hb3 q0 q1 hlq HI HN
      rcases HSB.out.2.2 with ⟨_, _, _, hnil⟩ | ⟨b, off, cap, hv, hblt, hbl⟩
      · exfalso; rw [hnil] at hj; simp at hj
      simp at hv
      obtain ⟨rfl, rfl⟩ := hv
      have HBL := Lib.hid (hbl.below HB1.out hblt)
      have hb1lt : b < w1.heap.size := by have := HB1.out.size; omega
      obtain ⟨x1, x2, x3⟩ := HBL.out j hj
      rw [← HX.out] at x1 x2 x3
      have HW := Lib.hid fun W => with_any _ _ x W MeetV.nil
      clear hbl
      obtain ⟨xa, xb, xc⟩ := x
      unfold bv at HW
      dsimp only at x1 x2 x3 HW
      go_wp2_with fail
      refine (HW.out _).mono ?_
      rintro e w2 ⟨u, rfl, hmv, hb4⟩
      have hz2 := hb4.size
      have p2 := (hb4.cell (p := ⟨w.heap.size, 1, none⟩) hl1).trans p1
      have HBL2 := Lib.hid (show Blks w2 b off bs from HBL.out.below hb4 hb1lt)
      have HB2 := Lib.hid (HB1.out.trans (hb4.mono HB1.out.size))
      have hl2 : w.heap.size < w2.heap.size := by omega
      have hb2lt : b < w2.heap.size := by omega
      clear hb4 x1 x2 x3 p1 HBL
      rcases hmv.call2 with ⟨hu, _⟩ | ⟨pc, pm, hu, hcall⟩
      · exfalso; cases hu
        cases hmv
      subst hu
      have HMV := Lib.hid hmv
      clear hcall hmv HW
      go_wp2_with fail
      go_loopw [7, 26] (fun o i wr => ∃ k : Nat, k ≤ bs.length ∧ i = .int .i64 k ∧ Below w2.heap.size w2 wr ∧ OwnJ wr w2.heap.size o (meetI ⟨xa, xb, xc⟩ j bs k) ∧ ∃ a n c, o = .slice a n c) (fun _ i _ => bs.length - (intOf i).toNat)
      case atStart => exact ⟨0, Nat.zero_le _, rfl, Below.refl _ _, OwnJ.nil _ _, _, _, _, rfl⟩
      case round =>
        obtain ⟨k, hk, rfl, hB, hO, hform⟩ := hrel
        have hz := hB.size
        have r1 := (hB.cell (p := ⟨w.heap.size, 1, none⟩) hl2).trans p2
        obtain ⟨a3, n3, c3, rfl⟩ := hform
        have HO := Lib.hid hO
        clear hO
        by_cases hkl : k < bs.length
        · obtain ⟨y1, y2, y3⟩ := (HBL2.out.below hB hb2lt) k hkl
          have hsu := meetI_succ ⟨xa, xb, xc⟩ j bs k
          have hln := meetI_len ⟨xa, xb, xc⟩ j bs k
          obtain ⟨y, hy⟩ : ∃ y, y = bs[k]?.getD default := ⟨_, rfl⟩
          rw [← hy] at y1 y2 y3 hsu
          have hcl := fun W (hb : Below wr.heap.size wr W) => (HMV.out.later (hB.trans (hb.mono hz)) (Nat.le_refl _)).call2
          have HC := Lib.hid fun W (hb : Below wr.heap.size wr W) => (show Calls Try.prog 126 #[bv y, .pointer (some ⟨pc, 0, none⟩), .pointer (some ⟨pm, 0, none⟩)] W (RV (.bool (touch y ⟨xa, xb, xc⟩)) W) by
            rcases hcl W hb with ⟨hq, _⟩ | ⟨pc', pm', hq, hc⟩
            · cases hq
            · cases hq
              have := hc y W (Below.refl _ _)
              simpa using this)
          have g0 : (0 : Int) ≤ (k : Int) := by omega
          have g1 : (k : Int) < (bs.length : Int) := by omega
          clear hcl hy
          obtain ⟨ya, yb, yc⟩ := y
          unfold bv at HC
          dsimp only at y1 y2 y3 HC
          by_cases hkj : k = j
          · have e1 : ((k : Int) != (j : Int)) = false := by simp; omega
            have HS := Lib.hid (show meetI ⟨xa, xb, xc⟩ j bs (k + 1) = meetI ⟨xa, xb, xc⟩ j bs k by rw [hsu]; simp [hkj])
            clear hsu hkj
            go_wp2
            go_roundw
            case rel => exact ⟨k + 1, by omega, by go_num, hB.alloc hz _, by rw [HS.out]; exact HO.out.below ((Below.refl _ _).alloc (Nat.le_refl _) _) (Nat.le_refl _), _, _, _, rfl⟩
            case measure => simp [intOf]; omega
          · have e1 : ((k : Int) != (j : Int)) = true := by simp; omega
            cases hμ : touch ⟨ya, yb, yc⟩ ⟨xa, xb, xc⟩ with
            | false =>
              have HS := Lib.hid (show meetI ⟨xa, xb, xc⟩ j bs (k + 1) = meetI ⟨xa, xb, xc⟩ j bs k by rw [hsu, hμ]; simp)
              rw [hμ] at HC
              clear hsu hkj hμ
              go_wp2_with fail
              refine (HC.out _ ((Below.refl _ _).alloc (Nat.le_refl _) _)).mono ?_
              rintro e w3 ⟨rfl, hb5⟩
              have hb6 := below_new hb5
              clear hb5
              go_wp2
              go_roundw
              case rel => exact ⟨k + 1, by omega, by go_num, hB.trans (hb6.mono hz), by rw [HS.out]; exact HO.out.below hb6 (Nat.le_refl _), _, _, _, rfl⟩
              case measure => simp [intOf]; omega
            | true =>
              have HS := Lib.hid (show meetI ⟨xa, xb, xc⟩ j bs (k + 1) = meetI ⟨xa, xb, xc⟩ j bs k ++ [(k : Int)] by rw [hsu, hμ]; simp [hkj])
              rw [hμ] at HC
              clear hsu hkj hμ
              go_wp2_with fail
              refine (HC.out _ ((Below.refl _ _).alloc (Nat.le_refl _) _)).mono ?_
              rintro e w3 ⟨rfl, hb5⟩
              have hb6 := below_new hb5
              have hz6 := hb6.size
              have HO3 := Lib.hid (HO.out.below hb6 (Nat.le_refl _))
              clear hb5
              go_wp2_with (at_builtin; refine wpList_append_int rfl _ _ rfl w2.heap.size _ (meetI ⟨xa, xb, xc⟩ j bs k) rfl (HO3.out.below ((Below.refl _ _).alloc (Nat.le_refl _) _) (Nat.le_refl _)) _ _ (k : Int) rfl (by simp [go_sem]) (by omega) (by simp; omega) ?_; intro g' cap' w4 hO4 hg4)
              have hrow := HO3.out.row
              have hgo : w3.grownBy w4 (Value.slice a3 n3 c3).ownBlock := gb_trans (World.grownBy_alloc _ _ none) hg4
              have hB3 := hB.trans (hb6.mono hz)
              clear hg4
              go_roundw
              case rel => exact ⟨k + 1, by omega, by go_num, hB3.grown hgo (by omega) (fun j e => hrow j e), by rw [HS.out]; exact hO4, _, _, _, rfl⟩
              case measure => simp [intOf]; omega
        · have e : k = bs.length := by omega
          subst e
          go_wp2
          go_ret2
          exact ⟨_, rfl, ownsRow_base HO.out (by omega), HB2.out.trans (hB.mono (by omega))⟩
end Go.Proofs.Ytahgialnhomefaa

namespace Go.Proofs.Ytahgialnhomefaa
/-- The place of a number in a list, from k on, or -1. -/
def plGo (x : Int) : List Int → Nat → Int
  | [], _ => -1
  | z :: r, k => if z = x then (k : Int) else plGo x r (k + 1)
def place (zs : List Int) (x : Int) : Int := plGo x zs 0
theorem plGo_le (x : Int) : ∀ (l : List Int) (k : Nat), plGo x l k = -1 ∨ ((k : Int) ≤ plGo x l k ∧ plGo x l k < (k : Int) + l.length)
  | [], k => .inl rfl
  | z :: r, k => by
    unfold plGo
    split
    · right; simp; omega
    · rcases plGo_le x r (k + 1) with h | h
      · exact .inl h
      · right; simp; omega
theorem place_le (zs : List Int) (x : Int) : place zs x = -1 ∨ (0 ≤ place zs x ∧ place zs x < zs.length) := by
  have := plGo_le x zs 0
  unfold place
  omega
/-- An ascending list of points. -/
def ptGo (v : Int) : Option Int → List Int → Bool
  | _, [] => true
  | p, a :: r => inP v a && (match p with | none => true | some q => decide (q < a)) && ptGo v (some a) r
def ascGo : Option Int → List Int → Bool
  | _, [] => true
  | p, a :: r => (match p with | none => true | some q => decide (q < a)) && ascGo (some a) r
theorem ptGo_split (v : Int) : ∀ (l : List Int) (p : Option Int), ptGo v p l = (l.all (inP v) && ascGo p l)
  | [], _ => rfl
  | a :: r, p => by
    unfold ptGo ascGo
    rw [ptGo_split v r (some a), List.all_cons]
    cases inP v a <;> cases r.all (inP v) <;> simp
theorem asc_lt : ∀ {l : List Int} {p : Option Int}, ascGo p l = true → (l.Pairwise (· < ·)) ∧ ∀ q, p = some q → ∀ x ∈ l, q < x
  | [], _, _ => ⟨List.Pairwise.nil, by simp⟩
  | a :: r, p, h => by
    unfold ascGo at h
    rw [Bool.and_eq_true] at h
    obtain ⟨h1, h2⟩ := asc_lt h.2
    refine ⟨List.pairwise_cons.2 ⟨fun x hx => h2 a rfl x hx, h1⟩, ?_⟩
    rintro q rfl x hx
    have hq : q < a := by simpa using h.1
    rcases List.mem_cons.1 hx with rfl | hx
    · exact hq
    · have := h2 a rfl x hx; omega
theorem plGo_mono {x y : Int} (hxy : x < y) : ∀ {l : List Int} {k : Nat}, l.Pairwise (· < ·) → 0 ≤ plGo x l k → 0 ≤ plGo y l k → plGo x l k < plGo y l k
  | [], k, _, h, _ => by simp [plGo] at h
  | z :: r, k, hp, hx, hy => by
    rw [List.pairwise_cons] at hp
    unfold plGo at hx hy ⊢
    by_cases h1 : z = x
    · rw [if_pos h1] at hx ⊢
      rw [if_neg (by omega)] at hy ⊢
      have := plGo_le y r (k + 1)
      omega
    · rw [if_neg h1] at hx ⊢
      by_cases h2 : z = y
      · exfalso
        -- x is behind z, so greater
        have hx' : ∃ u ∈ r, u = x := by
          clear hy hp
          induction r generalizing k with
          | nil => simp [plGo] at hx
          | cons u r ih =>
            unfold plGo at hx
            split at hx
            · exact ⟨u, by simp, ‹_›⟩
            · obtain ⟨q, hq, e⟩ := ih (k := k + 1) hx
              exact ⟨q, by simp [hq], e⟩
        obtain ⟨u, hu, rfl⟩ := hx'
        have := hp.1 u hu
        omega
      · rw [if_neg h2] at hy ⊢
        exact plGo_mono hxy hp.2 hx hy
/-- The block's place on the points, if it is there. -/
def onB (pts : List Int) (x : Blk) : Option Blk :=
  if 0 ≤ place pts x.a ∧ 0 ≤ place pts x.b ∧ 0 ≤ place pts x.c then some ⟨place pts x.a, place pts x.b, place pts x.c⟩ else none
def onF (v : Int) (bs : List Blk) (pts : List Int) : Int × List Blk × Int :=
  if isSysImpl v bs then (if decide (3 ≤ pts.length) && ptGo v none pts then ((pts.length : Int), bs.filterMap (onB pts), 0) else (0, [], 2)) else (0, [], 1)
theorem onB_bef {pts : List Int} (hp : pts.Pairwise (· < ·)) {x y x' y' : Blk} (hx : onB pts x = some x') (hy : onB pts y = some y') (h : befB x y = true) : befB x' y' = true := by
  unfold onB at hx hy
  split at hx
  · split at hy
    · rename_i h1 h2
      cases hx; cases hy
      rw [bef_iff] at h ⊢
      dsimp only
      rcases h with h | ⟨h, h' | ⟨h', h''⟩⟩
      · exact .inl (plGo_mono h hp h1.1 h2.1)
      · exact .inr ⟨by rw [h], .inl (plGo_mono h' hp h1.2.1 h2.2.1)⟩
      · exact .inr ⟨by rw [h], .inr ⟨by rw [h'], plGo_mono h'' hp h1.2.2 h2.2.2⟩⟩
    · cases hy
  · cases hx
theorem onL_strict {pts : List Int} (hp : pts.Pairwise (· < ·)) : ∀ {bs : List Blk}, (bs.Pairwise fun x y => befB x y = true) → (bs.filterMap (onB pts)).Pairwise fun x y => befB x y = true
  | [], _ => List.Pairwise.nil
  | b :: r, h => by
    rw [List.pairwise_cons] at h
    rw [List.filterMap_cons]
    split
    · exact onL_strict hp h.2
    · rename_i b' hb
      refine List.pairwise_cons.2 ⟨fun y' hy' => ?_, onL_strict hp h.2⟩
      obtain ⟨y, hy, e⟩ := List.mem_filterMap.1 hy'
      exact onB_bef hp hb e (h.1 y hy)
theorem onL_sorted {v : Int} {bs : List Blk} {pts : List Int} (hi : isSysImpl v bs = true) (hp : ptGo v none pts = true) : sortB (bs.filterMap (onB pts)) = bs.filterMap (onB pts) := by
  rw [ptGo_split, Bool.and_eq_true] at hp
  exact sortB_eq (strict_srt (onL_strict (asc_lt hp.2).1 (sys_strict hi))) (List.Perm.refl _)
theorem onB_in {pts : List Int} {x y : Blk} (h : onB pts x = some y) : (0 ≤ y.a ∧ y.a < pts.length) ∧ (0 ≤ y.b ∧ y.b < pts.length) ∧ (0 ≤ y.c ∧ y.c < pts.length) := by
  unfold onB at h
  split at h
  · cases h
    have h1 := place_le pts x.a
    have h2 := place_le pts x.b
    have h3 := place_le pts x.c
    dsimp only
    omega
  · cases h
theorem filterMap_take {pts : List Int} {bs : List Blk} {k : Nat} (hk : k < bs.length) {x : Blk} (hx : bs[k]? = some x) : (bs.take (k + 1)).filterMap (onB pts) = (bs.take k).filterMap (onB pts) ++ (onB pts x).toList := by
  have e : bs[k] = x := by rw [List.getElem?_eq_getElem hk] at hx; simpa using hx
  rw [List.take_succ_eq_append_getElem hk, List.filterMap_append, e]
  congr 1
theorem onF_len (v : Int) (bs : List Blk) (pts : List Int) : (onF v bs pts).2.1.length ≤ bs.length := by
  unfold onF
  split
  · split
    · exact List.length_filterMap_le _ _
    · simp
  · simp
end Go.Proofs.Ytahgialnhomefaa

namespace Go.Proofs.Ytahgialnhomefaa
open Go.RowKit Go.Maps
def famF (v : Int) (n : Nat) (F : Nat → List Int) : Bool × Int := if dfV v = true then (famB v n F, 0) else (false, 2)
def okP1 (v : Int) (k : Nat) (F : Nat → List Int) : Bool := triB v (F k) && (decide (k = 0) || decide (cmpL (F (k - 1)) (F k) < 0))
theorem okP_succ (v : Int) (k : Nat) (F : Nat → List Int) : okP v (k + 1) F = (okP v k F && okP1 v k F) := by
  unfold okP okP1
  simp [List.range_succ, List.all_append]
theorem okP_false {v : Int} {k n : Nat} {F : Nat → List Int} (hk : k < n) (h : okP1 v k F = false) : okP v n F = false := by
  unfold okP
  rw [List.all_eq_false]
  exact ⟨k, List.mem_range.2 hk, by unfold okP1 at h; simp only [h]; decide⟩
theorem okP_tri {v : Int} {k n : Nat} {F : Nat → List Int} (hk : k < n) (h : okP v n F = true) : triB v (F k) = true := by
  unfold okP at h
  have := List.all_eq_true.1 h k (List.mem_range.2 hk)
  simp only [Bool.and_eq_true] at this
  exact this.1
theorem tri_len {v : Int} {t : List Int} (h : triB v t = true) : t.length = 3 := by
  obtain ⟨a, b, c, rfl, _⟩ := triB_iff.1 h
  rfl
theorem SSB.rows {w : World} {a : Option Addr} {c n : Nat} {F : Nat → List Int} (h : SSB w (.slice a n c) n F) : ∀ k, k < n → ∃ b off a' c', a = some ⟨b, off, none⟩ ∧ b < w.heap.size ∧ w.cell? ⟨b, off + k, none⟩ = some (.slice a' (F k).length c') ∧ IB w (.slice a' (F k).length c') (F k) := fun k hk => by
  rcases h.2 with ⟨h0, _⟩ | ⟨b, off, cap, e, hlt, hr⟩
  · omega
  · simp at e
    obtain ⟨rfl, rfl⟩ := e
    obtain ⟨a', c', hc, hi⟩ := hr k hk
    exact ⟨b, off, a', c', rfl, hlt, hc, hi⟩
theorem IB.three {w : World} {a : Option Addr} {n c : Nat} {t : List Int} (h : IB w (.slice a n c) t) (h3 : t.length = 3) : ∃ b off, a = some ⟨b, off, none⟩ ∧ n = 3 ∧ b < w.heap.size ∧ Ints w b off t := by
  rcases h.2 with ⟨_, _, _, rfl⟩ | ⟨b, off, cap, e, hlt, hr⟩
  · simp at h3
  · simp at e
    obtain ⟨rfl, rfl, rfl⟩ := e
    exact ⟨b, off, rfl, h3, hlt, hr⟩
theorem diffs_ne {v : Int} (hv : dfV v = true) : diffs v ≠ [] ∧ (diffs v).length ≤ 7 := by
  simp only [dfV, Bool.or_eq_true, decide_eq_true_eq] at hv
  rcases hv with (rfl | rfl) | rfl <;> decide
end Go.Proofs.Ytahgialnhomefaa


/- What DoubleSystem answers: plain. -/
import Derived.Test.YtlchcnngikgjjaaSrt
namespace Go.Proofs.Ytlchcnngikgjjaa
def dblB (v : Int) (x : Blk) : List Blk := [⟨x.a, v + x.b, v + x.c⟩, ⟨x.b, v + x.a, v + x.c⟩, ⟨x.c, v + x.a, v + x.b⟩]
def dblP (v : Int) (k : Nat) : List Blk := (List.range k).map fun (a : Nat) => ⟨(a : Int), v + (a : Int), 2 * v⟩
theorem dblP_succ (v : Int) (k : Nat) : dblP v (k + 1) = dblP v k ++ [⟨(k : Int), v + (k : Int), 2 * v⟩] := by simp [dblP, List.range_succ]
theorem dblP_len (v : Int) (k : Nat) : (dblP v k).length = k := by simp [dblP]
def dblA (v : Int) (bs : List Blk) (k : Nat) : List Blk := bs ++ (bs.take k).flatMap (dblB v)
theorem dblA_succ {v : Int} {bs : List Blk} {k : Nat} (hk : k < bs.length) {x : Blk} (hx : bs[k]? = some x) : dblA v bs (k + 1) = dblA v bs k ++ dblB v x := by
  have e : bs[k] = x := by
    rw [List.getElem?_eq_getElem hk] at hx
    simpa using hx
  unfold dblA
  rw [List.take_succ_eq_append_getElem hk, e, List.flatMap_append, List.append_assoc]
  simp
theorem dblB_len (v : Int) : ∀ l : List Blk, (l.flatMap (dblB v)).length = 3 * l.length
  | [] => rfl
  | x :: r => by rw [List.flatMap_cons, List.length_append, dblB_len v r]; simp [dblB]; omega
theorem dblA_len (v : Int) (bs : List Blk) {k : Nat} (hk : k ≤ bs.length) : (dblA v bs k).length = bs.length + 3 * k := by
  unfold dblA
  rw [List.length_append, dblB_len, List.length_take, Nat.min_eq_left hk]
def dblL (v : Int) (bs : List Blk) : List Blk := dblA v bs bs.length ++ dblP v v.toNat
theorem dblL_len (v : Int) (bs : List Blk) : (dblL v bs).length = bs.length + 3 * bs.length + v.toNat := by
  unfold dblL
  rw [List.length_append, dblA_len v bs (Nat.le_refl _), dblP_len]
theorem dblL_mem {v : Int} (hv : 0 ≤ v) (hv15 : v ≤ 15) {bs : List Blk} (hg : ∀ x ∈ bs, goodB v x = true) : ∀ x ∈ dblL v bs, (0 ≤ x.a ∧ x.a ≤ 1000) ∧ (0 ≤ x.b ∧ x.b ≤ 1000) ∧ (0 ≤ x.c ∧ x.c ≤ 1000) := by
  intro x hx
  unfold dblL dblA at hx
  rw [List.take_length] at hx
  rcases List.mem_append.1 hx with hx | hx
  · rcases List.mem_append.1 hx with hx | hx
    · have := goodB_iff.1 (hg x hx); omega
    · obtain ⟨y, hy, hxy⟩ := List.mem_flatMap.1 hx
      have := goodB_iff.1 (hg y hy)
      simp only [dblB, List.mem_cons, List.not_mem_nil, or_false] at hxy
      rcases hxy with rfl | rfl | rfl <;> (dsimp only; omega)
  · obtain ⟨a, ha, rfl⟩ := List.mem_map.1 hx
    have := List.mem_range.1 ha
    dsimp only
    omega
/-- The smallest, the middle and the greatest of three. -/
def blk3 (a b c : Int) : Blk := ⟨min (min a b) c, a + b + c - min (min a b) c - max (max a b) c, max (max a b) c⟩
theorem blk3_of {a b c p q r : Int} (hp : p = min (min a b) c) (hr : r = max (max a b) c) (hq : q = a + b + c - p - r) : blk3 a b c = ⟨p, q, r⟩ := by
  unfold blk3
  rw [← hp, ← hr, ← hq]
end Go.Proofs.Ytlchcnngikgjjaa

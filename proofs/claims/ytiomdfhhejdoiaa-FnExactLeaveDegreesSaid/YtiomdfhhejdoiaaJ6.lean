
/- The laws' copies of rows of rows, and how much they hold. The laws' copy of rows of rows. Walks by two involutions, by turns: plain. Third points of full systems: plain. A table of rows, written in place. The laws' marks in systems. Two blocks are compared point by point. What TakeBlock answers: plain. impl.TakeBlock answers as the plain function takeF. Rows of blocks that are written and sorted in place. -/
import Derived.Test.YtiomdfhhejdoiaaJ5
import Derived.Shelf.SlSortCmp.NoneTotal
namespace Go.Proofs.Ytiomdfhhejdoiaa
open Go.RowKit Go.Maps
/-- How many elements rows of these lengths hold, the first k of them. -/
def totL (l : Nat → Nat) : Nat → Nat
  | 0 => 0
  | k + 1 => totL l k + l k
theorem totL_le (l : Nat → Nat) {j n : Nat} (h : j ≤ n) : totL l j ≤ totL l n := by
  induction h with
  | refl => exact Nat.le_refl _
  | step _ ih => exact Nat.le_trans ih (by simp [totL])
/-- A slice of n slices of these lengths. -/
def HeadS (w : World) (s : Value) (n : Nat) (l : Nat → Nat) : Prop :=
  (n = 0 ∧ ∃ a c, s = .slice a 0 c) ∨ ∃ b off cap, s = .slice (some ⟨b, off, none⟩) n cap ∧ ∀ k, k < n → (l k : Int) ≤ 9223372036854775807 ∧ ∃ a c, w.cell? ⟨b, off + k, none⟩ = some (.slice a (l k) c)
theorem HeadS.slice {w : World} {s : Value} {n : Nat} {l : Nat → Nat} (h : HeadS w s n l) : ∃ a c, s = .slice a n c := by
  rcases h with ⟨rfl, a, c, rfl⟩ | ⟨b, off, cap, rfl, _⟩ <;> exact ⟨_, _, rfl⟩
end Go.Proofs.Ytiomdfhhejdoiaa

namespace Go.Proofs.Ytiomdfhhejdoiaa
open Go.RowKit Go.Maps
theorem mkRows (n : Nat) (hn : n ≤ 1100000) (W : World) : (Instr.makeSlice 44 (.int .i64 (n : Int)) (.int .i64 (n : Int))).run Try.prog W = .ok (.slice (some ⟨W.heap.size, 0, none⟩) n n) (W.alloc (.cells (madeCells #[.slice none 0 0] n) 26)) := by
  obtain ⟨i0, hi, hz0, hz1, hz2⟩ := info_parts infoRow
  have hr := run_make (P := Try.prog) W 44 26 i0 (.slice none 0 0) Try.underlying44 hi hz0 .i64 .i64 n n (by omega) (by omega) (by rw [hz2]; omega) (by omega)
  simp only [Int.toNat_natCast, hz1, Nat.mul_one] at hr
  exact hr
end Go.Proofs.Ytiomdfhhejdoiaa

namespace Go.Proofs.Ytiomdfhhejdoiaa
section
variable {X : Type} (f g : X → X) (S : X → Prop)
/-- The k-th point of the walk: by f first, then by g, and so on. -/
def stepN (p : X) : Nat → X
  | 0 => p
  | k + 1 => if k % 2 = 0 then f (stepN p k) else g (stepN p k)
/-- Two involutions of a set that have no fixed point and nowhere agree. -/
structure Two : Prop where
  fin : ∀ x, S x → S (f x)
  gin : ∀ x, S x → S (g x)
  ff : ∀ x, S x → f (f x) = x
  gg : ∀ x, S x → g (g x) = x
  fne : ∀ x, S x → f x ≠ x
  gne : ∀ x, S x → g x ≠ x
  fg : ∀ x, S x → f x ≠ g x
variable {f g S}
theorem Two.mem (h : Two f g S) {p : X} (hp : S p) : ∀ k, S (stepN f g p k)
  | 0 => hp
  | k + 1 => by
    unfold stepN
    split
    · exact h.fin _ (h.mem hp k)
    · exact h.gin _ (h.mem hp k)
/-- A step back. -/
theorem Two.back (h : Two f g S) {p : X} (hp : S p) (k : Nat) : (if k % 2 = 0 then f (stepN f g p (k + 1)) else g (stepN f g p (k + 1))) = stepN f g p k := by
  have hk := h.mem hp k
  show (if k % 2 = 0 then f (if k % 2 = 0 then f (stepN f g p k) else g (stepN f g p k)) else g (if k % 2 = 0 then f (stepN f g p k) else g (stepN f g p k))) = stepN f g p k
  split
  · exact h.ff _ hk
  · exact h.gg _ hk
/-- Until k no point comes twice. -/
def Fresh (f g : X → X) (p : X) (k : Nat) : Prop := ∀ i j, i < j → j < k → stepN f g p i ≠ stepN f g p j
/-- The first point that comes again is the first one, behind a step by g. -/
theorem Two.first (h : Two f g S) {p : X} (hp : S p) {j i : Nat} (hf : Fresh f g p j) (hij : i < j) (he : stepN f g p j = stepN f g p i) : i = 0 ∧ j % 2 = 0 := by
  obtain ⟨m, rfl⟩ : ∃ m, j = m + 1 := ⟨j - 1, by omega⟩
  have hb := h.back hp m
  rw [he] at hb
  -- the neighbours of the i-th point
  by_cases hi : i = 0
  · subst hi
    refine ⟨rfl, ?_⟩
    apply Classical.byContradiction
    intro hodd
    rw [if_pos (by omega)] at hb
    -- f p is the first point, and the m-th
    have h1 : stepN f g p 1 = f (stepN f g p 0) := rfl
    rw [← h1] at hb
    rcases Nat.eq_zero_or_pos m with rfl | hm
    · exact h.fne _ (h.mem hp 0) (hb : f (stepN f g p 0) = stepN f g p 0)
    · rcases Nat.lt_or_ge 1 m with h2 | h2
      · exact hf 1 m h2 (by omega) hb
      · omega
  · exfalso
    obtain ⟨l, rfl⟩ : ∃ l, i = l + 1 := ⟨i - 1, by omega⟩
    have hback := h.back hp l
    have hnext : stepN f g p (l + 1 + 1) = if (l + 1) % 2 = 0 then f (stepN f g p (l + 1)) else g (stepN f g p (l + 1)) := rfl
    by_cases hpar : l % 2 = m % 2
    · -- the same kind of step: the m-th is the l-th
      have : stepN f g p m = stepN f g p l := by
        rw [← hb, ← hback]
        simp only [hpar]
      exact hf l m (by omega) (by omega) this.symm
    · have hq : stepN f g p m = stepN f g p (l + 1 + 1) := by
        rw [← hb, hnext]
        by_cases e : m % 2 = 0
        · rw [if_pos e, if_pos (by omega)]
        · rw [if_neg e, if_neg (by omega)]
      rcases Nat.lt_or_ge (l + 1 + 1) m with h2 | h2
      · exact hf (l + 1 + 1) m h2 (by omega) hq.symm
      · rcases Nat.eq_or_lt_of_le h2 with h3 | h3
        · -- m = l + 2: the kinds are the same
          omega
        · -- m = l + 1: a fixed point
          have hm : m = l + 1 := by omega
          subst hm
          have hx := h.mem hp (l + 1)
          rw [hnext] at hq
          split at hq
          · exact h.fne _ hx hq.symm
          · exact h.gne _ hx hq.symm
/-- There is a first point that comes again: within as many steps as the set has points. -/
theorem fresh_len {p : X} {l : List X} (hl : ∀ k, stepN f g p k ∈ l) {k : Nat} (hf : Fresh f g p k) : k ≤ l.length := by
  have hn : ((List.range k).map (stepN f g p)).Nodup := by
    rw [List.Nodup, List.pairwise_map]
    exact List.pairwise_lt_range.imp_of_mem fun {a b} _ hb hab e => hf a b hab (List.mem_range.1 hb) e
  have := List.Nodup.length_le_of_subset hn (l₂ := l) (fun x hx => by obtain ⟨i, _, rfl⟩ := List.mem_map.1 hx; exact hl i)
  simpa using this
theorem fresh_zero (p : X) : Fresh f g p 0 := fun _ _ _ h => absurd h (Nat.not_lt_zero _)
theorem fresh_succ {p : X} {k : Nat} (hf : Fresh f g p k) (h : ∀ i, i < k → stepN f g p k ≠ stepN f g p i) : Fresh f g p (k + 1) := fun i j hij hj => by
  rcases Nat.lt_or_ge j k with h1 | h1
  · exact hf i j hij h1
  · obtain rfl : j = k := by omega
    exact fun e => h i hij e.symm
/-- The period. -/
theorem Two.period (h : Two f g S) {p : X} (hp : S p) {l : List X} (hl : ∀ x, S x → x ∈ l) : ∃ N, 0 < N ∧ N % 2 = 0 ∧ N ≤ l.length ∧ Fresh f g p N ∧ stepN f g p N = p := by
  have hs : ∀ n k, l.length + 1 - k ≤ n → Fresh f g p k → 0 < k → ∃ N, 0 < N ∧ N % 2 = 0 ∧ N ≤ l.length ∧ Fresh f g p N ∧ stepN f g p N = p := by
    intro n
    induction n with
    | zero =>
      intro k hk hf _
      have := fresh_len (l := l) (fun k => hl _ (h.mem hp k)) hf
      omega
    | succ n ih =>
      intro k hk hf h0
      by_cases hc : ∃ i, i < k ∧ stepN f g p k = stepN f g p i
      · obtain ⟨i, hi, he⟩ := hc
        obtain ⟨rfl, h2⟩ := h.first hp hf hi he
        exact ⟨k, h0, h2, fresh_len (l := l) (fun k => hl _ (h.mem hp k)) hf, hf, he⟩
      · refine ih (k + 1) (by omega) (fresh_succ hf fun i hi e => hc ⟨i, hi, e⟩) (by omega)
  exact hs _ 1 (Nat.le_refl _) (fun i j hij hj => by omega) (by decide)
/-- The points of a cycle are closed under both. -/
theorem Two.closed (h : Two f g S) {p : X} (hp : S p) {N : Nat} (h0 : 0 < N) (h2 : N % 2 = 0) (he : stepN f g p N = p) {k : Nat} (hk : k < N) : (∃ i, i < N ∧ f (stepN f g p k) = stepN f g p i) ∧ ∃ i, i < N ∧ g (stepN f g p k) = stepN f g p i := by
  by_cases hk2 : k % 2 = 0
  · refine ⟨⟨k + 1, by omega, by show _ = (if k % 2 = 0 then _ else _); rw [if_pos hk2]⟩, ?_⟩
    rcases Nat.eq_zero_or_pos k with rfl | h1
    · refine ⟨N - 1, by omega, ?_⟩
      have hb := h.back hp (N - 1)
      rw [show N - 1 + 1 = N by omega, he, if_neg (by omega)] at hb
      exact hb
    · refine ⟨k - 1, by omega, ?_⟩
      have hb := h.back hp (k - 1)
      rw [show k - 1 + 1 = k by omega, if_neg (by omega)] at hb
      exact hb
  · constructor
    · refine ⟨k - 1, by omega, ?_⟩
      have hb := h.back hp (k - 1)
      rw [show k - 1 + 1 = k by omega, if_pos (by omega)] at hb
      exact hb
    · rcases Nat.lt_or_ge (k + 1) N with h3 | h3
      · exact ⟨k + 1, h3, by show _ = (if k % 2 = 0 then _ else _); rw [if_neg hk2]⟩
      · have hN : k + 1 = N := by omega
        have hst : stepN f g p (k + 1) = g (stepN f g p k) := by
          show (if k % 2 = 0 then _ else _) = _
          rw [if_neg hk2]
        refine ⟨0, h0, ?_⟩
        rw [← hst, hN, he]
        rfl
end
end Go.Proofs.Ytiomdfhhejdoiaa

namespace Go.Proofs.Ytiomdfhhejdoiaa
def pairsV (n : Nat) : List (Int × Int) := (List.range n).flatMap fun (b : Nat) => (List.range b).map fun (a : Nat) => ((a : Int), (b : Int))
theorem pairsV_len : ∀ n : Fin 16, 2 * (pairsV n.val).length = n.val * (n.val - 1) := by decide +kernel
theorem mem_pairsV {n : Nat} {a b : Int} : (a, b) ∈ pairsV n ↔ 0 ≤ a ∧ a < b ∧ b < (n : Int) := by
  simp only [pairsV, List.mem_flatMap, List.mem_range, List.mem_map, Prod.mk.injEq]
  constructor
  · rintro ⟨b', hb, a', ha, rfl, rfl⟩
    omega
  · rintro ⟨h0, h1, h2⟩
    exact ⟨b.toNat, by omega, a.toNat, by omega, by omega, by omega⟩
theorem full_pair {n : Nat} {bs : List Blk} (h : isSysImpl (n : Int) bs = true) (hf : fullB (n : Int) bs = true) {a b : Int} (h0 : 0 ≤ a) (h1 : a < b) (h2 : b < (n : Int)) : (a, b) ∈ prs bs := by
  obtain ⟨h3, h15, hg, _⟩ := sys_parts h
  have hl := pairsV_len ⟨n, by omega⟩
  simp only at hl
  simp only [fullB, decide_eq_true_eq] at hf
  refine sub_back (prs_nodup h) (m := pairsV n) ?_ ?_ (a, b) (mem_pairsV.2 ⟨h0, h1, h2⟩)
  · rintro ⟨p, q⟩ hp
    obtain ⟨x, hx, hp⟩ := List.mem_flatMap.1 hp
    have := goodB_iff.1 (hg x hx)
    simp only [pairsL, List.mem_cons, List.not_mem_nil, or_false, Prod.mk.injEq] at hp
    rw [mem_pairsV]
    omega
  · rw [prs_length]
    have e : ((n * (n - 1) : Nat) : Int) = (n : Int) * ((n : Int) - 1) := by
      have : ((n - 1 : Nat) : Int) = (n : Int) - 1 := by omega
      rw [Int.natCast_mul, this]
    rw [← e] at hf
    omega
theorem flat_unique {α β : Type} {f : α → List β} : ∀ {l : List α}, (l.flatMap f).Nodup → ∀ {x y : α} {p : β}, x ∈ l → y ∈ l → p ∈ f x → p ∈ f y → x = y
  | [], _, _, _, _, hx, _, _, _ => by cases hx
  | z :: r, hn, x, y, p, hx, hy, hp, hq => by
    rw [List.flatMap_cons, List.nodup_append] at hn
    obtain ⟨_, h2, h3⟩ := hn
    rcases List.mem_cons.1 hx with ex | hx'
    · rcases List.mem_cons.1 hy with ey | hy'
      · rw [ex, ey]
      · exact absurd rfl (h3 p (ex ▸ hp) p (List.mem_flatMap.2 ⟨y, hy', hq⟩))
    · rcases List.mem_cons.1 hy with ey | hy'
      · exact absurd rfl (h3 p (ey ▸ hq) p (List.mem_flatMap.2 ⟨x, hx', hp⟩))
      · exact flat_unique h2 hx' hy' hp hq
/-- Three points of a block. -/
def Tri (bs : List Blk) (a b c : Int) : Prop := ∃ x ∈ bs, hasB x a = true ∧ hasB x b = true ∧ hasB x c = true ∧ a ≠ b ∧ b ≠ c ∧ a ≠ c
theorem Tri.swap {bs : List Blk} {a b c : Int} (h : Tri bs a b c) : Tri bs b a c := by
  obtain ⟨x, hx, h1, h2, h3, h4, h5, h6⟩ := h
  exact ⟨x, hx, h2, h1, h3, fun e => h4 e.symm, h6, h5⟩
theorem Tri.turn {bs : List Blk} {a b c : Int} (h : Tri bs a b c) : Tri bs a c b := by
  obtain ⟨x, hx, h1, h2, h3, h4, h5, h6⟩ := h
  exact ⟨x, hx, h1, h3, h2, h6, fun e => h5 e.symm, h4⟩
theorem both_or {v : Int} {x : Blk} (hg : goodB v x = true) {a b : Int} (hab : a ≠ b) : bothB a b x = true ↔ ((if a < b then (a, b) else (b, a)) ∈ pairsL x) := by
  obtain ⟨h1, h2, h3, h4⟩ := goodB_iff.1 hg
  unfold bothB hasB pairsL
  split
  · simp only [Bool.and_eq_true, Bool.or_eq_true, decide_eq_true_iff, List.mem_cons, List.mem_nil_iff, or_false, Prod.mk.injEq]
    omega
  · simp only [Bool.and_eq_true, Bool.or_eq_true, decide_eq_true_iff, List.mem_cons, List.mem_nil_iff, or_false, Prod.mk.injEq]
    omega
section
variable {n : Nat} {bs : List Blk}
theorem tri_has {x : Blk} {v a b c : Int} (hg : goodB v x = true) (ha : hasB x a = true) (hb : hasB x b = true) (hc : hasB x c = true) (h1 : a ≠ b) (h2 : b ≠ c) (h3 : a ≠ c) : thirdOf x a b = c := by
  have := goodB_iff.1 hg
  unfold hasB at ha hb hc
  unfold thirdOf
  simp at ha hb hc
  omega
theorem third_has {x : Blk} {v a b : Int} (hg : goodB v x = true) (ha : hasB x a = true) (hb : hasB x b = true) (h1 : a ≠ b) : hasB x (thirdOf x a b) = true ∧ b ≠ thirdOf x a b ∧ a ≠ thirdOf x a b := by
  have := goodB_iff.1 hg
  unfold hasB at ha hb ⊢
  unfold thirdOf
  simp at ha hb ⊢
  omega
/-- The third point of two that are in a block. -/
theorem third1_of (h : isSysImpl (n : Int) bs = true) {a b c : Int} (ht : Tri bs a b c) : third1 bs a b = c := by
  obtain ⟨x, hx, h1, h2, h3, h4, h5, h6⟩ := ht
  have hg := (sys_parts h).2.2.1
  have hbx : bothB a b x = true := by simp [bothB, h1, h2]
  unfold third1
  cases hf : bs.find? (bothB a b) with
  | none => exact absurd hbx (by simpa using List.find?_eq_none.1 hf x hx)
  | some y =>
    have hy := List.mem_of_find?_eq_some hf
    have hby := List.find?_some hf
    have : x = y := flat_unique (prs_nodup h) hx hy ((both_or (hg x hx) h4).1 hbx) ((both_or (hg y hy) h4).1 hby)
    subst this
    exact tri_has (hg x hx) h1 h2 h3 h4 h5 h6
theorem tri_third (h : isSysImpl (n : Int) bs = true) (hf : fullB (n : Int) bs = true) {a b : Int} (ha : 0 ≤ a ∧ a < (n : Int)) (hb : 0 ≤ b ∧ b < (n : Int)) (hab : a ≠ b) : Tri bs a b (third1 bs a b) := by
  have hg := (sys_parts h).2.2.1
  have hp : (if a < b then (a, b) else (b, a)) ∈ prs bs := by
    split
    · exact full_pair h hf ha.1 (by omega) hb.2
    · exact full_pair h hf hb.1 (by omega) ha.2
  obtain ⟨x, hx, hp⟩ := List.mem_flatMap.1 hp
  have hb2 := (both_or (hg x hx) hab).2 hp
  simp only [bothB, Bool.and_eq_true] at hb2
  obtain ⟨h1, h2, h3⟩ := third_has (hg x hx) hb2.1 hb2.2 hab
  have ht : Tri bs a b (thirdOf x a b) := ⟨x, hx, hb2.1, hb2.2, h1, hab, h2, h3⟩
  rw [third1_of h ht]
  exact ht
theorem Tri.range (h : isSysImpl (n : Int) bs = true) {a b c : Int} (ht : Tri bs a b c) : 0 ≤ c ∧ c < (n : Int) := by
  obtain ⟨x, hx, _, _, h3, _⟩ := ht
  have := goodB_iff.1 ((sys_parts h).2.2.1 x hx)
  unfold hasB at h3
  simp at h3
  omega
/-- The points beyond a, b and their third. -/
def Beyond (n : Nat) (bs : List Blk) (a b : Int) (x : Int) : Prop := (0 ≤ x ∧ x < (n : Int)) ∧ x ≠ a ∧ x ≠ b ∧ x ≠ third1 bs a b
theorem beyond_in (h : isSysImpl (n : Int) bs = true) (hf : fullB (n : Int) bs = true) {a b : Int} (ha : 0 ≤ a ∧ a < (n : Int)) (hb : 0 ≤ b ∧ b < (n : Int)) (hab : a ≠ b) {x : Int} (hx : Beyond n bs a b x) : Beyond n bs a b (third1 bs a x) := by
  obtain ⟨hr, hxa, hxb, hxc⟩ := hx
  have ht := tri_third h hf ha hr (fun e => hxa e.symm)
  have hab3 := tri_third h hf ha hb hab
  obtain ⟨_, _, _, _, _, h4, h5, h6⟩ := id ht
  refine ⟨ht.range h, fun e => h6 e.symm, fun e => ?_, fun e => ?_⟩
  · -- b is the third of a and x: x is that of a and b
    have := third1_of h ht.turn
    rw [e] at this
    exact hxc this.symm
  · -- the same third point: x is b
    have h1 := third1_of h ht.turn
    have h2 := third1_of h hab3.turn
    rw [e] at h1
    rw [h1] at h2
    exact hxb h2
theorem two_thirds (h : isSysImpl (n : Int) bs = true) (hf : fullB (n : Int) bs = true) {a b : Int} (ha : 0 ≤ a ∧ a < (n : Int)) (hb : 0 ≤ b ∧ b < (n : Int)) (hab : a ≠ b) : Two (third1 bs a) (third1 bs b) (Beyond n bs a b) where
  fin := fun x hx => beyond_in h hf ha hb hab hx
  gin := fun x hx => by
    have hs : third1 bs b a = third1 bs a b := third1_of h (tri_third h hf ha hb hab).swap
    have hx' : Beyond n bs b a x := ⟨hx.1, hx.2.2.1, hx.2.1, by rw [hs]; exact hx.2.2.2⟩
    obtain ⟨h1, h2, h3, h4⟩ := beyond_in h hf hb ha (fun e => hab e.symm) hx'
    exact ⟨h1, h3, h2, by rw [← hs]; exact h4⟩
  ff := fun x hx => third1_of h (tri_third h hf ha hx.1 (fun e => hx.2.1 e.symm)).turn
  gg := fun x hx => third1_of h (tri_third h hf hb hx.1 (fun e => hx.2.2.1 e.symm)).turn
  fne := fun x hx => by
    obtain ⟨_, _, _, _, _, _, h5, _⟩ := tri_third h hf ha hx.1 (fun e => hx.2.1 e.symm)
    exact fun e => h5 e.symm
  gne := fun x hx => by
    obtain ⟨_, _, _, _, _, _, h5, _⟩ := tri_third h hf hb hx.1 (fun e => hx.2.2.1 e.symm)
    exact fun e => h5 e.symm
  fg := fun x hx e => by
    have h1 := tri_third h hf ha hx.1 (fun e => hx.2.1 e.symm)
    have h2 := tri_third h hf hb hx.1 (fun e => hx.2.2.1 e.symm)
    have e1 := third1_of h h1.swap.turn
    have e2 := third1_of h h2.swap.turn
    rw [e] at e1
    rw [e1] at e2
    exact hab e2
end
end Go.Proofs.Ytiomdfhhejdoiaa

namespace Go.Proofs.Ytiomdfhhejdoiaa
open Go.RowKit Go.Maps
def rowT (n : Nat) (T : Nat → Nat → Int) (j : Nat) : List Int := (List.range n).map (T j)
def setT (T : Nat → Nat → Int) (i q : Nat) (z : Int) : Nat → Nat → Int := fun j p => if j = i ∧ p = q then z else T j p
theorem rowT_len (n : Nat) (T : Nat → Nat → Int) (j : Nat) : (rowT n T j).length = n := by simp [rowT]
theorem rowT_at {n : Nat} (T : Nat → Nat → Int) (j : Nat) {q : Nat} (h : q < n) : (rowT n T j)[q]?.getD 0 = T j q := by simp [rowT, h]
theorem rowT_congr {n : Nat} {T T' : Nat → Nat → Int} {j : Nat} (h : ∀ q, q < n → T j q = T' j q) : rowT n T j = rowT n T' j :=
  List.map_congr_left fun q hq => h q (List.mem_range.1 hq)
theorem rowT_zero (n j : Nat) : rowT n (fun _ _ => 0) j = List.replicate n 0 := by
  unfold rowT
  rw [List.map_const', List.length_range]
section
variable {w : World} {lo G : Nat} {gs caps : Nat → Nat} {n : Nat}
theorem SSR.inj {F : Nat → List Int} (h : SSR w lo G gs caps n F) {i j : Nat} (hi : i < n) (hj : j < n) (hij : i ≠ j) : gs i ≠ gs j := by
  rcases Nat.lt_or_ge i j with h1 | h1
  · exact h.inc i j h1 hj
  · exact (h.inc j i (by omega) hi).symm
theorem SSR.setT {T : Nat → Nat → Int} (h : SSR w lo G gs caps n (rowT n T)) {i q : Nat} (hi : i < n) (hq : q < n) (z : Int) : SSR (w.setCell ⟨gs i, q, none⟩ (.int .i64 z)) lo G gs caps n (rowT n (setT T i q z)) := by
  have hst := only_setCell (only_refl w (some (gs i))) (p := ⟨gs i, q, none⟩) rfl (.int .i64 z)
  refine ⟨fun k hk => ?_, fun k hk => ?_, h.ne, h.inc, h.low, by have := h.lt; simpa [World.setCell] using this⟩
  · have := hst.cell (h.cell k hk) (fun e => h.ne i hi (by cases e; rfl))
    rw [rowT_len] at this ⊢
    exact this
  · by_cases e : k = i
    · subst e
      have ho := h.row k hk
      refine ⟨by have := ho.lt; simpa [World.setCell] using this, fun p hp => ?_, fun o => by rw [World.frozen?_setCell]; exact ho.free o⟩
      rw [rowT_len] at hp
      have hc := ho.at_ p (by rw [rowT_len]; exact hp)
      have hcq := ho.at_ q (by rw [rowT_len]; exact hq)
      rw [rowT_at _ _ hp]
      rw [Nat.zero_add] at hc hcq ⊢
      by_cases e2 : p = q
      · subst e2
        rw [World.cell?_setCell_same' _ _ _ (by rw [hcq]; rfl)]
        simp [Go.Proofs.Ytiomdfhhejdoiaa.setT]
      · rw [World.cell?_setCell_other _ _ _ _ (by simp <;> omega), hc, rowT_at _ _ hp]
        simp [Go.Proofs.Ytiomdfhhejdoiaa.setT, e2]
    · have := (h.row k hk).kept hst (by have := h.inj hk hi e; simpa using this)
      rw [rowT_congr (T' := T) (fun p _ => by simp [Go.Proofs.Ytiomdfhhejdoiaa.setT, e])]
      exact this
end
/-- The table, and the block that is looked at. -/
structure TBx (W1 W : World) (lo G Bb : Nat) (gs caps : Nat → Nat) (n : Nat) (T : Nat → Nat → Int) (p q r : Nat) : Prop where
  below : Below lo W1 W
  tab : SSR W lo G gs caps n (rowT n T)
  c0 : W.cell? ⟨Bb, 0, none⟩ = some (.int .i64 (p : Int))
  c1 : W.cell? ⟨Bb, 1, none⟩ = some (.int .i64 (q : Int))
  c2 : W.cell? ⟨Bb, 2, none⟩ = some (.int .i64 (r : Int))
  bb : ∀ j, j < n → gs j < Bb
theorem TBx.step {W1 W : World} {lo G Bb : Nat} {gs caps : Nat → Nat} {n : Nat} {T : Nat → Nat → Int} {p q r : Nat} (h : TBx W1 W lo G Bb gs caps n T p q r) {i k : Nat} (hi : i < n) (hk : k < n) (z : Int) :
    TBx W1 (W.setCell ⟨gs i, k, none⟩ (.int .i64 z)).drew lo G Bb gs caps n (setT T i k z) p q r := by
  show TBx W1 (W.drew.setCell ⟨gs i, k, none⟩ (.int .i64 z)) lo G Bb gs caps n (setT T i k z) p q r
  have hbb := h.bb i hi
  have ht : SSR W.drew lo G gs caps n (rowT n T) := ⟨h.tab.cell, fun k hk => ⟨(h.tab.row k hk).lt, (h.tab.row k hk).at_, (h.tab.row k hk).free⟩, h.tab.ne, h.tab.inc, h.tab.low, h.tab.lt⟩
  refine ⟨(h.below.drew).setCell (p := ⟨gs i, k, none⟩) (h.tab.low i hi) _, ht.setT hi hk z, ?_, ?_, ?_, h.bb⟩
  · rw [World.cell?_setCell_other _ _ _ _ (by simp <;> omega)]; exact h.c0
  · rw [World.cell?_setCell_other _ _ _ _ (by simp <;> omega)]; exact h.c1
  · rw [World.cell?_setCell_other _ _ _ _ (by simp <;> omega)]; exact h.c2
/-- The table after some blocks. -/
def tabI (bs : List Blk) (a b : Int) : Int := if a = b then 0 else match bs.find? (bothB a b) with | some x => thirdOf x a b | none => 0
def tabN (bs : List Blk) (j q : Nat) : Int := tabI bs (j : Int) (q : Int)
theorem tabI_snoc {n : Nat} {bs : List Blk} (h : isSysImpl (n : Int) bs = true) {m : Nat} {x : Blk} (hm : m < bs.length) (hx : bs[m]? = some x) (a b : Int) :
    tabI (bs.take (m + 1)) a b = if a ≠ b ∧ bothB a b x = true then thirdOf x a b else tabI (bs.take m) a b := by
  have e : bs[m] = x := by
    rw [List.getElem?_eq_getElem hm] at hx
    simpa using hx
  have hxm : x ∈ bs := by rw [← e]; exact List.getElem_mem _
  have hg := (sys_parts h).2.2.1
  unfold tabI
  by_cases hab : a = b
  · simp [hab]
  · rw [if_neg hab, if_neg hab, List.take_succ_eq_append_getElem hm, e, List.find?_append]
    cases hf : (bs.take m).find? (bothB a b) with
    | none =>
      by_cases hb : bothB a b x = true
      · rw [if_pos ⟨hab, hb⟩]; simp [hb]
      · rw [if_neg (fun e => hb e.2)]; simp [hb]
    | some y =>
      have hy := List.mem_of_mem_take (List.mem_of_find?_eq_some hf)
      have hby := List.find?_some hf
      by_cases hb : bothB a b x = true
      · rw [if_pos ⟨hab, hb⟩]
        have : y = x := flat_unique (prs_nodup h) hy hxm ((both_or (hg y hy) hab).1 hby) ((both_or (hg x hxm) hab).1 hb)
        simp [this]
      · rw [if_neg (fun e => hb e.2)]
        simp
/-- The six pairs of a block. -/
def sixT (T : Nat → Nat → Int) (p q r : Nat) : Nat → Nat → Int :=
  setT (setT (setT (setT (setT (setT T p q r) p r q) q p r) q r p) r p q) r q p
theorem six_tab {n : Nat} {bs : List Blk} (h : isSysImpl (n : Int) bs = true) {m p q r : Nat} (hm : m < bs.length) (hx : bs[m]? = some ⟨(p : Int), (q : Int), (r : Int)⟩) (hpq : p < q) (hqr : q < r) (j k : Nat) :
    sixT (tabN (bs.take m)) p q r j k = tabN (bs.take (m + 1)) j k := by
  unfold tabN
  rw [tabI_snoc h hm hx]
  unfold sixT setT bothB hasB thirdOf
  simp only [Bool.and_eq_true, Bool.or_eq_true, decide_eq_true_eq]
  by_cases h1 : j = p
  · subst h1
    by_cases h2 : k = q
    · subst h2
      rw [if_neg (by omega), if_neg (by omega), if_neg (by omega), if_neg (by omega), if_neg (by omega), if_pos ⟨rfl, rfl⟩, if_pos (by omega)]
      omega
    · by_cases h3 : k = r
      · subst h3
        rw [if_neg (by omega), if_neg (by omega), if_neg (by omega), if_neg (by omega), if_pos ⟨rfl, rfl⟩, if_pos (by omega)]
        omega
      · rw [if_neg (by omega), if_neg (by omega), if_neg (by omega), if_neg (by omega), if_neg (by omega), if_neg (by omega), if_neg (by omega)]
  · by_cases h2 : j = q
    · subst h2
      by_cases h3 : k = p
      · subst h3
        rw [if_neg (by omega), if_neg (by omega), if_neg (by omega), if_pos ⟨rfl, rfl⟩, if_pos (by omega)]
        omega
      · by_cases h4 : k = r
        · subst h4
          rw [if_neg (by omega), if_neg (by omega), if_pos ⟨rfl, rfl⟩, if_pos (by omega)]
          omega
        · rw [if_neg (by omega), if_neg (by omega), if_neg (by omega), if_neg (by omega), if_neg (by omega), if_neg (by omega), if_neg (by omega)]
    · by_cases h3 : j = r
      · subst h3
        by_cases h4 : k = p
        · subst h4
          rw [if_neg (by omega), if_pos ⟨rfl, rfl⟩, if_pos (by omega)]
          omega
        · by_cases h5 : k = q
          · subst h5
            rw [if_pos ⟨rfl, rfl⟩, if_pos (by omega)]
            omega
          · rw [if_neg (by omega), if_neg (by omega), if_neg (by omega), if_neg (by omega), if_neg (by omega), if_neg (by omega), if_neg (by omega)]
      · rw [if_neg (by omega), if_neg (by omega), if_neg (by omega), if_neg (by omega), if_neg (by omega), if_neg (by omega), if_neg (by omega)]
end Go.Proofs.Ytiomdfhhejdoiaa

namespace Go.Proofs.Ytiomdfhhejdoiaa
open Go.RowKit Go.Maps
theorem gb_trans {a b c : World} {row : Option Nat} (h : a.grownBy b none) (k : b.grownBy c row) : a.grownBy c row :=
  ⟨k.os.trans h.os, k.tape.trans h.tape, k.output.trans h.output, Nat.le_trans h.size k.size, fun i hi hne => (k.block i (Nat.lt_of_lt_of_le hi h.size) hne).trans (h.block i hi (by simp))⟩
theorem gb_below {a b : World} (h : Below a.heap.size a b) : a.grownBy b none := only_of_below h none
theorem ResR.slice {w : World} {lo hi : Nat} {s : Value} {bs : List Blk} (h : ResR w lo hi s bs) : ∃ a c, s = .slice a bs.length c := by
  rcases h with ⟨rfl, a, c, rfl⟩ | ⟨g, cap, rfl, _⟩ <;> exact ⟨_, _, rfl⟩
set_option maxRecDepth 100000 in
theorem markSystem_any (lo hi : Nat) (v : Int) (s : Value) (bs : List Blk) (k : Int) (w : World) (h : ResR w lo hi s bs) (hl : bs.length ≤ 1100000) (h0 : 0 ≤ k) (h1 : k ≤ 9000000) :
    Calls Try.prog 18 #[.agg #[.int .i64 v, s], .int .i64 k] w (fun e w' => e = .returned (.int .i64 (k + 3 * bs.length)) ∧ (∃ row, w.grownBy w' row ∧ ∀ r, row = some r → lo ≤ r ∧ r < hi) ∧ ResR w' lo hi s (markL k bs.length)) := by
  have hc := markR lo hi s bs k (w.alloc (.cells #[.int .i64 v, s] 31)) (h.below ((Below.refl _ _).alloc (Nat.le_refl _) _) (Nat.le_refl _)) hl h0 h1
  have hs := h.slice
  have HC := Lib.hid hc
  clear hc h
  obtain ⟨a, c, rfl⟩ := hs
  go_enter Try.func18, Try.ntmps18
  go_wp2_with (go_at_call 50; refine HC.out.mono ?_; rintro e w1 ⟨rfl, hg, hr⟩)
  go_ret
  obtain ⟨row, hg, hrow⟩ := hg
  exact ⟨rfl, ⟨row, gb_trans (World.grownBy_alloc _ _ none) hg, hrow⟩, hr⟩
set_option maxRecDepth 100000 in
theorem heldSystem_any (lo hi : Nat) (v : Int) (s : Value) (n : Nat) (k : Int) (w : World) (h : ResR w lo hi s (markL k n)) (hl : n ≤ 1100000) (h0 : 0 ≤ k) (h1 : k ≤ 9000000) :
    Calls Try.prog 25 #[.agg #[.int .i64 v, s], .int .i64 k] w (RV (.int .i64 (k + 3 * n)) w) := by
  have hc := heldR lo hi s n k (w.alloc (.cells #[.int .i64 v, s] 31)) (h.below ((Below.refl _ _).alloc (Nat.le_refl _) _) (Nat.le_refl _)) hl h0 h1
  have hs := h.slice
  obtain ⟨m, hm⟩ : ∃ m, m = k + 3 * (n : Int) := ⟨_, rfl⟩
  rw [← hm] at hc ⊢
  have m0 : 0 ≤ m := by omega
  have HC := Lib.hid hc
  clear hc h hm
  obtain ⟨a, c, rfl⟩ := hs
  go_enter Try.func25, Try.ntmps25
  go_wp2_with (go_at_call 61; refine HC.out.mono ?_; rintro e w1 ⟨rfl, rfl⟩)
  go_ret
  exact RV_of rfl ((Below.refl _ _).alloc (Nat.le_refl _) _)
end Go.Proofs.Ytiomdfhhejdoiaa

namespace Go.Proofs.Ytiomdfhhejdoiaa
open Go.RowKit Go.Maps
theorem sizeInt64 (w : World) : (sizeOf 2).run Try.prog w = .ok 1 w := by kernel_rfl
theorem partInt64 (x y z : Value) (w : World) : (part 2 #[x, y, z] 0).run Try.prog w = .ok x w ∧ (part 2 #[x, y, z] 1).run Try.prog w = .ok y w ∧ (part 2 #[x, y, z] 2).run Try.prog w = .ok z w := by
  refine ⟨?_, ?_, ?_⟩ <;> kernel_rfl
theorem eqIn64 (d : Nat) (a b : Int) (w : World) : (Op.equalIn (d + 1) 2 (.int .i64 a) (.int .i64 b)).run Try.prog w = .ok (a == b) w := by
  simp [Op.equalIn, run_underlying Try.underlying2]
theorem eqInBlk (n : Nat) (a b c d e f : Int) (w : World) : (Op.equalIn (n + 1 + 1) 68 (.agg #[.int .i64 a, .int .i64 b, .int .i64 c]) (.agg #[.int .i64 d, .int .i64 e, .int .i64 f])).run Try.prog w = .ok (a == d && b == e && c == f) w := by
  rw [Op.equalIn]
  simp only [Sem.run_bind, run_underlying Try.underlying68, Result.andThen_ok, sizeInt64]
  simp [Std.Legacy.Range.forIn_eq_forIn_range', Std.Legacy.Range.size, List.range', partInt64, eqIn64, Sem.run_ite]
  by_cases h1 : a = d <;> by_cases h2 : b = e <;> by_cases h3 : c = f <;> simp [h1, h2, h3]
theorem run_eql_blk (x y : Blk) (w : World) : (binOp .eql 68 (bv x) (bv y)).run Try.prog w = .ok (.bool (decide (x = y))) w := by
  obtain ⟨a, b, c⟩ := x
  obtain ⟨d, e, f⟩ := y
  simp only [bv, binOp]
  simp [Op.equal, Op.maxDepth, eqInBlk 9998]
  by_cases h1 : a = d <;> by_cases h2 : b = e <;> by_cases h3 : c = f <;> simp [h1, h2, h3]
theorem run_neq_blk (x y : Blk) (w : World) : (binOp .neq 68 (bv x) (bv y)).run Try.prog w = .ok (.bool (!decide (x = y))) w := by
  obtain ⟨a, b, c⟩ := x
  obtain ⟨d, e, f⟩ := y
  simp only [bv, binOp]
  simp [Op.equal, Op.maxDepth, eqInBlk 9998]
  by_cases h1 : a = d <;> by_cases h2 : b = e <;> by_cases h3 : c = f <;> simp [h1, h2, h3]
end Go.Proofs.Ytiomdfhhejdoiaa

namespace Go.Proofs.Ytiomdfhhejdoiaa
/-- A system and a code: points, blocks, code. -/
def takeF (v : Int) (bs : List Blk) (i : Int) : Int × List Blk × Int :=
  if isSysImpl v bs then (if decide (0 ≤ i) && decide (i < (bs.length : Int)) then (v, bs.take i.toNat ++ bs.drop (i.toNat + 1), 0) else (0, [], 2)) else (0, [], 1)
theorem filter_all {p : Blk → Bool} : ∀ {l : List Blk}, (∀ x ∈ l, p x = true) → l.filter p = l
  | [], _ => rfl
  | x :: r, h => by rw [List.filter_cons, if_pos (h x (by simp)), filter_all (fun y hy => h y (by simp [hy]))]
/-- The blocks that are not the i-th. -/
theorem filter_other {bs : List Blk} (h : bs.Nodup) {i : Nat} (hi : i < bs.length) : bs.filter (fun x => !decide (x = bs[i])) = bs.take i ++ bs.drop (i + 1) := by
  have e : bs = bs.take i ++ bs[i] :: bs.drop (i + 1) := by rw [← List.drop_eq_getElem_cons hi, List.take_append_drop]
  obtain ⟨y, hy⟩ : ∃ y, y = bs[i] := ⟨_, rfl⟩
  rw [← hy] at e ⊢
  clear hy
  obtain ⟨p, hp⟩ : ∃ p, p = bs.take i := ⟨_, rfl⟩
  obtain ⟨q, hq⟩ : ∃ q, q = bs.drop (i + 1) := ⟨_, rfl⟩
  rw [← hp, ← hq] at e ⊢
  clear hp hq hi
  subst e
  obtain ⟨h1, h2, h3⟩ := List.nodup_append.1 h
  rw [List.nodup_cons] at h2
  rw [List.filter_append, List.filter_cons, if_neg (by simp)]
  rw [filter_all (fun x hx => by have := h3 x hx y (by simp); simpa using this), filter_all (fun x hx => by
    have : x ≠ y := fun e => h2.1 (e ▸ hx)
    simpa using this)]
theorem takeF_sub (v : Int) (bs : List Blk) (i : Int) : ∀ x ∈ (takeF v bs i).2.1, x ∈ bs := by
  unfold takeF
  split
  · split
    · intro x hx
      rcases List.mem_append.1 hx with h | h
      · exact List.mem_of_mem_take h
      · exact List.mem_of_mem_drop h
    · simp
  · simp
theorem takeF_len (v : Int) (bs : List Blk) (i : Int) : (takeF v bs i).2.1.length ≤ bs.length := by
  unfold takeF
  split
  · split
    · simp
      omega
    · simp
  · simp
end Go.Proofs.Ytiomdfhhejdoiaa

namespace Go.Proofs.Ytiomdfhhejdoiaa
open Go.RowKit Go.Maps
/-- Two results: a system in new memory, and a code. -/
def RSys (r : Int × List Blk × Int) (w : World) (e : Ending) (w' : World) : Prop := ∃ s, e = .returned (.tuple #[.agg #[.int .i64 r.1, s], .int .i64 r.2.2]) ∧ ResR w' w.heap.size w'.heap.size s r.2.1 ∧ Below w.heap.size w w'
theorem boxes2 {w w1 : World} {v : Int} {s : Value} {T : TypeId} (hb : Below ((w.alloc (.cells #[.int .i64 v, s] T)).alloc (.cells #[.int .i64 0, .slice none 0 0] T)).heap.size ((w.alloc (.cells #[.int .i64 v, s] T)).alloc (.cells #[.int .i64 0, .slice none 0 0] T)) w1) :
    w1.cell? ⟨w.heap.size, 0, none⟩ = some (.int .i64 v) ∧ w1.cell? ⟨w.heap.size, 1, none⟩ = some s ∧ w1.cell? ⟨w.heap.size + 1, 0, none⟩ = some (.int .i64 0) ∧ w1.cell? ⟨w.heap.size + 1, 1, none⟩ = some (.slice none 0 0) ∧
    w1.frozen? ⟨w.heap.size + 1, 0, none⟩ = false ∧ w1.frozen? ⟨w.heap.size + 1, 1, none⟩ = false ∧ Below w.heap.size w w1 ∧ w.heap.size + 1 < w1.heap.size := by
  have hz := hb.size
  simp at hz
  refine ⟨?_, ?_, ?_, ?_, ?_, ?_, (((Below.refl _ _).alloc (Nat.le_refl _) _).alloc (by simp) _).trans (hb.mono (by simp; omega)), by omega⟩
  · exact (hb.cell (p := ⟨w.heap.size, 0, none⟩) (by simp; omega)).trans (by simp [go_sem])
  · exact (hb.cell (p := ⟨w.heap.size, 1, none⟩) (by simp; omega)).trans (by simp [go_sem])
  · exact (hb.cell (p := ⟨w.heap.size + 1, 0, none⟩) (by simp)).trans (by simp [go_sem])
  · exact (hb.cell (p := ⟨w.heap.size + 1, 1, none⟩) (by simp)).trans (by simp [go_sem])
  · exact (hb.frozen (p := ⟨w.heap.size + 1, 0, none⟩) (by simp)).trans (by simp [go_sem])
  · exact (hb.frozen (p := ⟨w.heap.size + 1, 1, none⟩) (by simp)).trans (by simp [go_sem])
theorem below2 (w : World) (v : Int) (s : Value) (T : TypeId) : Below w.heap.size w ((w.alloc (.cells #[.int .i64 v, s] T)).alloc (.cells #[.int .i64 0, .slice none 0 0] T)) := ((Below.refl _ _).alloc (Nat.le_refl _) _).alloc (by simp) _
theorem below_set2 {B : Nat} {a w : World} (h : Below B a w) {b : Nat} (hb : B ≤ b) (u v : Value) : Below B a ((w.setCell ⟨b, 0, none⟩ u).setCell ⟨b, 1, none⟩ v) := (h.setCell (p := ⟨b, 0, none⟩) hb u).setCell (p := ⟨b, 1, none⟩) hb v
theorem gb_set2 (w : World) (b : Nat) (u v : Value) : w.grownBy ((w.setCell ⟨b, 0, none⟩ u).setCell ⟨b, 1, none⟩ v) (some b) := only_setCell (only_setCell (only_refl w (some b)) rfl u) rfl v
theorem boxes2_later {w w1 w2 : World} {v : Int} {s : Value} (hb : Below w1.heap.size w1 w2) (hlt : w.heap.size + 1 < w1.heap.size) (hbw : Below w.heap.size w w1)
    (p0 : w1.cell? ⟨w.heap.size, 0, none⟩ = some (.int .i64 v)) (p1 : w1.cell? ⟨w.heap.size, 1, none⟩ = some s) (d0 : w1.cell? ⟨w.heap.size + 1, 0, none⟩ = some (.int .i64 0)) (d1 : w1.cell? ⟨w.heap.size + 1, 1, none⟩ = some (.slice none 0 0))
    (f0 : w1.frozen? ⟨w.heap.size + 1, 0, none⟩ = false) (f1 : w1.frozen? ⟨w.heap.size + 1, 1, none⟩ = false) :
    w2.cell? ⟨w.heap.size, 0, none⟩ = some (.int .i64 v) ∧ w2.cell? ⟨w.heap.size, 1, none⟩ = some s ∧ w2.cell? ⟨w.heap.size + 1, 0, none⟩ = some (.int .i64 0) ∧ w2.cell? ⟨w.heap.size + 1, 1, none⟩ = some (.slice none 0 0) ∧
    w2.frozen? ⟨w.heap.size + 1, 0, none⟩ = false ∧ w2.frozen? ⟨w.heap.size + 1, 1, none⟩ = false ∧ Below w.heap.size w w2 ∧ w.heap.size + 1 < w2.heap.size := by
  have hz := hb.size
  have l0 : w.heap.size < w1.heap.size := by omega
  exact ⟨(hb.cell (p := ⟨w.heap.size, 0, none⟩) l0).trans p0, (hb.cell (p := ⟨w.heap.size, 1, none⟩) l0).trans p1, (hb.cell (p := ⟨w.heap.size + 1, 0, none⟩) hlt).trans d0, (hb.cell (p := ⟨w.heap.size + 1, 1, none⟩) hlt).trans d1, (hb.frozen (p := ⟨w.heap.size + 1, 0, none⟩) hlt).trans f0, (hb.frozen (p := ⟨w.heap.size + 1, 1, none⟩) hlt).trans f1, hbw.trans (hb.mono hbw.size), by omega⟩
end Go.Proofs.Ytiomdfhhejdoiaa

namespace Go.Proofs.Ytiomdfhhejdoiaa
open Go.RowKit Go.Maps Go.Sort
theorem heap_set_own {w : World} {g o : Nat} {u : Value} {cs : Array Value} {e : TypeId} {fr : Nat × Nat} (h : w.heap[g]? = some (.cells cs e fr)) : (w.setCell ⟨g, o, none⟩ u).heap[g]? = some (.cells (cs.setIfInBounds o u) e fr) := by
  obtain ⟨hlt, hk⟩ := Array.getElem?_eq_some_iff.1 h
  show (w.heap.modify g _)[g]? = _
  rw [Array.getElem?_eq_getElem (by rw [Array.size_modify]; exact hlt), Array.getElem_modify_self, hk]
  rfl
theorem flat_set : ∀ (bs : List Blk) (i : Nat) (x : Blk), i < bs.length → (((bs.flatMap cells3).set (i * 3) (.int .i64 x.a)).set (i * 3 + 1) (.int .i64 x.b)).set (i * 3 + 2) (.int .i64 x.c) = (bs.set i x).flatMap cells3
  | [], _, _, h => by simp at h
  | y :: r, 0, x, _ => by simp [cells3]
  | y :: r, i + 1, x, h => by
    have ih := flat_set r i x (by simpa using h)
    rw [List.set_cons_succ, List.flatMap_cons, List.flatMap_cons, ← ih]
    rw [show (i + 1) * 3 = i * 3 + 1 + 1 + 1 by omega, show i * 3 + 1 + 1 + 1 + 1 = i * 3 + 1 + 1 + 1 + 1 from rfl, show i * 3 + 1 + 1 + 1 + 2 = i * 3 + 2 + 1 + 1 + 1 by omega]
    simp only [cells3, List.cons_append, List.nil_append, List.set_cons_succ]
theorem OwnR.set3 {w : World} {base g n cap : Nat} {bs : List Blk} (h : OwnR w base (.slice (some ⟨g, 0, none⟩) n cap) bs) {i : Nat} (hi : i < bs.length) (x : Blk) :
    OwnR (((w.setCell ⟨g, i * 3, none⟩ (.int .i64 x.a)).setCell ⟨g, i * 3 + 1, none⟩ (.int .i64 x.b)).setCell ⟨g, i * 3 + 2, none⟩ (.int .i64 x.c)) base (.slice (some ⟨g, 0, none⟩) n cap) (bs.set i x) := by
  obtain ⟨hl, h | ⟨g', cap', cur, hv, hb, hcur, hn, hc, hsz, hx⟩⟩ := h
  · cases h.1
  · cases hv
    refine ⟨by rw [flat_length, List.length_set], .inr ⟨g, cap, _, by rw [List.length_set], hb, heap_set_own (heap_set_own (heap_set_own hcur)), by rw [List.length_set]; exact hn, hc, by simpa using hsz, ?_⟩⟩
    rw [List.length_set, Array.toList_setIfInBounds, Array.toList_setIfInBounds, Array.toList_setIfInBounds, List.take_set, List.take_set, List.take_set, hx]
    exact flat_set bs i x hi
theorem OwnR.at_ {w : World} {base g n cap : Nat} {bs : List Blk} (h : OwnR w base (.slice (some ⟨g, 0, none⟩) n cap) bs) : n = bs.length ∧ base ≤ g ∧ OwnAt w g bs := by
  rcases h.res with ⟨rfl, a, c, e⟩ | ⟨g', cap', e, h1, h2, h3⟩
  · cases e
    obtain ⟨hl, h | ⟨g', cap', cur, hv, hb, hcur, hn, hc, hsz, hx⟩⟩ := h
    · cases h.1
    · cases hv
      exact ⟨rfl, hb, ⟨(Array.getElem?_eq_some_iff.1 hcur).1, fun k hk => by simp at hk, fun o => by simp [World.frozen?, hcur]⟩⟩
  · cases e
    exact ⟨rfl, h1, h3⟩

theorem heap_put {w : World} {g n : Nat} {os : Array Obj} {cur : Array Value} {e : TypeId} {fr : Nat × Nat} (F : Array Value) (hb : w.heap[g]? = some (.cells cur e fr)) :
    (grow (putRow id (Sort.ahead w n) g 0 F) os).heap[g]? = some (.cells (putCells id 0 F cur) e fr) := by
  have hg : g < w.heap.size := (Array.getElem?_eq_some_iff.1 hb).1
  rw [heap_grow_old _ _ (by simpa using hg)]
  simp [putRow, mapBlock, Sort.ahead, Array.getElem?_modify, hb, onCells]
theorem grownBy_put {w : World} {g n : Nat} {os : Array Obj} (F : Array Value) : w.grownBy (grow (putRow id (Sort.ahead w n) g 0 F) os) (some g) := by
  refine ⟨rfl, rfl, rfl, by simp, fun k hk hne => ?_⟩
  rw [heap_grow_old _ _ (by simpa using hk)]
  have : g ≠ k := fun e => hne (by rw [e])
  simp [putRow, mapBlock, Sort.ahead, Array.getElem?_modify, this]
theorem take_put (cur F : Array Value) (h : F.size ≤ cur.size) : (putCells id 0 F cur).toList.take F.size = F.toList := by
  apply List.ext_getElem?
  intro j
  by_cases hj : j < F.size
  · rw [List.getElem?_take_of_lt hj, Array.getElem?_toList]
    simp [putCells, hj, show j < cur.size by omega]
  · rw [List.getElem?_take_eq_none (by omega), List.getElem?_eq_none (by simp; omega)]
theorem cells3_at (x : Blk) : (cells3 x)[0]! = .int .i64 x.a ∧ (cells3 x)[1]! = .int .i64 x.b ∧ (cells3 x)[2]! = .int .i64 x.c := ⟨rfl, rfl, rfl⟩
theorem flatK_at (bs : List Blk) (j : Nat) (h : j < bs.length * 3) : (flatK cells3 3 bs.toArray)[j]! = (bs.flatMap cells3)[j]?.getD undef := by
  rw [get_flatK _ _ _ _ (by simpa using h)]
  have hk : j / 3 < bs.length := by omega
  obtain ⟨h0, h1, h2⟩ := flat_at bs (j / 3) hk
  obtain ⟨c0, c1, c2⟩ := cells3_at (bs.toArray[j / 3]!)
  have e : bs.toArray[j / 3]! = bs[j / 3]?.getD default := by simp [hk]
  rw [e] at c0 c1 c2
  rw [e]
  have hm : j % 3 = 0 ∨ j % 3 = 1 ∨ j % 3 = 2 := by omega
  rcases hm with hm | hm | hm
  · rw [hm, c0]; rw [show j / 3 * 3 = j by omega] at h0; rw [h0]; rfl
  · rw [hm, c1]; rw [show j / 3 * 3 + 1 = j by omega] at h1; rw [h1]; rfl
  · rw [hm, c2]; rw [show j / 3 * 3 + 2 = j by omega] at h2; rw [h2]; rfl
theorem flatK_list (bs : List Blk) : (flatK cells3 3 bs.toArray).toList = bs.flatMap cells3 := by
  apply List.ext_getElem?
  intro j
  by_cases hj : j < bs.length * 3
  · have h1 := flatK_at bs j hj
    have hs : j < (flatK cells3 3 bs.toArray).size := by rw [size_flatK]; simpa using hj
    rw [getElem!_pos _ j hs] at h1
    rw [Array.getElem?_toList, Array.getElem?_eq_getElem hs, h1]
    have hf : j < (bs.flatMap cells3).length := by rw [flat_length]; exact hj
    rw [List.getElem?_eq_getElem hf]
    rfl
  · have h1 : (flatK cells3 3 bs.toArray).toList.length = bs.length * 3 := by rw [Array.length_toList, size_flatK]; simp
    rw [List.getElem?_eq_none (by omega), List.getElem?_eq_none (by rw [flat_length]; omega)]
theorem OwnAt.holds {w : World} {g : Nat} {bs : List Blk} (h : OwnAt w g bs) : HoldsK cells3 3 w g 0 bs.toArray := by
  intro j hj
  rw [size_flatK, List.size_toArray] at hj
  refine ⟨?_, h.free _⟩
  rw [flatK_at bs j hj, Nat.zero_add]
  obtain ⟨h0, h1, h2⟩ := h.at_ (j / 3) (by omega)
  obtain ⟨f0, f1, f2⟩ := flat_at bs (j / 3) (by omega)
  rw [Nat.zero_add] at h0 h1 h2
  have hm : j % 3 = 0 ∨ j % 3 = 1 ∨ j % 3 = 2 := by omega
  rcases hm with hm | hm | hm
  · rw [show j / 3 * 3 = j by omega] at h0 f0; rw [h0, f0]; rfl
  · rw [show j / 3 * 3 + 1 = j by omega] at h1 f1; rw [h1, f1]; rfl
  · rw [show j / 3 * 3 + 2 = j by omega] at h2 f2; rw [h2, f2]; rfl
/-- Behind the sort the same slice owns the blocks in order. -/
theorem OwnR.sorted {w : World} {base g n cap : Nat} {bs cs : List Blk} (h : OwnR w base (.slice (some ⟨g, 0, none⟩) n cap) bs) (hl : cs.length = bs.length) (m : Nat) (os : Array Obj) :
    OwnR (sortWorldK cells3 3 w g 0 m cs.toArray os) base (.slice (some ⟨g, 0, none⟩) n cap) cs ∧ w.grownBy (sortWorldK cells3 3 w g 0 m cs.toArray os) (some g) := by
  refine ⟨?_, grownBy_put _⟩
  obtain ⟨hl2, h | ⟨g', cap', cur, hv, hb, hcur, hn, hc, hsz, hx⟩⟩ := h
  · cases h.1
  · cases hv
    have hF : (flatK cells3 3 cs.toArray).size = cs.length * 3 := by rw [size_flatK]; simp
    refine ⟨by rw [flat_length], .inr ⟨g, cap, _, by rw [hl], hb, heap_put _ hcur, by rw [hl]; exact hn, hc, by simp [putCells]; omega, ?_⟩⟩
    rw [← hF, take_put _ _ (by rw [hF, hl]; have := Nat.mul_le_mul_right 3 hn; omega)]
    exact flatK_list cs
theorem lt_bef (x y : Blk) : ltOf cmpB x y = befB x y := by
  unfold ltOf
  rw [Bool.eq_iff_iff, ← cmpB_neg]
  simp
theorem swoB : SWO (ltOf cmpB) where
  irrefl x := by rw [lt_bef]; exact bef_irrefl x
  trans x y z h1 h2 := by rw [lt_bef] at *; exact bef_trans h1 h2
  ntrans x y z h1 h2 := by rw [lt_bef] at *; exact bef_ntrans h1 h2
theorem totB (x y : Blk) (h1 : ltOf cmpB x y = false) (h2 : ltOf cmpB y x = false) : x = y := by rw [lt_bef] at *; exact bef_total h1 h2
theorem mergeB (bs : List Blk) : (bs.mergeSort fun x y => !ltOf cmpB y x) = sortB bs := by
  rw [← sortB_merge]
  congr 1
  funext x y
  rw [lt_bef]
theorem compareBlocks_lays (x y : Blk) (w : World) : Calls Try.prog 88 #[bv x, bv y] w fun e w' => e = .returned (.int .i64 (cmpB x y)) ∧ ∃ q os, w' = grow (w.drewN q) os := by
  obtain ⟨a, b, c⟩ := x
  obtain ⟨d, e, f⟩ := y
  unfold bv
  dsimp only
  go_enter Try.func88, Try.ntmps88
  go_wp2
  go_quiet ((go_at_call 70; exact RS.quiet (Compare_any _ 0 _ _ 0 _ [a, b, c] [d, e, f] _ (ints3 (by simp [go_sem]) (by simp [go_sem]) (by simp [go_sem])) (ints3 (by simp [go_sem]) (by simp [go_sem]) (by simp [go_sem])) (by simp) (by simp))))
  go_wp2
  go_ret
  exact ⟨rfl, _, _, by rw [alloc_eq_grow, alloc_eq_grow, grow_grow]; rfl⟩
end Go.Proofs.Ytiomdfhhejdoiaa

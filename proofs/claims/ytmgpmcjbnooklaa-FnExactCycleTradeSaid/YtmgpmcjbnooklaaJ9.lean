
/- Walks by two involutions, by turns: plain. Third points of full systems: plain. A table of rows, written in place. impl.cycleFrom. The laws' marks in rows of rows, for the laws' memory of MemL. The cycles of two points: plain. Two lists that grow beside each other: the points that were seen, and the cycles. -/
import Derived.Test.YtmgpmcjbnooklaaJ8
import Derived.WalkMore
import Derived.ScopeJumps
namespace Go.Proofs.Ytmgpmcjbnooklaa
section
variable {X : Type} (f g : X → X) (S : X → Prop)
/-- The k-th point of the walk: by f first, then by g, and so on. -/
def stepN (p : X) : Nat → X
  | 0 => p
  | k + 1 => if k % 2 = 0 then f (stepN p k) else g (stepN p k)
/-- Two involutions of a set that have no fixed point and nowhere agree. -/
structure Two : Prop where
  fin : ∀ x, S x → S (f x)
  gin : ∀ x, S x → S (g x)
  ff : ∀ x, S x → f (f x) = x
  gg : ∀ x, S x → g (g x) = x
  fne : ∀ x, S x → f x ≠ x
  gne : ∀ x, S x → g x ≠ x
  fg : ∀ x, S x → f x ≠ g x
variable {f g S}
theorem Two.mem (h : Two f g S) {p : X} (hp : S p) : ∀ k, S (stepN f g p k)
  | 0 => hp
  | k + 1 => by
    unfold stepN
    split
    · exact h.fin _ (h.mem hp k)
    · exact h.gin _ (h.mem hp k)
/-- A step back. -/
theorem Two.back (h : Two f g S) {p : X} (hp : S p) (k : Nat) : (if k % 2 = 0 then f (stepN f g p (k + 1)) else g (stepN f g p (k + 1))) = stepN f g p k := by
  have hk := h.mem hp k
  show (if k % 2 = 0 then f (if k % 2 = 0 then f (stepN f g p k) else g (stepN f g p k)) else g (if k % 2 = 0 then f (stepN f g p k) else g (stepN f g p k))) = stepN f g p k
  split
  · exact h.ff _ hk
  · exact h.gg _ hk
/-- Until k no point comes twice. -/
def Fresh (f g : X → X) (p : X) (k : Nat) : Prop := ∀ i j, i < j → j < k → stepN f g p i ≠ stepN f g p j
/-- The first point that comes again is the first one, behind a step by g. -/
theorem Two.first (h : Two f g S) {p : X} (hp : S p) {j i : Nat} (hf : Fresh f g p j) (hij : i < j) (he : stepN f g p j = stepN f g p i) : i = 0 ∧ j % 2 = 0 := by
  obtain ⟨m, rfl⟩ : ∃ m, j = m + 1 := ⟨j - 1, by omega⟩
  have hb := h.back hp m
  rw [he] at hb
  -- the neighbours of the i-th point
  by_cases hi : i = 0
  · subst hi
    refine ⟨rfl, ?_⟩
    apply Classical.byContradiction
    intro hodd
    rw [if_pos (by omega)] at hb
    -- f p is the first point, and the m-th
    have h1 : stepN f g p 1 = f (stepN f g p 0) := rfl
    rw [← h1] at hb
    rcases Nat.eq_zero_or_pos m with rfl | hm
    · exact h.fne _ (h.mem hp 0) (hb : f (stepN f g p 0) = stepN f g p 0)
    · rcases Nat.lt_or_ge 1 m with h2 | h2
      · exact hf 1 m h2 (by omega) hb
      · omega
  · exfalso
    obtain ⟨l, rfl⟩ : ∃ l, i = l + 1 := ⟨i - 1, by omega⟩
    have hback := h.back hp l
    have hnext : stepN f g p (l + 1 + 1) = if (l + 1) % 2 = 0 then f (stepN f g p (l + 1)) else g (stepN f g p (l + 1)) := rfl
    by_cases hpar : l % 2 = m % 2
    · -- the same kind of step: the m-th is the l-th
      have : stepN f g p m = stepN f g p l := by
        rw [← hb, ← hback]
        simp only [hpar]
      exact hf l m (by omega) (by omega) this.symm
    · have hq : stepN f g p m = stepN f g p (l + 1 + 1) := by
        rw [← hb, hnext]
        by_cases e : m % 2 = 0
        · rw [if_pos e, if_pos (by omega)]
        · rw [if_neg e, if_neg (by omega)]
      rcases Nat.lt_or_ge (l + 1 + 1) m with h2 | h2
      · exact hf (l + 1 + 1) m h2 (by omega) hq.symm
      · rcases Nat.eq_or_lt_of_le h2 with h3 | h3
        · -- m = l + 2: the kinds are the same
          omega
        · -- m = l + 1: a fixed point
          have hm : m = l + 1 := by omega
          subst hm
          have hx := h.mem hp (l + 1)
          rw [hnext] at hq
          split at hq
          · exact h.fne _ hx hq.symm
          · exact h.gne _ hx hq.symm
/-- There is a first point that comes again: within as many steps as the set has points. -/
theorem fresh_len {p : X} {l : List X} (hl : ∀ k, stepN f g p k ∈ l) {k : Nat} (hf : Fresh f g p k) : k ≤ l.length := by
  have hn : ((List.range k).map (stepN f g p)).Nodup := by
    rw [List.Nodup, List.pairwise_map]
    exact List.pairwise_lt_range.imp_of_mem fun {a b} _ hb hab e => hf a b hab (List.mem_range.1 hb) e
  have := List.Nodup.length_le_of_subset hn (l₂ := l) (fun x hx => by obtain ⟨i, _, rfl⟩ := List.mem_map.1 hx; exact hl i)
  simpa using this
theorem fresh_zero (p : X) : Fresh f g p 0 := fun _ _ _ h => absurd h (Nat.not_lt_zero _)
theorem fresh_succ {p : X} {k : Nat} (hf : Fresh f g p k) (h : ∀ i, i < k → stepN f g p k ≠ stepN f g p i) : Fresh f g p (k + 1) := fun i j hij hj => by
  rcases Nat.lt_or_ge j k with h1 | h1
  · exact hf i j hij h1
  · obtain rfl : j = k := by omega
    exact fun e => h i hij e.symm
/-- The period. -/
theorem Two.period (h : Two f g S) {p : X} (hp : S p) {l : List X} (hl : ∀ x, S x → x ∈ l) : ∃ N, 0 < N ∧ N % 2 = 0 ∧ N ≤ l.length ∧ Fresh f g p N ∧ stepN f g p N = p := by
  have hs : ∀ n k, l.length + 1 - k ≤ n → Fresh f g p k → 0 < k → ∃ N, 0 < N ∧ N % 2 = 0 ∧ N ≤ l.length ∧ Fresh f g p N ∧ stepN f g p N = p := by
    intro n
    induction n with
    | zero =>
      intro k hk hf _
      have := fresh_len (l := l) (fun k => hl _ (h.mem hp k)) hf
      omega
    | succ n ih =>
      intro k hk hf h0
      by_cases hc : ∃ i, i < k ∧ stepN f g p k = stepN f g p i
      · obtain ⟨i, hi, he⟩ := hc
        obtain ⟨rfl, h2⟩ := h.first hp hf hi he
        exact ⟨k, h0, h2, fresh_len (l := l) (fun k => hl _ (h.mem hp k)) hf, hf, he⟩
      · refine ih (k + 1) (by omega) (fresh_succ hf fun i hi e => hc ⟨i, hi, e⟩) (by omega)
  exact hs _ 1 (Nat.le_refl _) (fun i j hij hj => by omega) (by decide)
/-- The points of a cycle are closed under both. -/
theorem Two.closed (h : Two f g S) {p : X} (hp : S p) {N : Nat} (h0 : 0 < N) (h2 : N % 2 = 0) (he : stepN f g p N = p) {k : Nat} (hk : k < N) : (∃ i, i < N ∧ f (stepN f g p k) = stepN f g p i) ∧ ∃ i, i < N ∧ g (stepN f g p k) = stepN f g p i := by
  by_cases hk2 : k % 2 = 0
  · refine ⟨⟨k + 1, by omega, by show _ = (if k % 2 = 0 then _ else _); rw [if_pos hk2]⟩, ?_⟩
    rcases Nat.eq_zero_or_pos k with rfl | h1
    · refine ⟨N - 1, by omega, ?_⟩
      have hb := h.back hp (N - 1)
      rw [show N - 1 + 1 = N by omega, he, if_neg (by omega)] at hb
      exact hb
    · refine ⟨k - 1, by omega, ?_⟩
      have hb := h.back hp (k - 1)
      rw [show k - 1 + 1 = k by omega, if_neg (by omega)] at hb
      exact hb
  · constructor
    · refine ⟨k - 1, by omega, ?_⟩
      have hb := h.back hp (k - 1)
      rw [show k - 1 + 1 = k by omega, if_pos (by omega)] at hb
      exact hb
    · rcases Nat.lt_or_ge (k + 1) N with h3 | h3
      · exact ⟨k + 1, h3, by show _ = (if k % 2 = 0 then _ else _); rw [if_neg hk2]⟩
      · have hN : k + 1 = N := by omega
        have hst : stepN f g p (k + 1) = g (stepN f g p k) := by
          show (if k % 2 = 0 then _ else _) = _
          rw [if_neg hk2]
        refine ⟨0, h0, ?_⟩
        rw [← hst, hN, he]
        rfl
end
end Go.Proofs.Ytmgpmcjbnooklaa

namespace Go.Proofs.Ytmgpmcjbnooklaa
def pairsV (n : Nat) : List (Int × Int) := (List.range n).flatMap fun (b : Nat) => (List.range b).map fun (a : Nat) => ((a : Int), (b : Int))
theorem pairsV_len : ∀ n : Fin 16, 2 * (pairsV n.val).length = n.val * (n.val - 1) := by decide +kernel
theorem mem_pairsV {n : Nat} {a b : Int} : (a, b) ∈ pairsV n ↔ 0 ≤ a ∧ a < b ∧ b < (n : Int) := by
  simp only [pairsV, List.mem_flatMap, List.mem_range, List.mem_map, Prod.mk.injEq]
  constructor
  · rintro ⟨b', hb, a', ha, rfl, rfl⟩
    omega
  · rintro ⟨h0, h1, h2⟩
    exact ⟨b.toNat, by omega, a.toNat, by omega, by omega, by omega⟩
theorem full_pair {n : Nat} {bs : List Blk} (h : isSysImpl (n : Int) bs = true) (hf : fullB (n : Int) bs = true) {a b : Int} (h0 : 0 ≤ a) (h1 : a < b) (h2 : b < (n : Int)) : (a, b) ∈ prs bs := by
  obtain ⟨h3, h15, hg, _⟩ := sys_parts h
  have hl := pairsV_len ⟨n, by omega⟩
  simp only at hl
  simp only [fullB, decide_eq_true_eq] at hf
  refine sub_back (prs_nodup h) (m := pairsV n) ?_ ?_ (a, b) (mem_pairsV.2 ⟨h0, h1, h2⟩)
  · rintro ⟨p, q⟩ hp
    obtain ⟨x, hx, hp⟩ := List.mem_flatMap.1 hp
    have := goodB_iff.1 (hg x hx)
    simp only [pairsL, List.mem_cons, List.not_mem_nil, or_false, Prod.mk.injEq] at hp
    rw [mem_pairsV]
    omega
  · rw [prs_length]
    have e : ((n * (n - 1) : Nat) : Int) = (n : Int) * ((n : Int) - 1) := by
      have : ((n - 1 : Nat) : Int) = (n : Int) - 1 := by omega
      rw [Int.natCast_mul, this]
    rw [← e] at hf
    omega
theorem flat_unique {α β : Type} {f : α → List β} : ∀ {l : List α}, (l.flatMap f).Nodup → ∀ {x y : α} {p : β}, x ∈ l → y ∈ l → p ∈ f x → p ∈ f y → x = y
  | [], _, _, _, _, hx, _, _, _ => by cases hx
  | z :: r, hn, x, y, p, hx, hy, hp, hq => by
    rw [List.flatMap_cons, List.nodup_append] at hn
    obtain ⟨_, h2, h3⟩ := hn
    rcases List.mem_cons.1 hx with ex | hx'
    · rcases List.mem_cons.1 hy with ey | hy'
      · rw [ex, ey]
      · exact absurd rfl (h3 p (ex ▸ hp) p (List.mem_flatMap.2 ⟨y, hy', hq⟩))
    · rcases List.mem_cons.1 hy with ey | hy'
      · exact absurd rfl (h3 p (ey ▸ hq) p (List.mem_flatMap.2 ⟨x, hx', hp⟩))
      · exact flat_unique h2 hx' hy' hp hq
/-- Three points of a block. -/
def Tri (bs : List Blk) (a b c : Int) : Prop := ∃ x ∈ bs, hasB x a = true ∧ hasB x b = true ∧ hasB x c = true ∧ a ≠ b ∧ b ≠ c ∧ a ≠ c
theorem Tri.swap {bs : List Blk} {a b c : Int} (h : Tri bs a b c) : Tri bs b a c := by
  obtain ⟨x, hx, h1, h2, h3, h4, h5, h6⟩ := h
  exact ⟨x, hx, h2, h1, h3, fun e => h4 e.symm, h6, h5⟩
theorem Tri.turn {bs : List Blk} {a b c : Int} (h : Tri bs a b c) : Tri bs a c b := by
  obtain ⟨x, hx, h1, h2, h3, h4, h5, h6⟩ := h
  exact ⟨x, hx, h1, h3, h2, h6, fun e => h5 e.symm, h4⟩
theorem both_or {v : Int} {x : Blk} (hg : goodB v x = true) {a b : Int} (hab : a ≠ b) : bothB a b x = true ↔ ((if a < b then (a, b) else (b, a)) ∈ pairsL x) := by
  obtain ⟨h1, h2, h3, h4⟩ := goodB_iff.1 hg
  unfold bothB hasB pairsL
  split
  · simp only [Bool.and_eq_true, Bool.or_eq_true, decide_eq_true_iff, List.mem_cons, List.mem_nil_iff, or_false, Prod.mk.injEq]
    omega
  · simp only [Bool.and_eq_true, Bool.or_eq_true, decide_eq_true_iff, List.mem_cons, List.mem_nil_iff, or_false, Prod.mk.injEq]
    omega
section
variable {n : Nat} {bs : List Blk}
theorem tri_has {x : Blk} {v a b c : Int} (hg : goodB v x = true) (ha : hasB x a = true) (hb : hasB x b = true) (hc : hasB x c = true) (h1 : a ≠ b) (h2 : b ≠ c) (h3 : a ≠ c) : thirdOf x a b = c := by
  have := goodB_iff.1 hg
  unfold hasB at ha hb hc
  unfold thirdOf
  simp at ha hb hc
  omega
theorem third_has {x : Blk} {v a b : Int} (hg : goodB v x = true) (ha : hasB x a = true) (hb : hasB x b = true) (h1 : a ≠ b) : hasB x (thirdOf x a b) = true ∧ b ≠ thirdOf x a b ∧ a ≠ thirdOf x a b := by
  have := goodB_iff.1 hg
  unfold hasB at ha hb ⊢
  unfold thirdOf
  simp at ha hb ⊢
  omega
/-- The third point of two that are in a block. -/
theorem third1_of (h : isSysImpl (n : Int) bs = true) {a b c : Int} (ht : Tri bs a b c) : third1 bs a b = c := by
  obtain ⟨x, hx, h1, h2, h3, h4, h5, h6⟩ := ht
  have hg := (sys_parts h).2.2.1
  have hbx : bothB a b x = true := by simp [bothB, h1, h2]
  unfold third1
  cases hf : bs.find? (bothB a b) with
  | none => exact absurd hbx (by simpa using List.find?_eq_none.1 hf x hx)
  | some y =>
    have hy := List.mem_of_find?_eq_some hf
    have hby := List.find?_some hf
    have : x = y := flat_unique (prs_nodup h) hx hy ((both_or (hg x hx) h4).1 hbx) ((both_or (hg y hy) h4).1 hby)
    subst this
    exact tri_has (hg x hx) h1 h2 h3 h4 h5 h6
theorem tri_third (h : isSysImpl (n : Int) bs = true) (hf : fullB (n : Int) bs = true) {a b : Int} (ha : 0 ≤ a ∧ a < (n : Int)) (hb : 0 ≤ b ∧ b < (n : Int)) (hab : a ≠ b) : Tri bs a b (third1 bs a b) := by
  have hg := (sys_parts h).2.2.1
  have hp : (if a < b then (a, b) else (b, a)) ∈ prs bs := by
    split
    · exact full_pair h hf ha.1 (by omega) hb.2
    · exact full_pair h hf hb.1 (by omega) ha.2
  obtain ⟨x, hx, hp⟩ := List.mem_flatMap.1 hp
  have hb2 := (both_or (hg x hx) hab).2 hp
  simp only [bothB, Bool.and_eq_true] at hb2
  obtain ⟨h1, h2, h3⟩ := third_has (hg x hx) hb2.1 hb2.2 hab
  have ht : Tri bs a b (thirdOf x a b) := ⟨x, hx, hb2.1, hb2.2, h1, hab, h2, h3⟩
  rw [third1_of h ht]
  exact ht
theorem Tri.range (h : isSysImpl (n : Int) bs = true) {a b c : Int} (ht : Tri bs a b c) : 0 ≤ c ∧ c < (n : Int) := by
  obtain ⟨x, hx, _, _, h3, _⟩ := ht
  have := goodB_iff.1 ((sys_parts h).2.2.1 x hx)
  unfold hasB at h3
  simp at h3
  omega
/-- The points beyond a, b and their third. -/
def Beyond (n : Nat) (bs : List Blk) (a b : Int) (x : Int) : Prop := (0 ≤ x ∧ x < (n : Int)) ∧ x ≠ a ∧ x ≠ b ∧ x ≠ third1 bs a b
theorem beyond_in (h : isSysImpl (n : Int) bs = true) (hf : fullB (n : Int) bs = true) {a b : Int} (ha : 0 ≤ a ∧ a < (n : Int)) (hb : 0 ≤ b ∧ b < (n : Int)) (hab : a ≠ b) {x : Int} (hx : Beyond n bs a b x) : Beyond n bs a b (third1 bs a x) := by
  obtain ⟨hr, hxa, hxb, hxc⟩ := hx
  have ht := tri_third h hf ha hr (fun e => hxa e.symm)
  have hab3 := tri_third h hf ha hb hab
  obtain ⟨_, _, _, _, _, h4, h5, h6⟩ := id ht
  refine ⟨ht.range h, fun e => h6 e.symm, fun e => ?_, fun e => ?_⟩
  · -- b is the third of a and x: x is that of a and b
    have := third1_of h ht.turn
    rw [e] at this
    exact hxc this.symm
  · -- the same third point: x is b
    have h1 := third1_of h ht.turn
    have h2 := third1_of h hab3.turn
    rw [e] at h1
    rw [h1] at h2
    exact hxb h2
theorem two_thirds (h : isSysImpl (n : Int) bs = true) (hf : fullB (n : Int) bs = true) {a b : Int} (ha : 0 ≤ a ∧ a < (n : Int)) (hb : 0 ≤ b ∧ b < (n : Int)) (hab : a ≠ b) : Two (third1 bs a) (third1 bs b) (Beyond n bs a b) where
  fin := fun x hx => beyond_in h hf ha hb hab hx
  gin := fun x hx => by
    have hs : third1 bs b a = third1 bs a b := third1_of h (tri_third h hf ha hb hab).swap
    have hx' : Beyond n bs b a x := ⟨hx.1, hx.2.2.1, hx.2.1, by rw [hs]; exact hx.2.2.2⟩
    obtain ⟨h1, h2, h3, h4⟩ := beyond_in h hf hb ha (fun e => hab e.symm) hx'
    exact ⟨h1, h3, h2, by rw [← hs]; exact h4⟩
  ff := fun x hx => third1_of h (tri_third h hf ha hx.1 (fun e => hx.2.1 e.symm)).turn
  gg := fun x hx => third1_of h (tri_third h hf hb hx.1 (fun e => hx.2.2.1 e.symm)).turn
  fne := fun x hx => by
    obtain ⟨_, _, _, _, _, _, h5, _⟩ := tri_third h hf ha hx.1 (fun e => hx.2.1 e.symm)
    exact fun e => h5 e.symm
  gne := fun x hx => by
    obtain ⟨_, _, _, _, _, _, h5, _⟩ := tri_third h hf hb hx.1 (fun e => hx.2.2.1 e.symm)
    exact fun e => h5 e.symm
  fg := fun x hx e => by
    have h1 := tri_third h hf ha hx.1 (fun e => hx.2.1 e.symm)
    have h2 := tri_third h hf hb hx.1 (fun e => hx.2.2.1 e.symm)
    have e1 := third1_of h h1.swap.turn
    have e2 := third1_of h h2.swap.turn
    rw [e] at e1
    rw [e1] at e2
    exact hab e2
end
end Go.Proofs.Ytmgpmcjbnooklaa

namespace Go.Proofs.Ytmgpmcjbnooklaa
open Go.RowKit Go.Maps
def rowT (n : Nat) (T : Nat → Nat → Int) (j : Nat) : List Int := (List.range n).map (T j)
def setT (T : Nat → Nat → Int) (i q : Nat) (z : Int) : Nat → Nat → Int := fun j p => if j = i ∧ p = q then z else T j p
theorem rowT_len (n : Nat) (T : Nat → Nat → Int) (j : Nat) : (rowT n T j).length = n := by simp [rowT]
theorem rowT_at {n : Nat} (T : Nat → Nat → Int) (j : Nat) {q : Nat} (h : q < n) : (rowT n T j)[q]?.getD 0 = T j q := by simp [rowT, h]
theorem rowT_congr {n : Nat} {T T' : Nat → Nat → Int} {j : Nat} (h : ∀ q, q < n → T j q = T' j q) : rowT n T j = rowT n T' j :=
  List.map_congr_left fun q hq => h q (List.mem_range.1 hq)
theorem rowT_zero (n j : Nat) : rowT n (fun _ _ => 0) j = List.replicate n 0 := by
  unfold rowT
  rw [List.map_const', List.length_range]
section
variable {w : World} {lo G : Nat} {gs caps : Nat → Nat} {n : Nat}
theorem SSR.inj {F : Nat → List Int} (h : SSR w lo G gs caps n F) {i j : Nat} (hi : i < n) (hj : j < n) (hij : i ≠ j) : gs i ≠ gs j := by
  rcases Nat.lt_or_ge i j with h1 | h1
  · exact h.inc i j h1 hj
  · exact (h.inc j i (by omega) hi).symm
theorem SSR.setT {T : Nat → Nat → Int} (h : SSR w lo G gs caps n (rowT n T)) {i q : Nat} (hi : i < n) (hq : q < n) (z : Int) : SSR (w.setCell ⟨gs i, q, none⟩ (.int .i64 z)) lo G gs caps n (rowT n (setT T i q z)) := by
  have hst := only_setCell (only_refl w (some (gs i))) (p := ⟨gs i, q, none⟩) rfl (.int .i64 z)
  refine ⟨fun k hk => ?_, fun k hk => ?_, h.ne, h.inc, h.low, by have := h.lt; simpa [World.setCell] using this⟩
  · have := hst.cell (h.cell k hk) (fun e => h.ne i hi (by cases e; rfl))
    rw [rowT_len] at this ⊢
    exact this
  · by_cases e : k = i
    · subst e
      have ho := h.row k hk
      refine ⟨by have := ho.lt; simpa [World.setCell] using this, fun p hp => ?_, fun o => by rw [World.frozen?_setCell]; exact ho.free o⟩
      rw [rowT_len] at hp
      have hc := ho.at_ p (by rw [rowT_len]; exact hp)
      have hcq := ho.at_ q (by rw [rowT_len]; exact hq)
      rw [rowT_at _ _ hp]
      rw [Nat.zero_add] at hc hcq ⊢
      by_cases e2 : p = q
      · subst e2
        rw [World.cell?_setCell_same' _ _ _ (by rw [hcq]; rfl)]
        simp [Go.Proofs.Ytmgpmcjbnooklaa.setT]
      · rw [World.cell?_setCell_other _ _ _ _ (by simp <;> omega), hc, rowT_at _ _ hp]
        simp [Go.Proofs.Ytmgpmcjbnooklaa.setT, e2]
    · have := (h.row k hk).kept hst (by have := h.inj hk hi e; simpa using this)
      rw [rowT_congr (T' := T) (fun p _ => by simp [Go.Proofs.Ytmgpmcjbnooklaa.setT, e])]
      exact this
end
/-- The table, and the block that is looked at. -/
structure TBx (W1 W : World) (lo G Bb : Nat) (gs caps : Nat → Nat) (n : Nat) (T : Nat → Nat → Int) (p q r : Nat) : Prop where
  below : Below lo W1 W
  tab : SSR W lo G gs caps n (rowT n T)
  c0 : W.cell? ⟨Bb, 0, none⟩ = some (.int .i64 (p : Int))
  c1 : W.cell? ⟨Bb, 1, none⟩ = some (.int .i64 (q : Int))
  c2 : W.cell? ⟨Bb, 2, none⟩ = some (.int .i64 (r : Int))
  bb : ∀ j, j < n → gs j < Bb
theorem TBx.step {W1 W : World} {lo G Bb : Nat} {gs caps : Nat → Nat} {n : Nat} {T : Nat → Nat → Int} {p q r : Nat} (h : TBx W1 W lo G Bb gs caps n T p q r) {i k : Nat} (hi : i < n) (hk : k < n) (z : Int) :
    TBx W1 (W.setCell ⟨gs i, k, none⟩ (.int .i64 z)).drew lo G Bb gs caps n (setT T i k z) p q r := by
  show TBx W1 (W.drew.setCell ⟨gs i, k, none⟩ (.int .i64 z)) lo G Bb gs caps n (setT T i k z) p q r
  have hbb := h.bb i hi
  have ht : SSR W.drew lo G gs caps n (rowT n T) := ⟨h.tab.cell, fun k hk => ⟨(h.tab.row k hk).lt, (h.tab.row k hk).at_, (h.tab.row k hk).free⟩, h.tab.ne, h.tab.inc, h.tab.low, h.tab.lt⟩
  refine ⟨(h.below.drew).setCell (p := ⟨gs i, k, none⟩) (h.tab.low i hi) _, ht.setT hi hk z, ?_, ?_, ?_, h.bb⟩
  · rw [World.cell?_setCell_other _ _ _ _ (by simp <;> omega)]; exact h.c0
  · rw [World.cell?_setCell_other _ _ _ _ (by simp <;> omega)]; exact h.c1
  · rw [World.cell?_setCell_other _ _ _ _ (by simp <;> omega)]; exact h.c2
/-- The table after some blocks. -/
def tabI (bs : List Blk) (a b : Int) : Int := if a = b then 0 else match bs.find? (bothB a b) with | some x => thirdOf x a b | none => 0
def tabN (bs : List Blk) (j q : Nat) : Int := tabI bs (j : Int) (q : Int)
theorem tabI_snoc {n : Nat} {bs : List Blk} (h : isSysImpl (n : Int) bs = true) {m : Nat} {x : Blk} (hm : m < bs.length) (hx : bs[m]? = some x) (a b : Int) :
    tabI (bs.take (m + 1)) a b = if a ≠ b ∧ bothB a b x = true then thirdOf x a b else tabI (bs.take m) a b := by
  have e : bs[m] = x := by
    rw [List.getElem?_eq_getElem hm] at hx
    simpa using hx
  have hxm : x ∈ bs := by rw [← e]; exact List.getElem_mem _
  have hg := (sys_parts h).2.2.1
  unfold tabI
  by_cases hab : a = b
  · simp [hab]
  · rw [if_neg hab, if_neg hab, List.take_succ_eq_append_getElem hm, e, List.find?_append]
    cases hf : (bs.take m).find? (bothB a b) with
    | none =>
      by_cases hb : bothB a b x = true
      · rw [if_pos ⟨hab, hb⟩]; simp [hb]
      · rw [if_neg (fun e => hb e.2)]; simp [hb]
    | some y =>
      have hy := List.mem_of_mem_take (List.mem_of_find?_eq_some hf)
      have hby := List.find?_some hf
      by_cases hb : bothB a b x = true
      · rw [if_pos ⟨hab, hb⟩]
        have : y = x := flat_unique (prs_nodup h) hy hxm ((both_or (hg y hy) hab).1 hby) ((both_or (hg x hxm) hab).1 hb)
        simp [this]
      · rw [if_neg (fun e => hb e.2)]
        simp
/-- The six pairs of a block. -/
def sixT (T : Nat → Nat → Int) (p q r : Nat) : Nat → Nat → Int :=
  setT (setT (setT (setT (setT (setT T p q r) p r q) q p r) q r p) r p q) r q p
theorem six_tab {n : Nat} {bs : List Blk} (h : isSysImpl (n : Int) bs = true) {m p q r : Nat} (hm : m < bs.length) (hx : bs[m]? = some ⟨(p : Int), (q : Int), (r : Int)⟩) (hpq : p < q) (hqr : q < r) (j k : Nat) :
    sixT (tabN (bs.take m)) p q r j k = tabN (bs.take (m + 1)) j k := by
  unfold tabN
  rw [tabI_snoc h hm hx]
  unfold sixT setT bothB hasB thirdOf
  simp only [Bool.and_eq_true, Bool.or_eq_true, decide_eq_true_eq]
  by_cases h1 : j = p
  · subst h1
    by_cases h2 : k = q
    · subst h2
      rw [if_neg (by omega), if_neg (by omega), if_neg (by omega), if_neg (by omega), if_neg (by omega), if_pos ⟨rfl, rfl⟩, if_pos (by omega)]
      omega
    · by_cases h3 : k = r
      · subst h3
        rw [if_neg (by omega), if_neg (by omega), if_neg (by omega), if_neg (by omega), if_pos ⟨rfl, rfl⟩, if_pos (by omega)]
        omega
      · rw [if_neg (by omega), if_neg (by omega), if_neg (by omega), if_neg (by omega), if_neg (by omega), if_neg (by omega), if_neg (by omega)]
  · by_cases h2 : j = q
    · subst h2
      by_cases h3 : k = p
      · subst h3
        rw [if_neg (by omega), if_neg (by omega), if_neg (by omega), if_pos ⟨rfl, rfl⟩, if_pos (by omega)]
        omega
      · by_cases h4 : k = r
        · subst h4
          rw [if_neg (by omega), if_neg (by omega), if_pos ⟨rfl, rfl⟩, if_pos (by omega)]
          omega
        · rw [if_neg (by omega), if_neg (by omega), if_neg (by omega), if_neg (by omega), if_neg (by omega), if_neg (by omega), if_neg (by omega)]
    · by_cases h3 : j = r
      · subst h3
        by_cases h4 : k = p
        · subst h4
          rw [if_neg (by omega), if_pos ⟨rfl, rfl⟩, if_pos (by omega)]
          omega
        · by_cases h5 : k = q
          · subst h5
            rw [if_pos ⟨rfl, rfl⟩, if_pos (by omega)]
            omega
          · rw [if_neg (by omega), if_neg (by omega), if_neg (by omega), if_neg (by omega), if_neg (by omega), if_neg (by omega), if_neg (by omega)]
      · rw [if_neg (by omega), if_neg (by omega), if_neg (by omega), if_neg (by omega), if_neg (by omega), if_neg (by omega), if_neg (by omega)]
end Go.Proofs.Ytmgpmcjbnooklaa

namespace Go.Proofs.Ytmgpmcjbnooklaa
open Go.RowKit Go.Maps
theorem wpList_append_int2 {w : World} {ops : Array Oper} {rest : List Oper} {o : Oper} {a : Act} {Q : Exit → Act → World → Prop} (hgd : o.guard = none) (s x : Operand)
    (ho : o.op = .call { callee := .builtin .append, args := #[s, x], argTypes := #[26, 26] })
    (base : Nat) (v : Value) (zs : List Int) (hs : a.eval s = v) (hown : OwnJ w base v zs) (b0 c : Nat) (y1 y2 : Int) (hx : a.eval x = .slice (some ⟨b0, 0, none⟩) 2 c)
    (c1 : w.cell? ⟨b0, 0, none⟩ = some (.int .i64 y1)) (c2 : w.cell? ⟨b0, 1, none⟩ = some (.int .i64 y2)) (hl : zs.length ≤ 3300000) (hbase : base ≤ w.heap.size)
    (h : ∀ (g cap : Nat) (w' : World), OwnJ w' base (.slice (some ⟨g, 0, none⟩) (zs.length + 2) cap) (zs ++ [y1, y2]) → w.grownBy w' v.ownBlock → wpList Try.prog ops Q rest (a.put o.dst (.slice (some ⟨g, 0, none⟩) (zs.length + 2) cap)) w') : wpList Try.prog ops Q (o :: rest) a w := by
  obtain ⟨i0, hi, hz0, hz1, hz2⟩ := info_parts infoInt64
  refine wpList_append_own w hgd s x 26 ho base 2 i0 _ 1 8 Try.underlying26 hi hz0 hz1 hz2 rfl (by decide) v zs.length (zs.map (Value.int .i64)) hs hown ⟨b0, 0, none⟩ 2 c [.int .i64 y1, .int .i64 y2] hx rfl ?_ ?_ (by unfold maxLen; omega) (by omega) hbase ?_
  · intro j u hj
    rw [addr_at, Nat.zero_add]
    match j, hj with
    | 0, hj => simp at hj; rw [← hj]; exact c1
    | 1, hj => simp at hj; rw [← hj]; exact c2
    | j + 2, hj => simp at hj
  · intro u hu
    simp at hu
    rcases hu with rfl | rfl <;> rfl
  · intro v' w' hown' hg _
    obtain ⟨g, cap, rfl⟩ := row_some (k := zs.length + 1) hown'
    refine h g cap w' ?_ hg
    unfold OwnJ
    rw [List.length_append, List.map_append]
    exact hown'
theorem tab_third {n : Nat} {bs : List Blk} (h : isSysImpl (n : Int) bs = true) (hf : fullB (n : Int) bs = true) {a b : Int} (ha : 0 ≤ a ∧ a < (n : Int)) (hb : 0 ≤ b ∧ b < (n : Int)) (hab : a ≠ b) : tabI bs a b = third1 bs a b := by
  obtain ⟨x, hx, h1, h2, _⟩ := tri_third h hf ha hb hab
  unfold tabI third1
  rw [if_neg hab]
  cases hfd : bs.find? (bothB a b) with
  | none => exact absurd (show bothB a b x = true by simp [bothB, h1, h2]) (by simpa using List.find?_eq_none.1 hfd x hx)
  | some y => rfl
/-- The points of the walk. -/
def wk (bs : List Blk) (a b : Nat) (s : Int) (k : Nat) : Int := stepN (third1 bs (a : Int)) (third1 bs (b : Int)) s k
def wkL (bs : List Blk) (a b : Nat) (s : Int) (k : Nat) : List Int := (List.range k).map (wk bs a b s)
theorem wkL_two (bs : List Blk) (a b : Nat) (s : Int) (k : Nat) : wkL bs a b s (k + 2) = wkL bs a b s k ++ [wk bs a b s k, wk bs a b s (k + 1)] := by
  simp [wkL, List.range_succ]
theorem wkL_len (bs : List Blk) (a b : Nat) (s : Int) (k : Nat) : (wkL bs a b s k).length = k := by simp [wkL]
/-- The length of a slice. -/
def lenOf : Value → Nat
  | .slice _ n _ => n
  | _ => 0
set_option maxRecDepth 100000 in
set_option maxHeartbeats 8000000 in
theorem cycleFrom_any (G : Nat) (lo : Nat) (gs caps : Nat → Nat) (n c : Nat) (bs : List Blk) (a b s : Nat) (w : World) (h : SSR w lo G gs caps n (rowT n (tabN bs))) (hi : isSysImpl (n : Int) bs = true) (hf : fullB (n : Int) bs = true) (ha : a < n) (hb : b < n) (hab : a ≠ b) (hs : Beyond n bs (a : Int) (b : Int) (s : Int)) (N : Nat) (hN0 : 0 < N) (hN2 : N % 2 = 0) (hN15 : N ≤ 15) (hfr : Fresh (third1 bs (a : Int)) (third1 bs (b : Int)) (s : Int) N) (hNs : wk bs a b s N = (s : Int)) :
    Calls Try.prog 51 #[.slice (some ⟨G, 0, none⟩) n c, .int .i64 (a : Int), .int .i64 (b : Int), .int .i64 (s : Int)] w (fun e w' => ∃ u, e = .returned u ∧ OwnJ w' w.heap.size u (wkL bs a b s N) ∧ Below w.heap.size w w') := by
  have htwo := two_thirds hi hf (a := (a : Int)) (b := (b : Int)) (by omega) (by omega) (by omega)
  have HM := Lib.hid (show ∀ k, Beyond n bs (a : Int) (b : Int) (wk bs a b s k) from fun k => htwo.mem hs k)
  have HSS := Lib.hid h
  have HI := Lib.hid hi
  have HF := Lib.hid hf
  have HFR := Lib.hid hfr
  have HNS := Lib.hid hNs
  have hn15 := (sys_size hi).2.1
  have HS0 := Lib.hid (show wk bs a b s 0 = (s : Int) from rfl)
  clear h hi hf hs hfr hNs htwo
  go_enter Try.func51, Try.ntmps51
  go_wp2_with fail
  refine wp_scope_jumps 0 (fun a' w' => ∃ (k : Nat) (o : Value) (u11 u13 u14 u15 u16 u17 u18 u19 u20 u21 u22 u23 u24 u25 u26 u27 u28 u29 u30 u31 u32 u33 u34 : Value), a' = { tmps := #[.slice (some ⟨G, 0, none⟩) n c, .int .i64 (a : Int), .int .i64 (b : Int), .int .i64 (s : Int), undef, undef, undef, undef, .slice none 0 0, o, .int .i64 (wk bs a b s (2 * k)), u11, .int .i64 (s : Int), u13, u14, u15, u16, u17, u18, u19, u20, u21, u22, u23, u24, u25, u26, u27, u28, u29, u30, u31, u32, u33, u34, undef], defers := [] } ∧ 2 * k < N ∧ OwnJ w' w.heap.size o (wkL bs a b s (2 * k)) ∧ (∃ x y, o = .slice x (2 * k) y) ∧ Below w.heap.size w w') (fun a' _ => N - lenOf (a'.tmps.getD 9 undef)) rfl ?_ ?_
  · go_wp2_with fail
    go_step3
    obtain ⟨k, hk0⟩ : ∃ k : Nat, k = 0 := ⟨0, rfl⟩
    have hk : 2 * k < N := by omega
    have hO : OwnJ w w.heap.size (.slice none 0 0) (wkL bs a b s (2 * k)) := by rw [hk0]; exact OwnJ.nil _ _
    have HB := Lib.hid (Below.refl w.heap.size w)
    have hP := HM.out (2 * k)
    have hQ := HM.out (2 * k + 1)
    have hR := HM.out (2 * k + 2)
    have eQ : wk bs a b s (2 * k + 1) = third1 bs (a : Int) (wk bs a b s (2 * k)) := by show (if (2 * k) % 2 = 0 then _ else _) = _; rw [if_pos (by omega)]; rfl
    have eR : wk bs a b s (2 * k + 2) = third1 bs (b : Int) (wk bs a b s (2 * k + 1)) := by show (if (2 * k + 1) % 2 = 0 then _ else _) = _; rw [if_neg (by omega)]; rfl
    have hS := wkL_two bs a b s (2 * k)
    have hle : (wkL bs a b s (2 * k)).length ≤ 100 := by rw [wkL_len]; omega
    have hPn : wk bs a b s (2 * k) = (s : Int) := by rw [hk0]; rfl
    obtain ⟨Q, hQn⟩ := Int.eq_ofNat_of_zero_le hQ.1.1
    obtain ⟨R, hRn⟩ := Int.eq_ofNat_of_zero_le hR.1.1
    have tQ := tab_third HI.out HF.out (a := (a : Int)) (b := wk bs a b s (2 * k)) (by omega) hP.1 (fun e => hP.2.1 e.symm)
    have tR := tab_third HI.out HF.out (a := (b : Int)) (b := wk bs a b s (2 * k + 1)) (by omega) hQ.1 (fun e => hQ.2.2.1 e.symm)
    rw [← eQ] at tQ
    rw [← eR] at tR
    have hPr := hP.1
    have hQr := hQ.1
    rw [hPn] at hPr tQ hS
    rw [hQn] at hQr tQ tR hS
    rw [hRn] at tR
    have hSS := HSS.out.below HB.out (Nat.le_refl _)
    have o1 := hSS.cell a ha
    have o2 := hSS.cell b hb
    rw [rowT_len] at o1 o2
    have z1 := (hSS.row a ha).at_ s (by rw [rowT_len]; omega)
    have z2 := (hSS.row b hb).at_ Q (by rw [rowT_len]; omega)
    rw [rowT_at _ _ (by omega), Nat.zero_add] at z1 z2
    rw [show tabN bs a s = (Q : Int) from tQ] at z1
    rw [show tabN bs b Q = (R : Int) from tR] at z2
    have HSV := Lib.hid hS
    have HRN := Lib.hid hRn
    have HPN := Lib.hid hPn
    have g0 : (0 : Int) ≤ (a : Int) := by omega
    have g1 : (a : Int) < (n : Int) := by omega
    have g2 : (0 : Int) ≤ (b : Int) := by omega
    have g3 : (b : Int) < (n : Int) := by omega
    have g4 : (s : Int) < (n : Int) := by omega
    have g5 : (Q : Int) < (n : Int) := by omega
    have HOO := Lib.hid hO
    have hzB := HB.out.size
    have hGlt : G < w.heap.size := HSS.out.lt
    have hgb : gs b < w.heap.size := (HSS.out.row b hb).lt
    clear hk0 hP hQ hR eQ eR hS tQ tR hSS hPn hQn hRn hPr hQr hO
    by_cases hrs : R = s
    · have hne : ((R : Int) != (s : Int)) = false := by simp; omega
      have hNk : 2 * k + 2 = N := by
        apply Classical.byContradiction
        intro hc
        refine HFR.out 0 (2 * k + 2) (by omega) (by omega) ?_
        show wk bs a b s 0 = wk bs a b s (2 * k + 2)
        rw [HS0.out, HRN.out, hrs]
      have HNK := Lib.hid hNk
      clear hrs hNk
      go_wp2_with (at_builtin; refine wpList_append_int2 rfl _ _ rfl w.heap.size _ (wkL bs a b s (2 * k)) rfl (HOO.out.below ((Below.refl _ _).alloc (Nat.le_refl _) _) (Nat.le_refl _)) _ _ (s : Int) (Q : Int) rfl (by simp [go_sem]) (by simp [go_sem]) (by omega) (by simp <;> omega) ?_; intro g' cap' w4 hO4 hg4; have hrow := HOO.out.row; have hgo : w.grownBy w4 (Value.slice none 0 0).ownBlock := ⟨hg4.os, hg4.tape, hg4.output, by have := hg4.size; simp at this; omega, fun i hi hne => by
        rw [hg4.block i (by simp; omega) hne, Below.heap_alloc _ _ _ hi]⟩; have o3 := (hgo.cell o2 (fun e => by have := hrow G e.symm; omega)); have z3 := (hgo.cell z2 (fun e => by have := hrow (gs b) e.symm; omega)))
      simp only [Exit.jump]
      go_ret
      exact ⟨_, rfl, by rw [← HNK.out, HSV.out]; exact hO4, HB.out.grown hgo hzB (fun j e => hrow j e)⟩
    · have hne : ((R : Int) != (s : Int)) = true := by simp; omega
      have hNk : 2 * (k + 1) < N := by
        apply Classical.byContradiction
        intro hc
        have e : 2 * k + 2 = N := by omega
        have h1 := HNS.out
        rw [← e, HRN.out] at h1
        exact hrs (by omega)
      have HNK := Lib.hid hNk
      clear hrs hNk
      go_wp2_with (at_builtin; refine wpList_append_int2 rfl _ _ rfl w.heap.size _ (wkL bs a b s (2 * k)) rfl (HOO.out.below ((Below.refl _ _).alloc (Nat.le_refl _) _) (Nat.le_refl _)) _ _ (s : Int) (Q : Int) rfl (by simp [go_sem]) (by simp [go_sem]) (by omega) (by simp <;> omega) ?_; intro g' cap' w4 hO4 hg4; have hrow := HOO.out.row; have hgo : w.grownBy w4 (Value.slice none 0 0).ownBlock := ⟨hg4.os, hg4.tape, hg4.output, by have := hg4.size; simp at this; omega, fun i hi hne => by
        rw [hg4.block i (by simp; omega) hne, Below.heap_alloc _ _ _ hi]⟩; have o3 := (hgo.cell o2 (fun e => by have := hrow G e.symm; omega)); have z3 := (hgo.cell z2 (fun e => by have := hrow (gs b) e.symm; omega)))
      go_step3
      rw [← HRN.out]
      refine ⟨rfl, ⟨k + 1, _, _, _, _, _, _, _, _, _, _, _, _, _, _, _, _, _, _, _, _, _, _, _, _, rfl, HNK.out, by rw [show 2 * (k + 1) = 2 * k + 2 from rfl, HSV.out]; exact hO4, ⟨some ⟨g', 0, none⟩, cap', by rw [wkL_len]; rfl⟩, HB.out.grown hgo hzB (fun j e => hrow j e)⟩⟩
  · rintro a' wr ⟨k, o, u11, u13, u14, u15, u16, u17, u18, u19, u20, u21, u22, u23, u24, u25, u26, u27, u28, u29, u30, u31, u32, u33, u34, rfl, hk, hO, ⟨oa, oc, rfl⟩, hB⟩
    have HB := Lib.hid hB
    clear hB
    have hP := HM.out (2 * k)
    have hQ := HM.out (2 * k + 1)
    have hR := HM.out (2 * k + 2)
    have eQ : wk bs a b s (2 * k + 1) = third1 bs (a : Int) (wk bs a b s (2 * k)) := by show (if (2 * k) % 2 = 0 then _ else _) = _; rw [if_pos (by omega)]; rfl
    have eR : wk bs a b s (2 * k + 2) = third1 bs (b : Int) (wk bs a b s (2 * k + 1)) := by show (if (2 * k + 1) % 2 = 0 then _ else _) = _; rw [if_neg (by omega)]; rfl
    have hS := wkL_two bs a b s (2 * k)
    have hle : (wkL bs a b s (2 * k)).length ≤ 100 := by rw [wkL_len]; omega
    obtain ⟨P, hPn⟩ := Int.eq_ofNat_of_zero_le hP.1.1
    obtain ⟨Q, hQn⟩ := Int.eq_ofNat_of_zero_le hQ.1.1
    obtain ⟨R, hRn⟩ := Int.eq_ofNat_of_zero_le hR.1.1
    have tQ := tab_third HI.out HF.out (a := (a : Int)) (b := wk bs a b s (2 * k)) (by omega) hP.1 (fun e => hP.2.1 e.symm)
    have tR := tab_third HI.out HF.out (a := (b : Int)) (b := wk bs a b s (2 * k + 1)) (by omega) hQ.1 (fun e => hQ.2.2.1 e.symm)
    rw [← eQ] at tQ
    rw [← eR] at tR
    have hPr := hP.1
    have hQr := hQ.1
    rw [hPn] at hPr tQ hS
    rw [hQn] at hQr tQ tR hS
    rw [hRn] at tR
    have hSS := HSS.out.below HB.out (Nat.le_refl _)
    have o1 := hSS.cell a ha
    have o2 := hSS.cell b hb
    rw [rowT_len] at o1 o2
    have z1 := (hSS.row a ha).at_ P (by rw [rowT_len]; omega)
    have z2 := (hSS.row b hb).at_ Q (by rw [rowT_len]; omega)
    rw [rowT_at _ _ (by omega), Nat.zero_add] at z1 z2
    rw [show tabN bs a P = (Q : Int) from tQ] at z1
    rw [show tabN bs b Q = (R : Int) from tR] at z2
    have HSV := Lib.hid hS
    have HRN := Lib.hid hRn
    have HPN := Lib.hid hPn
    have g0 : (0 : Int) ≤ (a : Int) := by omega
    have g1 : (a : Int) < (n : Int) := by omega
    have g2 : (0 : Int) ≤ (b : Int) := by omega
    have g3 : (b : Int) < (n : Int) := by omega
    have g4 : (P : Int) < (n : Int) := by omega
    have g5 : (Q : Int) < (n : Int) := by omega
    have HOO := Lib.hid hO
    have hzB := HB.out.size
    have hGlt : G < w.heap.size := HSS.out.lt
    have hgb : gs b < w.heap.size := (HSS.out.row b hb).lt
    rw [hPn]
    clear hP hQ hR eQ eR hS tQ tR hSS hPn hQn hRn hPr hQr hO
    by_cases hrs : R = s
    · have hne : ((R : Int) != (s : Int)) = false := by simp; omega
      have hNk : 2 * k + 2 = N := by
        apply Classical.byContradiction
        intro hc
        refine HFR.out 0 (2 * k + 2) (by omega) (by omega) ?_
        show wk bs a b s 0 = wk bs a b s (2 * k + 2)
        rw [HS0.out, HRN.out, hrs]
      have HNK := Lib.hid hNk
      clear hrs hNk
      go_wp2_with (at_builtin; refine wpList_append_int2 rfl _ _ rfl w.heap.size _ (wkL bs a b s (2 * k)) rfl (HOO.out.below ((Below.refl _ _).alloc (Nat.le_refl _) _) (Nat.le_refl _)) _ _ (P : Int) (Q : Int) rfl (by simp [go_sem]) (by simp [go_sem]) (by omega) (by simp <;> omega) ?_; intro g' cap' w4 hO4 hg4; have hrow := HOO.out.row; have hgo : wr.grownBy w4 (Value.slice oa (2 * k) oc).ownBlock := ⟨hg4.os, hg4.tape, hg4.output, by have := hg4.size; simp at this; omega, fun i hi hne => by
        rw [hg4.block i (by simp; omega) hne, Below.heap_alloc _ _ _ hi]⟩; have o3 := (hgo.cell o2 (fun e => by have := hrow G e.symm; omega)); have z3 := (hgo.cell z2 (fun e => by have := hrow (gs b) e.symm; omega)))
      simp only [Exit.jump]
      go_ret
      exact ⟨_, rfl, by rw [← HNK.out, HSV.out]; exact hO4, HB.out.grown hgo hzB (fun j e => hrow j e)⟩
    · have hne : ((R : Int) != (s : Int)) = true := by simp; omega
      have hNk : 2 * (k + 1) < N := by
        apply Classical.byContradiction
        intro hc
        have e : 2 * k + 2 = N := by omega
        have h1 := HNS.out
        rw [← e, HRN.out] at h1
        exact hrs (by omega)
      have HNK := Lib.hid hNk
      clear hrs hNk
      go_wp2_with (at_builtin; refine wpList_append_int2 rfl _ _ rfl w.heap.size _ (wkL bs a b s (2 * k)) rfl (HOO.out.below ((Below.refl _ _).alloc (Nat.le_refl _) _) (Nat.le_refl _)) _ _ (P : Int) (Q : Int) rfl (by simp [go_sem]) (by simp [go_sem]) (by omega) (by simp <;> omega) ?_; intro g' cap' w4 hO4 hg4; have hrow := HOO.out.row; have hgo : wr.grownBy w4 (Value.slice oa (2 * k) oc).ownBlock := ⟨hg4.os, hg4.tape, hg4.output, by have := hg4.size; simp at this; omega, fun i hi hne => by
        rw [hg4.block i (by simp; omega) hne, Below.heap_alloc _ _ _ hi]⟩; have o3 := (hgo.cell o2 (fun e => by have := hrow G e.symm; omega)); have z3 := (hgo.cell z2 (fun e => by have := hrow (gs b) e.symm; omega)))
      go_step3
      rw [← HRN.out]
      refine ⟨rfl, ⟨k + 1, _, _, _, _, _, _, _, _, _, _, _, _, _, _, _, _, _, _, _, _, _, _, _, _, rfl, HNK.out, by rw [show 2 * (k + 1) = 2 * k + 2 from rfl, HSV.out]; exact hO4, ⟨some ⟨g', 0, none⟩, cap', by rw [wkL_len]; rfl⟩, HB.out.grown hgo hzB (fun j e => hrow j e)⟩, by rw [wkL_len]; simp [lenOf]; omega⟩
end Go.Proofs.Ytmgpmcjbnooklaa

namespace Go.Proofs.Ytmgpmcjbnooklaa
open Go.RowKit Go.Maps
set_option maxRecDepth 100000 in
theorem markInt64SS_nil (a : Option Addr) (c : Nat) (k : Int) (w : World) : Calls Try.prog 28 #[.slice a 0 c, .int .i64 k] w (RS (.int .i64 k) w) := by
  go_enter Try.func28, Try.ntmps28
  go_wp2
  refine wp_loop_rounds 1 ?_
  rw [rounds_succ]
  go_wp2
  go_ret
  exact RS_of rfl
set_option maxRecDepth 100000 in
theorem heldInt64SS_nil (a : Option Addr) (c : Nat) (k : Int) (w : World) : Calls Try.prog 32 #[.slice a 0 c, .int .i64 k] w (RS (.int .i64 k) w) := by
  go_enter Try.func32, Try.ntmps32
  go_wp2
  refine wp_loop_rounds 1 ?_
  rw [rounds_succ]
  go_wp2
  go_ret
  exact RS_of rfl
set_option maxRecDepth 100000 in
theorem markInt64SS_in (lo hi G cap : Nat) (gs caps : Nat → Nat) (n : Nat) (F : Nat → List Int) (k0 : Int) (w : World) (h : SSR w lo G gs caps n F) (hh : ∀ k, k < n → gs k < hi) (hl : n ≤ 1100000) (hT : tot F n ≤ 1100000) (h0 : 0 ≤ k0) (h1 : k0 ≤ 5000000) :
    Calls Try.prog 28 #[.slice (some ⟨G, 0, none⟩) n cap, .int .i64 k0] w (fun e w' => e = .returned (.int .i64 (k0 + tot F n)) ∧ OnlyIn lo hi w w' ∧ SSR w' lo G gs caps n (markSS k0 F)) := by
  have H := Lib.hid h
  have HH := Lib.hid hh
  clear h hh
  go_enter Try.func28, Try.ntmps28
  go_wp2
  go_loopw [1, 5] (fun t i wr => ∃ j : Nat, j ≤ n ∧ i = .int .i64 j ∧ t = .int .i64 (k0 + tot F j) ∧ OnlyIn lo hi w wr ∧ SSR wr lo G gs caps n (partSS k0 F j)) (fun _ i _ => n - (intOf i).toNat)
  case atStart => exact ⟨0, Nat.zero_le _, rfl, by simp [tot], OnlyIn.refl _ _ _, H.out.congr (fun k _ => by simp [partSS])⟩
  case round =>
    obtain ⟨j, hj, rfl, rfl, hB, hS⟩ := hrel
    by_cases hjl : j < n
    · have c1 := hS.cell j hjl
      have hrow := hS.row j hjl
      have hlow := hS.low j hjl
      have hhi := HH.out j hjl
      have hlen := partSS_len k0 F j j
      have hFj : partSS k0 F j j = F j := by simp [partSS]
      rw [hFj] at c1 hrow
      have htj : tot F (j + 1) ≤ tot F n := tot_le F hjl
      have htj' : tot F (j + 1) = tot F j + (F j).length := rfl
      have HS := Lib.hid hS
      have HM := Lib.hid (markInt64S_any (gs j) (caps j) (F j) (k0 + tot F j) wr hrow (by omega) (by omega) (by omega))
      clear hlen hFj hrow hS
      have g0 : (0 : Int) ≤ (j : Int) := by omega
      have g1 : (j : Int) < (n : Int) := by omega
      go_wp2_with (go_at_call 16; refine HM.out.mono ?_; rintro e w1 ⟨rfl, hg1, ho1⟩)
      go_roundw
      case rel => exact ⟨j + 1, by omega, by go_num, int_eq (by rw [htj']; omega), hB.trans (OnlyIn.of_grown hg1 (fun r e => by cases e; exact ⟨hlow, hhi⟩)), by
        have := HS.out.mark1 hjl (markSS k0 F j) (by unfold markSS; rw [markI_length, partSS_len]) hg1 ho1
        rw [partSS_succ] at this
        exact this⟩
      case measure => simp [intOf]; omega
    · go_wp2
      go_ret
      have e : j = n := by omega
      subst e
      exact ⟨rfl, hB, hS.congr (fun k hk => by simp [partSS, hk])⟩
theorem ResH.mark {lo hi n : Nat} {w : World} {u : Value} {F : Nat → List Int} (h : ResH w lo hi u n F) (hn : n ≤ 1100000) (hT : tot F n ≤ 1100000) (k0 : Int) (h0 : 0 ≤ k0) (h1 : k0 ≤ 5000000) :
    Calls Try.prog 28 #[u, .int .i64 k0] w (fun e w' => e = .returned (.int .i64 (k0 + tot F n)) ∧ OnlyIn lo hi w w' ∧ ResH w' lo hi u n (markSS k0 F)) := by
  rcases h with ⟨rfl, a, c, rfl⟩ | ⟨G, cap, gs, caps, rfl, hG, hG2, hgs, hS⟩
  · refine (markInt64SS_nil a c k0 w).mono ?_
    rintro e w' ⟨rfl, rfl⟩
    exact ⟨by simp [tot], OnlyIn.refl _ _ _, .inl ⟨rfl, a, c, rfl⟩⟩
  · refine (markInt64SS_in lo hi G cap gs caps n F k0 w hS hgs hn hT h0 h1).mono ?_
    rintro e w' ⟨rfl, hb, hS'⟩
    exact ⟨rfl, hb, .inr ⟨G, cap, gs, caps, rfl, hG, hG2, hgs, hS'⟩⟩
theorem ResH.held {lo hi n : Nat} {w : World} {u : Value} {F : Nat → List Int} (k0 : Int) (h : ResH w lo hi u n (markSS k0 F)) (hn : n ≤ 1100000) (hT : tot F n ≤ 1100000) (h0 : 0 ≤ k0) (h1 : k0 ≤ 5000000) :
    Calls Try.prog 32 #[u, .int .i64 k0] w (RS (.int .i64 (k0 + tot F n)) w) := by
  rcases h with ⟨rfl, a, c, rfl⟩ | ⟨G, cap, gs, caps, rfl, hG, _, _, hS⟩
  · have e : k0 + ((tot F 0 : Nat) : Int) = k0 := by simp [tot]
    rw [e]
    exact heldInt64SS_nil a c k0 w
  · exact heldInt64SS_any lo G cap gs caps n F k0 w hS hn hT h0 h1
/-- The rows of a list. -/
def rowsF (L : List (List Int)) (k : Nat) : List Int := L[k]?.getD []
/-- Returns fresh rows and a code. -/
def RRows (r : List (List Int) × Int) (w : World) (e : Ending) (w' : World) : Prop := ∃ u, e = .returned (.tuple #[u, .int .i64 r.2]) ∧ ResSS w' w.heap.size u r.1.length (rowsF r.1) ∧ Below w.heap.size w w'
theorem rowsF_len {L : List (List Int)} (h : tot (rowsF L) L.length ≤ 1100000) : ∀ k, k < L.length → (rowsF L k).length ≤ 1100000 := fun k hk => by
  have h1 : tot (rowsF L) (k + 1) ≤ tot (rowsF L) L.length := tot_le _ hk
  have h2 : tot (rowsF L) (k + 1) = tot (rowsF L) k + (rowsF L k).length := rfl
  omega
end Go.Proofs.Ytmgpmcjbnooklaa

namespace Go.Proofs.Ytmgpmcjbnooklaa
def CycOk (bs : List Blk) (a b : Nat) (s : Int) (N : Nat) : Prop := 0 < N ∧ N % 2 = 0 ∧ N ≤ 15 ∧ Fresh (third1 bs (a : Int)) (third1 bs (b : Int)) s N ∧ wk bs a b s N = s
open Classical in
noncomputable def perN (bs : List Blk) (a b : Nat) (s : Int) : Nat := if h : ∃ N, CycOk bs a b s N then Classical.choose h else 0
noncomputable def cyc (bs : List Blk) (a b : Nat) (s : Int) : List Int := wkL bs a b s (perN bs a b s)
def seen0 (bs : List Blk) (a b : Nat) : List Int := [(a : Int), (b : Int), third1 bs (a : Int) (b : Int)]
/-- The cycles after some points. -/
noncomputable def cyS (bs : List Blk) (a b : Nat) : Nat → List (List Int)
  | 0 => []
  | k + 1 => if (k : Int) ∈ seen0 bs a b ++ (cyS bs a b k).flatten then cyS bs a b k else cyS bs a b k ++ [cyc bs a b (k : Int)]
section
variable {n : Nat} {bs : List Blk} {a b : Nat}
theorem perN_ok (h : isSysImpl (n : Int) bs = true) (hf : fullB (n : Int) bs = true) (ha : a < n) (hb : b < n) (hab : a ≠ b) {s : Int} (hs : Beyond n bs (a : Int) (b : Int) s) : CycOk bs a b s (perN bs a b s) := by
  have ht := two_thirds h hf (a := (a : Int)) (b := (b : Int)) (by omega) (by omega) (by omega)
  have hn := (sys_size h).2.1
  obtain ⟨N, h0, h2, hl, hfr, he⟩ := ht.period hs (l := (List.range n).map fun (k : Nat) => (k : Int)) (fun x hx => List.mem_map.2 ⟨x.toNat, List.mem_range.2 (by have := hx.1; omega), by have := hx.1; omega⟩)
  have hex : ∃ N, CycOk bs a b s N := ⟨N, h0, h2, by simp at hl; omega, hfr, he⟩
  unfold perN
  rw [dif_pos hex]
  exact Classical.choose_spec hex
theorem cyc_len (h : isSysImpl (n : Int) bs = true) (hf : fullB (n : Int) bs = true) (ha : a < n) (hb : b < n) (hab : a ≠ b) {s : Int} (hs : Beyond n bs (a : Int) (b : Int) s) : (cyc bs a b s).length ≤ 15 ∧ 0 < (cyc bs a b s).length := by
  have := perN_ok h hf ha hb hab hs
  unfold cyc
  rw [wkL_len]
  exact ⟨this.2.2.1, this.1⟩
theorem mem_cyc {s x : Int} : x ∈ cyc bs a b s ↔ ∃ k, k < perN bs a b s ∧ wk bs a b s k = x := by
  simp [cyc, wkL]
/-- What is in the cycles is beyond, and closed. -/
theorem cyS_closed (h : isSysImpl (n : Int) bs = true) (hf : fullB (n : Int) bs = true) (ha : a < n) (hb : b < n) (hab : a ≠ b) : ∀ k, k ≤ n → ∀ x ∈ (cyS bs a b k).flatten, Beyond n bs (a : Int) (b : Int) x ∧ third1 bs (a : Int) x ∈ (cyS bs a b k).flatten ∧ third1 bs (b : Int) x ∈ (cyS bs a b k).flatten
  | 0, _, x, hx => by simp [cyS] at hx
  | k + 1, hk, x, hx => by
    have ih := cyS_closed h hf ha hb hab k (by omega)
    have ht := two_thirds h hf (a := (a : Int)) (b := (b : Int)) (by omega) (by omega) (by omega)
    unfold cyS at hx ⊢
    split
    · rename_i hm
      rw [if_pos hm] at hx
      exact ih x hx
    · rename_i hm
      rw [if_neg hm] at hx
      have hB : Beyond n bs (a : Int) (b : Int) (k : Int) := by
        simp only [seen0, List.mem_append, List.mem_cons, List.not_mem_nil, or_false, not_or] at hm
        exact ⟨by omega, hm.1.1, hm.1.2.1, hm.1.2.2⟩
      have hok := perN_ok h hf ha hb hab hB
      simp only [List.flatten_append, List.flatten_cons, List.flatten_nil, List.append_nil, List.mem_append] at hx ⊢
      rcases hx with hx | hx
      · obtain ⟨h1, h2, h3⟩ := ih x hx
        exact ⟨h1, .inl h2, .inl h3⟩
      · obtain ⟨j, hj, rfl⟩ := mem_cyc.1 hx
        obtain ⟨⟨i1, hi1, e1⟩, ⟨i2, hi2, e2⟩⟩ := ht.closed hB hok.1 hok.2.1 hok.2.2.2.2 hj
        exact ⟨ht.mem hB j, .inr (mem_cyc.2 ⟨i1, hi1, e1.symm⟩), .inr (mem_cyc.2 ⟨i2, hi2, e2.symm⟩)⟩
theorem wk_notin (h : isSysImpl (n : Int) bs = true) (hf : fullB (n : Int) bs = true) (ha : a < n) (hb : b < n) (hab : a ≠ b) {k : Nat} (hk : k ≤ n) {s : Int} (hs : Beyond n bs (a : Int) (b : Int) s) (hn : s ∉ (cyS bs a b k).flatten) : ∀ j, wk bs a b s j ∉ (cyS bs a b k).flatten
  | 0 => hn
  | j + 1 => fun hm => by
    have ht := two_thirds h hf (a := (a : Int)) (b := (b : Int)) (by omega) (by omega) (by omega)
    obtain ⟨_, h2, h3⟩ := cyS_closed h hf ha hb hab k hk _ hm
    have hbk := ht.back hs j
    refine wk_notin h hf ha hb hab hk hs hn j ?_
    show stepN _ _ s j ∈ _
    rw [← hbk]
    split
    · exact h2
    · exact h3
theorem cyS_step (k : Nat) : (∃ R, cyS bs a b (k + 1) = cyS bs a b k ++ R) := by
  rw [show cyS bs a b (k + 1) = if (k : Int) ∈ seen0 bs a b ++ (cyS bs a b k).flatten then cyS bs a b k else cyS bs a b k ++ [cyc bs a b (k : Int)] from rfl]
  split
  · exact ⟨[], by simp⟩
  · exact ⟨_, rfl⟩
theorem cyS_pre {k m : Nat} (hk : k ≤ m) : ∃ R, cyS bs a b m = cyS bs a b k ++ R := by
  induction hk with
  | refl => exact ⟨[], by simp⟩
  | step _ ih =>
    obtain ⟨R, hR⟩ := ih
    obtain ⟨R', hR'⟩ := cyS_step (bs := bs) (a := a) (b := b) _
    exact ⟨R ++ R', by rw [hR', hR, List.append_assoc]⟩
theorem cyS_len : ∀ k, (cyS bs a b k).length ≤ k
  | 0 => Nat.le_refl _
  | k + 1 => by
    have := cyS_len k
    unfold cyS
    split
    · omega
    · simp; omega
theorem cyS_rows (h : isSysImpl (n : Int) bs = true) (hf : fullB (n : Int) bs = true) (ha : a < n) (hb : b < n) (hab : a ≠ b) : ∀ k, k ≤ n → ∀ r ∈ cyS bs a b k, r.length ≤ 15
  | 0, _, r, hr => by simp [cyS] at hr
  | k + 1, hk, r, hr => by
    have ih := cyS_rows h hf ha hb hab k (by omega)
    unfold cyS at hr
    split at hr
    · exact ih r hr
    · rename_i hm
      have hB : Beyond n bs (a : Int) (b : Int) (k : Int) := by
        simp only [seen0, List.mem_append, List.mem_cons, List.not_mem_nil, or_false, not_or] at hm
        exact ⟨by omega, hm.1.1, hm.1.2.1, hm.1.2.2⟩
      rcases List.mem_append.1 hr with hr | hr
      · exact ih r hr
      · simp at hr
        rw [hr]
        exact (cyc_len h hf ha hb hab hB).1
end
end Go.Proofs.Ytmgpmcjbnooklaa

namespace Go.Proofs.Ytmgpmcjbnooklaa
open Go.RowKit Go.Maps
/-- Appending all of a row to a list of one's own that is not empty: the grown list lies where it lay, or beyond all. -/
theorem wpList_append_ints_at {w : World} {ops : Array Oper} {rest : List Oper} {o : Oper} {a : Act} {Q : Exit → Act → World → Prop} (hgd : o.guard = none) (s x : Operand)
    (ho : o.op = .call { callee := .builtin .append, args := #[s, x], argTypes := #[26, 26] })
    (base : Nat) (v : Value) (zs : List Int) (hs : a.eval s = v) (hown : OwnJ w base v zs) (hne : 0 < zs.length) (b0 off c : Nat) (ys : List Int) (hx : a.eval x = .slice (some ⟨b0, off, none⟩) ys.length c)
    (hy : Ints w b0 off ys) (hl : zs.length + ys.length ≤ 3300000) (hbase : base ≤ w.heap.size)
    (h : ∀ (g cap : Nat) (w' : World), OwnJ w' base (.slice (some ⟨g, 0, none⟩) (zs.length + ys.length) cap) (zs ++ ys) → w.grownBy w' v.ownBlock → (v.ownBlock = some g ∨ g = w.heap.size) → wpList Try.prog ops Q rest (a.put o.dst (.slice (some ⟨g, 0, none⟩) (zs.length + ys.length) cap)) w') : wpList Try.prog ops Q (o :: rest) a w := by
  obtain ⟨i0, hi, hz0, hz1, hz2⟩ := info_parts infoInt64
  refine wpList_append_own_at w hgd s x 26 ho base 2 i0 _ 1 8 Try.underlying26 hi hz0 hz1 hz2 rfl (by decide) v zs.length (zs.map (Value.int .i64)) hs hown ⟨b0, off, none⟩ ys.length c (ys.map (Value.int .i64)) hx (by simp) ?_ ?_ (by unfold maxLen; omega) (by omega) hbase ?_
  · intro j u hj
    rw [addr_at]
    rw [List.getElem?_map] at hj
    cases hq : ys[j]? with
    | none => rw [hq] at hj; cases hj
    | some z =>
      rw [hq] at hj
      have hjl : j < ys.length := by
        rcases Nat.lt_or_ge j ys.length with h1 | h1
        · exact h1
        · rw [List.getElem?_eq_none h1] at hq; cases hq
      have := hy j hjl
      rw [hq] at this
      simp at hj
      rw [← hj]
      exact this
  · intro u hu
    obtain ⟨z, _, rfl⟩ := List.mem_map.1 hu
    rfl
  · intro v' w' hown' hg _ hob
    obtain ⟨m, hm⟩ : ∃ m, zs.length + ys.length = m + 1 := ⟨zs.length + ys.length - 1, by omega⟩
    have hv : ∃ g cap, v' = .slice (some ⟨g, 0, none⟩) (zs.length + ys.length) cap := by
      rcases hown'.2 with ⟨_, h0⟩ | ⟨g, cap, _, rfl, _⟩
      · omega
      · exact ⟨g, cap, rfl⟩
    obtain ⟨g, cap, rfl⟩ := hv
    refine h g cap w' ?_ hg ?_
    · unfold OwnJ
      rw [List.length_append, List.map_append]
      exact hown'
    · rcases hob with e | e
      · exact .inl (by rw [← e]; rfl)
      · exact .inr (by simpa [Value.ownBlock] using e)
theorem wpList_append_row_at {w : World} {ops : Array Oper} {rest : List Oper} {o : Oper} {a : Act} {Q : Exit → Act → World → Prop} (hgd : o.guard = none) (s x : Operand)
    (ho : o.op = .call { callee := .builtin .append, args := #[s, x], argTypes := #[45, 45] })
    (base : Nat) (v : Value) (n : Nat) (gs caps : Nat → Nat) (F : Nat → List Int) (hs : a.eval s = v) (hown : AccS w base v n gs caps F) (b0 c : Nat) (hx : a.eval x = .slice (some ⟨b0, 0, none⟩) 1 c) (g cg : Nat)
    (c1 : w.cell? ⟨b0, 0, none⟩ = some (.slice (some ⟨g, 0, none⟩) (F n).length cg)) (hrow : OwnAtI w g (F n)) (hgt : ∀ k, k < n → gs k < g) (hng : v.ownBlock ≠ some g) (hbg : base ≤ g) (hl : n ≤ 1100000) (hbase : base ≤ w.heap.size)
    (h : ∀ (G cap : Nat) (w' : World), AccS w' base (.slice (some ⟨G, 0, none⟩) (n + 1) cap) (n + 1) (fun k => if k = n then g else gs k) (fun k => if k = n then cg else caps k) F → w.grownBy w' v.ownBlock → (v.ownBlock = some G ∨ G = w.heap.size) → wpList Try.prog ops Q rest (a.put o.dst (.slice (some ⟨G, 0, none⟩) (n + 1) cap)) w') : wpList Try.prog ops Q (o :: rest) a w := by
  obtain ⟨i0, hi, hz0, hz1, hz2⟩ := info_parts infoRow
  refine wpList_append_own_at w hgd s x 45 ho base 26 i0 _ 1 24 Try.underlying45 hi hz0 hz1 hz2 rfl (by decide) v n _ hs hown.own ⟨b0, 0, none⟩ 1 c [.slice (some ⟨g, 0, none⟩) (F n).length cg] hx rfl ?_ ?_ (by unfold maxLen; omega) (by omega) hbase ?_
  · intro j u hj
    rw [addr_at, Nat.zero_add]
    match j, hj with
    | 0, hj => simp at hj; rw [← hj]; exact c1
    | j + 1, hj => simp at hj
  · intro u hu
    simp at hu
    rw [hu]
    rfl
  · intro v' w' hown' hg _ hob
    obtain ⟨G, cap, rfl⟩ := row_some hown'
    have hGg : G ≠ g := by
      rintro rfl
      rcases hob with e | e
      · exact hng (by rw [← e]; rfl)
      · simp [Value.ownBlock] at e
        have := hrow.lt
        omega
    refine h G cap w' ⟨?_, fun k hk => ?_, fun k hk => ?_, fun j k hjk hk => ?_, fun k hk => ?_⟩ hg ?_
    · rw [List.range_succ, List.map_append, List.map_singleton]
      have e1 : (List.range n).map (rowV (fun k => if k = n then g else gs k) (fun k => if k = n then cg else caps k) F) = (List.range n).map (rowV gs caps F) := map_congr' fun k hk => by
        have : k ≠ n := by have := List.mem_range.1 hk; omega
        simp [rowV, this]
      rw [e1]
      simpa [rowV] using hown'
    · split
      · subst k; exact hrow.kept hg (fun e => hng e.symm)
      · exact (hown.row k (by omega)).kept hg (fun e => hown.ne k (by omega) e.symm)
    · split
      · simpa [Value.ownBlock] using hGg
      · intro e
        have e' : G = gs k := by simpa [Value.ownBlock] using e
        rcases hob with e2 | e2
        · exact hown.ne k (by omega) (by rw [← e2, e])
        · simp [Value.ownBlock] at e2
          have := (hown.row k (by omega)).lt
          omega
    · rw [if_neg (by omega)]
      split
      · exact Nat.ne_of_lt (hgt j (by omega))
      · exact hown.inc j k hjk (by omega)
    · split
      · exact hbg
      · exact hown.low k (by omega)
    · rcases hob with e | e
      · exact .inl (by rw [← e]; rfl)
      · exact .inr (by simpa [Value.ownBlock] using e)
/-- The list of the points that were seen, in block sB, and the rows beside it. -/
structure CyM (w : World) (base sB sc : Nat) (sl : List Int) (cv : Value) (m : Nat) (gs caps : Nat → Nat) (F : Nat → List Int) : Prop where
  own : OwnJ w base (.slice (some ⟨sB, 0, none⟩) sl.length sc) sl
  acc : AccS w base cv m gs caps F
  ne : cv.ownBlock ≠ some sB
  nr : ∀ k, k < m → gs k ≠ sB
theorem CyM.kept {w w' : World} {base sB sc : Nat} {sl : List Int} {cv : Value} {m : Nat} {gs caps : Nat → Nat} {F : Nat → List Int} (h : CyM w base sB sc sl cv m gs caps F) (hg : w.grownBy w' none) : CyM w' base sB sc sl cv m gs caps F :=
  ⟨ownsRow_kept h.own hg (.inl rfl), h.acc.kept hg (.inl rfl) (fun _ _ e => by cases e), h.ne, h.nr⟩
end Go.Proofs.Ytmgpmcjbnooklaa

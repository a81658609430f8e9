
/- Plain facts on blocks and systems, without the program. -/
namespace Go.Proofs.Ytlchcnngikgjjaa

/-- A block: three numbers. -/
structure Blk where
  a : Int
  b : Int
  c : Int
deriving DecidableEq

instance : Inhabited Blk := ⟨⟨0, 0, 0⟩⟩

def goodB (v : Int) (x : Blk) : Bool := decide (0 ≤ x.a) && decide (x.a < x.b) && decide (x.b < x.c) && decide (x.c < v)
def befB (x y : Blk) : Bool := if x.a = y.a then (if x.b = y.b then decide (x.c < y.c) else decide (x.b < y.b)) else decide (x.a < y.a)
def eq1 (p q : Int) : Nat := if p = q then 1 else 0
theorem eq1_or (p q : Int) : (p = q ∧ eq1 p q = 1) ∨ (p ≠ q ∧ eq1 p q = 0) := by
  unfold eq1
  split
  · exact .inl ⟨‹_›, rfl⟩
  · exact .inr ⟨‹_›, rfl⟩
/-- How many points two blocks have in common. -/
def commonN (x y : Blk) : Nat :=
  eq1 x.a y.a + eq1 x.a y.b + eq1 x.a y.c + (eq1 x.b y.a + eq1 x.b y.b + eq1 x.b y.c) + (eq1 x.c y.a + eq1 x.c y.b + eq1 x.c y.c)
def pairsL (x : Blk) : List (Int × Int) := [(x.a, x.b), (x.a, x.c), (x.b, x.c)]
def freeB (seen : List (Int × Int)) (x : Blk) : Bool := !((pairsL x).any fun p => seen.contains p)
/-- A pair is in two of the blocks. -/
def shareGo : List (Int × Int) → List Blk → Bool
  | _, [] => false
  | seen, x :: r => if freeB seen x then shareGo (seen ++ pairsL x) r else true
/-- Good blocks in order, 'p' being the one before. -/
def orderGo (v : Int) : Option Blk → List Blk → Bool
  | _, [] => true
  | p, x :: r => (goodB v x && (match p with | none => true | some y => befB y x)) && orderGo v (some x) r
def fitsWith (x : Blk) (l : List Blk) : Bool := l.all fun y => decide (commonN x y ≤ 1)
def fitsGo : List Blk → List Blk → Bool
  | _, [] => true
  | done, x :: r => fitsWith x done && fitsGo (done ++ [x]) r
def isSysImpl (v : Int) (bs : List Blk) : Bool := decide (3 ≤ v) && decide (v ≤ 15) && orderGo v none bs && !shareGo [] bs
def isSysSpec (v : Int) (bs : List Blk) : Bool := decide (3 ≤ v) && decide (v ≤ 15) && decide (bs.length ≤ 35) && orderGo v none bs && fitsGo [] bs

theorem goodB_iff {v : Int} {x : Blk} : goodB v x = true ↔ 0 ≤ x.a ∧ x.a < x.b ∧ x.b < x.c ∧ x.c < v := by
  simp [goodB, and_assoc]

theorem orderGo_bad {v : Int} {p : Option Blk} {x : Blk} {r : List Blk} (h : goodB v x = false) : orderGo v p (x :: r) = false := by
  simp [orderGo, h]
theorem orderGo_first {v : Int} {x : Blk} {r : List Blk} (h : goodB v x = true) : orderGo v none (x :: r) = orderGo v (some x) r := by
  simp [orderGo, h]
theorem orderGo_next {v : Int} {x y : Blk} {r : List Blk} (h : goodB v x = true) (h2 : befB y x = true) : orderGo v (some y) (x :: r) = orderGo v (some x) r := by
  simp [orderGo, h, h2]
theorem orderGo_stop {v : Int} {x y : Blk} {r : List Blk} (h2 : befB y x = false) : orderGo v (some y) (x :: r) = false := by
  simp [orderGo, h2]
theorem order_good {v : Int} : ∀ {bs : List Blk} {p : Option Blk}, orderGo v p bs = true → ∀ x ∈ bs, goodB v x = true
  | [], _, _, x, h => by cases h
  | y :: r, p, h, x, hx => by
    simp only [orderGo, Bool.and_eq_true] at h
    rcases List.mem_cons.1 hx with rfl | hx
    · exact h.1.1
    · exact order_good h.2 x hx

/-- Two good blocks have at most one point in common just if no pair of one is a pair of the other. -/
theorem common_pairs {v w : Int} {x y : Blk} (hx : goodB v x = true) (hy : goodB w y = true) : commonN x y ≤ 1 ↔ ∀ p ∈ pairsL x, p ∉ pairsL y := by
  rw [goodB_iff] at hx hy
  obtain ⟨a, b, c⟩ := x
  obtain ⟨d, e, f⟩ := y
  simp only [commonN, pairsL] at *
  simp only [List.mem_cons, List.not_mem_nil, or_false, Prod.mk.injEq, forall_eq_or_imp, forall_eq]
  obtain ⟨h1, h2, h3, h4⟩ := hx
  obtain ⟨g1, g2, g3, g4⟩ := hy
  clear h4 g4 h1 g1
  rcases eq1_or a d with ⟨h, e⟩ | ⟨h, e⟩ <;> rw [e] <;> clear e <;> rcases eq1_or a e with ⟨h', e'⟩ | ⟨h', e'⟩ <;> (try (exfalso; omega)) <;> rw [e'] <;> clear e' <;> rcases eq1_or a f with ⟨h'', e''⟩ | ⟨h'', e''⟩ <;> (try (exfalso; omega)) <;> rw [e''] <;> clear e'' <;>
  rcases eq1_or b d with ⟨k, e⟩ | ⟨k, e⟩ <;> (try (exfalso; omega)) <;> rw [e] <;> clear e <;> rcases eq1_or b e with ⟨k', e'⟩ | ⟨k', e'⟩ <;> (try (exfalso; omega)) <;> rw [e'] <;> clear e' <;> rcases eq1_or b f with ⟨k'', e''⟩ | ⟨k'', e''⟩ <;> (try (exfalso; omega)) <;> rw [e''] <;> clear e'' <;>
  rcases eq1_or c d with ⟨m, e⟩ | ⟨m, e⟩ <;> (try (exfalso; omega)) <;> rw [e] <;> clear e <;> rcases eq1_or c e with ⟨m', e'⟩ | ⟨m', e'⟩ <;> (try (exfalso; omega)) <;> rw [e'] <;> clear e' <;> rcases eq1_or c f with ⟨m'', e''⟩ | ⟨m'', e''⟩ <;> (try (exfalso; omega)) <;> rw [e''] <;> clear e'' <;> omega

theorem freeB_iff {seen : List (Int × Int)} {x : Blk} : freeB seen x = true ↔ ∀ p ∈ pairsL x, p ∉ seen := by
  simp [freeB]

theorem fits_share {v : Int} : ∀ (bs done : List Blk), (∀ x ∈ bs, goodB v x = true) → (∀ x ∈ done, goodB v x = true) → fitsGo done bs = !shareGo (done.flatMap pairsL) bs
  | [], done, _, _ => by simp [fitsGo, shareGo]
  | x :: r, done, hb, hd => by
    have hx := hb x (by simp)
    have e : fitsWith x done = freeB (done.flatMap pairsL) x := by
      rw [Bool.eq_iff_iff, freeB_iff, fitsWith, List.all_eq_true]
      simp only [decide_eq_true_eq, List.mem_flatMap, not_exists, not_and]
      constructor
      · intro h p hp y hy
        exact (common_pairs hx (hd y hy)).1 (h y hy) p hp
      · intro h y hy
        exact (common_pairs hx (hd y hy)).2 fun p hp => h p hp y hy
    have ih := fits_share r (done ++ [x]) (fun y hy => hb y (by simp [hy])) (fun y hy => by
      rcases List.mem_append.1 hy with hy | hy
      · exact hd y hy
      · simp at hy; subst hy; exact hx)
    rw [List.flatMap_append] at ih
    simp only [List.flatMap_cons, List.flatMap_nil, List.append_nil] at ih
    unfold fitsGo shareGo
    rw [e, ih]
    cases freeB (done.flatMap pairsL) x <;> simp

theorem nodup_length {α : Type} [DecidableEq α] : ∀ (l m : List α), l.Nodup → (∀ x ∈ l, x ∈ m) → l.length ≤ m.length
  | [], _, _, _ => by simp
  | x :: l, m, hn, hs => by
    rw [List.nodup_cons] at hn
    have hx : x ∈ m := hs x (by simp)
    have h := nodup_length l (m.erase x) hn.2 (fun y hy => by
      have hne : y ≠ x := fun e => hn.1 (e ▸ hy)
      exact (List.mem_erase_of_ne hne).2 (hs y (by simp [hy])))
    rw [List.length_erase_of_mem hx] at h
    have : 0 < m.length := List.length_pos_of_mem hx
    simp only [List.length_cons]
    omega

/-- All pairs of points less than 15. -/
def allPairs : List (Int × Int) := (List.range 15).flatMap fun (b : Nat) => (List.range b).map fun (a : Nat) => (Int.ofNat a, Int.ofNat b)
theorem allPairs_length : allPairs.length = 105 := by decide +kernel
theorem mem_allPairs {a b : Int} (h0 : 0 ≤ a) (h1 : a < b) (h2 : b < 15) : (a, b) ∈ allPairs := by
  simp only [allPairs, List.mem_flatMap, List.mem_range, List.mem_map, Prod.mk.injEq]
  exact ⟨b.toNat, by omega, a.toNat, by omega, Int.toNat_of_nonneg h0, Int.toNat_of_nonneg (by omega)⟩

theorem good_pairs {v : Int} (hv : v ≤ 15) {x : Blk} (hx : goodB v x = true) : (pairsL x).Nodup ∧ ∀ p ∈ pairsL x, p ∈ allPairs := by
  rw [goodB_iff] at hx
  obtain ⟨a, b, c⟩ := x
  simp only at hx
  refine ⟨?_, ?_⟩
  · simp [pairsL]; omega
  · intro p hp
    simp only [pairsL, List.mem_cons, List.not_mem_nil, or_false] at hp
    rcases hp with rfl | rfl | rfl <;> exact mem_allPairs (by omega) (by omega) (by omega)

theorem share_count {v : Int} (hv : v ≤ 15) : ∀ (bs : List Blk) (seen : List (Int × Int)), (∀ x ∈ bs, goodB v x = true) → seen.Nodup → (∀ p ∈ seen, p ∈ allPairs) → shareGo seen bs = false → seen.length + 3 * bs.length ≤ 105
  | [], seen, _, hn, hs, _ => by
    have := nodup_length seen allPairs hn hs
    rw [allPairs_length] at this
    simpa using this
  | x :: r, seen, hb, hn, hs, h => by
    unfold shareGo at h
    split at h
    · rename_i hf
      rw [freeB_iff] at hf
      obtain ⟨g1, g2⟩ := good_pairs hv (hb x (by simp))
      have := share_count hv r (seen ++ pairsL x) (fun y hy => hb y (by simp [hy])) (List.nodup_append.2 ⟨hn, g1, fun p hp q hq e => hf q hq (e ▸ hp)⟩) (fun p hp => by
        rcases List.mem_append.1 hp with hp | hp
        · exact hs p hp
        · exact g2 p hp) h
      simp [pairsL] at this
      simp
      omega
    · cases h

theorem isSys_same (v : Int) (bs : List Blk) : isSysImpl v bs = isSysSpec v bs := by
  unfold isSysImpl isSysSpec
  by_cases h1 : 3 ≤ v <;> simp [h1]
  by_cases h2 : v ≤ 15 <;> simp [h2]
  cases ho : orderGo v none bs <;> simp
  have hg := order_good ho
  have e := fits_share bs [] hg (by simp)
  simp at e
  rw [e]
  cases hs : shareGo [] bs <;> simp
  have := share_count h2 bs [] hg (by simp) (by simp) hs
  simp at this
  omega


def cmp1 (x y : Int) : Int := if x < y then -1 else if y < x then 1 else 0
def cmpL : List Int → List Int → Int
  | [], [] => 0
  | [], _ :: _ => -1
  | _ :: _, [] => 1
  | x :: xs, y :: ys => if cmp1 x y = 0 then cmpL xs ys else cmp1 x y
def cmpB (x y : Blk) : Int := cmpL [x.a, x.b, x.c] [y.a, y.b, y.c]
theorem cmp1_cases (x y : Int) : (x < y ∧ cmp1 x y = -1) ∨ (x = y ∧ cmp1 x y = 0) ∨ (y < x ∧ cmp1 x y = 1) := by
  unfold cmp1
  by_cases h : x < y
  · simp [h]
  · by_cases h2 : y < x
    · simp [h, h2]
    · have : x = y := by omega
      simp [this]
theorem cmpB_neg (x y : Blk) : cmpB x y < 0 ↔ befB x y = true := by
  obtain ⟨a, b, c⟩ := x
  obtain ⟨d, e, f⟩ := y
  simp only [cmpB, cmpL, befB]
  have self : ∀ x : Int, cmp1 x x = 0 := fun x => by simp [cmp1]
  rcases cmp1_cases a d with ⟨h, e1⟩ | ⟨rfl, e1⟩ | ⟨h, e1⟩
  · simp [e1, show a ≠ d by omega, h]
  · rcases cmp1_cases b e with ⟨h2, e2⟩ | ⟨rfl, e2⟩ | ⟨h2, e2⟩
    · simp [self, e2, show b ≠ e by omega, h2]
    · rcases cmp1_cases c f with ⟨h3, e3⟩ | ⟨rfl, e3⟩ | ⟨h3, e3⟩
      · simp [self, e3, h3]
      · simp [self]
      · simp [self, e3]; omega
    · simp [self, e2, show b ≠ e by omega]; omega
  · simp [e1, show a ≠ d by omega]; omega
end Go.Proofs.Ytlchcnngikgjjaa

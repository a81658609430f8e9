
/- A map from keys to bools that the program itself made, read as the list of the keys that were put in. Plain facts on blocks and systems, without the program.  The key types of the maps: pairs of points and blocks. Pairs of a block, and whether a block has a pair that is taken. Whether a pair is in two of the blocks of a list. impl.IsSystem answers as the plain function isSysImpl. The model's small functions on blocks. The model's test that no pair is in two blocks. -/
import Derived.Test.YtoicdfdfajfopaaProg
import Derived.WalkKit
import Derived.Maps.OwnSet
import Derived.Lib.Hide
import Derived.WalkSpells
import Derived.BigQuiet
import Derived.Deep.QuietTactic
import Derived.Outline
import Derived.WalkLawsBesides
import Derived.ProofKit
import Derived.Maps.OwnOps
import Derived.Maps.OwnIn
import Derived.Laws.Rows
import Derived.Deep.DeepFit
import Derived.Deep.DeepMust
import Derived.Laws.ResultCell
import Derived.Lib.QuietBelow
namespace Go.Proofs.Ytoicdfdfajfopaa
open Go.RowKit Go.Maps

def keyLit (P : Program) (k : TypeId) (v : Value) : Lit := (keyOf P k v).getD .nil

/-- The block b is a map whose keys are vs, each at 'true'. -/
structure BoolSet (w : World) (P : Program) (k e : TypeId) (b n : Nat) (vs : List Value) : Prop where
  owns : w.ownsMap (H := Unit) P k (plainElem P e) b n (setOf (.lit (.bool true)) (vs.map (keyLit P k)))
  keys : ∀ v ∈ vs, keyOf P k v = some (keyLit P k v)

section
variable {P : Program} {k e : TypeId} {b n : Nat} {vs : List Value} {w : World}

theorem BoolSet.made (w : World) (P : Program) (k e : TypeId) : BoolSet (w.alloc (.map #[] 0)) P k e w.heap.size 0 [] :=
  ⟨World.ownsMap_made w P k _, by simp⟩

theorem BoolSet.kept {w' : World} {row : Option Nat} (h : BoolSet w P k e b n vs) (hg : w.grownBy w' row) (hne : some b ≠ row) : BoolSet w' P k e b n vs := ⟨h.owns.kept hg hne, h.keys⟩
theorem BoolSet.alloc (h : BoolSet w P k e b n vs) (o : Obj) : BoolSet (w.alloc o) P k e b n vs := ⟨h.owns.alloc o, h.keys⟩
theorem BoolSet.setCell (h : BoolSet w P k e b n vs) {a : Addr} (ha : b ≠ a.block) (u : Value) : BoolSet (w.setCell a u) P k e b n vs := ⟨h.owns.setCell ha u, h.keys⟩
theorem BoolSet.lt (h : BoolSet w P k e b n vs) : b < w.heap.size := h.owns.lt
theorem BoolSet.mono (h : BoolSet w P k e b n vs) {m : Nat} (hm : n ≤ m) : BoolSet w P k e b m vs := ⟨h.owns.mono hm, h.keys⟩
/-- Whatever keeps the blocks below B keeps the map that lies there. -/
theorem BoolSet.below {B : Nat} {w' : World} (h : BoolSet w P k e b n vs) (hb : Below B w w') (hl : b < B) : BoolSet w' P k e b n vs := by
  obtain ⟨es, clock, h1, h2⟩ := h.owns
  exact ⟨⟨es, clock, (hb.block b hl).trans h1, h2⟩, h.keys⟩

theorem atKey_fold (u z : DataW Unit) (kl : Lit) : ∀ (acc : List Lit) (m : DataW Unit), IsMap m → (∀ x ∈ acc, WideAt.IsKeyLit x) →
    (kl ∈ acc ∧ (acc.foldl (fun m x => m.put x u) m).atKey kl z = u) ∨ (kl ∉ acc ∧ (acc.foldl (fun m x => m.put x u) m).atKey kl z = m.atKey kl z)
  | [], m, _, _ => by simp
  | x :: r, m, hm, hk => by
    rw [List.foldl_cons]
    rcases atKey_fold u z kl r _ (hm.put x u) (fun y hy => hk y (by simp [hy])) with ⟨h1, h2⟩ | ⟨h1, h2⟩
    · exact .inl ⟨by simp [h1], h2⟩
    · rcases Classical.em (kl = x) with h | h
      · subst h
        rw [atKey_put_same hm (hk kl (by simp))] at h2
        exact .inl ⟨by simp, h2⟩
      · rw [atKey_put_other h] at h2
        exact .inr ⟨by simp [h, h1], h2⟩

theorem BoolSet.look (h : BoolSet w P k e b n vs) (K : Keyed P k) {t : TypeId} (ht : P.underlying t = some (.map k e)) (he : P.underlying e = some .bool) (hz : (zeroValue e).run P w = .ok (.bool false) w)
    {key : Value} {kl : Lit} (hkey : keyOf P k key = some kl) : ∃ β : Bool, (Instr.lookup t (.map (some b)) key false).run P w = .ok (.bool β) w ∧ (β = true ↔ key ∈ vs) := by
  obtain ⟨v, ps, hrun, hv⟩ := h.owns.lookup K ht hz (plainElem_bool he false) hkey
  have hkl : ∀ x ∈ vs.map (keyLit P k), WideAt.IsKeyLit x := fun x hx => by
    obtain ⟨y, hy, rfl⟩ := List.mem_map.1 hx
    exact K.key (h.keys y hy)
  have hm : kl ∈ vs.map (keyLit P k) ↔ key ∈ vs := by
    constructor
    · intro hx
      obtain ⟨y, hy, rfl⟩ := List.mem_map.1 hx
      rw [K.inj hkey (h.keys y hy)]
      exact hy
    · intro hx
      refine List.mem_map.2 ⟨key, hx, ?_⟩
      simp [keyLit, hkey]
  have hat := atKey_fold (.lit (.bool true)) (.lit (.bool false)) kl (vs.map (keyLit P k)) (.map []) isMap_empty hkl
  have e0 : (DataW.map (H := Unit) []).atKey kl (.lit (.bool false)) = .lit (.bool false) := atKey_of_not_has rfl _
  rw [e0] at hat
  unfold setOf at hv
  rcases hat with ⟨h1, h2⟩ | ⟨h1, h2⟩
  · rw [h2] at hv
    obtain rfl : v = .bool true := by
      unfold plainElem at hv
      split at hv <;> simp_all
    exact ⟨true, hrun, by simp [← hm, h1]⟩
  · rw [h2] at hv
    obtain rfl : v = .bool false := by
      unfold plainElem at hv
      split at hv <;> simp_all
    exact ⟨false, hrun, by simp [← hm, h1]⟩

theorem BoolSet.put (h : BoolSet w P k e b n vs) (K : Keyed P k) {t : TypeId} (ht : P.underlying t = some (.map k e)) (he : P.underlying e = some .bool) (hn : n < maxLen)
    {key : Value} {kl : Lit} (hkey : keyOf P k key = some kl) : ∃ w', (Instr.mapUpdate t (.map (some b)) key (.bool true)).run P w = .ok () w' ∧ BoolSet w' P k e b (n + 1) (vs ++ [key]) ∧ w.grownBy w' (some b) := by
  obtain ⟨w', hrun, hown, hg⟩ := h.owns.update K ht hn hkey (plainElem_bool he true)
  have hl : keyLit P k key = kl := by simp [keyLit, hkey]
  refine ⟨w', hrun, ⟨?_, ?_⟩, hg⟩
  · rw [List.map_append, List.map_singleton, setOf_snoc, hl]
    exact hown
  · intro v hv
    rcases List.mem_append.1 hv with hv | hv
    · exact h.keys v hv
    · simp at hv
      subst hv
      rw [hkey, hl]
end

theorem wpList_look_set {P : Program} (w : World) {ops : Array Oper} {rest : List Oper} {o : Oper} {a : Act} {Q : Exit → Act → World → Prop}
    (hg : o.guard = none) (m x : Operand) (t : TypeId) (hop : o.op = Op.lookup t m x false) (k e : TypeId) (K : Keyed P k) (ht : P.underlying t = some (.map k e)) (he : P.underlying e = some .bool)
    (hz : (zeroValue e).run P w = .ok (.bool false) w) (b n : Nat) (vs : List Value) (hm : a.eval m = .map (some b)) (hS : BoolSet w P k e b n vs) (key : Value) (kl : Lit) (hx : a.eval x = key) (hkey : keyOf P k key = some kl)
    (hK : ∀ β : Bool, Hid (β = true ↔ key ∈ vs) → wpList P ops Q rest (a.put o.dst (.bool β)) w) : wpList P ops Q (o :: rest) a w := by
  refine wpList_plain hg fun K' hK' => ?_
  obtain ⟨β, hrun, hβ⟩ := hS.look K ht he hz hkey
  unfold Oper.wp
  simp [execOp, hop, hm, hx, hrun, Result.andThen]
  exact hK' _ _ (hK β hβ)

theorem wpList_put_set {P : Program} (w : World) {ops : Array Oper} {rest : List Oper} {o : Oper} {a : Act} {Q : Exit → Act → World → Prop}
    (hg : o.guard = none) (m x v : Operand) (t : TypeId) (hop : o.op = Op.mapUpdate t m x v) (k e : TypeId) (K : Keyed P k) (ht : P.underlying t = some (.map k e)) (he : P.underlying e = some .bool)
    (b n : Nat) (vs : List Value) (hm : a.eval m = .map (some b)) (hS : BoolSet w P k e b n vs) (hn : n < maxLen) (key : Value) (kl : Lit) (hx : a.eval x = key) (hv : a.eval v = .bool true) (hkey : keyOf P k key = some kl)
    (hK : ∀ w', BoolSet w' P k e b (n + 1) (vs ++ [key]) → w.grownBy w' (some b) → wpList P ops Q rest (a.put o.dst undef) w') : wpList P ops Q (o :: rest) a w := by
  refine wpList_plain hg fun K' hK' => ?_
  obtain ⟨w', hrun, r1, r2⟩ := hS.put K ht he hn hkey
  unfold Oper.wp
  simp [execOp, hop, hm, hx, hv, hrun, Result.andThen]
  exact hK' _ _ (hK w' r1 r2)
end Go.Proofs.Ytoicdfdfajfopaa

namespace Go.Proofs.Ytoicdfdfajfopaa

/-- A block: three numbers. -/
structure Blk where
  a : Int
  b : Int
  c : Int
deriving DecidableEq

instance : Inhabited Blk := ⟨⟨0, 0, 0⟩⟩

def goodB (v : Int) (x : Blk) : Bool := decide (0 ≤ x.a) && decide (x.a < x.b) && decide (x.b < x.c) && decide (x.c < v)
def befB (x y : Blk) : Bool := if x.a = y.a then (if x.b = y.b then decide (x.c < y.c) else decide (x.b < y.b)) else decide (x.a < y.a)
def eq1 (p q : Int) : Nat := if p = q then 1 else 0
theorem eq1_or (p q : Int) : (p = q ∧ eq1 p q = 1) ∨ (p ≠ q ∧ eq1 p q = 0) := by
  unfold eq1
  split
  · exact .inl ⟨‹_›, rfl⟩
  · exact .inr ⟨‹_›, rfl⟩
/-- How many points two blocks have in common. -/
def commonN (x y : Blk) : Nat :=
  eq1 x.a y.a + eq1 x.a y.b + eq1 x.a y.c + (eq1 x.b y.a + eq1 x.b y.b + eq1 x.b y.c) + (eq1 x.c y.a + eq1 x.c y.b + eq1 x.c y.c)
def pairsL (x : Blk) : List (Int × Int) := [(x.a, x.b), (x.a, x.c), (x.b, x.c)]
def freeB (seen : List (Int × Int)) (x : Blk) : Bool := !((pairsL x).any fun p => seen.contains p)
/-- A pair is in two of the blocks. -/
def shareGo : List (Int × Int) → List Blk → Bool
  | _, [] => false
  | seen, x :: r => if freeB seen x then shareGo (seen ++ pairsL x) r else true
/-- Good blocks in order, 'p' being the one before. -/
def orderGo (v : Int) : Option Blk → List Blk → Bool
  | _, [] => true
  | p, x :: r => (goodB v x && (match p with | none => true | some y => befB y x)) && orderGo v (some x) r
def fitsWith (x : Blk) (l : List Blk) : Bool := l.all fun y => decide (commonN x y ≤ 1)
def fitsGo : List Blk → List Blk → Bool
  | _, [] => true
  | done, x :: r => fitsWith x done && fitsGo (done ++ [x]) r
def isSysImpl (v : Int) (bs : List Blk) : Bool := decide (3 ≤ v) && decide (v ≤ 15) && orderGo v none bs && !shareGo [] bs
def isSysSpec (v : Int) (bs : List Blk) : Bool := decide (3 ≤ v) && decide (v ≤ 15) && decide (bs.length ≤ 35) && orderGo v none bs && fitsGo [] bs

theorem goodB_iff {v : Int} {x : Blk} : goodB v x = true ↔ 0 ≤ x.a ∧ x.a < x.b ∧ x.b < x.c ∧ x.c < v := by
  simp [goodB, and_assoc]

theorem orderGo_bad {v : Int} {p : Option Blk} {x : Blk} {r : List Blk} (h : goodB v x = false) : orderGo v p (x :: r) = false := by
  simp [orderGo, h]
theorem orderGo_first {v : Int} {x : Blk} {r : List Blk} (h : goodB v x = true) : orderGo v none (x :: r) = orderGo v (some x) r := by
  simp [orderGo, h]
theorem orderGo_next {v : Int} {x y : Blk} {r : List Blk} (h : goodB v x = true) (h2 : befB y x = true) : orderGo v (some y) (x :: r) = orderGo v (some x) r := by
  simp [orderGo, h, h2]
theorem orderGo_stop {v : Int} {x y : Blk} {r : List Blk} (h2 : befB y x = false) : orderGo v (some y) (x :: r) = false := by
  simp [orderGo, h2]
theorem order_good {v : Int} : ∀ {bs : List Blk} {p : Option Blk}, orderGo v p bs = true → ∀ x ∈ bs, goodB v x = true
  | [], _, _, x, h => by cases h
  | y :: r, p, h, x, hx => by
    simp only [orderGo, Bool.and_eq_true] at h
    rcases List.mem_cons.1 hx with rfl | hx
    · exact h.1.1
    · exact order_good h.2 x hx

/-- Two good blocks have at most one point in common just if no pair of one is a pair of the other. -/
theorem common_pairs {v w : Int} {x y : Blk} (hx : goodB v x = true) (hy : goodB w y = true) : commonN x y ≤ 1 ↔ ∀ p ∈ pairsL x, p ∉ pairsL y := by
  rw [goodB_iff] at hx hy
  obtain ⟨a, b, c⟩ := x
  obtain ⟨d, e, f⟩ := y
  simp only [commonN, pairsL] at *
  simp only [List.mem_cons, List.not_mem_nil, or_false, Prod.mk.injEq, forall_eq_or_imp, forall_eq]
  obtain ⟨h1, h2, h3, h4⟩ := hx
  obtain ⟨g1, g2, g3, g4⟩ := hy
  clear h4 g4 h1 g1
  rcases eq1_or a d with ⟨h, e⟩ | ⟨h, e⟩ <;> rw [e] <;> clear e <;> rcases eq1_or a e with ⟨h', e'⟩ | ⟨h', e'⟩ <;> (try (exfalso; omega)) <;> rw [e'] <;> clear e' <;> rcases eq1_or a f with ⟨h'', e''⟩ | ⟨h'', e''⟩ <;> (try (exfalso; omega)) <;> rw [e''] <;> clear e'' <;>
  rcases eq1_or b d with ⟨k, e⟩ | ⟨k, e⟩ <;> (try (exfalso; omega)) <;> rw [e] <;> clear e <;> rcases eq1_or b e with ⟨k', e'⟩ | ⟨k', e'⟩ <;> (try (exfalso; omega)) <;> rw [e'] <;> clear e' <;> rcases eq1_or b f with ⟨k'', e''⟩ | ⟨k'', e''⟩ <;> (try (exfalso; omega)) <;> rw [e''] <;> clear e'' <;>
  rcases eq1_or c d with ⟨m, e⟩ | ⟨m, e⟩ <;> (try (exfalso; omega)) <;> rw [e] <;> clear e <;> rcases eq1_or c e with ⟨m', e'⟩ | ⟨m', e'⟩ <;> (try (exfalso; omega)) <;> rw [e'] <;> clear e' <;> rcases eq1_or c f with ⟨m'', e''⟩ | ⟨m'', e''⟩ <;> (try (exfalso; omega)) <;> rw [e''] <;> clear e'' <;> omega

theorem freeB_iff {seen : List (Int × Int)} {x : Blk} : freeB seen x = true ↔ ∀ p ∈ pairsL x, p ∉ seen := by
  simp [freeB]

theorem fits_share {v : Int} : ∀ (bs done : List Blk), (∀ x ∈ bs, goodB v x = true) → (∀ x ∈ done, goodB v x = true) → fitsGo done bs = !shareGo (done.flatMap pairsL) bs
  | [], done, _, _ => by simp [fitsGo, shareGo]
  | x :: r, done, hb, hd => by
    have hx := hb x (by simp)
    have e : fitsWith x done = freeB (done.flatMap pairsL) x := by
      rw [Bool.eq_iff_iff, freeB_iff, fitsWith, List.all_eq_true]
      simp only [decide_eq_true_eq, List.mem_flatMap, not_exists, not_and]
      constructor
      · intro h p hp y hy
        exact (common_pairs hx (hd y hy)).1 (h y hy) p hp
      · intro h y hy
        exact (common_pairs hx (hd y hy)).2 fun p hp => h p hp y hy
    have ih := fits_share r (done ++ [x]) (fun y hy => hb y (by simp [hy])) (fun y hy => by
      rcases List.mem_append.1 hy with hy | hy
      · exact hd y hy
      · simp at hy; subst hy; exact hx)
    rw [List.flatMap_append] at ih
    simp only [List.flatMap_cons, List.flatMap_nil, List.append_nil] at ih
    unfold fitsGo shareGo
    rw [e, ih]
    cases freeB (done.flatMap pairsL) x <;> simp

theorem nodup_length {α : Type} [DecidableEq α] : ∀ (l m : List α), l.Nodup → (∀ x ∈ l, x ∈ m) → l.length ≤ m.length
  | [], _, _, _ => by simp
  | x :: l, m, hn, hs => by
    rw [List.nodup_cons] at hn
    have hx : x ∈ m := hs x (by simp)
    have h := nodup_length l (m.erase x) hn.2 (fun y hy => by
      have hne : y ≠ x := fun e => hn.1 (e ▸ hy)
      exact (List.mem_erase_of_ne hne).2 (hs y (by simp [hy])))
    rw [List.length_erase_of_mem hx] at h
    have : 0 < m.length := List.length_pos_of_mem hx
    simp only [List.length_cons]
    omega

/-- All pairs of points less than 15. -/
def allPairs : List (Int × Int) := (List.range 15).flatMap fun (b : Nat) => (List.range b).map fun (a : Nat) => (Int.ofNat a, Int.ofNat b)
theorem allPairs_length : allPairs.length = 105 := by decide +kernel
theorem mem_allPairs {a b : Int} (h0 : 0 ≤ a) (h1 : a < b) (h2 : b < 15) : (a, b) ∈ allPairs := by
  simp only [allPairs, List.mem_flatMap, List.mem_range, List.mem_map, Prod.mk.injEq]
  exact ⟨b.toNat, by omega, a.toNat, by omega, Int.toNat_of_nonneg h0, Int.toNat_of_nonneg (by omega)⟩

theorem good_pairs {v : Int} (hv : v ≤ 15) {x : Blk} (hx : goodB v x = true) : (pairsL x).Nodup ∧ ∀ p ∈ pairsL x, p ∈ allPairs := by
  rw [goodB_iff] at hx
  obtain ⟨a, b, c⟩ := x
  simp only at hx
  refine ⟨?_, ?_⟩
  · simp [pairsL]; omega
  · intro p hp
    simp only [pairsL, List.mem_cons, List.not_mem_nil, or_false] at hp
    rcases hp with rfl | rfl | rfl <;> exact mem_allPairs (by omega) (by omega) (by omega)

theorem share_count {v : Int} (hv : v ≤ 15) : ∀ (bs : List Blk) (seen : List (Int × Int)), (∀ x ∈ bs, goodB v x = true) → seen.Nodup → (∀ p ∈ seen, p ∈ allPairs) → shareGo seen bs = false → seen.length + 3 * bs.length ≤ 105
  | [], seen, _, hn, hs, _ => by
    have := nodup_length seen allPairs hn hs
    rw [allPairs_length] at this
    simpa using this
  | x :: r, seen, hb, hn, hs, h => by
    unfold shareGo at h
    split at h
    · rename_i hf
      rw [freeB_iff] at hf
      obtain ⟨g1, g2⟩ := good_pairs hv (hb x (by simp))
      have := share_count hv r (seen ++ pairsL x) (fun y hy => hb y (by simp [hy])) (List.nodup_append.2 ⟨hn, g1, fun p hp q hq e => hf q hq (e ▸ hp)⟩) (fun p hp => by
        rcases List.mem_append.1 hp with hp | hp
        · exact hs p hp
        · exact g2 p hp) h
      simp [pairsL] at this
      simp
      omega
    · cases h

theorem isSys_same (v : Int) (bs : List Blk) : isSysImpl v bs = isSysSpec v bs := by
  unfold isSysImpl isSysSpec
  by_cases h1 : 3 ≤ v <;> simp [h1]
  by_cases h2 : v ≤ 15 <;> simp [h2]
  cases ho : orderGo v none bs <;> simp
  have hg := order_good ho
  have e := fits_share bs [] hg (by simp)
  simp at e
  rw [e]
  cases hs : shareGo [] bs <;> simp
  have := share_count h2 bs [] hg (by simp) (by simp) hs
  simp at this
  omega


def cmp1 (x y : Int) : Int := if x < y then -1 else if y < x then 1 else 0
def cmpL : List Int → List Int → Int
  | [], [] => 0
  | [], _ :: _ => -1
  | _ :: _, [] => 1
  | x :: xs, y :: ys => if cmp1 x y = 0 then cmpL xs ys else cmp1 x y
def cmpB (x y : Blk) : Int := cmpL [x.a, x.b, x.c] [y.a, y.b, y.c]
theorem cmp1_cases (x y : Int) : (x < y ∧ cmp1 x y = -1) ∨ (x = y ∧ cmp1 x y = 0) ∨ (y < x ∧ cmp1 x y = 1) := by
  unfold cmp1
  by_cases h : x < y
  · simp [h]
  · by_cases h2 : y < x
    · simp [h, h2]
    · have : x = y := by omega
      simp [this]
theorem cmpB_neg (x y : Blk) : cmpB x y < 0 ↔ befB x y = true := by
  obtain ⟨a, b, c⟩ := x
  obtain ⟨d, e, f⟩ := y
  simp only [cmpB, cmpL, befB]
  have self : ∀ x : Int, cmp1 x x = 0 := fun x => by simp [cmp1]
  rcases cmp1_cases a d with ⟨h, e1⟩ | ⟨rfl, e1⟩ | ⟨h, e1⟩
  · simp [e1, show a ≠ d by omega, h]
  · rcases cmp1_cases b e with ⟨h2, e2⟩ | ⟨rfl, e2⟩ | ⟨h2, e2⟩
    · simp [self, e2, show b ≠ e by omega, h2]
    · rcases cmp1_cases c f with ⟨h3, e3⟩ | ⟨rfl, e3⟩ | ⟨h3, e3⟩
      · simp [self, e3, h3]
      · simp [self]
      · simp [self, e3]; omega
    · simp [self, e2, show b ≠ e by omega]; omega
  · simp [e1, show a ≠ d by omega]; omega
end Go.Proofs.Ytoicdfdfajfopaa

namespace Go.Proofs.Ytoicdfdfajfopaa
open Go.RowKit
/-- A block as a value. -/
def bv (x : Blk) : Value := .agg #[.int .i64 x.a, .int .i64 x.b, .int .i64 x.c]
/-- Returns v; old memory stays. -/
def RV (v : Value) (w : World) (e : Ending) (w' : World) : Prop := e = .returned v ∧ Below w.heap.size w w'
/-- Returns v; the world stays. -/
def RS (v : Value) (w : World) (e : Ending) (w' : World) : Prop := e = .returned v ∧ w = w'
theorem RV_of {v u : Value} {w w' : World} (h : u = v) (hb : Below w.heap.size w w') : RV v w (.returned u) w' := ⟨by rw [h], hb⟩
theorem RS_of {v u : Value} {w : World} (h : u = v) : RS v w (.returned u) w := ⟨by rw [h], rfl⟩
theorem bool_eq {a b : Bool} (h : a = b) : Value.bool a = Value.bool b := by rw [h]
theorem int_eq {k : IntKind} {a b : Int} (h : a = b) : Value.int k a = Value.int k b := by rw [h]

theorem cmp_any (x y : Int) (w : World) : Calls Try.prog 128 #[.int .i64 x, .int .i64 y] w (RS (.int .i64 (cmp1 x y)) w) := by
  go_enter Try.func128, Try.ntmps128
  go_wp2
  all_goals go_ret
  all_goals refine RS_of (int_eq ?_)
  all_goals unfold cmp1
  · rw [if_pos ‹_›]
  · rw [if_neg (by omega), if_pos ‹_›]
  · rw [if_neg (by omega), if_neg (by omega)]

/-- Row of int64 cells. -/
def Ints (w : World) (b off : Nat) (zs : List Int) : Prop := ∀ k, k < zs.length → w.cell? ⟨b, off + k, none⟩ = some (.int .i64 (zs[k]?.getD 0))

theorem ints_next {w : World} {b off : Nat} {zs : List Int} (h : Ints w b off zs) {k : Nat} (hk : k < zs.length) :
    ∃ x r, zs.drop k = x :: r ∧ zs.drop (k + 1) = r ∧ w.cell? ⟨b, off + k, none⟩ = some (.int .i64 x) :=
  ⟨_, _, List.drop_eq_getElem_cons hk, rfl, by rw [h k hk]; simp [hk]⟩

theorem Compare_any (b1 o1 c1 b2 o2 c2 : Nat) (xs ys : List Int) (w : World) (h1 : Ints w b1 o1 xs) (h2 : Ints w b2 o2 ys) (m1 : xs.length ≤ 9223372036854775807) (_m2 : ys.length ≤ 9223372036854775807) :
    Calls Try.prog 113 #[.slice (some ⟨b1, o1, none⟩) xs.length c1, .slice (some ⟨b2, o2, none⟩) ys.length c2] w (RS (.int .i64 (cmpL xs ys)) w) := by
  have H1 := Lib.hid h1
  have H2 := Lib.hid h2
  clear h1 h2
  go_enter Try.func113, Try.ntmps113
  go_wp2
  go_loop [11] (fun i => ∃ k : Nat, k ≤ xs.length ∧ k ≤ ys.length ∧ i = .int .i64 k ∧ Hid (cmpL xs ys = cmpL (xs.drop k) (ys.drop k))) (fun i => xs.length - (intOf i).toNat)
  case atStart => exact ⟨0, Nat.zero_le _, Nat.zero_le _, rfl, Lib.hid (by simp)⟩
  case round =>
    obtain ⟨k, hk, hk2, rfl, HE⟩ := hrel
    by_cases hlt : k < xs.length
    · obtain ⟨x, r, e1, e2, hc1⟩ := ints_next H1.out hlt
      rw [e1] at HE
      have E2 := Lib.hid e2
      clear e1 e2
      by_cases hlt2 : k < ys.length
      · obtain ⟨y, s, e3, e4, hc2⟩ := ints_next H2.out hlt2
        rw [e3] at HE
        have E4 := Lib.hid e4
        clear e3 e4
        go_wp2_with (go_at_call 128; refine (cmp_any _ _ _).mono ?_; rintro e w' ⟨rfl, rfl⟩)
        · have hne : (cmp1 x y != 0) = true := by assumption
          go_ret
          exact RS_of (int_eq (by rw [HE.out, cmpL, if_neg (by simpa using hne)]))
        · have hne : (cmp1 x y != 0) = false := by assumption
          go_round
          case rel => exact ⟨k + 1, by omega, by omega, by go_num, Lib.hid (by rw [HE.out, E2.out, E4.out, cmpL, if_pos (by simpa using hne)])⟩
          case measure => simp [intOf]; omega
      · go_wp2
        go_ret
        exact RS_of (int_eq (by rw [HE.out, List.drop_eq_nil_of_le (by omega : ys.length ≤ k), cmpL]))
    · go_wp2
      · go_ret
        exact RS_of (int_eq (by rw [HE.out, List.drop_eq_nil_of_le (by omega : xs.length ≤ k), List.drop_eq_getElem_cons (by omega : k < ys.length), cmpL]))
      · go_ret
        exact RS_of (int_eq (by rw [HE.out, List.drop_eq_nil_of_le (by omega : xs.length ≤ k), List.drop_eq_nil_of_le (by omega : ys.length ≤ k), cmpL]))

theorem RS.quiet {P : Program} {f : FuncId} {args : Array Value} {w : World} {n : Nat} {v : Value} (h : Calls P f args (w.drewN n) (RS v (w.drewN n))) :
    Calls P f args (w.drewN n) fun e w'' => e = .returned v ∧ ∃ m, w'' = w.drewN m :=
  h.mono fun _ _ ⟨he, hm⟩ => ⟨he, n, hm.symm⟩
theorem ints3 {w : World} {b : Nat} {x y z : Int} (h0 : w.cell? ⟨b, 0, none⟩ = some (.int .i64 x)) (h1 : w.cell? ⟨b, 1, none⟩ = some (.int .i64 y)) (h2 : w.cell? ⟨b, 2, none⟩ = some (.int .i64 z)) : Ints w b 0 [x, y, z] := by
  intro k hk
  match k, hk with
  | 0, _ => simpa using h0
  | 1, _ => simpa using h1
  | 2, _ => simpa using h2
theorem below_drewN {B : Nat} {a w : World} (h : Below B a w) (n : Nat) : Below B a (w.drewN n) := ⟨h.os, h.tape, h.output, h.size, h.block⟩
theorem compareBlocks_any (x y : Blk) (w : World) : Calls Try.prog 91 #[bv x, bv y] w (RV (.int .i64 (cmpB x y)) w) := by
  obtain ⟨a, b, c⟩ := x
  obtain ⟨d, e, f⟩ := y
  unfold bv
  dsimp only
  go_enter Try.func91, Try.ntmps91
  go_wp2
  go_quiet ((go_at_call 113; exact RS.quiet (Compare_any _ 0 _ _ 0 _ [a, b, c] [d, e, f] _ (ints3 (by simp [go_sem]) (by simp [go_sem]) (by simp [go_sem])) (ints3 (by simp [go_sem]) (by simp [go_sem]) (by simp [go_sem])) (by simp) (by simp))))
  go_wp2
  go_ret
  exact RV_of rfl (below_drewN (((Below.refl _ _).alloc (Nat.le_refl _) _).alloc (by simp) _) _)
end Go.Proofs.Ytoicdfdfajfopaa

namespace Go.Proofs.Ytoicdfdfajfopaa
open Go.RowKit Go.Maps

theorem laidOut : laidOutB Try.prog = true := by kernel_rfl
theorem pairRow : (125 : TypeId) < Try.prog.types.size := of_decide_eq_true (by kernel_rfl)
theorem blockRow : (71 : TypeId) < Try.prog.types.size := of_decide_eq_true (by kernel_rfl)
theorem pairKeyed : Keyed Try.prog 125 := Keyed.of_law (deep_law_laid laidOut (m := 3) (by omega) pairRow (by kernel_rfl) (by kernel_rfl))
theorem blockKeyed : Keyed Try.prog 71 := Keyed.of_law (deep_law_laid laidOut (m := 3) (by omega) blockRow (by kernel_rfl) (by kernel_rfl))
def pv (p : Int × Int) : Value := .agg #[.int .i64 p.1, .int .i64 p.2]
theorem pv_inj {p q : Int × Int} (h : pv p = pv q) : p = q := by
  obtain ⟨a, b⟩ := p
  obtain ⟨c, d⟩ := q
  simp [pv] at h
  simp [h]
theorem bv_inj {x y : Blk} (h : bv x = bv y) : x = y := by
  obtain ⟨a, b, c⟩ := x
  obtain ⟨d, e, f⟩ := y
  simp [bv] at h
  simp [h]
/-- The integer fits. -/
def WF (a : Int) : Prop := (Lit.int .i64 a).wf = true
theorem pairT : Try.prog.keyType 125 = true := by kernel_rfl
theorem blockT : Try.prog.keyType 71 = true := by kernel_rfl
theorem pairCells : Try.prog.cellsOf 125 = 2 := by kernel_rfl
theorem blockCells : Try.prog.cellsOf 71 = 3 := by kernel_rfl
theorem int64Cells : Try.prog.cellsOf 2 = 1 := by kernel_rfl
theorem typesSize : ∃ n, Try.prog.types.size = n + 1 := Nat.exists_eq_succ_of_ne_zero (Nat.ne_of_gt (Nat.lt_of_le_of_lt (Nat.zero_le _) pairRow))
theorem pv_key {a b : Int} (ha : WF a) (hb : WF b) : ∃ kl, keyOf Try.prog 125 (.agg #[.int .i64 a, .int .i64 b]) = some kl := by
  unfold WF at ha hb
  obtain ⟨n, hn⟩ := typesSize
  have r2 : List.range 2 = [0, 1] := rfl
  simp [keyOf, Try.underlying125, pairT, Value.formed, pairCells, hn, Program.keyLits, Try.underlying2, int64Cells, Value.cells, ha, hb, r2]
theorem bv_key {a b c : Int} (ha : WF a) (hb : WF b) (hc : WF c) : ∃ kl, keyOf Try.prog 71 (.agg #[.int .i64 a, .int .i64 b, .int .i64 c]) = some kl := by
  unfold WF at ha hb hc
  obtain ⟨n, hn⟩ := typesSize
  have r2 : List.range 3 = [0, 1, 2] := rfl
  simp [keyOf, Try.underlying71, blockT, Value.formed, blockCells, hn, Program.keyLits, Try.underlying2, int64Cells, Value.cells, ha, hb, hc, r2]
end Go.Proofs.Ytoicdfdfajfopaa

namespace Go.Proofs.Ytoicdfdfajfopaa
open Go.RowKit Go.Maps
def prsv (x : Blk) : Value := .agg #[.int .i64 x.a, .int .i64 x.b, .int .i64 x.a, .int .i64 x.c, .int .i64 x.b, .int .i64 x.c]
theorem pairsOf_any (x : Blk) (w : World) : Calls Try.prog 115 #[bv x] w (RV (prsv x) w) := by
  obtain ⟨a, b, c⟩ := x
  unfold bv
  dsimp only
  go_enter Try.func115, Try.ntmps115
  go_wp2
  exact bodyPost_ret (v := prsv ⟨a, b, c⟩) (by simp [results, Try.results115, go_sem, prsv]) rfl ⟨rfl, ((Below.refl _ _).alloc (Nat.le_refl _) _).alloc (by simp) _⟩

theorem zeroBool (w : World) : (zeroValue 4).run Try.prog w = .ok (.bool false) w := by kernel_rfl
def WFB (x : Blk) : Prop := WF x.a ∧ WF x.b ∧ WF x.c

set_option maxRecDepth 100000 in
theorem isBlockFree_any (mb n : Nat) (seen : List (Int × Int)) (x : Blk) (hx : WFB x) (w : World) (hS : BoolSet w Try.prog 125 4 mb n (seen.map pv)) :
    Calls Try.prog 114 #[.map (some mb), bv x] w (RV (.bool (freeB seen x)) w) := by
  obtain ⟨a, b, c⟩ := x
  obtain ⟨ha, hb, hc⟩ := hx
  obtain ⟨k1, hk1⟩ := pv_key ha hb
  obtain ⟨k2, hk2⟩ := pv_key ha hc
  obtain ⟨k3, hk3⟩ := pv_key hb hc
  have HK1 := Lib.hid hk1
  have HK2 := Lib.hid hk2
  have HK3 := Lib.hid hk3
  clear hk1 hk2 hk3 ha hb hc
  unfold bv
  dsimp only
  have i0 : ∀ w, (Instr.index 126 (.agg #[.int .i64 a, .int .i64 b, .int .i64 a, .int .i64 c, .int .i64 b, .int .i64 c]) (.int .i64 0)).run Try.prog w = .ok (.agg #[.int .i64 a, .int .i64 b]) w := fun _ => by kernel_rfl
  have i1 : ∀ w, (Instr.index 126 (.agg #[.int .i64 a, .int .i64 b, .int .i64 a, .int .i64 c, .int .i64 b, .int .i64 c]) (.int .i64 1)).run Try.prog w = .ok (.agg #[.int .i64 a, .int .i64 c]) w := fun _ => by kernel_rfl
  have i2 : ∀ w, (Instr.index 126 (.agg #[.int .i64 a, .int .i64 b, .int .i64 a, .int .i64 c, .int .i64 b, .int .i64 c]) (.int .i64 2)).run Try.prog w = .ok (.agg #[.int .i64 b, .int .i64 c]) w := fun _ => by kernel_rfl
  go_enter Try.func114, Try.ntmps114
  go_wp2_with (go_at_call 115; refine (pairsOf_any ⟨a, b, c⟩ _).mono ?_; rintro e w1 ⟨rfl, hb1⟩; unfold prsv; dsimp only)
  have hS1 : BoolSet w1 Try.prog 125 4 mb n (seen.map pv) := (hS.alloc _).below hb1 (by have := hS.lt; simp; omega)
  have hz := hb1.size
  simp at hz
  have hB := (((Below.refl w.heap.size w).alloc (Nat.le_refl _) (.cells #[.int .i64 a, .int .i64 b, .int .i64 c] 71)).trans (hb1.mono (by simp)))
  clear hb1
  have hm : ∀ (β : Bool) (p : Int × Int), Hid (β = true ↔ pv p ∈ seen.map pv) → (β = true ↔ p ∈ seen) := fun β p h => h.out.trans ⟨fun h => by obtain ⟨q, hq, e⟩ := List.mem_map.1 h; rw [← pv_inj e]; exact hq, fun h => List.mem_map.2 ⟨p, h, rfl⟩⟩
  have HM := Lib.hid hm
  clear hm
  refine wp_loop_rounds 4 ?_
  rw [rounds_succ]
  go_wp2_with (at_lookup; refine wpList_look_set _ rfl _ _ 122 rfl 125 4 pairKeyed Try.underlying122 Try.underlying4 (zeroBool _) mb n (seen.map pv) rfl (by first | exact hS1.alloc _ | exact (hS1.alloc _).alloc _ | exact ((hS1.alloc _).alloc _).alloc _) (pv (a, b)) k1 rfl HK1.out ?_; intro β1 hβ1)
  · have h1 : β1 = true := by assumption
    go_ret
    exact RV_of (bool_eq (by have := (HM.out _ _ hβ1).1 h1; simp [freeB, pairsL, this])) (hB.alloc (by omega) _)
  have h1 : β1 = false := by assumption
  have F1 := Lib.hid h1
  clear h1
  rw [rounds_succ]
  go_wp2_with (at_lookup; refine wpList_look_set _ rfl _ _ 122 rfl 125 4 pairKeyed Try.underlying122 Try.underlying4 (zeroBool _) mb n (seen.map pv) rfl (by first | exact hS1.alloc _ | exact (hS1.alloc _).alloc _ | exact ((hS1.alloc _).alloc _).alloc _) (pv (a, c)) k2 rfl HK2.out ?_; intro β2 hβ2)
  · have h2 : β2 = true := by assumption
    go_ret
    exact RV_of (bool_eq (by have := (HM.out _ _ hβ2).1 h2; simp [freeB, pairsL, this])) ((hB.alloc (by omega) _).alloc (by simp; omega) _)
  have h2 : β2 = false := by assumption
  have F2 := Lib.hid h2
  clear h2
  rw [rounds_succ]
  go_wp2_with (at_lookup; refine wpList_look_set _ rfl _ _ 122 rfl 125 4 pairKeyed Try.underlying122 Try.underlying4 (zeroBool _) mb n (seen.map pv) rfl (by first | exact hS1.alloc _ | exact (hS1.alloc _).alloc _ | exact ((hS1.alloc _).alloc _).alloc _) (pv (b, c)) k3 rfl HK3.out ?_; intro β3 hβ3)
  · have h3 : β3 = true := by assumption
    go_ret
    exact RV_of (bool_eq (by have := (HM.out _ _ hβ3).1 h3; simp [freeB, pairsL, this])) (((hB.alloc (by omega) _).alloc (by simp; omega) _).alloc (by simp; omega) _)
  have h3 : β3 = false := by assumption
  have F3 := Lib.hid h3
  clear h3
  rw [rounds_succ]
  go_wp2
  go_ret
  refine RV_of (bool_eq ?_) (((hB.alloc (by omega) _).alloc (by simp; omega) _).alloc (by simp; omega) _)
  have n1 : (a, b) ∉ seen := fun h => by have := (HM.out _ _ hβ1).2 h; rw [F1.out] at this; cases this
  have n2 : (a, c) ∉ seen := fun h => by have := (HM.out _ _ hβ2).2 h; rw [F2.out] at this; cases this
  have n3 : (b, c) ∉ seen := fun h => by have := (HM.out _ _ hβ3).2 h; rw [F3.out] at this; cases this
  simp [freeB, pairsL, n1, n2, n3]
end Go.Proofs.Ytoicdfdfajfopaa

namespace Go.Proofs.Ytoicdfdfajfopaa
open Go.RowKit Go.Maps
/-- The blocks lie in a row from the address on. -/
def Blks (w : World) (b off : Nat) (bs : List Blk) : Prop := ∀ k, k < bs.length →
  w.cell? ⟨b, off + k * 3, none⟩ = some (.int .i64 (bs[k]?.getD default).a) ∧ w.cell? ⟨b, off + k * 3 + 1, none⟩ = some (.int .i64 (bs[k]?.getD default).b) ∧ w.cell? ⟨b, off + k * 3 + 2, none⟩ = some (.int .i64 (bs[k]?.getD default).c)
/-- The value is a slice of just these blocks. -/
def SB (w : World) (s : Value) (bs : List Blk) : Prop :=
  (∀ x ∈ bs, WFB x) ∧ bs.length ≤ 1100000 ∧ ((∃ a c, s = .slice a 0 c ∧ bs = []) ∨ ∃ b off cap, s = .slice (some ⟨b, off, none⟩) bs.length cap ∧ b < w.heap.size ∧ Blks w b off bs)
theorem Blks.below {w w' : World} {b off B : Nat} {bs : List Blk} (h : Blks w b off bs) (hb : Below B w w') (hl : b < B) : Blks w' b off bs := fun k hk => by
  obtain ⟨h1, h2, h3⟩ := h k hk
  exact ⟨(hb.cell (p := ⟨b, off + k * 3, none⟩) hl).trans h1, (hb.cell (p := ⟨b, off + k * 3 + 1, none⟩) hl).trans h2, (hb.cell (p := ⟨b, off + k * 3 + 2, none⟩) hl).trans h3⟩
theorem SB.below {w w' : World} {s : Value} {bs : List Blk} (h : SB w s bs) {B : Nat} (hb : Below B w w') (hB : w.heap.size ≤ B) : SB w' s bs := by
  obtain ⟨h1, h2, h3⟩ := h
  refine ⟨h1, h2, ?_⟩
  rcases h3 with h3 | ⟨b, off, cap, rfl, hl, hr⟩
  · exact .inl h3
  · exact .inr ⟨b, off, cap, rfl, by have := hb.size; omega, hr.below hb (by omega)⟩
theorem blks_next {w : World} {b off : Nat} {bs : List Blk} (h : Blks w b off bs) {k : Nat} (hk : k < bs.length) :
    ∃ x r, x ∈ bs ∧ bs.drop k = x :: r ∧ bs.drop (k + 1) = r ∧ bs.take (k + 1) = bs.take k ++ [x] ∧ w.cell? ⟨b, off + k * 3, none⟩ = some (.int .i64 x.a) ∧ w.cell? ⟨b, off + k * 3 + 1, none⟩ = some (.int .i64 x.b) ∧ w.cell? ⟨b, off + k * 3 + 2, none⟩ = some (.int .i64 x.c) := by
  refine ⟨bs[k], bs.drop (k + 1), List.getElem_mem hk, List.drop_eq_getElem_cons hk, rfl, ?_, ?_⟩
  · rw [List.take_succ_eq_append_getElem hk]
  · have := h k hk
    simpa [hk] using this

theorem cell_new {w w1 : World} {cs : Array Value} {T : TypeId} (h : Below (w.alloc (.cells cs T)).heap.size (w.alloc (.cells cs T)) w1) (j : Nat) {v : Value} (hv : cs[j]? = some v) : w1.cell? ⟨w.heap.size, j, none⟩ = some v := by
  rw [h.cell (p := ⟨w.heap.size, j, none⟩) (by simp)]
  simp [hv]

set_option maxRecDepth 100000 in
theorem sharePair_any (s : Value) (bs : List Blk) (w : World) (h : SB w s bs) : Calls Try.prog 92 #[s] w (RV (.bool (shareGo [] bs)) w) := by
  obtain ⟨hwf, hlen, h3⟩ := h
  have hmm := @run_makeMap Try.prog
  rcases h3 with ⟨a0, c0, rfl, rfl⟩ | ⟨b, off, cap, rfl, hlt, hbl⟩
  · go_enter Try.func92, Try.ntmps92
    go_wp2
    refine wp_loop_rounds 1 ?_
    rw [rounds_succ]
    go_wp2
    go_ret
    exact RV_of rfl ((Below.refl _ _).alloc (Nat.le_refl _) _)
  · go_enter Try.func92, Try.ntmps92
    go_wp2
    go_loopw [11] (fun i wr => ∃ k : Nat, k ≤ bs.length ∧ i = .int .i64 k ∧ BoolSet wr Try.prog 125 4 w.heap.size (3 * k) (((bs.take k).flatMap pairsL).map pv) ∧ Below w.heap.size w wr ∧
        Hid (shareGo [] bs = shareGo ((bs.take k).flatMap pairsL) (bs.drop k))) (fun i _ => bs.length - (intOf i).toNat)
    case atStart => exact ⟨0, Nat.zero_le _, rfl, BoolSet.made _ _ _ _, (Below.refl _ _).alloc (Nat.le_refl _) _, Lib.hid (by simp)⟩
    case round =>
      obtain ⟨k, hk, rfl, hS, hB, HE⟩ := hrel
      have hsz := hB.size
      have hlt' := hS.lt
      by_cases hkl : k < bs.length
      · obtain ⟨x, r, hx, e1, e2, e3, c1, c2, c3⟩ := blks_next (hbl.below hB hlt) hkl
        rw [e1] at HE
        have E2 := Lib.hid e2
        have E3 := Lib.hid e3
        clear e1 e2 e3
        obtain ⟨x1, x2, x3⟩ := x
        have hX := Lib.hid (hwf _ hx)
        clear hx
        obtain ⟨seen, hseen⟩ : ∃ l, l = (bs.take k).flatMap pairsL := ⟨_, rfl⟩
        rw [← hseen] at hS HE
        have HSN := Lib.hid hseen
        clear hseen
        have hc := isBlockFree_any w.heap.size (3 * k) seen ⟨x1, x2, x3⟩ hX.out (wr.alloc (.cells #[.int .i64 x1, .int .i64 x2, .int .i64 x3] 71)) (hS.alloc _)
        obtain ⟨g1, g2, g3⟩ := hX.out
        obtain ⟨k1, hk1⟩ := pv_key g1 g2
        obtain ⟨k2, hk2⟩ := pv_key g1 g3
        obtain ⟨k3, hk3⟩ := pv_key g2 g3
        have HK1 := Lib.hid hk1
        have HK2 := Lib.hid hk2
        have HK3 := Lib.hid hk3
        clear hk1 hk2 hk3 g1 g2 g3
        have i0 : ∀ w, (Instr.index 126 (.agg #[.int .i64 x1, .int .i64 x2, .int .i64 x1, .int .i64 x3, .int .i64 x2, .int .i64 x3]) (.int .i64 0)).run Try.prog w = .ok (.agg #[.int .i64 x1, .int .i64 x2]) w := fun _ => by kernel_rfl
        have i1 : ∀ w, (Instr.index 126 (.agg #[.int .i64 x1, .int .i64 x2, .int .i64 x1, .int .i64 x3, .int .i64 x2, .int .i64 x3]) (.int .i64 1)).run Try.prog w = .ok (.agg #[.int .i64 x1, .int .i64 x3]) w := fun _ => by kernel_rfl
        have i2 : ∀ w, (Instr.index 126 (.agg #[.int .i64 x1, .int .i64 x2, .int .i64 x1, .int .i64 x3, .int .i64 x2, .int .i64 x3]) (.int .i64 2)).run Try.prog w = .ok (.agg #[.int .i64 x2, .int .i64 x3]) w := fun _ => by kernel_rfl
        cases hβ : freeB seen ⟨x1, x2, x3⟩ with
        | false =>
          rw [hβ] at hc
          have Hβ := Lib.hid hβ
          clear hβ
          have HC := Lib.hid hc
          clear hc
          go_wp2_with (go_at_call 114; refine HC.out.mono ?_; rintro e w1 ⟨rfl, hb1⟩)
          go_ret
          exact RV_of (bool_eq (by rw [HE.out, shareGo, if_neg (by rw [Hβ.out]; simp)])) (hB.trans (((Below.refl _ _).alloc hsz _).trans (hb1.mono (by simp; omega))))
        | true =>
          rw [hβ] at hc
          have Hβ := Lib.hid hβ
          clear hβ
          have HC := Lib.hid hc
          clear hc
          go_wp2_with (first
            | (go_at_call 114; refine HC.out.mono ?_; rintro e w1 ⟨rfl, hb1⟩; have d1 := cell_new hb1 0 rfl; have d2 := cell_new hb1 1 rfl; have d3 := cell_new hb1 2 rfl; have hS1 := (hS.alloc (.cells #[.int .i64 x1, .int .i64 x2, .int .i64 x3] 71)).below hb1 (by simp; omega); have hz1 := hb1.size; simp at hz1)
            | (go_at_call 115; refine (pairsOf_any ⟨x1, x2, x3⟩ _).mono ?_; rintro e w2 ⟨rfl, hb2⟩; unfold prsv; dsimp only; have hSx := hS1.below hb2 (by omega); have hz2 := hb2.size))
          refine wp_loop_rounds 4 ?_
          rw [rounds_succ]
          go_wp2_with (at_mapUpdate; refine wpList_put_set _ rfl _ _ _ 122 rfl 125 4 pairKeyed Try.underlying122 Try.underlying4 w.heap.size (3 * k + 0) (seen.map pv) rfl (hSx.alloc _) (by unfold maxLen; omega) (pv (x1, x2)) k1 rfl rfl HK1.out ?_; intro w3 hS3 hg3)
          rw [rounds_succ]
          go_wp2_with (at_mapUpdate; refine wpList_put_set _ rfl _ _ _ 122 rfl 125 4 pairKeyed Try.underlying122 Try.underlying4 w.heap.size (3 * k + 1) (seen.map pv ++ [pv (x1, x2)]) rfl (hS3.alloc _) (by unfold maxLen; omega) (pv (x1, x3)) k2 rfl rfl HK2.out ?_; intro w4 hS4 hg4)
          rw [rounds_succ]
          go_wp2_with (at_mapUpdate; refine wpList_put_set _ rfl _ _ _ 122 rfl 125 4 pairKeyed Try.underlying122 Try.underlying4 w.heap.size (3 * k + 2) (seen.map pv ++ [pv (x1, x2)] ++ [pv (x1, x3)]) rfl (hS4.alloc _) (by unfold maxLen; omega) (pv (x2, x3)) k3 rfl rfl HK3.out ?_; intro w5 hS5 hg5)
          rw [rounds_succ]
          go_wp2
          have hBx := hB.trans (((Below.refl _ _).alloc hsz _).trans ((hb1.mono (by simp; omega)).trans (hb2.mono (by omega))))
          have hB3 := (hBx.alloc (by omega) (.cells #[.int .i64 x1, .int .i64 x2] 125)).grown hg3 (by simp; omega) (fun j e => by cases e; exact Nat.le_refl _)
          have hB4 := (hB3.alloc hB3.size (.cells #[.int .i64 x1, .int .i64 x3] 125)).grown hg4 (by have := hB3.size; simp; omega) (fun j e => by cases e; exact Nat.le_refl _)
          have hB5 := (hB4.alloc hB4.size (.cells #[.int .i64 x2, .int .i64 x3] 125)).grown hg5 (by have := hB4.size; simp; omega) (fun j e => by cases e; exact Nat.le_refl _)
          have hfin : BoolSet w5 Try.prog 125 4 w.heap.size (3 * (k + 1)) (((bs.take (k + 1)).flatMap pairsL).map pv) := by
            rw [E3.out, List.flatMap_append, ← HSN.out]
            have e : (seen ++ [Blk.mk x1 x2 x3].flatMap pairsL).map pv = seen.map pv ++ [pv (x1, x2)] ++ [pv (x1, x3)] ++ [pv (x2, x3)] := by simp [pairsL]
            rw [e]
            exact hS5.mono (by omega)
          go_roundw
          case rel => exact ⟨k + 1, by omega, by go_num, hfin, hB5, Lib.hid (by rw [HE.out, E2.out, E3.out, shareGo, if_pos Hβ.out, List.flatMap_append, ← HSN.out]; simp)⟩
          case measure => simp [intOf]; omega
      · go_wp2
        go_ret
        exact RV_of (bool_eq (by rw [HE.out, List.drop_eq_nil_of_le (by omega), shareGo])) hB
end Go.Proofs.Ytoicdfdfajfopaa

namespace Go.Proofs.Ytoicdfdfajfopaa
open Go.RowKit Go.Maps
theorem isSize_any (v : Int) (w : World) : Calls Try.prog 89 #[.int .i64 v] w (RS (.bool (decide (3 ≤ v) && decide (v ≤ 15))) w) := by
  go_enter Try.func89, Try.ntmps89
  go_wp2
  all_goals go_ret
  all_goals refine RS_of (bool_eq ?_)
  all_goals (simp; omega)

theorem isBlock_any (v : Int) (x : Blk) (w : World) : Calls Try.prog 90 #[.int .i64 v, bv x] w (RV (.bool (goodB v x)) w) := by
  obtain ⟨a, b, c⟩ := x
  unfold bv
  dsimp only
  go_enter Try.func90, Try.ntmps90
  go_wp2
  all_goals go_ret
  all_goals refine RV_of (bool_eq ?_) ((Below.refl _ _).alloc (Nat.le_refl _) _)
  all_goals (simp [goodB]; omega)

def prevB (bs : List Blk) : Nat → Option Blk
  | 0 => none
  | j + 1 => bs[j]?

theorem blks_at {w : World} {b off : Nat} {bs : List Blk} (h : Blks w b off bs) {k : Nat} (hk : k < bs.length) :
    ∃ x, x ∈ bs ∧ bs[k]? = some x ∧ w.cell? ⟨b, off + k * 3, none⟩ = some (.int .i64 x.a) ∧ w.cell? ⟨b, off + k * 3 + 1, none⟩ = some (.int .i64 x.b) ∧ w.cell? ⟨b, off + k * 3 + 2, none⟩ = some (.int .i64 x.c) := by
  refine ⟨bs[k], List.getElem_mem hk, List.getElem?_eq_getElem hk, ?_⟩
  have := h k hk
  simpa [hk] using this
/-- A cell of an old block, behind a new one. -/
theorem cell_past {w : World} {b o : Nat} {u : Value} {ob : Obj} (h : w.cell? ⟨b, o, none⟩ = some u) (hb : b < w.heap.size) : (w.alloc ob).cell? ⟨b, o, none⟩ = some u := by
  rw [World.cell?_alloc_past _ _ _ hb]
  exact h
theorem new_at {w : World} {cs : Array Value} {T : TypeId} (j : Nat) {v : Value} (hv : cs[j]? = some v) : (w.alloc (.cells cs T)).cell? ⟨w.heap.size, j, none⟩ = some v :=
  cell_new (Below.refl _ _) j hv

set_option maxRecDepth 100000 in
theorem IsSystem_nil (v : Int) (a0 : Option Addr) (c0 : Nat) (w : World) : Calls Try.prog 60 #[.agg #[.int .i64 v, .slice a0 0 c0]] w (RV (.bool (isSysImpl v [])) w) := by
  have hsb : ∀ w, SB w (.slice a0 0 c0) [] := fun w => ⟨by simp, by simp, .inl ⟨a0, c0, rfl, rfl⟩⟩
  cases hsz : decide (3 ≤ v) && decide (v ≤ 15) with
  | false =>
    have hc1 := isSize_any v
    rw [hsz] at hc1
    have HC1 := Lib.hid hc1
    have HSZ := Lib.hid hsz
    clear hc1 hsz
    go_enter Try.func60, Try.ntmps60
    go_wp2_with (go_at_call 89; refine (HC1.out _).mono ?_; rintro e w1 ⟨rfl, rfl⟩)
    go_ret
    exact RV_of (bool_eq (by rw [isSysImpl, HSZ.out]; simp)) ((Below.refl _ _).alloc (Nat.le_refl _) _)
  | true =>
    have hc1 := isSize_any v
    rw [hsz] at hc1
    have HC1 := Lib.hid hc1
    have HSZ := Lib.hid hsz
    clear hc1 hsz
    go_enter Try.func60, Try.ntmps60
    go_wp2_with (go_at_call 89; refine (HC1.out _).mono ?_; rintro e w1 ⟨rfl, rfl⟩)
    refine wp_loop_rounds 1 ?_
    rw [rounds_succ]
    go_wp2_with (go_at_call 92; refine (sharePair_any _ [] _ (hsb _)).mono ?_; rintro e w1 ⟨rfl, hb1⟩)
    go_ret
    exact RV_of (bool_eq (by rw [isSysImpl, HSZ.out]; simp [orderGo, shareGo])) (((Below.refl _ _).alloc (Nat.le_refl _) _).trans (hb1.mono (by simp)))

set_option maxRecDepth 100000 in
theorem IsSystem_size (v : Int) (s : Value) (hs : ∃ a n c, s = .slice a n c) (w : World) (h : (decide (3 ≤ v) && decide (v ≤ 15)) = false) : Calls Try.prog 60 #[.agg #[.int .i64 v, s]] w (RV (.bool false) w) := by
  obtain ⟨a, n, c, rfl⟩ := hs
  have hc1 := isSize_any v
  rw [h] at hc1
  have HC1 := Lib.hid hc1
  clear hc1 h
  go_enter Try.func60, Try.ntmps60
  go_wp2_with (go_at_call 89; refine (HC1.out _).mono ?_; rintro e w1 ⟨rfl, rfl⟩)
  go_ret
  exact RV_of rfl ((Below.refl _ _).alloc (Nat.le_refl _) _)

set_option maxRecDepth 100000 in
theorem IsSystem_main (v : Int) (b off cap : Nat) (bs : List Blk) (w : World) (hwf : ∀ x ∈ bs, WFB x) (hlen : bs.length ≤ 1100000) (hlt : b < w.heap.size) (hbl : Blks w b off bs) (hsz : (decide (3 ≤ v) && decide (v ≤ 15)) = true) :
    Calls Try.prog 60 #[.agg #[.int .i64 v, .slice (some ⟨b, off, none⟩) bs.length cap]] w (RV (.bool (isSysImpl v bs)) w) := by
  have hc1 := isSize_any v
  rw [hsz] at hc1
  have HC1 := Lib.hid hc1
  have HSZ := Lib.hid hsz
  clear hc1 hsz
  have hSB : SB w (.slice (some ⟨b, off, none⟩) bs.length cap) bs := ⟨hwf, hlen, .inr ⟨b, off, cap, rfl, hlt, hbl⟩⟩
  have HSB := Lib.hid hSB
  have HBL := Lib.hid hbl
  clear hSB hbl hwf
  go_enter Try.func60, Try.ntmps60
  go_wp2_with (go_at_call 89; refine (HC1.out _).mono ?_; rintro e w1 ⟨rfl, rfl⟩)
  go_loopw [12] (fun i wr => ∃ k : Nat, k ≤ bs.length ∧ i = .int .i64 k ∧ Below (w.heap.size + 1) (w.alloc (.cells #[.int .i64 v, .slice (some ⟨b, off, none⟩) bs.length cap] 31)) wr ∧
      Hid (orderGo v none bs = orderGo v (prevB bs k) (bs.drop k))) (fun i _ => bs.length - (intOf i).toNat)
  case atStart => exact ⟨0, Nat.zero_le _, rfl, Below.refl _ _, Lib.hid (by simp [prevB])⟩
  case round =>
    obtain ⟨k, hk, rfl, hB, HE⟩ := hrel
    have hz := hB.size
    simp at hz
    have p0 : wr.cell? ⟨w.heap.size, 0, none⟩ = some (.int .i64 v) := by rw [hB.cell (by simp)]; simp
    have p1 : wr.cell? ⟨w.heap.size, 1, none⟩ = some (.slice (some ⟨b, off, none⟩) bs.length cap) := by rw [hB.cell (by simp)]; simp
    have hBw : Below w.heap.size w wr := ((Below.refl _ _).alloc (Nat.le_refl _) _).trans (hB.mono (by omega))
    have hblr := HBL.out.below hBw hlt
    by_cases hkl : k < bs.length
    · obtain ⟨x, r, hx, e1, e2, e3, c1, c2, c3⟩ := blks_next hblr hkl
      rw [e1] at HE
      have E2 := Lib.hid e2
      have hxk : bs[k]? = some x := by
        have := congrArg List.head? e1
        simpa using this
      have EX := Lib.hid hxk
      clear e1 e2 e3 hxk hx
      have hc := isBlock_any v x
      obtain ⟨x1, x2, x3⟩ := x
      dsimp only at c1 c2 c3
      have q0 := cell_regrown (cell_past (ob := .cells #[.int .i64 x1, .int .i64 x2, .int .i64 x3] 71) p0 (by omega))
      have q1 := cell_regrown (new_at (w := wr) (cs := #[.int .i64 x1, .int .i64 x2, .int .i64 x3]) (T := 71) 0 rfl)
      have q2 := cell_regrown (new_at (w := wr) (cs := #[.int .i64 x1, .int .i64 x2, .int .i64 x3]) (T := 71) 1 rfl)
      have q3 := cell_regrown (new_at (w := wr) (cs := #[.int .i64 x1, .int .i64 x2, .int .i64 x3]) (T := 71) 2 rfl)
      cases hg : goodB v ⟨x1, x2, x3⟩ with
      | false =>
        rw [hg] at hc
        have HC := Lib.hid hc
        have HG := Lib.hid hg
        clear hc hg hblr
        go_wp2
        refine wp_region_quiet_below (by kernel_rfl) (by kernel_rfl) ?_
        repeat (go_big_quiet_step (exact Calls.regrown_of (HC.out _)))
        refine wpQuiet_nil ?_
        intro _ hw'
        obtain ⟨⟨dq, osq⟩, hw''⟩ := hw'
        subst hw''
        go_wp2
        go_ret
        exact RV_of (bool_eq (by rw [isSysImpl, HE.out, orderGo_bad HG.out]; simp)) ((hBw.alloc (by omega) _).trans ((below_regrown _ dq osq).mono (by simp; omega)))
      | true =>
        rw [hg] at hc
        have HC := Lib.hid hc
        have HG := Lib.hid hg
        clear hc hg
        rcases k with _ | j
        · clear hblr
          simp only [Nat.zero_mul, Nat.add_zero] at c1 c2 c3
          go_wp2
          refine wp_region_quiet_below (by kernel_rfl) (by kernel_rfl) ?_
          repeat (go_big_quiet_step (exact Calls.regrown_of (HC.out _)))
          refine wpQuiet_nil ?_
          intro _ hw'
          obtain ⟨⟨dq, osq⟩, hw''⟩ := hw'
          subst hw''
          go_wp2
          go_roundw
          case rel => exact ⟨1, by omega, by go_num, (hB.alloc (by omega) _).trans ((below_regrown _ dq osq).mono (by simp; omega)), Lib.hid (by rw [HE.out, E2.out]; simp only [prevB, EX.out]; exact orderGo_first HG.out)⟩
          case measure => simp [intOf]; omega
        · obtain ⟨y, hy, ey, d1, d2, d3⟩ := blks_at hblr (show j < bs.length by omega)
          have EY := Lib.hid ey
          clear hy ey hblr
          have hcc := compareBlocks_any y ⟨x1, x2, x3⟩
          have hneg := cmpB_neg y ⟨x1, x2, x3⟩
          generalize cmpB y ⟨x1, x2, x3⟩ = c at hcc hneg
          obtain ⟨y1, y2, y3⟩ := y
          dsimp only at d1 d2 d3
          have HN := Lib.hid hneg
          have HCC := Lib.hid hcc
          clear hneg hcc
          have s0 := cell_regrown (cell_past (ob := .cells #[.int .i64 x1, .int .i64 x2, .int .i64 x3] 71) p1 (by omega))
          have s1 := cell_regrown (cell_past (ob := .cells #[.int .i64 x1, .int .i64 x2, .int .i64 x3] 71) d1 (by omega))
          have s2 := cell_regrown (cell_past (ob := .cells #[.int .i64 x1, .int .i64 x2, .int .i64 x3] 71) d2 (by omega))
          have s3 := cell_regrown (cell_past (ob := .cells #[.int .i64 x1, .int .i64 x2, .int .i64 x3] 71) d3 (by omega))
          go_wp2
          refine wp_region_quiet_below (by kernel_rfl) (by kernel_rfl) ?_
          repeat (go_big_quiet_step (first | exact Calls.regrown_of (HC.out _) | exact Calls.regrown_of (HCC.out _)))
          refine wpQuiet_nil ?_
          intro _ hw'
          obtain ⟨⟨dq, osq⟩, hw''⟩ := hw'
          subst hw''
          go_wp2
          · have hc0 : 0 ≤ c := by assumption
            go_ret
            exact RV_of (bool_eq (by
              have hb : befB ⟨y1, y2, y3⟩ ⟨x1, x2, x3⟩ = false := by
                cases hb : befB ⟨y1, y2, y3⟩ ⟨x1, x2, x3⟩
                · rfl
                · have := HN.out.2 hb; omega
              rw [isSysImpl, HE.out]; simp only [prevB, EY.out]; rw [orderGo_stop hb]; simp)) ((hBw.alloc (by omega) _).trans ((below_regrown _ dq osq).mono (by simp; omega)))
          · have hc0 : c < 0 := by assumption
            go_roundw
            case rel => exact ⟨j + 1 + 1, by omega, by go_num, (hB.alloc (by omega) _).trans ((below_regrown _ dq osq).mono (by simp; omega)), Lib.hid (by rw [HE.out, E2.out]; simp only [prevB, EY.out, EX.out]; exact orderGo_next HG.out (HN.out.1 hc0))⟩
            case measure => simp [intOf]; omega
    · have hsb := HSB.out.below hBw (Nat.le_refl _)
      have HSB2 := Lib.hid hsb
      clear hsb hblr
      go_wp2_with (go_at_call 92; refine (sharePair_any _ bs _ HSB2.out).mono ?_; rintro e w1 ⟨rfl, hb1⟩)
      go_ret
      refine RV_of (bool_eq ?_) (hBw.trans (hb1.mono (by omega)))
      rw [isSysImpl, HE.out, List.drop_eq_nil_of_le (by omega), HSZ.out]
      simp [orderGo]

theorem IsSystem_any (v : Int) (s : Value) (bs : List Blk) (w : World) (h : SB w s bs) : Calls Try.prog 60 #[.agg #[.int .i64 v, s]] w (RV (.bool (isSysImpl v bs)) w) := by
  obtain ⟨hwf, hlen, ⟨a0, c0, rfl, rfl⟩ | ⟨b, off, cap, rfl, hlt, hbl⟩⟩ := h
  · exact IsSystem_nil v a0 c0 w
  · cases hsz : decide (3 ≤ v) && decide (v ≤ 15) with
    | true => exact IsSystem_main v b off cap bs w hwf hlen hlt hbl hsz
    | false =>
      have := IsSystem_size v (.slice (some ⟨b, off, none⟩) bs.length cap) ⟨_, _, _, rfl⟩ w hsz
      rw [isSysImpl, hsz]
      simpa using this
end Go.Proofs.Ytoicdfdfajfopaa

namespace Go.Proofs.Ytoicdfdfajfopaa
open Go.RowKit Go.Maps
theorem l01In_any (n lo hi : Int) (w : World) : Calls Try.prog 75 #[.int .i64 n, .int .i64 lo, .int .i64 hi] w (RS (.bool (decide (lo ≤ n) && decide (n ≤ hi))) w) := by
  go_enter Try.func75, Try.ntmps75
  go_wp2
  all_goals go_ret
  all_goals refine RS_of (bool_eq ?_)
  all_goals (simp; omega)
theorem l01Good_any (v : Int) (x : Blk) (w : World) : Calls Try.prog 84 #[.int .i64 v, bv x] w (RV (.bool (goodB v x)) w) := by
  obtain ⟨a, b, c⟩ := x
  unfold bv
  dsimp only
  go_enter Try.func84, Try.ntmps84
  go_wp2
  all_goals go_ret
  all_goals refine RV_of (bool_eq ?_) ((Below.refl _ _).alloc (Nat.le_refl _) _)
  all_goals (simp [goodB]; omega)

set_option maxRecDepth 100000 in
theorem l01Before_any (x y : Blk) (w : World) : Calls Try.prog 85 #[bv x, bv y] w (RV (.bool (befB x y)) w) := by
  obtain ⟨a, b, c⟩ := x
  obtain ⟨d, e, f⟩ := y
  unfold bv
  dsimp only
  by_cases h1 : a = d
  · subst h1
    by_cases h2 : b = e
    · subst h2
      by_cases h3 : c = f
      · subst h3
        go_enter Try.func85, Try.ntmps85
        go_wp2
        refine wp_loop_rounds 4 ?_
        rw [rounds_succ]
        go_wp2
        go_quiet (fail)
        go_wp2
        rw [rounds_succ]
        go_wp2
        go_quiet (fail)
        go_wp2
        rw [rounds_succ]
        go_wp2
        go_quiet (fail)
        go_wp2
        rw [rounds_succ]
        go_wp2
        go_ret
        exact RV_of (bool_eq (by simp [befB])) (by repeat (first | exact Below.refl _ _ | refine below_drewN ?_ _ | refine Below.alloc ?_ (by first | exact Nat.le_refl _ | simp) _))
      · have hn : (c != f) = true := by simp [h3]
        clear h3
        go_enter Try.func85, Try.ntmps85
        go_wp2
        refine wp_loop_rounds 4 ?_
        rw [rounds_succ]
        go_wp2
        go_quiet (fail)
        go_wp2
        rw [rounds_succ]
        go_wp2
        go_quiet (fail)
        go_wp2
        rw [rounds_succ]
        go_wp2
        go_quiet (fail)
        go_wp2
        go_quiet (fail)
        go_wp2
        go_ret
        exact RV_of (bool_eq (by simp [befB])) (by repeat (first | exact Below.refl _ _ | refine below_drewN ?_ _ | refine Below.alloc ?_ (by first | exact Nat.le_refl _ | simp) _))
    · have hn : (b != e) = true := by simp [h2]
      have H2 := Lib.hid h2
      clear h2
      go_enter Try.func85, Try.ntmps85
      go_wp2
      refine wp_loop_rounds 4 ?_
      rw [rounds_succ]
      go_wp2
      go_quiet (fail)
      go_wp2
      rw [rounds_succ]
      go_wp2
      go_quiet (fail)
      go_wp2
      go_quiet (fail)
      go_wp2
      go_ret
      exact RV_of (bool_eq (by simp [befB, H2.out])) (by repeat (first | exact Below.refl _ _ | refine below_drewN ?_ _ | refine Below.alloc ?_ (by first | exact Nat.le_refl _ | simp) _))
  · have hn : (a != d) = true := by simp [h1]
    have H1 := Lib.hid h1
    clear h1
    go_enter Try.func85, Try.ntmps85
    go_wp2
    refine wp_loop_rounds 4 ?_
    rw [rounds_succ]
    go_wp2
    go_quiet (fail)
    go_wp2
    go_quiet (fail)
    go_wp2
    go_ret
    exact RV_of (bool_eq (by simp [befB, H1.out])) (by repeat (first | exact Below.refl _ _ | refine below_drewN ?_ _ | refine Below.alloc ?_ (by first | exact Nat.le_refl _ | simp) _))
/-- How often a number stands in a list. -/
def cntL (x : Int) : List Int → Int
  | [] => 0
  | y :: r => (if x = y then 1 else 0) + cntL x r
def cntLL (ys : List Int) : List Int → Int
  | [] => 0
  | x :: r => cntL x ys + cntLL ys r
theorem cntL_snoc (x y : Int) : ∀ l : List Int, cntL x (l ++ [y]) = cntL x l + if x = y then 1 else 0
  | [] => by simp [cntL]
  | z :: r => by simp [cntL, cntL_snoc x y r]; omega
theorem cntLL_snoc (ys : List Int) (x : Int) : ∀ l : List Int, cntLL ys (l ++ [x]) = cntLL ys l + cntL x ys
  | [] => by simp [cntLL]
  | z :: r => by simp [cntLL, cntLL_snoc ys x r]; omega
theorem cntL_le (x : Int) : ∀ l : List Int, 0 ≤ cntL x l ∧ cntL x l ≤ l.length
  | [] => by simp [cntL]
  | y :: r => by have := cntL_le x r; simp only [cntL, List.length_cons]; split <;> omega
theorem cntLL_le (ys : List Int) : ∀ l : List Int, 0 ≤ cntLL ys l ∧ cntLL ys l ≤ ys.length * l.length
  | [] => by simp [cntLL]
  | x :: r => by
    have h := cntLL_le ys r
    have h2 := cntL_le x ys
    simp only [cntLL, List.length_cons, Int.natCast_add, Int.mul_add]
    omega
theorem cntLL_common (x y : Blk) : cntLL [y.a, y.b, y.c] [x.a, x.b, x.c] = commonN x y := by
  have e : ∀ p q : Int, (if p = q then 1 else 0 : Int) = eq1 p q := fun p q => by unfold eq1; split <;> rfl
  simp only [cntLL, cntL, commonN, e]
  omega
theorem take_next {α : Type} {l : List α} {k : Nat} (h : k < l.length) : l.take (k + 1) = l.take k ++ [l[k]] := by rw [List.take_succ_eq_append_getElem h]

set_option maxRecDepth 100000 in
theorem l01Common_any (x y : Blk) (w : World) : Calls Try.prog 111 #[bv x, bv y] w (RV (.int .i64 (commonN x y)) w) := by
  rw [← cntLL_common]
  obtain ⟨xs, hxs⟩ : ∃ xs, xs = [x.a, x.b, x.c] := ⟨_, rfl⟩
  obtain ⟨ys, hys⟩ : ∃ ys, ys = [y.a, y.b, y.c] := ⟨_, rfl⟩
  have hI1 : ∀ w b, w.cell? ⟨b, 0, none⟩ = some (.int .i64 x.a) → w.cell? ⟨b, 1, none⟩ = some (.int .i64 x.b) → w.cell? ⟨b, 2, none⟩ = some (.int .i64 x.c) → Ints w b 0 xs := fun w b h1 h2 h3 => hxs ▸ ints3 h1 h2 h3
  have hI2 : ∀ w b, w.cell? ⟨b, 0, none⟩ = some (.int .i64 y.a) → w.cell? ⟨b, 1, none⟩ = some (.int .i64 y.b) → w.cell? ⟨b, 2, none⟩ = some (.int .i64 y.c) → Ints w b 0 ys := fun w b h1 h2 h3 => hys ▸ ints3 h1 h2 h3
  have hl1 : xs.length = 3 := by rw [hxs]; rfl
  have hl2 : ys.length = 3 := by rw [hys]; rfl
  rw [← hxs, ← hys]
  have H1 := Lib.hid hI1
  have H2 := Lib.hid hI2
  have L1 := Lib.hid hl1
  have L2 := Lib.hid hl2
  clear hI1 hI2 hl1 hl2 hxs hys
  obtain ⟨a, b, c⟩ := x
  obtain ⟨d, e, f⟩ := y
  unfold bv
  dsimp only
  go_enter Try.func111, Try.ntmps111
  go_wp2
  have J1 := Lib.hid (H1.out ((w.alloc (.cells #[.int .i64 a, .int .i64 b, .int .i64 c] 71)).alloc (.cells #[.int .i64 d, .int .i64 e, .int .i64 f] 71)) w.heap.size (by simp) (by simp) (by simp))
  have J2 := Lib.hid (H2.out ((w.alloc (.cells #[.int .i64 a, .int .i64 b, .int .i64 c] 71)).alloc (.cells #[.int .i64 d, .int .i64 e, .int .i64 f] 71)) (w.heap.size + 1) (by simp) (by simp) (by simp))
  obtain ⟨W, hW⟩ : ∃ W, W = (w.alloc (.cells #[.int .i64 a, .int .i64 b, .int .i64 c] 71)).alloc (.cells #[.int .i64 d, .int .i64 e, .int .i64 f] 71) := ⟨_, rfl⟩
  have hB : Below w.heap.size w W := by rw [hW]; exact ((Below.refl _ _).alloc (Nat.le_refl _) _).alloc (by simp) _
  rw [← hW] at J1 J2 ⊢
  clear hW
  go_loopw [5, 6] (fun n i wr => ∃ k : Nat, k ≤ 3 ∧ i = .int .i64 k ∧ n = .int .i64 (cntLL ys (xs.take k)) ∧ ∃ m, wr = W.drewN m) (fun _ i _ => 3 - (intOf i).toNat)
  case atStart => exact ⟨0, Nat.zero_le _, rfl, rfl, 0, rfl⟩
  case round =>
    obtain ⟨k, hk, rfl, rfl, m, rfl⟩ := hrel
    by_cases hkl : k < 3
    · go_wp2
      go_loopw [5, 7] (fun n i wr => ∃ j : Nat, j ≤ 3 ∧ i = .int .i64 j ∧ n = .int .i64 (cntLL ys (xs.take k) + cntL (xs[k]?.getD 0) (ys.take j)) ∧ ∃ m, wr = W.drewN m) (fun _ i _ => 3 - (intOf i).toNat)
      case atStart => exact ⟨0, Nat.zero_le _, rfl, by simp [cntL], m, rfl⟩
      case round =>
        obtain ⟨j, hj, rfl, rfl, m2, rfl⟩ := hrel
        obtain ⟨x, hx⟩ : ∃ x, x = xs[k]?.getD 0 := ⟨_, rfl⟩
        have c1 : W.cell? ⟨w.heap.size, k, none⟩ = some (.int .i64 x) := by
          have := J1.out k (by rw [L1.out]; omega)
          rw [Nat.zero_add] at this
          rw [hx]
          exact this
        rw [← hx]
        have HX := Lib.hid hx
        clear hx
        have g0 : (0 : Int) ≤ (k : Int) := by omega
        have g1 : (k : Int) < 3 := by omega
        have b1 := cntLL_le ys (xs.take k)
        have b2 := cntL_le x (ys.take j)
        have b3 : (ys.length : Int) * ((xs.take k).length : Int) ≤ 9 := by
          rw [L2.out, List.length_take, L1.out]
          omega
        have b4 : (((ys.take j).length : Nat) : Int) ≤ 3 := by rw [List.length_take, L2.out]; omega
        obtain ⟨n, hn⟩ : ∃ n, n = cntLL ys (xs.take k) + cntL x (ys.take j) := ⟨_, rfl⟩
        rw [← hn]
        have bn : 0 ≤ n ∧ n ≤ 12 := by omega
        obtain ⟨bn1, bn2⟩ := bn
        have HNN := Lib.hid hn
        clear hn b1 b2 b3 b4
        by_cases hjl : j < 3
        · obtain ⟨y, hy⟩ : ∃ y, y = ys[j]?.getD 0 := ⟨_, rfl⟩
          have c2 : W.cell? ⟨w.heap.size + 1, j, none⟩ = some (.int .i64 y) := by
            have := J2.out j (by rw [L2.out]; omega)
            rw [Nat.zero_add] at this
            rw [hy]
            exact this
          have g2 : (0 : Int) ≤ (j : Int) := by omega
          have g3 : (j : Int) < 3 := by omega
          have e1 : ys.take (j + 1) = ys.take j ++ [y] := by
            have := take_next (show j < ys.length by rw [L2.out]; exact hjl)
            rw [this, hy]
            simp [L2.out, hjl]
          have E1 := Lib.hid e1
          clear e1 hy
          by_cases hxy : x = y
          · have q : (x == y) = true := by simp [hxy]
            have QX := Lib.hid hxy
            clear hxy
            go_wp2
            go_quiet (fail)
            go_wp2
            go_roundw
            case rel => exact ⟨j + 1, by omega, by go_num, int_eq (by rw [HNN.out, E1.out, cntL_snoc, if_pos QX.out]; omega), _, rfl⟩
            case measure => simp [intOf]; omega
          · have q : (x == y) = false := by simp [hxy]
            have QX := Lib.hid hxy
            clear hxy
            go_wp2
            go_quiet (fail)
            go_wp2
            go_roundw
            case rel => exact ⟨j + 1, by omega, by go_num, int_eq (by rw [HNN.out, E1.out, cntL_snoc, if_neg QX.out]; omega), _, rfl⟩
            case measure => simp [intOf]; omega
        · go_wp2
          go_roundw
          case rel => exact ⟨k + 1, by omega, by go_num, int_eq (by
            have hk3 : k < xs.length := by rw [L1.out]; exact hkl
            have hx2 : x = xs[k] := by rw [HX.out]; simp [hk3]
            rw [HNN.out, take_next hk3, cntLL_snoc, List.take_of_length_le (l := ys) (by rw [L2.out]; omega), hx2]), _, rfl⟩
          case measure => simp [intOf]; omega
    · go_wp2
      go_ret
      exact RV_of (int_eq (by rw [List.take_of_length_le (by rw [L1.out]; omega)])) (below_drewN hB _)
end Go.Proofs.Ytoicdfdfajfopaa

namespace Go.Proofs.Ytoicdfdfajfopaa
open Go.RowKit Go.Maps
theorem fitsWith_snoc (x y : Blk) (l : List Blk) : fitsWith x (l ++ [y]) = (fitsWith x l && decide (commonN x y ≤ 1)) := by simp [fitsWith]
theorem fitsWith_stop {x y : Blk} {bs : List Blk} {k i : Nat} (hk : k < i) (hy : bs[k]? = some y) (h : ¬ commonN x y ≤ 1) : fitsWith x (bs.take i) = false := by
  rw [fitsWith, List.all_eq_false]
  have hl : k < bs.length := by
    rw [List.getElem?_eq_some_iff] at hy
    exact hy.1
  exact ⟨y, by rw [List.mem_take_iff_getElem]; exact ⟨k, by omega, by rw [List.getElem?_eq_getElem hl] at hy; simpa using hy⟩, by simpa using h⟩
set_option maxRecDepth 100000 in
theorem l01Fits_any (s : Value) (bs : List Blk) (w : World) (h : SB w s bs) : Calls Try.prog 86 #[s] w (RV (.bool (fitsGo [] bs)) w) := by
  obtain ⟨hwf, hlen, h3⟩ := h
  clear hwf
  rcases h3 with ⟨a0, c0, rfl, rfl⟩ | ⟨b, off, cap, rfl, hlt, hbl⟩
  · go_enter Try.func86, Try.ntmps86
    go_wp2
    refine wp_loop_rounds 1 ?_
    rw [rounds_succ]
    go_wp2
    go_ret
    exact RV_of rfl (Below.refl _ _)
  · have HBL := Lib.hid hbl
    clear hbl
    go_enter Try.func86, Try.ntmps86
    go_wp2
    go_loopw [3] (fun i wr => ∃ k : Nat, k ≤ bs.length ∧ i = .int .i64 k ∧ Below w.heap.size w wr ∧ Hid (fitsGo [] bs = fitsGo (bs.take k) (bs.drop k))) (fun i _ => bs.length - (intOf i).toNat)
    case atStart => exact ⟨0, Nat.zero_le _, rfl, Below.refl _ _, Lib.hid (by simp)⟩
    case round =>
      obtain ⟨i, hi, rfl, hB, HE⟩ := hrel
      by_cases hil : i < bs.length
      · obtain ⟨x, hx, ex, xc⟩ := blks_at HBL.out hil
        have ex' : bs[i] = x := by
          rw [List.getElem?_eq_getElem hil] at ex
          simpa using ex
        have E1 : bs.drop i = x :: bs.drop (i + 1) := by rw [List.drop_eq_getElem_cons hil, ex']
        have E2 : bs.take (i + 1) = bs.take i ++ [x] := by rw [take_next hil, ex']
        clear ex'
        rw [E1] at HE
        have E2' := Lib.hid E2
        clear E1 E2 hx ex
        go_wp2
        obtain ⟨wo, hwo⟩ : ∃ wo : World, wo = wr := ⟨_, rfl⟩
        rw [← hwo] at hB ⊢
        clear hwo
        go_loopw [4] (fun j wr => ∃ k : Nat, k ≤ i ∧ j = .int .i64 k ∧ Below w.heap.size w wr ∧ Hid (fitsWith x (bs.take k) = true)) (fun j _ => i - (intOf j).toNat)
        case atStart => exact ⟨0, Nat.zero_le _, rfl, hB, Lib.hid (by simp [fitsWith])⟩
        case round =>
          obtain ⟨k, hk, rfl, hB2, HF⟩ := hrel
          by_cases hkl : k < i
          · obtain ⟨y, hy, ey, yc⟩ := blks_at HBL.out (show k < bs.length by omega)
            have E3 : bs.take (k + 1) = bs.take k ++ [y] := by
              have hkb : k < bs.length := by omega
              have ey' : bs[k] = y := by
                have := ey
                rw [List.getElem?_eq_getElem hkb] at this
                simpa using this
              rw [take_next hkb, ey']
            have E3' := Lib.hid E3
            have EY := Lib.hid ey
            clear E3 hy ey
            have hc := l01Common_any x y
            have hb0 : 0 ≤ (commonN x y : Int) ∧ (commonN x y : Int) ≤ 9 := by
              refine ⟨by omega, ?_⟩
              have := cntLL_le [y.a, y.b, y.c] [x.a, x.b, x.c]
              rw [cntLL_common] at this
              simpa using this.2
            obtain ⟨n, hn⟩ : ∃ n : Int, n = commonN x y := ⟨_, rfl⟩
            rw [← hn] at hc hb0
            have HN := Lib.hid hn
            clear hn
            obtain ⟨hb0, hb9⟩ := hb0
            obtain ⟨x1, x2, x3⟩ := x
            obtain ⟨y1, y2, y3⟩ := y
            have HC := Lib.hid hc
            clear hc
            obtain ⟨c1, c2, c3⟩ := xc
            obtain ⟨d1, d2, d3⟩ := yc
            dsimp only at c1 c2 c3 d1 d2 d3
            have q1 := cell_regrown ((hB2.cell (p := ⟨b, off + i * 3, none⟩) hlt).trans c1)
            have q2 := cell_regrown ((hB2.cell (p := ⟨b, off + i * 3 + 1, none⟩) hlt).trans c2)
            have q3 := cell_regrown ((hB2.cell (p := ⟨b, off + i * 3 + 2, none⟩) hlt).trans c3)
            have r1 := cell_regrown ((hB2.cell (p := ⟨b, off + k * 3, none⟩) hlt).trans d1)
            have r2 := cell_regrown ((hB2.cell (p := ⟨b, off + k * 3 + 1, none⟩) hlt).trans d2)
            have r3 := cell_regrown ((hB2.cell (p := ⟨b, off + k * 3 + 2, none⟩) hlt).trans d3)
            clear c1 c2 c3 d1 d2 d3
            have g0 : (0 : Int) ≤ (i : Int) := by omega
            have g1 : (i : Int) < (bs.length : Int) := by omega
            have g2 : (0 : Int) ≤ (k : Int) := by omega
            have g3 : (k : Int) < (bs.length : Int) := by omega
            go_wp2
            refine wp_region_quiet_below (by kernel_rfl) (by kernel_rfl) ?_
            repeat (go_big_quiet_step (exact Calls.regrown_of (HC.out _)))
            refine wpQuiet_nil ?_
            intro _ hw'
            obtain ⟨⟨dq, osq⟩, hw''⟩ := hw'
            subst hw''
            go_wp2
            · have h1 : 1 < n := by assumption
              go_ret
              exact RV_of (bool_eq (by rw [HE.out, fitsGo, fitsWith_stop hkl EY.out (by have := HN.out; omega)]; simp)) (hB2.trans ((below_regrown _ dq osq).mono hB2.size))
            · have h1 : n ≤ 1 := by assumption
              go_roundw
              case rel => exact ⟨k + 1, by omega, by go_num, hB2.trans ((below_regrown _ dq osq).mono hB2.size), Lib.hid (by rw [E3'.out, fitsWith_snoc, HF.out]; simp; have := HN.out; omega)⟩
              case measure => simp [intOf]; omega
          · go_wp2
            go_roundw
            case rel => exact ⟨i + 1, by omega, by go_num, hB2, Lib.hid (by
              have : k = i := by omega
              rw [HE.out, fitsGo, E2'.out, ← this, HF.out]; simp)⟩
            case measure => simp [intOf]; omega
      · go_wp2
        go_ret
        exact RV_of (bool_eq (by rw [HE.out, List.drop_eq_nil_of_le (by omega), fitsGo])) hB
end Go.Proofs.Ytoicdfdfajfopaa


/- A map from keys to bools that the program itself made, read as the list of the keys that were put in. -/
import Derived.Test.YtlchcnngikgjjaaProg
import Derived.WalkKit
import Derived.Maps.OwnSet
import Derived.Lib.Hide
namespace Go.Proofs.Ytlchcnngikgjjaa
open Go.RowKit Go.Maps

def keyLit (P : Program) (k : TypeId) (v : Value) : Lit := (keyOf P k v).getD .nil

/-- The block b is a map whose keys are vs, each at 'true'. -/
structure BoolSet (w : World) (P : Program) (k e : TypeId) (b n : Nat) (vs : List Value) : Prop where
  owns : w.ownsMap (H := Unit) P k (plainElem P e) b n (setOf (.lit (.bool true)) (vs.map (keyLit P k)))
  keys : ∀ v ∈ vs, keyOf P k v = some (keyLit P k v)

section
variable {P : Program} {k e : TypeId} {b n : Nat} {vs : List Value} {w : World}

theorem BoolSet.made (w : World) (P : Program) (k e : TypeId) : BoolSet (w.alloc (.map #[] 0)) P k e w.heap.size 0 [] :=
  ⟨World.ownsMap_made w P k _, by simp⟩

theorem BoolSet.kept {w' : World} {row : Option Nat} (h : BoolSet w P k e b n vs) (hg : w.grownBy w' row) (hne : some b ≠ row) : BoolSet w' P k e b n vs := ⟨h.owns.kept hg hne, h.keys⟩
theorem BoolSet.alloc (h : BoolSet w P k e b n vs) (o : Obj) : BoolSet (w.alloc o) P k e b n vs := ⟨h.owns.alloc o, h.keys⟩
theorem BoolSet.setCell (h : BoolSet w P k e b n vs) {a : Addr} (ha : b ≠ a.block) (u : Value) : BoolSet (w.setCell a u) P k e b n vs := ⟨h.owns.setCell ha u, h.keys⟩
theorem BoolSet.lt (h : BoolSet w P k e b n vs) : b < w.heap.size := h.owns.lt
theorem BoolSet.mono (h : BoolSet w P k e b n vs) {m : Nat} (hm : n ≤ m) : BoolSet w P k e b m vs := ⟨h.owns.mono hm, h.keys⟩
/-- Whatever keeps the blocks below B keeps the map that lies there. -/
theorem BoolSet.below {B : Nat} {w' : World} (h : BoolSet w P k e b n vs) (hb : Below B w w') (hl : b < B) : BoolSet w' P k e b n vs := by
  obtain ⟨es, clock, h1, h2⟩ := h.owns
  exact ⟨⟨es, clock, (hb.block b hl).trans h1, h2⟩, h.keys⟩

theorem atKey_fold (u z : DataW Unit) (kl : Lit) : ∀ (acc : List Lit) (m : DataW Unit), IsMap m → (∀ x ∈ acc, WideAt.IsKeyLit x) →
    (kl ∈ acc ∧ (acc.foldl (fun m x => m.put x u) m).atKey kl z = u) ∨ (kl ∉ acc ∧ (acc.foldl (fun m x => m.put x u) m).atKey kl z = m.atKey kl z)
  | [], m, _, _ => by simp
  | x :: r, m, hm, hk => by
    rw [List.foldl_cons]
    rcases atKey_fold u z kl r _ (hm.put x u) (fun y hy => hk y (by simp [hy])) with ⟨h1, h2⟩ | ⟨h1, h2⟩
    · exact .inl ⟨by simp [h1], h2⟩
    · rcases Classical.em (kl = x) with h | h
      · subst h
        rw [atKey_put_same hm (hk kl (by simp))] at h2
        exact .inl ⟨by simp, h2⟩
      · rw [atKey_put_other h] at h2
        exact .inr ⟨by simp [h, h1], h2⟩

theorem BoolSet.look (h : BoolSet w P k e b n vs) (K : Keyed P k) {t : TypeId} (ht : P.underlying t = some (.map k e)) (he : P.underlying e = some .bool) (hz : (zeroValue e).run P w = .ok (.bool false) w)
    {key : Value} {kl : Lit} (hkey : keyOf P k key = some kl) : ∃ β : Bool, (Instr.lookup t (.map (some b)) key false).run P w = .ok (.bool β) w ∧ (β = true ↔ key ∈ vs) := by
  obtain ⟨v, ps, hrun, hv⟩ := h.owns.lookup K ht hz (plainElem_bool he false) hkey
  have hkl : ∀ x ∈ vs.map (keyLit P k), WideAt.IsKeyLit x := fun x hx => by
    obtain ⟨y, hy, rfl⟩ := List.mem_map.1 hx
    exact K.key (h.keys y hy)
  have hm : kl ∈ vs.map (keyLit P k) ↔ key ∈ vs := by
    constructor
    · intro hx
      obtain ⟨y, hy, rfl⟩ := List.mem_map.1 hx
      rw [K.inj hkey (h.keys y hy)]
      exact hy
    · intro hx
      refine List.mem_map.2 ⟨key, hx, ?_⟩
      simp [keyLit, hkey]
  have hat := atKey_fold (.lit (.bool true)) (.lit (.bool false)) kl (vs.map (keyLit P k)) (.map []) isMap_empty hkl
  have e0 : (DataW.map (H := Unit) []).atKey kl (.lit (.bool false)) = .lit (.bool false) := atKey_of_not_has rfl _
  rw [e0] at hat
  unfold setOf at hv
  rcases hat with ⟨h1, h2⟩ | ⟨h1, h2⟩
  · rw [h2] at hv
    obtain rfl : v = .bool true := by
      unfold plainElem at hv
      split at hv <;> simp_all
    exact ⟨true, hrun, by simp [← hm, h1]⟩
  · rw [h2] at hv
    obtain rfl : v = .bool false := by
      unfold plainElem at hv
      split at hv <;> simp_all
    exact ⟨false, hrun, by simp [← hm, h1]⟩

theorem BoolSet.put (h : BoolSet w P k e b n vs) (K : Keyed P k) {t : TypeId} (ht : P.underlying t = some (.map k e)) (he : P.underlying e = some .bool) (hn : n < maxLen)
    {key : Value} {kl : Lit} (hkey : keyOf P k key = some kl) : ∃ w', (Instr.mapUpdate t (.map (some b)) key (.bool true)).run P w = .ok () w' ∧ BoolSet w' P k e b (n + 1) (vs ++ [key]) ∧ w.grownBy w' (some b) := by
  obtain ⟨w', hrun, hown, hg⟩ := h.owns.update K ht hn hkey (plainElem_bool he true)
  have hl : keyLit P k key = kl := by simp [keyLit, hkey]
  refine ⟨w', hrun, ⟨?_, ?_⟩, hg⟩
  · rw [List.map_append, List.map_singleton, setOf_snoc, hl]
    exact hown
  · intro v hv
    rcases List.mem_append.1 hv with hv | hv
    · exact h.keys v hv
    · simp at hv
      subst hv
      rw [hkey, hl]
end

theorem wpList_look_set {P : Program} (w : World) {ops : Array Oper} {rest : List Oper} {o : Oper} {a : Act} {Q : Exit → Act → World → Prop}
    (hg : o.guard = none) (m x : Operand) (t : TypeId) (hop : o.op = Op.lookup t m x false) (k e : TypeId) (K : Keyed P k) (ht : P.underlying t = some (.map k e)) (he : P.underlying e = some .bool)
    (hz : (zeroValue e).run P w = .ok (.bool false) w) (b n : Nat) (vs : List Value) (hm : a.eval m = .map (some b)) (hS : BoolSet w P k e b n vs) (key : Value) (kl : Lit) (hx : a.eval x = key) (hkey : keyOf P k key = some kl)
    (hK : ∀ β : Bool, Hid (β = true ↔ key ∈ vs) → wpList P ops Q rest (a.put o.dst (.bool β)) w) : wpList P ops Q (o :: rest) a w := by
  refine wpList_plain hg fun K' hK' => ?_
  obtain ⟨β, hrun, hβ⟩ := hS.look K ht he hz hkey
  unfold Oper.wp
  simp [execOp, hop, hm, hx, hrun, Result.andThen]
  exact hK' _ _ (hK β hβ)

theorem wpList_put_set {P : Program} (w : World) {ops : Array Oper} {rest : List Oper} {o : Oper} {a : Act} {Q : Exit → Act → World → Prop}
    (hg : o.guard = none) (m x v : Operand) (t : TypeId) (hop : o.op = Op.mapUpdate t m x v) (k e : TypeId) (K : Keyed P k) (ht : P.underlying t = some (.map k e)) (he : P.underlying e = some .bool)
    (b n : Nat) (vs : List Value) (hm : a.eval m = .map (some b)) (hS : BoolSet w P k e b n vs) (hn : n < maxLen) (key : Value) (kl : Lit) (hx : a.eval x = key) (hv : a.eval v = .bool true) (hkey : keyOf P k key = some kl)
    (hK : ∀ w', BoolSet w' P k e b (n + 1) (vs ++ [key]) → w.grownBy w' (some b) → wpList P ops Q rest (a.put o.dst undef) w') : wpList P ops Q (o :: rest) a w := by
  refine wpList_plain hg fun K' hK' => ?_
  obtain ⟨w', hrun, r1, r2⟩ := hS.put K ht he hn hkey
  unfold Oper.wp
  simp [execOp, hop, hm, hx, hv, hrun, Result.andThen]
  exact hK' _ _ (hK w' r1 r2)
end Go.Proofs.Ytlchcnngikgjjaa

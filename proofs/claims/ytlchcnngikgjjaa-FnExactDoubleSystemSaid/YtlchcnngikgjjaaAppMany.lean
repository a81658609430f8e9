
/- append of many blocks to a list of the call's own. -/
import Derived.Test.YtlchcnngikgjjaaSrt2
import Derived.Deep.RegionLaw
import Derived.Deep.AppendLies
namespace Go.Proofs.Ytlchcnngikgjjaa
open Go.RowKit Go.Maps
/-- The value is a slice of just these blocks; of the numbers nothing is said. -/
def SX (w : World) (s : Value) (bs : List Blk) : Prop := (∃ a c, s = .slice a 0 c ∧ bs = []) ∨ ∃ b off cap, s = .slice (some ⟨b, off, none⟩) bs.length cap ∧ b < w.heap.size ∧ Blks w b off bs
theorem SB.sx {w : World} {s : Value} {bs : List Blk} (h : SB w s bs) : SX w s bs := h.2.2
theorem SX.below {w w' : World} {s : Value} {bs : List Blk} (h : SX w s bs) {B : Nat} (hb : Below B w w') (hB : w.heap.size ≤ B) : SX w' s bs := by
  rcases h with h3 | ⟨b, off, cap, rfl, hl, hr⟩
  · exact .inl h3
  · exact .inr ⟨b, off, cap, rfl, by have := hb.size; omega, hr.below hb (by omega)⟩
theorem OwnR.sx {w : World} {base : Nat} {s : Value} {bs : List Blk} (h : OwnR w base s bs) : SX w s bs := by
  rcases h.res with ⟨rfl, a, c, rfl⟩ | ⟨g, cap, rfl, _, _, ho⟩
  · exact .inl ⟨a, c, rfl, rfl⟩
  · exact .inr ⟨g, 0, cap, rfl, ho.lt, ho.at_⟩
theorem OwnR.form {w : World} {base : Nat} {s : Value} {bs : List Blk} (h : OwnR w base s bs) : ∃ a c, s = .slice a bs.length c := by
  rcases h.res with ⟨rfl, a, c, rfl⟩ | ⟨g, cap, rfl, _⟩ <;> exact ⟨_, _, rfl⟩
theorem blks_flat {w : World} {b off : Nat} {bs : List Blk} (h : Blks w b off bs) (j : Nat) (u : Value) (hu : (bs.flatMap cells3)[j]? = some u) : w.cell? ⟨b, off + j, none⟩ = some u := by
  have hj : j < bs.length * 3 := by
    rw [← flat_length]
    exact (List.getElem?_eq_some_iff.1 hu).1
  obtain ⟨h0, h1, h2⟩ := h (j / 3) (by omega)
  obtain ⟨f0, f1, f2⟩ := flat_at bs (j / 3) (by omega)
  have hm : j % 3 = 0 ∨ j % 3 = 1 ∨ j % 3 = 2 := by omega
  rcases hm with hm | hm | hm
  · rw [show j / 3 * 3 = j by omega] at f0
    rw [show off + j / 3 * 3 = off + j by omega] at h0
    rw [h0, ← hu, f0]
  · rw [show j / 3 * 3 + 1 = j by omega] at f1
    rw [show off + j / 3 * 3 + 1 = off + j by omega] at h1
    rw [h1, ← hu, f1]
  · rw [show j / 3 * 3 + 2 = j by omega] at f2
    rw [show off + j / 3 * 3 + 2 = off + j by omega] at h2
    rw [h2, ← hu, f2]
theorem flat_one (bs : List Blk) : ∀ u ∈ bs.flatMap cells3, u.oneCell' = true := by
  intro u hu
  obtain ⟨x, _, hx⟩ := List.mem_flatMap.1 hu
  simp [cells3] at hx
  rcases hx with rfl | rfl | rfl <;> rfl
theorem run_append_many (w : World) (ty : TypeId) (base : Nat) (v : Value) (bs : List Blk) (hown : OwnR w base v bs) (x : Value) (cs : List Blk) (hx : SX w x cs) (hl : bs.length + cs.length ≤ 2200000) (hb : base ≤ w.heap.size) :
    ∃ v' w', (Builtin.append_ #[24, 24] ty #[v, x]).run Try.prog w = .ok v' w' ∧ OwnR w' base v' (bs ++ cs) ∧ w.grownBy w' v.ownBlock := by
  obtain ⟨i0, hi, hz0, hz1, hz2⟩ := info_parts infoBlock
  have key : ∀ (a : Addr) (m c : Nat) (news : List Value), x = .slice (some a) m c → m = cs.length → news = cs.flatMap cells3 → (∀ j u, news[j]? = some u → w.cell? (a.add j) = some u) →
      ∃ v' w', (Builtin.append_ #[24, 24] ty #[v, x]).run Try.prog w = .ok v' w' ∧ OwnR w' base v' (bs ++ cs) ∧ w.grownBy w' v.ownBlock := by
    intro a m c news ex em en hn
    subst ex
    subst en
    subst em
    obtain ⟨v', w', h1, h2, h3, _⟩ := run_append_own_at (P := Try.prog) w base 24 ty 62 i0 _ 3 24 Try.underlying24 hi hz0 hz1 hz2 rfl (by decide) v bs.length (bs.flatMap cells3) hown a cs.length c (cs.flatMap cells3) (flat_length cs) hn (flat_one cs) (by unfold maxLen; omega) (by omega) hb
    exact ⟨v', w', h1, by unfold OwnR; rw [List.length_append, List.flatMap_append]; exact h2, h3⟩
  rcases hx with ⟨a, c, rfl, rfl⟩ | ⟨b, off, cap, rfl, _, hbl⟩
  · cases a with
    | some a => exact key a 0 c [] rfl rfl rfl (by simp)
    | none =>
      refine ⟨v, w, ?_, by rw [List.append_nil]; exact hown, only_refl _ _⟩
      obtain ⟨a, c', rfl⟩ := hown.form
      have hroom : bs.length ≤ c' := by
        rcases hown.2 with ⟨h, h0⟩ | ⟨g, cap, cur, h, _, _, hn, _⟩
        · rw [h0]; exact Nat.zero_le _
        · simp at h; omega
      have hc : ∀ W : World, (Builtin.lenOf (.slice none 0 c)).run Try.prog W = .ok 0 W := fun _ => rfl
      have hc2 : ∀ W : World, (Builtin.firstCells 3 0 (.slice none 0 c)).run Try.prog W = .ok #[] W := fun _ => rfl
      simp [Builtin.append_, run_underlying Try.underlying24, sizeOf, typeInfo, hi, hz1, hc, hc2, hroom]
      cases a <;> rfl
  · refine key ⟨b, off, none⟩ cs.length cap (cs.flatMap cells3) rfl rfl rfl fun j u hu => ?_
    rw [addr_at]
    exact blks_flat hbl j u hu
theorem wp_append_many {w : World} {o : Oper} {a : Act} {K : Act → World → Prop} {Q : Exit → Act → World → Prop} (s x : Operand)
    (ho : o.op = .call { callee := .builtin .append, args := #[s, x], argTypes := #[24, 24] })
    (base : Nat) (v : Value) (bs : List Blk) (hs : a.eval s = v) (hown : OwnR w base v bs) (xv : Value) (cs : List Blk) (hxv : a.eval x = xv) (hx : SX w xv cs) (hl : bs.length + cs.length ≤ 2200000) (hb : base ≤ w.heap.size)
    (h : ∀ (a' : Option Addr) (c' : Nat) (w' : World), OwnR w' base (.slice a' (bs.length + cs.length) c') (bs ++ cs) → w.grownBy w' v.ownBlock → K (a.put o.dst (.slice a' (bs.length + cs.length) c')) w') : o.wp Try.prog a w K Q := by
  obtain ⟨v', w', hr, h2, h3⟩ := run_append_many w o.type base v bs hown xv cs hx hl hb
  obtain ⟨a', c', hv⟩ := h2.form
  rw [List.length_append] at hv
  subst hv
  unfold Oper.wp execOp
  simp only [ho, resolve, invoke, builtin, Sem.run_bind, Sem.run_pure, Result.andThen_ok, List.map_toArray, List.map_cons, List.map_nil, hs, hxv, hr]
  exact h a' c' w' h2 h3
theorem wpList_append_many {w : World} {ops : Array Oper} {rest : List Oper} {o : Oper} {a : Act} {Q : Exit → Act → World → Prop} (hgd : o.guard = none) (s x : Operand)
    (ho : o.op = .call { callee := .builtin .append, args := #[s, x], argTypes := #[24, 24] })
    (base : Nat) (v : Value) (bs : List Blk) (hs : a.eval s = v) (hown : OwnR w base v bs) (xv : Value) (cs : List Blk) (hxv : a.eval x = xv) (hx : SX w xv cs) (hl : bs.length + cs.length ≤ 2200000) (hb : base ≤ w.heap.size)
    (h : ∀ (a' : Option Addr) (c' : Nat) (w' : World), OwnR w' base (.slice a' (bs.length + cs.length) c') (bs ++ cs) → w.grownBy w' v.ownBlock → wpList Try.prog ops Q rest (a.put o.dst (.slice a' (bs.length + cs.length) c')) w') : wpList Try.prog ops Q (o :: rest) a w :=
  wpList_plain hgd fun _ hK => wp_append_many s x ho base v bs hs hown xv cs hxv hx hl hb fun a' c' w' h1 h2 => hK _ _ (h a' c' w' h1 h2)
theorem step_append_many {w : World} {ops : Array Oper} {o : Oper} {a : Act} {K : Act → World → Prop} {Q : Exit → Act → World → Prop} {E : Prop} (hgd : o.guard = none) (s x : Operand)
    (ho : o.op = .call { callee := .builtin .append, args := #[s, x], argTypes := #[24, 24] })
    (base : Nat) (v : Value) (bs : List Blk) (hs : a.eval s = v) (hown : OwnR w base v bs) (xv : Value) (cs : List Blk) (hxv : a.eval x = xv) (hx : SX w xv cs) (hl : bs.length + cs.length ≤ 2200000) (hb : base ≤ w.heap.size)
    (h : ∀ (a' : Option Addr) (c' : Nat) (w' : World), OwnR w' base (.slice a' (bs.length + cs.length) c') (bs ++ cs) → w.grownBy w' v.ownBlock → K (a.put o.dst (.slice a' (bs.length + cs.length) c')) w') :
    if Region.wanted o (yielded ops a.tmps) = true then Oper.wp Try.prog o a w K Q else E := by
  have hw : Region.wanted o (yielded ops a.tmps) = true := by simp [Region.wanted, hgd]
  rw [if_pos hw]
  exact wp_append_many s x ho base v bs hs hown xv cs hxv hx hl hb h
end Go.Proofs.Ytlchcnngikgjjaa

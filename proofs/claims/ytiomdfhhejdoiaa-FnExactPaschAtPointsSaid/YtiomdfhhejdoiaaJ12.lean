
/- append of many numbers and of many rows, from a slice that may be nil; slices.Concat of rows that may be empty; slices.Contains at a slice that may be nil. The model's number of a block through two points. Pasch: the plain part. The program's paschFrom. -/
import Derived.Test.YtiomdfhhejdoiaaJ11
import Derived.Deep.RegionLaw
import Derived.Deep.AppendLies
import Derived.Deep.LoopGhost
import Derived.Deep.RegionHeld3
import Derived.WalkMore
namespace Go.Proofs.Ytiomdfhhejdoiaa
open Go.RowKit Go.Maps Go.Shelf
theorem run_append_manyJ (w : World) (ty : TypeId) (base : Nat) (v : Value) (hs : List Value) (hown : w.ownsRow base 2 1 v hs.length hs) (x : Value) (ks : List Value)
    (hx : (∃ a c, x = .slice a 0 c ∧ ks = []) ∨ ∃ b off cap, x = .slice (some ⟨b, off, none⟩) ks.length cap ∧ ∀ j u, ks[j]? = some u → w.cell? ⟨b, off + j, none⟩ = some u) (hone : ∀ u ∈ ks, u.oneCell' = true) (hl : hs.length + ks.length ≤ 2200000) (hb : base ≤ w.heap.size) :
    ∃ a' c' w', (Builtin.append_ #[26, 26] ty #[v, x]).run Try.prog w = .ok (.slice a' (hs.length + ks.length) c') w' ∧ w'.ownsRow base 2 1 (.slice a' (hs.length + ks.length) c') (hs.length + ks.length) (hs ++ ks) ∧ w.grownBy w' v.ownBlock ∧ ((Value.slice a' (hs.length + ks.length) c').ownBlock = v.ownBlock ∨ (Value.slice a' (hs.length + ks.length) c').ownBlock = some w.heap.size) := by
  obtain ⟨i0, hi, hz0, hz1, hz2⟩ := info_parts infoInt64
  have key : ∀ (a : Addr) (m c : Nat) (news : List Value), x = .slice (some a) m c → m = ks.length → news = ks → (∀ j u, news[j]? = some u → w.cell? (a.add j) = some u) →
      ∃ a' c' w', (Builtin.append_ #[26, 26] ty #[v, x]).run Try.prog w = .ok (.slice a' (hs.length + ks.length) c') w' ∧ w'.ownsRow base 2 1 (.slice a' (hs.length + ks.length) c') (hs.length + ks.length) (hs ++ ks) ∧ w.grownBy w' v.ownBlock ∧ ((Value.slice a' (hs.length + ks.length) c').ownBlock = v.ownBlock ∨ (Value.slice a' (hs.length + ks.length) c').ownBlock = some w.heap.size) := by
    intro a m c news ex em en hn
    subst ex
    subst en
    subst em
    obtain ⟨v', w', h1, h2, h3, h4, h5⟩ := run_append_own_at (P := Try.prog) w base 26 ty 2 i0 _ 1 8 Try.underlying26 hi hz0 hz1 hz2 rfl (by decide) v hs.length hs hown a news.length c news (by simp) hn hone (by unfold maxLen; omega) (by omega) hb
    have hf : ∃ a' c', v' = .slice a' (hs.length + news.length) c' := by
      rcases h2.2 with ⟨e, e0⟩ | ⟨g, cap, cur, e, _⟩
      · subst e
        exact ⟨none, 0, by rw [e0]⟩
      · exact ⟨_, _, e⟩
    obtain ⟨a', c', rfl⟩ := hf
    exact ⟨a', c', w', h1, h2, h3, h5⟩
  rcases hx with ⟨a, c, rfl, rfl⟩ | ⟨b, off, cap, rfl, hbl⟩
  · cases a with
    | some a => exact key a 0 c [] rfl rfl rfl (by simp)
    | none =>
      have hf : ∃ a' c', v = .slice a' hs.length c' ∧ hs.length ≤ c' := by
        rcases hown.2 with ⟨e, e0⟩ | ⟨g, cap, cur, e, _, _, hn, _⟩
        · subst e
          exact ⟨none, 0, by rw [e0], by omega⟩
        · exact ⟨_, _, e, hn⟩
      obtain ⟨a', c', rfl, hroom⟩ := hf
      refine ⟨a', c', w, ?_, by simpa using hown, only_refl _ _, .inl rfl⟩
      have hc : ∀ W : World, (Builtin.lenOf (.slice none 0 c)).run Try.prog W = .ok 0 W := fun _ => rfl
      have hc2 : ∀ W : World, (Builtin.firstCells 1 0 (.slice none 0 c)).run Try.prog W = .ok #[] W := fun _ => rfl
      simp [Builtin.append_, run_underlying Try.underlying26, sizeOf, typeInfo, hi, hz1, hc, hc2, hroom]
      cases a' <;> rfl
  · refine key ⟨b, off, none⟩ ks.length cap ks rfl rfl rfl fun j u hu => ?_
    rw [addr_at]
    exact hbl j u hu
theorem wp_append_manyJ {w : World} {o : Oper} {a : Act} {K : Act → World → Prop} {Q : Exit → Act → World → Prop} (s x : Operand)
    (ho : o.op = .call { callee := .builtin .append, args := #[s, x], argTypes := #[26, 26] })
    (base : Nat) (v : Value) (hs : List Value) (n : Nat) (hn : n = hs.length) (hsv : a.eval s = v) (hown : w.ownsRow base 2 1 v hs.length hs) (xv : Value) (ks : List Value) (m : Nat) (hm : m = ks.length) (hxv : a.eval x = xv)
    (hx : (∃ a c, xv = .slice a 0 c ∧ ks = []) ∨ ∃ b off cap, xv = .slice (some ⟨b, off, none⟩) ks.length cap ∧ ∀ j u, ks[j]? = some u → w.cell? ⟨b, off + j, none⟩ = some u) (hone : ∀ u ∈ ks, u.oneCell' = true) (hl : n + m ≤ 2200000) (hb : base ≤ w.heap.size)
    (h : ∀ (a' : Option Addr) (c' : Nat) (w' : World), w'.ownsRow base 2 1 (.slice a' (n + m) c') (n + m) (hs ++ ks) → w.grownBy w' v.ownBlock → ((Value.slice a' (n + m) c').ownBlock = v.ownBlock ∨ (Value.slice a' (n + m) c').ownBlock = some w.heap.size) → K (a.put o.dst (.slice a' (n + m) c')) w') : o.wp Try.prog a w K Q := by
  subst hn
  subst hm
  obtain ⟨a', c', w', hr, h2, h3, h4⟩ := run_append_manyJ w o.type base v hs hown xv ks hx hone hl hb
  unfold Oper.wp execOp
  simp only [ho, resolve, invoke, builtin, Sem.run_bind, Sem.run_pure, Result.andThen_ok, List.map_toArray, List.map_cons, List.map_nil, hsv, hxv, hr]
  exact h a' c' w' h2 h3 h4
theorem wpList_append_manyJ {w : World} {ops : Array Oper} {rest : List Oper} {o : Oper} {a : Act} {Q : Exit → Act → World → Prop} (hgd : o.guard = none) (s x : Operand)
    (ho : o.op = .call { callee := .builtin .append, args := #[s, x], argTypes := #[26, 26] })
    (base : Nat) (v : Value) (hs : List Value) (n : Nat) (hn : n = hs.length) (hsv : a.eval s = v) (hown : w.ownsRow base 2 1 v hs.length hs) (xv : Value) (ks : List Value) (m : Nat) (hm : m = ks.length) (hxv : a.eval x = xv)
    (hx : (∃ a c, xv = .slice a 0 c ∧ ks = []) ∨ ∃ b off cap, xv = .slice (some ⟨b, off, none⟩) ks.length cap ∧ ∀ j u, ks[j]? = some u → w.cell? ⟨b, off + j, none⟩ = some u) (hone : ∀ u ∈ ks, u.oneCell' = true) (hl : n + m ≤ 2200000) (hb : base ≤ w.heap.size)
    (h : ∀ (a' : Option Addr) (c' : Nat) (w' : World), w'.ownsRow base 2 1 (.slice a' (n + m) c') (n + m) (hs ++ ks) → w.grownBy w' v.ownBlock → ((Value.slice a' (n + m) c').ownBlock = v.ownBlock ∨ (Value.slice a' (n + m) c').ownBlock = some w.heap.size) → wpList Try.prog ops Q rest (a.put o.dst (.slice a' (n + m) c')) w') : wpList Try.prog ops Q (o :: rest) a w :=
  wpList_plain hgd fun _ hK => wp_append_manyJ s x ho base v hs n hn hsv hown xv ks m hm hxv hx hone hl hb fun a' c' w' h1 h2 h3 => hK _ _ (h a' c' w' h1 h2 h3)
theorem step_append_manyJ {w : World} {ops : Array Oper} {o : Oper} {a : Act} {K : Act → World → Prop} {Q : Exit → Act → World → Prop} {E : Prop} (hgd : o.guard = none) (s x : Operand)
    (ho : o.op = .call { callee := .builtin .append, args := #[s, x], argTypes := #[26, 26] })
    (base : Nat) (v : Value) (hs : List Value) (n : Nat) (hn : n = hs.length) (hsv : a.eval s = v) (hown : w.ownsRow base 2 1 v hs.length hs) (xv : Value) (ks : List Value) (m : Nat) (hm : m = ks.length) (hxv : a.eval x = xv)
    (hx : (∃ a c, xv = .slice a 0 c ∧ ks = []) ∨ ∃ b off cap, xv = .slice (some ⟨b, off, none⟩) ks.length cap ∧ ∀ j u, ks[j]? = some u → w.cell? ⟨b, off + j, none⟩ = some u) (hone : ∀ u ∈ ks, u.oneCell' = true) (hl : n + m ≤ 2200000) (hb : base ≤ w.heap.size)
    (h : ∀ (a' : Option Addr) (c' : Nat) (w' : World), w'.ownsRow base 2 1 (.slice a' (n + m) c') (n + m) (hs ++ ks) → w.grownBy w' v.ownBlock → ((Value.slice a' (n + m) c').ownBlock = v.ownBlock ∨ (Value.slice a' (n + m) c').ownBlock = some w.heap.size) → K (a.put o.dst (.slice a' (n + m) c')) w') :
    if Region.wanted o (yielded ops a.tmps) = true then Oper.wp Try.prog o a w K Q else E := by
  have hw : Region.wanted o (yielded ops a.tmps) = true := by simp [Region.wanted, hgd]
  rw [if_pos hw]
  exact wp_append_manyJ s x ho base v hs n hn hsv hown xv ks m hm hxv hx hone hl hb h
theorem run_append_manyV (w : World) (ty : TypeId) (base : Nat) (v : Value) (hs : List Value) (hown : w.ownsRow base 26 1 v hs.length hs) (x : Value) (ks : List Value)
    (hx : (∃ a c, x = .slice a 0 c ∧ ks = []) ∨ ∃ b off cap, x = .slice (some ⟨b, off, none⟩) ks.length cap ∧ ∀ j u, ks[j]? = some u → w.cell? ⟨b, off + j, none⟩ = some u) (hone : ∀ u ∈ ks, u.oneCell' = true) (hl : hs.length + ks.length ≤ 2200000) (hb : base ≤ w.heap.size) :
    ∃ a' c' w', (Builtin.append_ #[44, 44] ty #[v, x]).run Try.prog w = .ok (.slice a' (hs.length + ks.length) c') w' ∧ w'.ownsRow base 26 1 (.slice a' (hs.length + ks.length) c') (hs.length + ks.length) (hs ++ ks) ∧ w.grownBy w' v.ownBlock ∧ ((Value.slice a' (hs.length + ks.length) c').ownBlock = v.ownBlock ∨ (Value.slice a' (hs.length + ks.length) c').ownBlock = some w.heap.size) := by
  obtain ⟨i0, hi, hz0, hz1, hz2⟩ := info_parts infoRow
  have key : ∀ (a : Addr) (m c : Nat) (news : List Value), x = .slice (some a) m c → m = ks.length → news = ks → (∀ j u, news[j]? = some u → w.cell? (a.add j) = some u) →
      ∃ a' c' w', (Builtin.append_ #[44, 44] ty #[v, x]).run Try.prog w = .ok (.slice a' (hs.length + ks.length) c') w' ∧ w'.ownsRow base 26 1 (.slice a' (hs.length + ks.length) c') (hs.length + ks.length) (hs ++ ks) ∧ w.grownBy w' v.ownBlock ∧ ((Value.slice a' (hs.length + ks.length) c').ownBlock = v.ownBlock ∨ (Value.slice a' (hs.length + ks.length) c').ownBlock = some w.heap.size) := by
    intro a m c news ex em en hn
    subst ex
    subst en
    subst em
    obtain ⟨v', w', h1, h2, h3, h4, h5⟩ := run_append_own_at (P := Try.prog) w base 44 ty 26 i0 _ 1 24 Try.underlying44 hi hz0 hz1 hz2 rfl (by decide) v hs.length hs hown a news.length c news (by simp) hn hone (by unfold maxLen; omega) (by omega) hb
    have hf : ∃ a' c', v' = .slice a' (hs.length + news.length) c' := by
      rcases h2.2 with ⟨e, e0⟩ | ⟨g, cap, cur, e, _⟩
      · subst e
        exact ⟨none, 0, by rw [e0]⟩
      · exact ⟨_, _, e⟩
    obtain ⟨a', c', rfl⟩ := hf
    exact ⟨a', c', w', h1, h2, h3, h5⟩
  rcases hx with ⟨a, c, rfl, rfl⟩ | ⟨b, off, cap, rfl, hbl⟩
  · cases a with
    | some a => exact key a 0 c [] rfl rfl rfl (by simp)
    | none =>
      have hf : ∃ a' c', v = .slice a' hs.length c' ∧ hs.length ≤ c' := by
        rcases hown.2 with ⟨e, e0⟩ | ⟨g, cap, cur, e, _, _, hn, _⟩
        · subst e
          exact ⟨none, 0, by rw [e0], by omega⟩
        · exact ⟨_, _, e, hn⟩
      obtain ⟨a', c', rfl, hroom⟩ := hf
      refine ⟨a', c', w, ?_, by simpa using hown, only_refl _ _, .inl rfl⟩
      have hc : ∀ W : World, (Builtin.lenOf (.slice none 0 c)).run Try.prog W = .ok 0 W := fun _ => rfl
      have hc2 : ∀ W : World, (Builtin.firstCells 1 0 (.slice none 0 c)).run Try.prog W = .ok #[] W := fun _ => rfl
      simp [Builtin.append_, run_underlying Try.underlying44, sizeOf, typeInfo, hi, hz1, hc, hc2, hroom]
      cases a' <;> rfl
  · refine key ⟨b, off, none⟩ ks.length cap ks rfl rfl rfl fun j u hu => ?_
    rw [addr_at]
    exact hbl j u hu
theorem wp_append_manyV {w : World} {o : Oper} {a : Act} {K : Act → World → Prop} {Q : Exit → Act → World → Prop} (s x : Operand)
    (ho : o.op = .call { callee := .builtin .append, args := #[s, x], argTypes := #[44, 44] })
    (base : Nat) (v : Value) (hs : List Value) (n : Nat) (hn : n = hs.length) (hsv : a.eval s = v) (hown : w.ownsRow base 26 1 v hs.length hs) (xv : Value) (ks : List Value) (m : Nat) (hm : m = ks.length) (hxv : a.eval x = xv)
    (hx : (∃ a c, xv = .slice a 0 c ∧ ks = []) ∨ ∃ b off cap, xv = .slice (some ⟨b, off, none⟩) ks.length cap ∧ ∀ j u, ks[j]? = some u → w.cell? ⟨b, off + j, none⟩ = some u) (hone : ∀ u ∈ ks, u.oneCell' = true) (hl : n + m ≤ 2200000) (hb : base ≤ w.heap.size)
    (h : ∀ (a' : Option Addr) (c' : Nat) (w' : World), w'.ownsRow base 26 1 (.slice a' (n + m) c') (n + m) (hs ++ ks) → w.grownBy w' v.ownBlock → ((Value.slice a' (n + m) c').ownBlock = v.ownBlock ∨ (Value.slice a' (n + m) c').ownBlock = some w.heap.size) → K (a.put o.dst (.slice a' (n + m) c')) w') : o.wp Try.prog a w K Q := by
  subst hn
  subst hm
  obtain ⟨a', c', w', hr, h2, h3, h4⟩ := run_append_manyV w o.type base v hs hown xv ks hx hone hl hb
  unfold Oper.wp execOp
  simp only [ho, resolve, invoke, builtin, Sem.run_bind, Sem.run_pure, Result.andThen_ok, List.map_toArray, List.map_cons, List.map_nil, hsv, hxv, hr]
  exact h a' c' w' h2 h3 h4
theorem wpList_append_manyV {w : World} {ops : Array Oper} {rest : List Oper} {o : Oper} {a : Act} {Q : Exit → Act → World → Prop} (hgd : o.guard = none) (s x : Operand)
    (ho : o.op = .call { callee := .builtin .append, args := #[s, x], argTypes := #[44, 44] })
    (base : Nat) (v : Value) (hs : List Value) (n : Nat) (hn : n = hs.length) (hsv : a.eval s = v) (hown : w.ownsRow base 26 1 v hs.length hs) (xv : Value) (ks : List Value) (m : Nat) (hm : m = ks.length) (hxv : a.eval x = xv)
    (hx : (∃ a c, xv = .slice a 0 c ∧ ks = []) ∨ ∃ b off cap, xv = .slice (some ⟨b, off, none⟩) ks.length cap ∧ ∀ j u, ks[j]? = some u → w.cell? ⟨b, off + j, none⟩ = some u) (hone : ∀ u ∈ ks, u.oneCell' = true) (hl : n + m ≤ 2200000) (hb : base ≤ w.heap.size)
    (h : ∀ (a' : Option Addr) (c' : Nat) (w' : World), w'.ownsRow base 26 1 (.slice a' (n + m) c') (n + m) (hs ++ ks) → w.grownBy w' v.ownBlock → ((Value.slice a' (n + m) c').ownBlock = v.ownBlock ∨ (Value.slice a' (n + m) c').ownBlock = some w.heap.size) → wpList Try.prog ops Q rest (a.put o.dst (.slice a' (n + m) c')) w') : wpList Try.prog ops Q (o :: rest) a w :=
  wpList_plain hgd fun _ hK => wp_append_manyV s x ho base v hs n hn hsv hown xv ks m hm hxv hx hone hl hb fun a' c' w' h1 h2 h3 => hK _ _ (h a' c' w' h1 h2 h3)
theorem step_append_manyV {w : World} {ops : Array Oper} {o : Oper} {a : Act} {K : Act → World → Prop} {Q : Exit → Act → World → Prop} {E : Prop} (hgd : o.guard = none) (s x : Operand)
    (ho : o.op = .call { callee := .builtin .append, args := #[s, x], argTypes := #[44, 44] })
    (base : Nat) (v : Value) (hs : List Value) (n : Nat) (hn : n = hs.length) (hsv : a.eval s = v) (hown : w.ownsRow base 26 1 v hs.length hs) (xv : Value) (ks : List Value) (m : Nat) (hm : m = ks.length) (hxv : a.eval x = xv)
    (hx : (∃ a c, xv = .slice a 0 c ∧ ks = []) ∨ ∃ b off cap, xv = .slice (some ⟨b, off, none⟩) ks.length cap ∧ ∀ j u, ks[j]? = some u → w.cell? ⟨b, off + j, none⟩ = some u) (hone : ∀ u ∈ ks, u.oneCell' = true) (hl : n + m ≤ 2200000) (hb : base ≤ w.heap.size)
    (h : ∀ (a' : Option Addr) (c' : Nat) (w' : World), w'.ownsRow base 26 1 (.slice a' (n + m) c') (n + m) (hs ++ ks) → w.grownBy w' v.ownBlock → ((Value.slice a' (n + m) c').ownBlock = v.ownBlock ∨ (Value.slice a' (n + m) c').ownBlock = some w.heap.size) → K (a.put o.dst (.slice a' (n + m) c')) w') :
    if Region.wanted o (yielded ops a.tmps) = true then Oper.wp Try.prog o a w K Q else E := by
  have hw : Region.wanted o (yielded ops a.tmps) = true := by simp [Region.wanted, hgd]
  rw [if_pos hw]
  exact wp_append_manyV s x ho base v hs n hn hsv hown xv ks m hm hxv hx hone hl hb h
theorem IB.src {w : World} {s : Value} {zs : List Int} (h : IB w s zs) : (∃ a c, s = .slice a 0 c ∧ zs.map (Value.int .i64) = []) ∨ ∃ b off cap, s = .slice (some ⟨b, off, none⟩) (zs.map (Value.int .i64)).length cap ∧ ∀ j u, (zs.map (Value.int .i64))[j]? = some u → w.cell? ⟨b, off + j, none⟩ = some u := by
  rcases h.2 with ⟨a, c, rfl, rfl⟩ | ⟨b, off, cap, rfl, _, hr⟩
  · exact .inl ⟨a, c, rfl, rfl⟩
  · refine .inr ⟨b, off, cap, by rw [List.length_map], fun j u hj => ?_⟩
    rw [List.getElem?_map] at hj
    have hjl : j < zs.length := by
      rcases Nat.lt_or_ge j zs.length with h1 | h1
      · exact h1
      · rw [List.getElem?_eq_none h1] at hj; cases hj
    have := hr j hjl
    rw [List.getElem?_eq_getElem hjl] at hj
    simp at hj
    rw [← hj]
    simpa [List.getElem?_eq_getElem hjl] using this
theorem OwnJ.many {w : World} {base : Nat} {u : Value} {zs : List Int} (h : OwnJ w base u zs) : w.ownsRow base 2 1 u (zs.map (Value.int .i64)).length (zs.map (Value.int .i64)) := by
  rw [List.length_map]
  exact h
theorem OwnJ.of_many {w : World} {base m : Nat} {u : Value} {zs ys : List Int} (hm : m = ys.length) (h : w.ownsRow base 2 1 u (zs.length + m) (zs.map (Value.int .i64) ++ ys.map (Value.int .i64))) : OwnJ w base u (zs ++ ys) := by
  unfold OwnJ
  rw [List.length_append, ← hm, List.map_append]
  exact h
theorem int_one (zs : List Int) : ∀ u ∈ zs.map (Value.int .i64), u.oneCell' = true := fun u hu => by
  obtain ⟨y, _, rfl⟩ := List.mem_map.1 hu
  rfl
theorem hdr_one (Rs : List RowP) : ∀ u ∈ Rs.map RowP.hdr, u.oneCell' = true := fun u hu => by
  obtain ⟨y, _, rfl⟩ := List.mem_map.1 hu
  rfl
theorem RowsM.src {w : World} {base : Nat} {u : Value} {Rs : List RowP} (h : RowsM w base u Rs) : (∃ a c, u = .slice a 0 c ∧ Rs.map RowP.hdr = []) ∨ ∃ b off cap, u = .slice (some ⟨b, off, none⟩) (Rs.map RowP.hdr).length cap ∧ ∀ j x, (Rs.map RowP.hdr)[j]? = some x → w.cell? ⟨b, off + j, none⟩ = some x := by
  rcases h.own.2 with ⟨rfl, e0⟩ | ⟨g, cap, cur, rfl, _⟩
  · exact .inl ⟨_, _, rfl, List.eq_nil_of_length_eq_zero e0⟩
  · refine .inr ⟨g, 0, cap, rfl, fun j x hj => ?_⟩
    rw [Nat.zero_add]
    exact (h.own.at_ hj).1
/-- Two lists of rows, one behind the other. -/
theorem RowsM.cat {w w' : World} {base : Nat} {u : Value} {Rs Ss : List RowP} {a' : Option Addr} {c' n m : Nat} (h : RowsM w base u Rs) (hS : ∀ x ∈ Ss, OwnAtI w x.g x.r) (hnd : (Ss.map RowP.g).Nodup) {k : Nat} (hk : base ≤ k) (hlt : ∀ x ∈ Rs, x.g < k) (hu : ∀ r, u.ownBlock = some r → r < k) (hge : ∀ x ∈ Ss, k ≤ x.g)
    (hn : n = (Rs.map RowP.hdr).length) (hm : m = (Ss.map RowP.hdr).length) (hV : w'.ownsRow base 26 1 (.slice a' (n + m) c') (n + m) (Rs.map RowP.hdr ++ Ss.map RowP.hdr)) (hg : w.grownBy w' u.ownBlock) (hG : (Value.slice a' (n + m) c').ownBlock = u.ownBlock ∨ (Value.slice a' (n + m) c').ownBlock = some w.heap.size) : RowsM w' base (.slice a' (n + m) c') (Rs ++ Ss) := by
  have hall : ∀ x ∈ Rs ++ Ss, OwnAtI w x.g x.r ∧ u.ownBlock ≠ some x.g ∧ base ≤ x.g := fun x hx => by
    rcases List.mem_append.1 hx with hx | hx
    · exact ⟨h.row x hx, h.ne x hx, h.low x hx⟩
    · exact ⟨hS x hx, fun e => by have := hu _ e; have := hge x hx; omega, by have := hge x hx; omega⟩
  refine ⟨?_, fun x hx => (hall x hx).1.kept hg (fun e => (hall x hx).2.1 e.symm), fun x hx e => ?_, ?_, fun x hx => (hall x hx).2.2⟩
  · unfold RowsV
    rw [List.map_append, List.length_append, ← hn, ← hm]
    exact hV
  · rcases hG with hG | hG
    · exact (hall x hx).2.1 (hG ▸ e)
    · have := (hall x hx).1.lt
      rw [hG] at e
      simp at e
      omega
  · rw [List.map_append, List.nodup_append]
    refine ⟨h.nd, hnd, fun p hp q hq e => ?_⟩
    obtain ⟨x, hx, rfl⟩ := List.mem_map.1 hp
    obtain ⟨y, hy, rfl⟩ := List.mem_map.1 hq
    have := hlt x hx
    have := hge y hy
    omega
theorem Index_nil (a : Option Addr) (c : Nat) (p : Int) (w : World) : Calls Try.prog 135 #[.slice a 0 c, .int .i64 p] w fun e w' => e = .returned (.int .i64 (-1)) ∧ w = w' := by
  go_enter Try.func135, Try.ntmps135
  go_wp2
  refine wp_loop_rounds 1 ?_
  rw [rounds_succ]
  go_wp2
  go_ret
  exact ⟨rfl, rfl⟩
theorem ContainsI_any (s : Value) (zs : List Int) (p : Int) (w : World) (h : IB w s zs) : Calls Try.prog 109 #[s, .int .i64 p] w (RS (.bool (inL p zs)) w) := by
  rcases h.2 with ⟨a, c, rfl, rfl⟩ | ⟨b, off, cap, rfl, _, hr⟩
  · go_enter Try.func109, Try.ntmps109
    go_wp2_with (go_at_call 135; refine (Index_nil _ _ _ _).mono ?_; rintro e w' ⟨rfl, rfl⟩)
    go_ret
    exact RS_of rfl
  · exact Contains_any b off cap zs p w hr (by have := h.1; omega)
set_option maxRecDepth 100000 in
set_option maxHeartbeats 2000000 in
theorem concatE_any (s : Value) (n : Nat) (F : Nat → List Int) (w : World) (h : SSB w s n F) (ht : tot F n ≤ 1100000) :
    Calls Try.prog 110 #[s] w (fun e w' => ∃ u, e = .returned u ∧ OwnJ w' w.heap.size u (catF n F) ∧ Below w.heap.size w w') := by
  have hn := h.1
  have hs : ∃ a c, s = .slice a n c := by
    rcases h.2 with ⟨rfl, a, c, rfl⟩ | ⟨b, off, cap, rfl, _⟩ <;> exact ⟨_, _, rfl⟩
  have HSS := Lib.hid h
  have HG := Lib.hid (growS_any (tot F n) (by omega) w)
  have HTL := Lib.hid fun k (hk : k ≤ n) => Nat.le_trans (tot_le F hk) ht
  clear h
  obtain ⟨a, c, rfl⟩ := hs
  have HROW := Lib.hid (show ∀ k, k < n → ∃ b off cap a' c', a = some ⟨b, off, none⟩ ∧ c = cap ∧ b < w.heap.size ∧ w.cell? ⟨b, off + k, none⟩ = some (.slice a' (F k).length c') ∧ IB w (.slice a' (F k).length c') (F k) from fun k hk => by
    rcases HSS.out.2 with ⟨h0, _⟩ | ⟨b, off, cap, e, hlt, hr⟩
    · omega
    · simp at e
      obtain ⟨rfl, rfl⟩ := e
      obtain ⟨a', c', hc, hi⟩ := hr k hk
      exact ⟨b, off, c, a', c', rfl, rfl, hlt, hc, hi⟩)
  go_enter Try.func110, Try.ntmps110
  go_wp2_with fail
  go_loopw [3, 11] (fun z i wr => ∃ k : Nat, k ≤ n ∧ i = .int .i64 k ∧ z = .int .i64 ((tot F k : Nat) : Int) ∧ wr = w) (fun _ i _ => n - (intOf i).toNat)
  case atStart => exact ⟨0, Nat.zero_le _, rfl, rfl, rfl⟩
  case round =>
    obtain ⟨k, hk, rfl, rfl, rfl⟩ := hrel
    by_cases hkl : k < n
    · obtain ⟨b, off, cap, a', c', rfl, rfl, hlt, q0, q1⟩ := HROW.out k hkl
      have ht1 := HTL.out (k + 1) hkl
      have ets : tot F (k + 1) = tot F k + (F k).length := rfl
      have HTS := Lib.hid ets
      rw [ets] at ht1
      obtain ⟨T, hT⟩ : ∃ T, T = tot F k := ⟨_, rfl⟩
      obtain ⟨m, hm⟩ : ∃ m, m = (F k).length := ⟨_, rfl⟩
      rw [← hT, ← hm] at ht1 HTS
      rw [← hm] at q0
      rw [← hT]
      clear q1 ets hT hm
      go_wp2
      go_roundw
      case rel => refine ⟨k + 1, by omega, by go_num, ?_, ?_⟩ <;> first | trivial | rfl | (rw [HTS.out]; go_num) | go_num | omega | (congr 1; omega)
      case measure => simp [intOf]; omega
    · have e : k = n := by omega
      subst e
      clear hkl hk
      obtain ⟨W0, rfl⟩ : ∃ W0, W0 = wr := ⟨_, rfl⟩
      go_wp2_with fail
      refine HG.out.mono ?_
      rintro e w1 ⟨u1, rfl, ho1, hb1⟩
      have hf1 : ∃ a c, u1 = .slice a 0 c := by
        rcases ho1.2 with ⟨rfl, _⟩ | ⟨g, cap, cur, rfl, _⟩ <;> exact ⟨_, _, rfl⟩
      have HO1 := Lib.hid ho1
      have HB1 := Lib.hid hb1
      clear ho1 hb1
      go_wp2_with fail
      go_loopw [6, 27] (fun o i w2 => ∃ j : Nat, j ≤ k ∧ i = .int .i64 j ∧ Below W0.heap.size W0 w2 ∧ OwnJ w2 W0.heap.size o (catF j F) ∧ ∃ a n c, o = .slice a n c) (fun _ i _ => k - (intOf i).toNat)
      case atStart =>
        obtain ⟨a1, c1, rfl⟩ := hf1
        exact ⟨0, Nat.zero_le _, rfl, HB1.out, HO1.out, _, _, _, rfl⟩
      case round =>
        obtain ⟨j, hj, rfl, hB2, hO, hform⟩ := hrel
        have hz2 := hB2.size
        by_cases hjl : j < k
        · obtain ⟨b, off, cap, a', c', rfl, rfl, hlt, q0, q1⟩ := HROW.out j hjl
          have r0 := (hB2.cell (p := ⟨b, off + j, none⟩) hlt).trans q0
          have HQ := Lib.hid (q1.below hB2 (Nat.le_refl _))
          have HCL := Lib.hid (catF_succ j F)
          have hle : (catF j F).length + (F j).length ≤ 2200000 := by
            have h1 := HTL.out (j + 1) hjl
            have h2 : tot F (j + 1) = tot F j + (F j).length := rfl
            rw [catF_tot]
            omega
          obtain ⟨m, hm⟩ : ∃ m, m = (F j).length := ⟨_, rfl⟩
          rw [← hm] at r0 hle HQ
          have HM := Lib.hid hm
          obtain ⟨a3, n3, c3, rfl⟩ := hform
          have HO := Lib.hid hO
          have HB := Lib.hid hB2
          clear q0 q1 hO hB2 hm
          go_wp2_with (at_builtin; refine wpList_append_manyJ rfl _ _ rfl W0.heap.size _ ((catF j F).map (Value.int .i64)) (catF j F).length (by simp) rfl (OwnJ.many HO.out) _ ((F j).map (Value.int .i64)) m (by simpa using HM.out) rfl (IB.src HQ.out) (int_one _) (by omega) hz2 ?_; intro g' cap' w4 hV4 hg4 _; have hO4 := OwnJ.of_many HM.out hV4)
          have hrow := HO.out.row
          go_roundw
          case rel => exact ⟨j + 1, by omega, by go_num, HB.out.grown hg4 hz2 (fun j e => hrow j e), by rw [HCL.out]; exact hO4, _, _, _, rfl⟩
          case measure => simp [intOf]; omega
        · have e : j = k := by omega
          subst e
          obtain ⟨a3, n3, c3, rfl⟩ := hform
          go_wp2
          go_ret
          exact ⟨_, rfl, hO, hB2⟩
end Go.Proofs.Ytiomdfhhejdoiaa

namespace Go.Proofs.Ytiomdfhhejdoiaa
open Go.RowKit Go.Maps
/-- The number of the first block of a kind, from k on, or -1. -/
def numGo (p : Blk → Bool) : List Blk → Nat → Int
  | [], _ => -1
  | x :: r, k => if p x then (k : Int) else numGo p r (k + 1)
theorem numGo_next {p : Blk → Bool} {bs : List Blk} {k : Nat} {x : Blk} (hk : k < bs.length) (hx : bs[k]? = some x) (h : numGo p bs 0 = numGo p (bs.drop k) k) : (p x = true → numGo p bs 0 = k) ∧ (p x = false → numGo p bs 0 = numGo p (bs.drop (k + 1)) (k + 1)) := by
  have e : bs[k] = x := by rw [List.getElem?_eq_getElem hk] at hx; simpa using hx
  rw [List.drop_eq_getElem_cons hk, e, numGo] at h
  exact ⟨fun hp => by rw [h, if_pos hp], fun hp => by rw [h, if_neg (by rw [hp]; decide)]⟩
set_option maxRecDepth 100000 in
theorem l03Number_any (v : Int) (s : Value) (bs : List Blk) (a b : Int) (w : World) (h : SB w s bs) :
    Calls Try.prog 107 #[.agg #[.int .i64 v, s], .int .i64 a, .int .i64 b] w (RV (.int .i64 (numGo (bothB a b) bs 0)) w) := by
  have hs := h.slice
  have H := Lib.hid h
  have hl := h.2.1
  clear h
  obtain ⟨a0, c0, rfl⟩ := hs
  go_enter Try.func107, Try.ntmps107
  go_wp2
  go_loopw [7] (fun i wr => ∃ k : Nat, k ≤ bs.length ∧ i = .int .i64 k ∧ Below (w.heap.size + 1) (w.alloc (.cells #[.int .i64 v, .slice a0 bs.length c0] 31)) wr ∧ Hid (numGo (bothB a b) bs 0 = numGo (bothB a b) (bs.drop k) k)) (fun i _ => bs.length - (intOf i).toNat)
  case atStart => exact ⟨0, Nat.zero_le _, rfl, Below.refl _ _, Lib.hid (by simp)⟩
  case round =>
    obtain ⟨k, hk, rfl, hB, HN⟩ := hrel
    have hz := hB.size
    simp at hz
    have p1 : wr.cell? ⟨w.heap.size, 1, none⟩ = some (.slice a0 bs.length c0) := by rw [hB.cell (by simp)]; simp
    have hBw : Below w.heap.size w wr := ((Below.refl _ _).alloc (Nat.le_refl _) _).trans (hB.mono (by omega))
    by_cases hkl : k < bs.length
    · rcases H.out.2.2 with ⟨_, _, _, hnil⟩ | ⟨bb, off, cap, hval, hblt, hbl⟩
      · rw [hnil] at hkl; simp at hkl
      · simp at hval
        obtain ⟨rfl, rfl⟩ := hval
        obtain ⟨x, hx, ex, x1, x2, x3⟩ := blks_at (hbl.below hBw hblt) hkl
        have hn := numGo_next hkl ex HN.out
        have hw1 := l01With_any x a
        have hw2 := l01With_any x b
        have hbo : bothB a b x = (hasB x a && hasB x b) := rfl
        have hbb : bb < wr.heap.size := by omega
        obtain ⟨p, q, r⟩ := x
        dsimp only at x1 x2 x3
        have g0 : (0 : Int) ≤ (k : Int) := by omega
        have g1 : (k : Int) < (bs.length : Int) := by omega
        have HNX := Lib.hid hn
        clear hbl hx ex hn
        cases h1 : hasB ⟨p, q, r⟩ a with
        | false =>
          rw [h1] at hw1 hbo
          have HW1 := Lib.hid hw1
          have HBO := Lib.hid hbo
          clear hw1 hw2 h1 hbo
          go_wp2_with (go_at_call 74; refine (HW1.out _).mono ?_; rintro e w1 ⟨rfl, hb1⟩)
          go_roundw
          case rel => exact ⟨k + 1, by omega, by go_num, hB.trans (hb1.mono (by omega)), Lib.hid (HNX.out.2 (by rw [HBO.out]; rfl))⟩
          case measure => simp [intOf]; omega
        | true =>
          rw [h1] at hw1 hbo
          have HW1 := Lib.hid hw1
          clear hw1 h1
          obtain ⟨β, hβ⟩ : ∃ β, β = hasB ⟨p, q, r⟩ b := ⟨_, rfl⟩
          rw [← hβ] at hw2 hbo
          have HW2 := Lib.hid hw2
          have HBO := Lib.hid hbo
          clear hw2 hbo hβ
          go_wp2_with fail
          refine (HW1.out _).mono ?_
          rintro e w1 ⟨rfl, hb1⟩
          have d0 := (hb1.cell (p := ⟨w.heap.size, 1, none⟩) (by show w.heap.size < _; omega)).trans p1
          have d1 := (hb1.cell (p := ⟨bb, off + k * 3, none⟩) hbb).trans x1
          have d2 := (hb1.cell (p := ⟨bb, off + k * 3 + 1, none⟩) hbb).trans x2
          have d3 := (hb1.cell (p := ⟨bb, off + k * 3 + 2, none⟩) hbb).trans x3
          have z1 := hb1.size
          clear x1 x2 x3 p1
          cases β with
          | false =>
            go_wp2_with (go_at_call 74; refine (HW2.out _).mono ?_; rintro e w2 ⟨rfl, hb2⟩)
            go_roundw
            case rel => exact ⟨k + 1, by omega, by go_num, (hB.trans (hb1.mono (by omega))).trans (hb2.mono (by omega)), Lib.hid (HNX.out.2 (by rw [HBO.out]; rfl))⟩
            case measure => simp [intOf]; omega
          | true =>
            go_wp2_with (go_at_call 74; refine (HW2.out _).mono ?_; rintro e w2 ⟨rfl, hb2⟩)
            go_ret
            exact RV_of (int_eq (by rw [HNX.out.1 (by rw [HBO.out]; rfl)])) ((hBw.trans (hb1.mono (by omega))).trans (hb2.mono (by omega)))
    · go_wp2
      go_ret
      exact RV_of (int_eq (by rw [HN.out, List.drop_eq_nil_of_le (by omega), numGo])) hBw
end Go.Proofs.Ytiomdfhhejdoiaa

namespace Go.Proofs.Ytiomdfhhejdoiaa
def bk (bs : List Blk) (i : Nat) : Blk := bs[i]?.getD default
/-- Block number i meets the given ones, each elsewhere. -/
def okGo (bs : List Blk) (i : Nat) : List Nat → List Int → Bool
  | [], _ => true
  | k :: r, met => match comP (bk bs k) (bk bs i) with
    | some a => !decide (i ≤ k) && !decide (a ∈ met) && okGo bs i r (met ++ [a])
    | none => false
def pfrom (bs : List Blk) : Nat → List Nat → List (List Nat)
  | 0, beg => [beg]
  | d + 1, beg => (List.range bs.length).flatMap fun i => if okGo bs i beg [] then pfrom bs d (beg ++ [i]) else []
def castL (x : List Nat) : List Int := x.map fun (i : Nat) => (i : Int)
/-- Four blocks, told by their numbers: each two meet, no three in one point. -/
def PQ (bs : List Blk) (x : List Nat) : Prop :=
  x.Nodup ∧ (∀ p ∈ x, p < bs.length) ∧ (∀ p ∈ x, ∀ q ∈ x, p ≠ q → ∃ t, hasB (bk bs p) t = true ∧ hasB (bk bs q) t = true) ∧
  (∀ p ∈ x, ∀ q ∈ x, ∀ r ∈ x, p ≠ q → q ≠ r → p ≠ r → ∀ t, hasB (bk bs p) t = true → hasB (bk bs q) t = true → hasB (bk bs r) t = true → False)
theorem PQ.perm {bs : List Blk} {x y : List Nat} (h : PQ bs x) (hp : y.Perm x) : PQ bs y :=
  ⟨hp.nodup_iff.2 h.1, fun p hy => h.2.1 p (hp.mem_iff.1 hy), fun p h1 q h2 => h.2.2.1 p (hp.mem_iff.1 h1) q (hp.mem_iff.1 h2),
    fun p h1 q h2 r h3 => h.2.2.2 p (hp.mem_iff.1 h1) q (hp.mem_iff.1 h2) r (hp.mem_iff.1 h3)⟩
theorem has_iff (x : Blk) (t : Int) : hasB x t = true ↔ x.a = t ∨ x.b = t ∨ x.c = t := by simp [hasB, or_assoc]
theorem comP_some {x y : Blk} {t : Int} (h : comP x y = some t) : hasB x t = true ∧ hasB y t = true := by
  unfold comP at h
  split at h
  · rename_i h1; cases h; exact ⟨by simp [hasB], h1⟩
  · split at h
    · rename_i h1; cases h; exact ⟨by simp [hasB], h1⟩
    · split at h
      · rename_i h1; cases h; exact ⟨by simp [hasB], h1⟩
      · cases h
theorem comP_of {x y : Blk} {t : Int} (h1 : hasB x t = true) (h2 : hasB y t = true) : ∃ s, comP x y = some s := by
  cases h : comP x y with
  | some s => exact ⟨s, rfl⟩
  | none =>
    unfold comP at h
    rw [has_iff] at h1
    split at h
    · cases h
    · rename_i e1
      split at h
      · cases h
      · rename_i e2
        split at h
        · cases h
        · rename_i e3
          rcases h1 with rfl | rfl | rfl
          · exact absurd h2 e1
          · exact absurd h2 e2
          · exact absurd h2 e3
/-- What is known of the blocks of a system. -/
structure SysU (v : Int) (bs : List Blk) : Prop where
  good : ∀ i, i < bs.length → goodB v (bk bs i) = true
  uni : ∀ i j, i < bs.length → j < bs.length → i ≠ j → ∀ s t, hasB (bk bs i) s = true → hasB (bk bs j) s = true → hasB (bk bs i) t = true → hasB (bk bs j) t = true → s = t
theorem prs_apart : ∀ {bs : List Blk}, (prs bs).Nodup → bs.Pairwise fun x y => ∀ p ∈ pairsL x, p ∉ pairsL y
  | [], _ => List.Pairwise.nil
  | x :: r, h => by
    simp only [prs, List.flatMap_cons] at h
    rw [List.nodup_append] at h
    refine List.Pairwise.cons (fun y hy p hp hq => ?_) (prs_apart (by simpa [prs] using h.2.1))
    exact h.2.2 p hp p (List.mem_flatMap.2 ⟨y, hy, hq⟩) rfl
set_option maxHeartbeats 2000000 in
theorem two_points {v w : Int} {x y : Blk} (hx : goodB v x = true) (hy : goodB w y = true) (h : ∀ p ∈ pairsL x, p ∉ pairsL y) {s t : Int} (h1 : hasB x s = true) (h2 : hasB y s = true) (h3 : hasB x t = true) (h4 : hasB y t = true) : s = t := by
  rw [goodB_iff] at hx hy
  rw [has_iff] at h1 h2 h3 h4
  simp only [pairsL, List.mem_cons, List.not_mem_nil, or_false, Prod.mk.injEq, not_or, not_and, forall_eq_or_imp, forall_eq] at h
  obtain ⟨⟨k1, k2, k3⟩, ⟨k4, k5, k6⟩, k7, k8, k9⟩ := h
  obtain ⟨g1, g2, g3, g4⟩ := hx
  obtain ⟨m1, m2, m3, m4⟩ := hy
  rcases h1 with rfl | rfl | rfl <;> rcases h3 with h3 | h3 | h3 <;> (try exact h3) <;> rcases h2 with h2 | h2 | h2 <;> rcases h4 with h4 | h4 | h4 <;> subst h3 <;> first | omega | exact absurd h4.symm (k1 h2.symm) | exact absurd h4.symm (k2 h2.symm) | exact absurd h4.symm (k3 h2.symm) | exact absurd h4.symm (k4 h2.symm) | exact absurd h4.symm (k5 h2.symm) | exact absurd h4.symm (k6 h2.symm) | exact absurd h4.symm (k7 h2.symm) | exact absurd h4.symm (k8 h2.symm) | exact absurd h4.symm (k9 h2.symm)
theorem bk_get {bs : List Blk} {i : Nat} (h : i < bs.length) : bk bs i = bs[i] := by simp [bk, h]
theorem sysU {v : Int} {bs : List Blk} (h : isSysImpl v bs = true) : SysU v bs := by
  obtain ⟨h3, h15, hg, hs⟩ := sys_parts h
  have hn : (prs bs).Nodup := by simpa using share_nodup h15 bs [] hg (by simp) hs
  have hp := List.pairwise_iff_getElem.1 (prs_apart hn)
  have hgd : ∀ i, i < bs.length → goodB v (bk bs i) = true := fun i hi => by rw [bk_get hi]; exact hg _ (List.getElem_mem hi)
  refine ⟨hgd, fun i j hi hj hij s t h1 h2 h3 h4 => ?_⟩
  rcases Nat.lt_or_gt_of_ne hij with hl | hl
  · exact two_points (hgd i hi) (hgd j hj) (by rw [bk_get hi, bk_get hj]; exact hp i j hi hj hl) h1 h2 h3 h4
  · exact two_points (hgd j hj) (hgd i hi) (by rw [bk_get hi, bk_get hj]; exact hp j i hj hi hl) h2 h1 h4 h3
theorem pfrom_four (bs : List Blk) (x : List Nat) : x ∈ pfrom bs 4 [] ↔ ∃ i, i < bs.length ∧ ∃ j, j < bs.length ∧ okGo bs j [i] [] = true ∧ ∃ k, k < bs.length ∧ okGo bs k [i, j] [] = true ∧ ∃ l, l < bs.length ∧ okGo bs l [i, j, k] [] = true ∧ x = [i, j, k, l] := by
  constructor
  · intro h
    obtain ⟨i, hi, h⟩ := List.mem_flatMap.1 h
    rw [if_pos (by rfl)] at h
    obtain ⟨j, hj, h⟩ := List.mem_flatMap.1 h
    split at h
    · rename_i h1
      obtain ⟨k, hk, h⟩ := List.mem_flatMap.1 h
      split at h
      · rename_i h2
        obtain ⟨l, hl, h⟩ := List.mem_flatMap.1 h
        split at h
        · rename_i h3
          exact ⟨i, List.mem_range.1 hi, j, List.mem_range.1 hj, h1, k, List.mem_range.1 hk, h2, l, List.mem_range.1 hl, h3, by simpa [pfrom] using h⟩
        · cases h
      · cases h
    · cases h
  · rintro ⟨i, hi, j, hj, h1, k, hk, h2, l, hl, h3, rfl⟩
    refine List.mem_flatMap.2 ⟨i, List.mem_range.2 hi, ?_⟩
    rw [if_pos (by rfl)]
    refine List.mem_flatMap.2 ⟨j, List.mem_range.2 hj, ?_⟩
    rw [if_pos (by exact h1)]
    refine List.mem_flatMap.2 ⟨k, List.mem_range.2 hk, ?_⟩
    rw [if_pos (by exact h2)]
    refine List.mem_flatMap.2 ⟨l, List.mem_range.2 hl, ?_⟩
    rw [if_pos (by exact h3)]
    simp [pfrom]
theorem ok1 {bs : List Blk} {i j : Nat} : okGo bs j [i] [] = true ↔ i < j ∧ ∃ a, comP (bk bs i) (bk bs j) = some a := by
  unfold okGo
  cases comP (bk bs i) (bk bs j) <;> simp [okGo]
theorem ok2 {bs : List Blk} {i j k : Nat} : okGo bs k [i, j] [] = true ↔ i < k ∧ j < k ∧ ∃ a b, comP (bk bs i) (bk bs k) = some a ∧ comP (bk bs j) (bk bs k) = some b ∧ b ≠ a := by
  unfold okGo
  cases h1 : comP (bk bs i) (bk bs k) <;> simp [okGo]
  cases h2 : comP (bk bs j) (bk bs k) <;> simp
theorem ok3 {bs : List Blk} {i j k l : Nat} : okGo bs l [i, j, k] [] = true ↔ i < l ∧ j < l ∧ k < l ∧ ∃ a b c, comP (bk bs i) (bk bs l) = some a ∧ comP (bk bs j) (bk bs l) = some b ∧ comP (bk bs k) (bk bs l) = some c ∧ b ≠ a ∧ c ≠ a ∧ c ≠ b := by
  unfold okGo
  cases h1 : comP (bk bs i) (bk bs l) <;> simp [okGo]
  cases h2 : comP (bk bs j) (bk bs l) <;> simp
  cases h3 : comP (bk bs k) (bk bs l) <;> simp
  intro _
  constructor
  · rintro ⟨⟨q2, q3⟩, q4, q5, q6⟩; exact ⟨q2, q4, q3, q5, q6⟩
  · rintro ⟨q2, q4, q3, q5, q6⟩; exact ⟨⟨q2, q3⟩, q4, q5, q6⟩
theorem pfrom_iff {v : Int} {bs : List Blk} (hU : SysU v bs) (x : List Nat) : x ∈ pfrom bs 4 [] ↔ x.length = 4 ∧ x.Pairwise (· < ·) ∧ PQ bs x := by
  rw [pfrom_four]
  constructor
  · rintro ⟨i, hi, j, hj, h1, k, hk, h2, l, hl, h3, rfl⟩
    obtain ⟨h1, a1, e1⟩ := ok1.1 h1
    obtain ⟨h2, h2', a2, b2, e2, f2, n2⟩ := ok2.1 h2
    obtain ⟨h3, h3', h3'', a3, b3, c3, e3, f3, g3, n3, m3, o3⟩ := ok3.1 h3
    obtain ⟨p1, p2⟩ := comP_some e1
    obtain ⟨p3, p4⟩ := comP_some e2
    obtain ⟨p5, p6⟩ := comP_some f2
    obtain ⟨p7, p8⟩ := comP_some e3
    obtain ⟨p9, p10⟩ := comP_some f3
    obtain ⟨p11, p12⟩ := comP_some g3
    refine ⟨rfl, by simp; omega, by simp; omega, by simp; omega, ?_, ?_⟩
    · intro p hp q hq hne
      simp only [List.mem_cons, List.not_mem_nil, or_false] at hp hq
      rcases hp with rfl | rfl | rfl | rfl <;> rcases hq with rfl | rfl | rfl | rfl <;> first | exact absurd rfl hne | exact ⟨_, p1, p2⟩ | exact ⟨_, p2, p1⟩ | exact ⟨_, p3, p4⟩ | exact ⟨_, p4, p3⟩ | exact ⟨_, p5, p6⟩ | exact ⟨_, p6, p5⟩ | exact ⟨_, p7, p8⟩ | exact ⟨_, p8, p7⟩ | exact ⟨_, p9, p10⟩ | exact ⟨_, p10, p9⟩ | exact ⟨_, p11, p12⟩ | exact ⟨_, p12, p11⟩
    · have t1 : ∀ t, hasB (bk bs i) t = true → hasB (bk bs j) t = true → hasB (bk bs k) t = true → False := fun t q1 q2 q3 => n2 ((hU.uni j k hj hk (by omega) _ _ p5 p6 q2 q3).trans (hU.uni i k hi hk (by omega) _ _ p3 p4 q1 q3).symm)
      have t2 : ∀ t, hasB (bk bs i) t = true → hasB (bk bs j) t = true → hasB (bk bs l) t = true → False := fun t q1 q2 q3 => n3 ((hU.uni j l hj hl (by omega) _ _ p9 p10 q2 q3).trans (hU.uni i l hi hl (by omega) _ _ p7 p8 q1 q3).symm)
      have t3 : ∀ t, hasB (bk bs i) t = true → hasB (bk bs k) t = true → hasB (bk bs l) t = true → False := fun t q1 q2 q3 => m3 ((hU.uni k l hk hl (by omega) _ _ p11 p12 q2 q3).trans (hU.uni i l hi hl (by omega) _ _ p7 p8 q1 q3).symm)
      have t4 : ∀ t, hasB (bk bs j) t = true → hasB (bk bs k) t = true → hasB (bk bs l) t = true → False := fun t q1 q2 q3 => o3 ((hU.uni k l hk hl (by omega) _ _ p11 p12 q2 q3).trans (hU.uni j l hj hl (by omega) _ _ p9 p10 q1 q3).symm)
      intro p hp q hq r hr n1 n2 n3 t q1 q2 q3
      simp only [List.mem_cons, List.not_mem_nil, or_false] at hp hq hr
      rcases hp with rfl | rfl | rfl | rfl <;> rcases hq with rfl | rfl | rfl | rfl <;> first | exact absurd rfl n1 | (rcases hr with rfl | rfl | rfl | rfl <;> first | exact absurd rfl n2 | exact absurd rfl n3 | (first | exact t1 t (by assumption) (by assumption) (by assumption) | exact t2 t (by assumption) (by assumption) (by assumption) | exact t3 t (by assumption) (by assumption) (by assumption) | exact t4 t (by assumption) (by assumption) (by assumption)))
  · rintro ⟨hl4, hp, hnd, hlt, hm, h3⟩
    match x, hl4 with
    | [i, j, k, l], _ =>
      simp only [List.pairwise_cons, List.mem_cons, List.not_mem_nil, or_false, forall_eq_or_imp, forall_eq, List.Pairwise.nil, and_true, false_implies, implies_true] at hp
      obtain ⟨⟨q1, q2, q3⟩, ⟨q4, q5⟩, q6⟩ := hp
      have hi := hlt i (by simp)
      have hj := hlt j (by simp)
      have hk := hlt k (by simp)
      have hl := hlt l (by simp)
      have com : ∀ p ∈ [i, j, k, l], ∀ q ∈ [i, j, k, l], p ≠ q → ∃ s, comP (bk bs p) (bk bs q) = some s := fun p hp q hq hne => by
        obtain ⟨t, h1, h2⟩ := hm p hp q hq hne
        exact comP_of h1 h2
      obtain ⟨a1, e1⟩ := com i (by simp) j (by simp) (by omega)
      obtain ⟨a2, e2⟩ := com i (by simp) k (by simp) (by omega)
      obtain ⟨a3, e3⟩ := com j (by simp) k (by simp) (by omega)
      obtain ⟨a4, e4⟩ := com i (by simp) l (by simp) (by omega)
      obtain ⟨a5, e5⟩ := com j (by simp) l (by simp) (by omega)
      obtain ⟨a6, e6⟩ := com k (by simp) l (by simp) (by omega)
      refine ⟨i, hi, j, hj, ok1.2 ⟨q1, a1, e1⟩, k, hk, ok2.2 ⟨q2, q4, a2, a3, e2, e3, ?_⟩, l, hl, ok3.2 ⟨q3, q5, q6, a4, a5, a6, e4, e5, e6, ?_, ?_, ?_⟩, rfl⟩
      · intro e
        subst e
        exact h3 i (by simp) j (by simp) k (by simp) (by omega) (by omega) (by omega) _ (comP_some e2).1 (comP_some e3).1 (comP_some e2).2
      · intro e
        subst e
        exact h3 i (by simp) j (by simp) l (by simp) (by omega) (by omega) (by omega) _ (comP_some e4).1 (comP_some e5).1 (comP_some e4).2
      · intro e
        subst e
        exact h3 i (by simp) k (by simp) l (by simp) (by omega) (by omega) (by omega) _ (comP_some e4).1 (comP_some e6).1 (comP_some e4).2
      · intro e
        subst e
        exact h3 j (by simp) k (by simp) l (by simp) (by omega) (by omega) (by omega) _ (comP_some e5).1 (comP_some e6).1 (comP_some e5).2
theorem lexL_left : ∀ (p a b : List Int), lexL (p ++ a) (p ++ b) = lexL a b
  | [], _, _ => rfl
  | x :: p, a, b => by simp [lexL, lexL_left p a b]
theorem pfrom_pre (bs : List Blk) : ∀ d beg x, x ∈ pfrom bs d beg → ∃ s, x = beg ++ s
  | 0, beg, x, h => ⟨[], by simpa [pfrom] using h⟩
  | d + 1, beg, x, h => by
    obtain ⟨i, _, h⟩ := List.mem_flatMap.1 h
    split at h
    · obtain ⟨s, rfl⟩ := pfrom_pre bs d _ x h
      exact ⟨i :: s, by simp⟩
    · cases h
theorem pfrom_asc (bs : List Blk) : ∀ d beg, ((pfrom bs d beg).map castL).Pairwise fun a b => lexL a b = true
  | 0, _ => by simp [pfrom]
  | d + 1, beg => by
    rw [List.pairwise_map]
    unfold pfrom
    rw [List.pairwise_flatMap]
    refine ⟨fun i _ => ?_, ?_⟩
    · split
      · exact List.pairwise_map.1 (pfrom_asc bs d _)
      · exact List.Pairwise.nil
    · refine List.Pairwise.imp (fun {i j} hij x hx y hy => ?_) List.pairwise_lt_range
      split at hx
      · split at hy
        · obtain ⟨s, rfl⟩ := pfrom_pre bs d _ x hx
          obtain ⟨t, rfl⟩ := pfrom_pre bs d _ y hy
          simp only [castL, List.append_assoc, List.map_append, lexL_left, List.map_cons, List.map_nil, List.cons_append, List.nil_append]
          unfold lexL
          rw [if_neg (by omega)]
          simp; omega
        · cases hy
      · cases hx
end Go.Proofs.Ytiomdfhhejdoiaa

namespace Go.Proofs.Ytiomdfhhejdoiaa
open Go.RowKit Go.Maps Go.Shelf
/-- The Pasch that begin with the given blocks and one of the first i. -/
def pfTo (bs : List Blk) (d : Nat) (beg : List Nat) (i : Nat) : List (List Nat) := (List.range i).flatMap fun i => if okGo bs i beg [] then pfrom bs d (beg ++ [i]) else []
theorem pfTo_succ (bs : List Blk) (d : Nat) (beg : List Nat) (i : Nat) : pfTo bs d beg (i + 1) = pfTo bs d beg i ++ if okGo bs i beg [] then pfrom bs d (beg ++ [i]) else [] := by simp [pfTo, List.range_succ]
theorem pfTo_end (bs : List Blk) (d : Nat) (beg : List Nat) : pfTo bs d beg bs.length = pfrom bs (d + 1) beg := rfl
theorem flatm_le {α β : Type} (f : α → List β) (c : Nat) : ∀ l : List α, (∀ x ∈ l, (f x).length ≤ c) → (l.flatMap f).length ≤ l.length * c
  | [], _ => by simp
  | x :: r, h => by
    rw [List.flatMap_cons, List.length_append, List.length_cons, Nat.succ_mul]
    have := h x (by simp)
    have := flatm_le f c r (fun y hy => h y (by simp [hy]))
    omega
theorem pfrom_len (bs : List Blk) : ∀ d beg, (pfrom bs d beg).length ≤ bs.length ^ d
  | 0, beg => by simp [pfrom]
  | d + 1, beg => by
    unfold pfrom
    refine Nat.le_trans (flatm_le _ (bs.length ^ d) _ fun i _ => ?_) ?_
    · split
      · exact pfrom_len bs d _
      · simp
    · rw [List.length_range, Nat.pow_succ, Nat.mul_comm]
      exact Nat.le_refl _
theorem pfTo_len (bs : List Blk) (hb : bs.length ≤ 35) {d : Nat} (hd : d ≤ 3) (beg : List Nat) {i : Nat} (hi : i ≤ bs.length) : (pfTo bs d beg i).length ≤ 1500625 := by
  refine Nat.le_trans (flatm_le _ (bs.length ^ d) _ fun i _ => ?_) ?_
  · split
    · exact pfrom_len bs d _
    · simp
  · rw [List.length_range]
    have h1 : bs.length ^ d ≤ 35 ^ d := Nat.pow_le_pow_left hb d
    have h2 : 35 ^ d ≤ 35 ^ 3 := Nat.pow_le_pow_right (by omega) hd
    have h3 : i * bs.length ^ d ≤ 35 * 35 ^ 3 := Nat.mul_le_mul (by omega) (by omega)
    exact h3
theorem pfrom_len3 (bs : List Blk) (hb : bs.length ≤ 35) {d : Nat} (hd : d ≤ 3) (beg : List Nat) : (pfrom bs d beg).length ≤ 42875 := by
  have h0 := pfrom_len bs d beg
  have h1 : bs.length ^ d ≤ 35 ^ d := Nat.pow_le_pow_left hb d
  have h2 : 35 ^ d ≤ 35 ^ 3 := Nat.pow_le_pow_right (by omega) hd
  have h3 : 35 ^ 3 = 42875 := by decide
  omega
theorem castL_len (x : List Nat) : (castL x).length = x.length := by simp [castL]
theorem castL_snoc (x : List Nat) (k : Nat) : castL (x ++ [k]) = castL x ++ [(k : Int)] := by simp [castL]
theorem inL_memB (p : Int) (zs : List Int) : inL p zs = decide (p ∈ zs) := by
  unfold inL
  rw [Bool.eq_iff_iff]
  simp
def BegI (w : World) (lo : Nat) (s : Value) (beg : List Nat) (d : Nat) : Prop :=
  IB w s (castL beg) ∧ (d = 0 → ∃ g c, s = .slice (some ⟨g, 0, none⟩) (castL beg).length c ∧ lo ≤ g ∧ OwnAtI w g (castL beg))
def PFQ (bs : List Blk) (d : Nat) (beg : List Nat) (lo : Nat) (w : World) (e : Ending) (w' : World) : Prop :=
  ∃ u Rs, e = .returned u ∧ RowsM w' lo u Rs ∧ rowsP Rs = (pfrom bs d beg).map castL ∧ Below w.heap.size w w'
theorem IB.form {w : World} {s : Value} {zs : List Int} (h : IB w s zs) : ∃ a c, s = .slice a zs.length c := by
  rcases h.2 with ⟨a, c, rfl, rfl⟩ | ⟨b, off, cap, rfl, _⟩ <;> exact ⟨_, _, rfl⟩
theorem RowsM.one (W : World) {lo g c m : Nat} {zs : List Int} (hm : m = zs.length) (h : OwnAtI W g zs) (hlo : lo ≤ g) : RowsM (W.alloc (.cells #[.slice (some ⟨g, 0, none⟩) m c] 26)) lo (.slice (some ⟨W.heap.size, 0, none⟩) 1 1) [⟨g, c, zs⟩] := by
  have hl := h.lt
  have hml : 1 ≤ maxLen := by decide
  subst hm
  refine ⟨?_, fun x hx => ?_, fun x hx => ?_, by simp, fun x hx => ?_⟩
  · refine ⟨by simp, .inr ⟨W.heap.size, 1, #[.slice (some ⟨g, 0, none⟩) zs.length c], by simp, by omega, World.alloc_heap_new W _, by simp, hml, by simp, by simp [RowP.hdr]⟩⟩
  · rw [List.mem_singleton.1 hx]
    exact h.kept (World.grownBy_alloc _ _ none) (by simp)
  · rw [List.mem_singleton.1 hx]
    simp [Value.ownBlock]
    omega
  · rw [List.mem_singleton.1 hx]
    exact hlo
set_option maxRecDepth 100000 in
theorem paschFrom_zero (v : Int) (s : Value) (bs : List Blk) (beg : List Nat) (sb : Value) (lo : Nat) (w : World) (hs : ∃ a n c, s = .slice a n c) (hl : beg.length = 4) (hB : BegI w lo sb beg 0) (_hlo : lo ≤ w.heap.size) :
    Calls Try.prog 73 #[.agg #[.int .i64 v, s], sb] w (PFQ bs 0 beg lo w) := by
  obtain ⟨g, c, rfl, hg, ho⟩ := hB.2 rfl
  have hl4 : (castL beg).length = 4 := by rw [castL_len, hl]
  have HO := Lib.hid ho
  have HL := Lib.hid hl4
  rw [hl4]
  obtain ⟨a0, n0, c0, rfl⟩ := hs
  clear hB ho hl hl4
  go_enter Try.func73, Try.ntmps73
  go_wp2
  go_step3
  go_wp2
  try rw [Exit.noGoto_ret]
  go_ret
  have h1 : OwnAtI (w.alloc (.cells #[.int .i64 v, .slice a0 n0 c0] 31)) g (castL beg) := HO.out.kept (World.grownBy_alloc _ _ none) (by simp)
  have h2 := RowsM.one (w.alloc (.cells #[.int .i64 v, .slice a0 n0 c0] 31)) (c := c) HL.out.symm h1 hg
  rw [World.size_alloc] at h2
  exact ⟨_, _, rfl, h2, by simp [rowsP, pfrom], ((Below.refl _ _).alloc (Nat.le_refl _) _).alloc (by simp) _⟩
end Go.Proofs.Ytiomdfhhejdoiaa

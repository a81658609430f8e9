
/- append of many blocks to a list of the call's own. Worlds that grow behind a draw. What a law over two systems knows of the memory between two of its steps. Systems in memory whose capacity holds them. The model's TakeBlock. impl.cycleFrom. What a law over one system whose result is a list of integers knows of the memory between two of its steps. The memory of a law between two of its steps: items, each in blocks of its own, the newest first. -/
import Derived.Test.YtiomdfhhejdoiaaJ6
import Derived.Deep.RegionLaw
import Derived.Deep.AppendLies
import Derived.Deep.RegionHeld3
import Derived.IntWalk
import Derived.WalkMore
import Derived.ScopeJumps
namespace Go.Proofs.Ytiomdfhhejdoiaa
open Go.RowKit Go.Maps
/-- The value is a slice of just these blocks; of the numbers nothing is said. -/
def SX (w : World) (s : Value) (bs : List Blk) : Prop := (∃ a c, s = .slice a 0 c ∧ bs = []) ∨ ∃ b off cap, s = .slice (some ⟨b, off, none⟩) bs.length cap ∧ b < w.heap.size ∧ Blks w b off bs
theorem SB.sx {w : World} {s : Value} {bs : List Blk} (h : SB w s bs) : SX w s bs := h.2.2
theorem SX.below {w w' : World} {s : Value} {bs : List Blk} (h : SX w s bs) {B : Nat} (hb : Below B w w') (hB : w.heap.size ≤ B) : SX w' s bs := by
  rcases h with h3 | ⟨b, off, cap, rfl, hl, hr⟩
  · exact .inl h3
  · exact .inr ⟨b, off, cap, rfl, by have := hb.size; omega, hr.below hb (by omega)⟩
theorem OwnR.sx {w : World} {base : Nat} {s : Value} {bs : List Blk} (h : OwnR w base s bs) : SX w s bs := by
  rcases h.res with ⟨rfl, a, c, rfl⟩ | ⟨g, cap, rfl, _, _, ho⟩
  · exact .inl ⟨a, c, rfl, rfl⟩
  · exact .inr ⟨g, 0, cap, rfl, ho.lt, ho.at_⟩
theorem OwnR.form {w : World} {base : Nat} {s : Value} {bs : List Blk} (h : OwnR w base s bs) : ∃ a c, s = .slice a bs.length c := by
  rcases h.res with ⟨rfl, a, c, rfl⟩ | ⟨g, cap, rfl, _⟩ <;> exact ⟨_, _, rfl⟩
theorem blks_flat {w : World} {b off : Nat} {bs : List Blk} (h : Blks w b off bs) (j : Nat) (u : Value) (hu : (bs.flatMap cells3)[j]? = some u) : w.cell? ⟨b, off + j, none⟩ = some u := by
  have hj : j < bs.length * 3 := by
    rw [← flat_length]
    exact (List.getElem?_eq_some_iff.1 hu).1
  obtain ⟨h0, h1, h2⟩ := h (j / 3) (by omega)
  obtain ⟨f0, f1, f2⟩ := flat_at bs (j / 3) (by omega)
  have hm : j % 3 = 0 ∨ j % 3 = 1 ∨ j % 3 = 2 := by omega
  rcases hm with hm | hm | hm
  · rw [show j / 3 * 3 = j by omega] at f0
    rw [show off + j / 3 * 3 = off + j by omega] at h0
    rw [h0, ← hu, f0]
  · rw [show j / 3 * 3 + 1 = j by omega] at f1
    rw [show off + j / 3 * 3 + 1 = off + j by omega] at h1
    rw [h1, ← hu, f1]
  · rw [show j / 3 * 3 + 2 = j by omega] at f2
    rw [show off + j / 3 * 3 + 2 = off + j by omega] at h2
    rw [h2, ← hu, f2]
theorem flat_one (bs : List Blk) : ∀ u ∈ bs.flatMap cells3, u.oneCell' = true := by
  intro u hu
  obtain ⟨x, _, hx⟩ := List.mem_flatMap.1 hu
  simp [cells3] at hx
  rcases hx with rfl | rfl | rfl <;> rfl
theorem run_append_many (w : World) (ty : TypeId) (base : Nat) (v : Value) (bs : List Blk) (hown : OwnR w base v bs) (x : Value) (cs : List Blk) (hx : SX w x cs) (hl : bs.length + cs.length ≤ 2200000) (hb : base ≤ w.heap.size) :
    ∃ v' w', (Builtin.append_ #[29, 29] ty #[v, x]).run Try.prog w = .ok v' w' ∧ OwnR w' base v' (bs ++ cs) ∧ w.grownBy w' v.ownBlock := by
  obtain ⟨i0, hi, hz0, hz1, hz2⟩ := info_parts infoBlock
  have key : ∀ (a : Addr) (m c : Nat) (news : List Value), x = .slice (some a) m c → m = cs.length → news = cs.flatMap cells3 → (∀ j u, news[j]? = some u → w.cell? (a.add j) = some u) →
      ∃ v' w', (Builtin.append_ #[29, 29] ty #[v, x]).run Try.prog w = .ok v' w' ∧ OwnR w' base v' (bs ++ cs) ∧ w.grownBy w' v.ownBlock := by
    intro a m c news ex em en hn
    subst ex
    subst en
    subst em
    obtain ⟨v', w', h1, h2, h3, _⟩ := run_append_own_at (P := Try.prog) w base 29 ty 68 i0 _ 3 24 Try.underlying29 hi hz0 hz1 hz2 rfl (by decide) v bs.length (bs.flatMap cells3) hown a cs.length c (cs.flatMap cells3) (flat_length cs) hn (flat_one cs) (by unfold maxLen; omega) (by omega) hb
    exact ⟨v', w', h1, by unfold OwnR; rw [List.length_append, List.flatMap_append]; exact h2, h3⟩
  rcases hx with ⟨a, c, rfl, rfl⟩ | ⟨b, off, cap, rfl, _, hbl⟩
  · cases a with
    | some a => exact key a 0 c [] rfl rfl rfl (by simp)
    | none =>
      refine ⟨v, w, ?_, by rw [List.append_nil]; exact hown, only_refl _ _⟩
      obtain ⟨a, c', rfl⟩ := hown.form
      have hroom : bs.length ≤ c' := by
        rcases hown.2 with ⟨h, h0⟩ | ⟨g, cap, cur, h, _, _, hn, _⟩
        · rw [h0]; exact Nat.zero_le _
        · simp at h; omega
      have hc : ∀ W : World, (Builtin.lenOf (.slice none 0 c)).run Try.prog W = .ok 0 W := fun _ => rfl
      have hc2 : ∀ W : World, (Builtin.firstCells 3 0 (.slice none 0 c)).run Try.prog W = .ok #[] W := fun _ => rfl
      simp [Builtin.append_, run_underlying Try.underlying29, sizeOf, typeInfo, hi, hz1, hc, hc2, hroom]
      cases a <;> rfl
  · refine key ⟨b, off, none⟩ cs.length cap (cs.flatMap cells3) rfl rfl rfl fun j u hu => ?_
    rw [addr_at]
    exact blks_flat hbl j u hu
theorem wp_append_many {w : World} {o : Oper} {a : Act} {K : Act → World → Prop} {Q : Exit → Act → World → Prop} (s x : Operand)
    (ho : o.op = .call { callee := .builtin .append, args := #[s, x], argTypes := #[29, 29] })
    (base : Nat) (v : Value) (bs : List Blk) (hs : a.eval s = v) (hown : OwnR w base v bs) (xv : Value) (cs : List Blk) (hxv : a.eval x = xv) (hx : SX w xv cs) (hl : bs.length + cs.length ≤ 2200000) (hb : base ≤ w.heap.size)
    (h : ∀ (a' : Option Addr) (c' : Nat) (w' : World), OwnR w' base (.slice a' (bs.length + cs.length) c') (bs ++ cs) → w.grownBy w' v.ownBlock → K (a.put o.dst (.slice a' (bs.length + cs.length) c')) w') : o.wp Try.prog a w K Q := by
  obtain ⟨v', w', hr, h2, h3⟩ := run_append_many w o.type base v bs hown xv cs hx hl hb
  obtain ⟨a', c', hv⟩ := h2.form
  rw [List.length_append] at hv
  subst hv
  unfold Oper.wp execOp
  simp only [ho, resolve, invoke, builtin, Sem.run_bind, Sem.run_pure, Result.andThen_ok, List.map_toArray, List.map_cons, List.map_nil, hs, hxv, hr]
  exact h a' c' w' h2 h3
theorem wpList_append_many {w : World} {ops : Array Oper} {rest : List Oper} {o : Oper} {a : Act} {Q : Exit → Act → World → Prop} (hgd : o.guard = none) (s x : Operand)
    (ho : o.op = .call { callee := .builtin .append, args := #[s, x], argTypes := #[29, 29] })
    (base : Nat) (v : Value) (bs : List Blk) (hs : a.eval s = v) (hown : OwnR w base v bs) (xv : Value) (cs : List Blk) (hxv : a.eval x = xv) (hx : SX w xv cs) (hl : bs.length + cs.length ≤ 2200000) (hb : base ≤ w.heap.size)
    (h : ∀ (a' : Option Addr) (c' : Nat) (w' : World), OwnR w' base (.slice a' (bs.length + cs.length) c') (bs ++ cs) → w.grownBy w' v.ownBlock → wpList Try.prog ops Q rest (a.put o.dst (.slice a' (bs.length + cs.length) c')) w') : wpList Try.prog ops Q (o :: rest) a w :=
  wpList_plain hgd fun _ hK => wp_append_many s x ho base v bs hs hown xv cs hxv hx hl hb fun a' c' w' h1 h2 => hK _ _ (h a' c' w' h1 h2)
theorem step_append_many {w : World} {ops : Array Oper} {o : Oper} {a : Act} {K : Act → World → Prop} {Q : Exit → Act → World → Prop} {E : Prop} (hgd : o.guard = none) (s x : Operand)
    (ho : o.op = .call { callee := .builtin .append, args := #[s, x], argTypes := #[29, 29] })
    (base : Nat) (v : Value) (bs : List Blk) (hs : a.eval s = v) (hown : OwnR w base v bs) (xv : Value) (cs : List Blk) (hxv : a.eval x = xv) (hx : SX w xv cs) (hl : bs.length + cs.length ≤ 2200000) (hb : base ≤ w.heap.size)
    (h : ∀ (a' : Option Addr) (c' : Nat) (w' : World), OwnR w' base (.slice a' (bs.length + cs.length) c') (bs ++ cs) → w.grownBy w' v.ownBlock → K (a.put o.dst (.slice a' (bs.length + cs.length) c')) w') :
    if Region.wanted o (yielded ops a.tmps) = true then Oper.wp Try.prog o a w K Q else E := by
  have hw : Region.wanted o (yielded ops a.tmps) = true := by simp [Region.wanted, hgd]
  rw [if_pos hw]
  exact wp_append_many s x ho base v bs hs hown xv cs hxv hx hl hb h
end Go.Proofs.Ytiomdfhhejdoiaa

namespace Go.Proofs.Ytiomdfhhejdoiaa
theorem gb_drewL {w w' : World} {row : Option Nat} (h : w.drew.grownBy w' row) : w.grownBy w' row := ⟨h.os, h.tape, h.output, h.size, h.block⟩
end Go.Proofs.Ytiomdfhhejdoiaa

namespace Go.Proofs.Ytiomdfhhejdoiaa
open Go.RowKit Go.Maps
/-- The two boxes of the arguments; what was there before the call is as it was. -/
structure St2 (w : World) (v u : Int) (s t : Value) (W : World) : Prop where
  below : Below w.heap.size w W
  big : w.heap.size + 1 < W.heap.size
  x0 : W.cell? ⟨w.heap.size, 0, none⟩ = some (.int .i64 v)
  x1 : W.cell? ⟨w.heap.size, 1, none⟩ = some s
  y0 : W.cell? ⟨w.heap.size + 1, 0, none⟩ = some (.int .i64 u)
  y1 : W.cell? ⟨w.heap.size + 1, 1, none⟩ = some t
theorem St2.step {w : World} {v u : Int} {s t : Value} {W W' : World} {row : Option Nat} (h : St2 w v u s t W) (hg : W.grownBy W' row) (hr : ∀ r, row = some r → w.heap.size + 1 < r) : St2 w v u s t W' :=
  ⟨h.below.grown hg h.below.size (fun r e => by have := hr r e; omega), Nat.lt_of_lt_of_le h.big hg.size,
    hg.cell h.x0 (fun e => by have := hr _ e.symm; simp at this; omega), hg.cell h.x1 (fun e => by have := hr _ e.symm; simp at this; omega),
    hg.cell h.y0 (fun e => by have := hr _ e.symm; simp at this), hg.cell h.y1 (fun e => by have := hr _ e.symm; simp at this)⟩
theorem St2.start (w : World) (v u : Int) (s t : Value) : St2 w v u s t ((w.alloc (.cells #[.int .i64 v, s] 24)).alloc (.cells #[.int .i64 u, t] 24)) :=
  ⟨((Below.refl _ _).alloc (Nat.le_refl _) _).alloc (by simp) _, by simp, by simp [go_sem], by simp [go_sem], by simp [go_sem], by simp [go_sem]⟩
/-- A variable that holds a system. -/
structure VarB (W : World) (X : Nat) (v : Int) (s : Value) : Prop where
  lt : X < W.heap.size
  c0 : W.cell? ⟨X, 0, none⟩ = some (.int .i64 v)
  c1 : W.cell? ⟨X, 1, none⟩ = some s
theorem VarB.step {W W' : World} {X : Nat} {v : Int} {s : Value} {row : Option Nat} (h : VarB W X v s) (hg : W.grownBy W' row) (hr : row ≠ some X) : VarB W' X v s :=
  ⟨Nat.lt_of_lt_of_le h.lt hg.size, hg.cell h.c0 (fun e => hr e.symm), hg.cell h.c1 (fun e => hr e.symm)⟩
theorem VarB.new (W : World) (v : Int) (s : Value) (T : TypeId) : VarB (W.alloc (.cells #[.int .i64 v, s] T)) W.heap.size v s := ⟨by simp, by simp, by simp⟩

/-- The state of a law whose results are lists of blocks: the model's result (from i0 on, before i1), the two copies and their variables, the program's result. -/
structure CB (w : World) (v u : Int) (s t sW s8 s9 sG : Value) (X Y i0 i1 i2 i3 i4 i5 i6 : Nat) (LW L8 L9 LG : List Blk) (W : World) : Prop where
  st : St2 w v u s t W
  o0 : w.heap.size + 1 < i0
  o1 : i0 ≤ i1
  o2 : i1 ≤ i2
  oX : i2 ≤ X
  oX' : X < i3
  o4 : i3 ≤ i4
  oY : i4 ≤ Y
  oY' : Y < i5
  o6 : i5 ≤ i6
  rW : ResR W i0 i1 sW LW
  r8 : ResR W i1 i2 s8 L8
  vX : VarB W X v s8
  r9 : ResR W i3 i4 s9 L9
  vY : VarB W Y u s9
  rG : ResR W i5 i6 sG LG
section
variable {w : World} {v u : Int} {s t sW s8 s9 sG : Value} {X Y i0 i1 i2 i3 i4 i5 i6 : Nat} {LW L8 L9 LG : List Blk} {W W' : World}
theorem CB.step (h : CB w v u s t sW s8 s9 sG X Y i0 i1 i2 i3 i4 i5 i6 LW L8 L9 LG W) (hg : W.grownBy W' none) : CB w v u s t sW s8 s9 sG X Y i0 i1 i2 i3 i4 i5 i6 LW L8 L9 LG W' :=
  ⟨h.st.step hg (by simp), h.o0, h.o1, h.o2, h.oX, h.oX', h.o4, h.oY, h.oY', h.o6, h.rW.kept hg (by simp), h.r8.kept hg (by simp), h.vX.step hg (by simp), h.r9.kept hg (by simp), h.vY.step hg (by simp), h.rG.kept hg (by simp)⟩
theorem CB.mark8 (h : CB w v u s t sW s8 s9 sG X Y i0 i1 i2 i3 i4 i5 i6 LW L8 L9 LG W) {row : Option Nat} (hg : W.grownBy W' row) (hr : ∀ r, row = some r → i1 ≤ r ∧ r < i2) {L : List Blk} (hn : ResR W' i1 i2 s8 L) :
    CB w v u s t sW s8 s9 sG X Y i0 i1 i2 i3 i4 i5 i6 LW L L9 LG W' := by
  obtain ⟨st, o0, o1, o2, oX, oX', o4, oY, oY', o6, rW, r8, vX, r9, vY, rG⟩ := h
  exact ⟨st.step hg (fun r e => by have := hr r e; omega), o0, o1, o2, oX, oX', o4, oY, oY', o6, rW.kept hg (fun r e => by have := hr r e; omega), hn, vX.step hg (fun e => by have := hr _ e; omega), r9.kept hg (fun r e => by have := hr r e; omega), vY.step hg (fun e => by have := hr _ e; omega), rG.kept hg (fun r e => by have := hr r e; omega)⟩
theorem CB.mark9 (h : CB w v u s t sW s8 s9 sG X Y i0 i1 i2 i3 i4 i5 i6 LW L8 L9 LG W) {row : Option Nat} (hg : W.grownBy W' row) (hr : ∀ r, row = some r → i3 ≤ r ∧ r < i4) {L : List Blk} (hn : ResR W' i3 i4 s9 L) :
    CB w v u s t sW s8 s9 sG X Y i0 i1 i2 i3 i4 i5 i6 LW L8 L LG W' := by
  obtain ⟨st, o0, o1, o2, oX, oX', o4, oY, oY', o6, rW, r8, vX, r9, vY, rG⟩ := h
  exact ⟨st.step hg (fun r e => by have := hr r e; omega), o0, o1, o2, oX, oX', o4, oY, oY', o6, rW.kept hg (fun r e => by have := hr r e; omega), r8.kept hg (fun r e => by have := hr r e; omega), vX.step hg (fun e => by have := hr _ e; omega), hn, vY.step hg (fun e => by have := hr _ e; omega), rG.kept hg (fun r e => by have := hr r e; omega)⟩
theorem CB.markG (h : CB w v u s t sW s8 s9 sG X Y i0 i1 i2 i3 i4 i5 i6 LW L8 L9 LG W) {row : Option Nat} (hg : W.grownBy W' row) (hr : ∀ r, row = some r → i5 ≤ r ∧ r < i6) {L : List Blk} (hn : ResR W' i5 i6 sG L) :
    CB w v u s t sW s8 s9 sG X Y i0 i1 i2 i3 i4 i5 i6 LW L8 L9 L W' := by
  obtain ⟨st, o0, o1, o2, oX, oX', o4, oY, oY', o6, rW, r8, vX, r9, vY, rG⟩ := h
  exact ⟨st.step hg (fun r e => by have := hr r e; omega), o0, o1, o2, oX, oX', o4, oY, oY', o6, rW.kept hg (fun r e => by have := hr r e; omega), r8.kept hg (fun r e => by have := hr r e; omega), vX.step hg (fun e => by have := hr _ e; omega), r9.kept hg (fun r e => by have := hr r e; omega), vY.step hg (fun e => by have := hr _ e; omega), hn⟩
end
end Go.Proofs.Ytiomdfhhejdoiaa

namespace Go.Proofs.Ytiomdfhhejdoiaa
open Go.RowKit Go.Maps
def SC (w : World) (s : Value) (bs : List Blk) : Prop := SB w s bs ∧ ∀ a n c, s = .slice a n c → n ≤ c
theorem SC.below {w w' : World} {s : Value} {bs : List Blk} (h : SC w s bs) {B : Nat} (hb : Below B w w') (hB : w.heap.size ≤ B) : SC w' s bs := ⟨h.1.below hb hB, h.2⟩
theorem OwnB.sc {w : World} {lo : Nat} {s : Value} {bs : List Blk} (h : OwnB w lo s bs) (hwf : ∀ x ∈ bs, WFB x) (hl : bs.length ≤ 1100000) : SC w s bs := by
  refine ⟨h.sb hwf hl, fun a n c e => ?_⟩
  obtain ⟨g, cap, rfl, _, _, _, _, hc⟩ := h
  cases e
  exact hc
theorem l01In_out (n lo hi : Int) (W : World) (β : Bool) (hβ : (decide (lo ≤ n) && decide (n ≤ hi)) = β) : Calls Try.prog 79 #[.int .i64 n, .int .i64 lo, .int .i64 hi] W (RS (.bool β) W) := by
  rw [← hβ]
  exact l01In_any n lo hi W
end Go.Proofs.Ytiomdfhhejdoiaa

namespace Go.Proofs.Ytiomdfhhejdoiaa
open Go.RowKit Go.Maps
theorem Blks.take {w : World} {b off : Nat} {bs : List Blk} (h : Blks w b off bs) (j : Nat) : Blks w b off (bs.take j) := fun k hk => by
  rw [List.length_take] at hk
  have := h k (by omega)
  rwa [List.getElem?_take_of_lt (by omega)]
theorem Blks.drop {w : World} {b off : Nat} {bs : List Blk} (h : Blks w b off bs) (j : Nat) : Blks w b (off + j * 3) (bs.drop j) := fun k hk => by
  rw [List.length_drop] at hk
  have := h (j + k) (by omega)
  rw [List.getElem?_drop, show off + j * 3 + k * 3 = off + (j + k) * 3 by omega]
  exact this
theorem lit_own (W : World) : OwnR (W.alloc (.cells #[] 68)) W.heap.size (.slice (some ⟨W.heap.size, 0, none⟩) 0 0) [] :=
  ⟨rfl, .inr ⟨W.heap.size, 0, #[], rfl, Nat.le_refl _, (MapKept.heap_alloc W (.cells #[] 68)).1, Nat.le_refl _, by unfold maxLen; omega, rfl, rfl⟩⟩
theorem OwnR.drew {w : World} {base : Nat} {v : Value} {bs : List Blk} (h : OwnR w base v bs) : OwnR w.drew base v bs := h
theorem SX.drew {w : World} {v : Value} {bs : List Blk} (h : SX w v bs) : SX w.drew v bs := h
theorem Blks.drew {w : World} {b off : Nat} {bs : List Blk} (h : Blks w b off bs) : Blks w.drew b off bs := h
theorem Blks.kept {w w' : World} {b off : Nat} {bs : List Blk} {row : Option Nat} (h : Blks w b off bs) (hg : w.grownBy w' row) (hne : some b ≠ row) : Blks w' b off bs := fun k hk => by
  obtain ⟨h1, h2, h3⟩ := h k hk
  exact ⟨hg.cell h1 hne, hg.cell h2 hne, hg.cell h3 hne⟩
theorem keep_cell {w w' : World} {row : Option Nat} {b o : Nat} {u : Value} (h : w.cell? ⟨b, o, none⟩ = some u) (hg : w.grownBy w' row) (hne : ∀ r, row = some r → b < r) : w'.cell? ⟨b, o, none⟩ = some u :=
  hg.cell h (fun e => by have := hne _ e.symm; simp at this)
theorem keep_frozen {w w' : World} {row : Option Nat} {b o : Nat} {u : Value} (hc : w.cell? ⟨b, o, none⟩ = some u) (h : w.frozen? ⟨b, o, none⟩ = false) (hg : w.grownBy w' row) (hne : ∀ r, row = some r → b < r) : w'.frozen? ⟨b, o, none⟩ = false :=
  (World.frozen?_of_block (w := w) (a := ⟨b, o, none⟩) (hg.block b (block_lt_of_cell hc) (fun e => by have := hne _ e.symm; omega))).trans h
theorem keep_some {w w' : World} {row : Option Nat} {b o : Nat} (h : (w.cell? ⟨b, o, none⟩).isSome = true) (hg : w.grownBy w' row) (hne : ∀ r, row = some r → b < r) : (w'.cell? ⟨b, o, none⟩).isSome = true := by
  obtain ⟨u, hu⟩ := Option.isSome_iff_exists.1 h
  rw [keep_cell hu hg hne]
  rfl
theorem keep_free {w w' : World} {row : Option Nat} {b o : Nat} (h : (w.cell? ⟨b, o, none⟩).isSome = true) (hf : w.frozen? ⟨b, o, none⟩ = false) (hg : w.grownBy w' row) (hne : ∀ r, row = some r → b < r) : w'.frozen? ⟨b, o, none⟩ = false := by
  obtain ⟨u, hu⟩ := Option.isSome_iff_exists.1 h
  exact keep_frozen hu hf hg hne
def Six (w' : World) (b : Nat) (v : Int) (s : Value) : Prop := w'.cell? ⟨b, 0, none⟩ = some (.int .i64 v) ∧ w'.cell? ⟨b, 1, none⟩ = some s ∧ w'.cell? ⟨b + 1, 0, none⟩ = some (.int .i64 0) ∧ w'.cell? ⟨b + 1, 1, none⟩ = some (.slice none 0 0) ∧ w'.frozen? ⟨b + 1, 0, none⟩ = false ∧ w'.frozen? ⟨b + 1, 1, none⟩ = false
theorem keep6 {w w' : World} {b : Nat} {v : Int} {s : Value} {row : Option Nat} (h : Six w b v s) (hg : w.grownBy w' row) (hr : ∀ r, row = some r → b + 1 < r) : Six w' b v s := by
  obtain ⟨h0, h1, h2, h3, h4, h5⟩ := h
  exact ⟨keep_cell h0 hg (fun r e => by have := hr r e; omega), keep_cell h1 hg (fun r e => by have := hr r e; omega), keep_cell h2 hg hr, keep_cell h3 hg hr, keep_frozen h2 h4 hg hr, keep_frozen h3 h5 hg hr⟩
theorem run_slice_drop (b off n cap j : Nat) (h1 : j ≤ n) (h2 : n ≤ cap) : ∃ x, (∀ W : World, (Instr.slice 29 (.slice (some ⟨b, off, none⟩) n cap) (some (.int .i64 (j : Int))) none none).run Try.prog W = .ok x W) ∧ ∀ (W : World) (bs : List Blk), bs.length = n → b < W.heap.size → Blks W b off bs → SX W x (bs.drop j) := by
  have hj0 : (0 : Int) ≤ (j : Int) := by omega
  have hj1 : (j : Int) ≤ (n : Int) := by omega
  by_cases hc : j = cap
  · refine ⟨.slice (some ⟨b, off, none⟩) 0 0, fun W => ?_, fun W bs e _ _ => .inl ⟨_, _, rfl, List.drop_eq_nil_of_le (by omega)⟩⟩
    have e1 : n = j := by omega
    subst e1
    subst hc
    simp [Instr.slice, Instr.sliceBounds, Instr.sliceBound, run_underlying Try.underlying29, go_sem, hj0]
  · refine ⟨.slice (some ⟨b, off + j * 3, none⟩) (n - j) (cap - j), fun W => ?_, fun W bs e h1 h2 => .inr ⟨b, off + j * 3, cap - j, by rw [List.length_drop, e], h1, h2.drop j⟩⟩
    have hc' : ¬ cap = j := fun e => hc e.symm
    simp [Instr.slice, Instr.sliceBounds, Instr.sliceBound, run_underlying Try.underlying29, go_sem, hj0, h1, hc', addr_at]
end Go.Proofs.Ytiomdfhhejdoiaa

namespace Go.Proofs.Ytiomdfhhejdoiaa
open Go.RowKit Go.Maps
theorem wpList_append_int2 {w : World} {ops : Array Oper} {rest : List Oper} {o : Oper} {a : Act} {Q : Exit → Act → World → Prop} (hgd : o.guard = none) (s x : Operand)
    (ho : o.op = .call { callee := .builtin .append, args := #[s, x], argTypes := #[26, 26] })
    (base : Nat) (v : Value) (zs : List Int) (hs : a.eval s = v) (hown : OwnJ w base v zs) (b0 c : Nat) (y1 y2 : Int) (hx : a.eval x = .slice (some ⟨b0, 0, none⟩) 2 c)
    (c1 : w.cell? ⟨b0, 0, none⟩ = some (.int .i64 y1)) (c2 : w.cell? ⟨b0, 1, none⟩ = some (.int .i64 y2)) (hl : zs.length ≤ 3300000) (hbase : base ≤ w.heap.size)
    (h : ∀ (g cap : Nat) (w' : World), OwnJ w' base (.slice (some ⟨g, 0, none⟩) (zs.length + 2) cap) (zs ++ [y1, y2]) → w.grownBy w' v.ownBlock → wpList Try.prog ops Q rest (a.put o.dst (.slice (some ⟨g, 0, none⟩) (zs.length + 2) cap)) w') : wpList Try.prog ops Q (o :: rest) a w := by
  obtain ⟨i0, hi, hz0, hz1, hz2⟩ := info_parts infoInt64
  refine wpList_append_own w hgd s x 26 ho base 2 i0 _ 1 8 Try.underlying26 hi hz0 hz1 hz2 rfl (by decide) v zs.length (zs.map (Value.int .i64)) hs hown ⟨b0, 0, none⟩ 2 c [.int .i64 y1, .int .i64 y2] hx rfl ?_ ?_ (by unfold maxLen; omega) (by omega) hbase ?_
  · intro j u hj
    rw [addr_at, Nat.zero_add]
    match j, hj with
    | 0, hj => simp at hj; rw [← hj]; exact c1
    | 1, hj => simp at hj; rw [← hj]; exact c2
    | j + 2, hj => simp at hj
  · intro u hu
    simp at hu
    rcases hu with rfl | rfl <;> rfl
  · intro v' w' hown' hg _
    obtain ⟨g, cap, rfl⟩ := row_some (k := zs.length + 1) hown'
    refine h g cap w' ?_ hg
    unfold OwnJ
    rw [List.length_append, List.map_append]
    exact hown'
theorem tab_third {n : Nat} {bs : List Blk} (h : isSysImpl (n : Int) bs = true) (hf : fullB (n : Int) bs = true) {a b : Int} (ha : 0 ≤ a ∧ a < (n : Int)) (hb : 0 ≤ b ∧ b < (n : Int)) (hab : a ≠ b) : tabI bs a b = third1 bs a b := by
  obtain ⟨x, hx, h1, h2, _⟩ := tri_third h hf ha hb hab
  unfold tabI third1
  rw [if_neg hab]
  cases hfd : bs.find? (bothB a b) with
  | none => exact absurd (show bothB a b x = true by simp [bothB, h1, h2]) (by simpa using List.find?_eq_none.1 hfd x hx)
  | some y => rfl
/-- The points of the walk. -/
def wk (bs : List Blk) (a b : Nat) (s : Int) (k : Nat) : Int := stepN (third1 bs (a : Int)) (third1 bs (b : Int)) s k
def wkL (bs : List Blk) (a b : Nat) (s : Int) (k : Nat) : List Int := (List.range k).map (wk bs a b s)
theorem wkL_two (bs : List Blk) (a b : Nat) (s : Int) (k : Nat) : wkL bs a b s (k + 2) = wkL bs a b s k ++ [wk bs a b s k, wk bs a b s (k + 1)] := by
  simp [wkL, List.range_succ]
theorem wkL_len (bs : List Blk) (a b : Nat) (s : Int) (k : Nat) : (wkL bs a b s k).length = k := by simp [wkL]
/-- The length of a slice. -/
def lenOf : Value → Nat
  | .slice _ n _ => n
  | _ => 0
set_option maxRecDepth 100000 in
set_option maxHeartbeats 8000000 in
theorem cycleFrom_any (G : Nat) (lo : Nat) (gs caps : Nat → Nat) (n c : Nat) (bs : List Blk) (a b s : Nat) (w : World) (h : SSR w lo G gs caps n (rowT n (tabN bs))) (hi : isSysImpl (n : Int) bs = true) (hf : fullB (n : Int) bs = true) (ha : a < n) (hb : b < n) (hab : a ≠ b) (hs : Beyond n bs (a : Int) (b : Int) (s : Int)) (N : Nat) (hN0 : 0 < N) (hN2 : N % 2 = 0) (hN15 : N ≤ 15) (hfr : Fresh (third1 bs (a : Int)) (third1 bs (b : Int)) (s : Int) N) (hNs : wk bs a b s N = (s : Int)) :
    Calls Try.prog 122 #[.slice (some ⟨G, 0, none⟩) n c, .int .i64 (a : Int), .int .i64 (b : Int), .int .i64 (s : Int)] w (fun e w' => ∃ u, e = .returned u ∧ OwnJ w' w.heap.size u (wkL bs a b s N) ∧ Below w.heap.size w w') := by
  have htwo := two_thirds hi hf (a := (a : Int)) (b := (b : Int)) (by omega) (by omega) (by omega)
  have HM := Lib.hid (show ∀ k, Beyond n bs (a : Int) (b : Int) (wk bs a b s k) from fun k => htwo.mem hs k)
  have HSS := Lib.hid h
  have HI := Lib.hid hi
  have HF := Lib.hid hf
  have HFR := Lib.hid hfr
  have HNS := Lib.hid hNs
  have hn15 := (sys_size hi).2.1
  have HS0 := Lib.hid (show wk bs a b s 0 = (s : Int) from rfl)
  clear h hi hf hs hfr hNs htwo
  go_enter Try.func122, Try.ntmps122
  go_wp2_with fail
  refine wp_scope_jumps 0 (fun a' w' => ∃ (k : Nat) (o : Value) (u11 u13 u14 u15 u16 u17 u18 u19 u20 u21 u22 u23 u24 u25 u26 u27 u28 u29 u30 u31 u32 u33 u34 : Value), a' = { tmps := #[.slice (some ⟨G, 0, none⟩) n c, .int .i64 (a : Int), .int .i64 (b : Int), .int .i64 (s : Int), undef, undef, undef, undef, .slice none 0 0, o, .int .i64 (wk bs a b s (2 * k)), u11, .int .i64 (s : Int), u13, u14, u15, u16, u17, u18, u19, u20, u21, u22, u23, u24, u25, u26, u27, u28, u29, u30, u31, u32, u33, u34, undef], defers := [] } ∧ 2 * k < N ∧ OwnJ w' w.heap.size o (wkL bs a b s (2 * k)) ∧ (∃ x y, o = .slice x (2 * k) y) ∧ Below w.heap.size w w') (fun a' _ => N - lenOf (a'.tmps.getD 9 undef)) rfl ?_ ?_
  · go_wp2_with fail
    go_step3
    obtain ⟨k, hk0⟩ : ∃ k : Nat, k = 0 := ⟨0, rfl⟩
    have hk : 2 * k < N := by omega
    have hO : OwnJ w w.heap.size (.slice none 0 0) (wkL bs a b s (2 * k)) := by rw [hk0]; exact OwnJ.nil _ _
    have HB := Lib.hid (Below.refl w.heap.size w)
    have hP := HM.out (2 * k)
    have hQ := HM.out (2 * k + 1)
    have hR := HM.out (2 * k + 2)
    have eQ : wk bs a b s (2 * k + 1) = third1 bs (a : Int) (wk bs a b s (2 * k)) := by show (if (2 * k) % 2 = 0 then _ else _) = _; rw [if_pos (by omega)]; rfl
    have eR : wk bs a b s (2 * k + 2) = third1 bs (b : Int) (wk bs a b s (2 * k + 1)) := by show (if (2 * k + 1) % 2 = 0 then _ else _) = _; rw [if_neg (by omega)]; rfl
    have hS := wkL_two bs a b s (2 * k)
    have hle : (wkL bs a b s (2 * k)).length ≤ 100 := by rw [wkL_len]; omega
    have hPn : wk bs a b s (2 * k) = (s : Int) := by rw [hk0]; rfl
    obtain ⟨Q, hQn⟩ := Int.eq_ofNat_of_zero_le hQ.1.1
    obtain ⟨R, hRn⟩ := Int.eq_ofNat_of_zero_le hR.1.1
    have tQ := tab_third HI.out HF.out (a := (a : Int)) (b := wk bs a b s (2 * k)) (by omega) hP.1 (fun e => hP.2.1 e.symm)
    have tR := tab_third HI.out HF.out (a := (b : Int)) (b := wk bs a b s (2 * k + 1)) (by omega) hQ.1 (fun e => hQ.2.2.1 e.symm)
    rw [← eQ] at tQ
    rw [← eR] at tR
    have hPr := hP.1
    have hQr := hQ.1
    rw [hPn] at hPr tQ hS
    rw [hQn] at hQr tQ tR hS
    rw [hRn] at tR
    have hSS := HSS.out.below HB.out (Nat.le_refl _)
    have o1 := hSS.cell a ha
    have o2 := hSS.cell b hb
    rw [rowT_len] at o1 o2
    have z1 := (hSS.row a ha).at_ s (by rw [rowT_len]; omega)
    have z2 := (hSS.row b hb).at_ Q (by rw [rowT_len]; omega)
    rw [rowT_at _ _ (by omega), Nat.zero_add] at z1 z2
    rw [show tabN bs a s = (Q : Int) from tQ] at z1
    rw [show tabN bs b Q = (R : Int) from tR] at z2
    have HSV := Lib.hid hS
    have HRN := Lib.hid hRn
    have HPN := Lib.hid hPn
    have g0 : (0 : Int) ≤ (a : Int) := by omega
    have g1 : (a : Int) < (n : Int) := by omega
    have g2 : (0 : Int) ≤ (b : Int) := by omega
    have g3 : (b : Int) < (n : Int) := by omega
    have g4 : (s : Int) < (n : Int) := by omega
    have g5 : (Q : Int) < (n : Int) := by omega
    have HOO := Lib.hid hO
    have hzB := HB.out.size
    have hGlt : G < w.heap.size := HSS.out.lt
    have hgb : gs b < w.heap.size := (HSS.out.row b hb).lt
    clear hk0 hP hQ hR eQ eR hS tQ tR hSS hPn hQn hRn hPr hQr hO
    by_cases hrs : R = s
    · have hne : ((R : Int) != (s : Int)) = false := by simp; omega
      have hNk : 2 * k + 2 = N := by
        apply Classical.byContradiction
        intro hc
        refine HFR.out 0 (2 * k + 2) (by omega) (by omega) ?_
        show wk bs a b s 0 = wk bs a b s (2 * k + 2)
        rw [HS0.out, HRN.out, hrs]
      have HNK := Lib.hid hNk
      clear hrs hNk
      go_wp2_with (at_builtin; refine wpList_append_int2 rfl _ _ rfl w.heap.size _ (wkL bs a b s (2 * k)) rfl (HOO.out.below ((Below.refl _ _).alloc (Nat.le_refl _) _) (Nat.le_refl _)) _ _ (s : Int) (Q : Int) rfl (by simp [go_sem]) (by simp [go_sem]) (by omega) (by simp <;> omega) ?_; intro g' cap' w4 hO4 hg4; have hrow := HOO.out.row; have hgo : w.grownBy w4 (Value.slice none 0 0).ownBlock := ⟨hg4.os, hg4.tape, hg4.output, by have := hg4.size; simp at this; omega, fun i hi hne => by
        rw [hg4.block i (by simp; omega) hne, Below.heap_alloc _ _ _ hi]⟩; have o3 := (hgo.cell o2 (fun e => by have := hrow G e.symm; omega)); have z3 := (hgo.cell z2 (fun e => by have := hrow (gs b) e.symm; omega)))
      simp only [Exit.jump]
      go_ret
      exact ⟨_, rfl, by rw [← HNK.out, HSV.out]; exact hO4, HB.out.grown hgo hzB (fun j e => hrow j e)⟩
    · have hne : ((R : Int) != (s : Int)) = true := by simp; omega
      have hNk : 2 * (k + 1) < N := by
        apply Classical.byContradiction
        intro hc
        have e : 2 * k + 2 = N := by omega
        have h1 := HNS.out
        rw [← e, HRN.out] at h1
        exact hrs (by omega)
      have HNK := Lib.hid hNk
      clear hrs hNk
      go_wp2_with (at_builtin; refine wpList_append_int2 rfl _ _ rfl w.heap.size _ (wkL bs a b s (2 * k)) rfl (HOO.out.below ((Below.refl _ _).alloc (Nat.le_refl _) _) (Nat.le_refl _)) _ _ (s : Int) (Q : Int) rfl (by simp [go_sem]) (by simp [go_sem]) (by omega) (by simp <;> omega) ?_; intro g' cap' w4 hO4 hg4; have hrow := HOO.out.row; have hgo : w.grownBy w4 (Value.slice none 0 0).ownBlock := ⟨hg4.os, hg4.tape, hg4.output, by have := hg4.size; simp at this; omega, fun i hi hne => by
        rw [hg4.block i (by simp; omega) hne, Below.heap_alloc _ _ _ hi]⟩; have o3 := (hgo.cell o2 (fun e => by have := hrow G e.symm; omega)); have z3 := (hgo.cell z2 (fun e => by have := hrow (gs b) e.symm; omega)))
      go_step3
      rw [← HRN.out]
      refine ⟨rfl, ⟨k + 1, _, _, _, _, _, _, _, _, _, _, _, _, _, _, _, _, _, _, _, _, _, _, _, _, rfl, HNK.out, by rw [show 2 * (k + 1) = 2 * k + 2 from rfl, HSV.out]; exact hO4, ⟨some ⟨g', 0, none⟩, cap', by rw [wkL_len]; rfl⟩, HB.out.grown hgo hzB (fun j e => hrow j e)⟩⟩
  · rintro a' wr ⟨k, o, u11, u13, u14, u15, u16, u17, u18, u19, u20, u21, u22, u23, u24, u25, u26, u27, u28, u29, u30, u31, u32, u33, u34, rfl, hk, hO, ⟨oa, oc, rfl⟩, hB⟩
    have HB := Lib.hid hB
    clear hB
    have hP := HM.out (2 * k)
    have hQ := HM.out (2 * k + 1)
    have hR := HM.out (2 * k + 2)
    have eQ : wk bs a b s (2 * k + 1) = third1 bs (a : Int) (wk bs a b s (2 * k)) := by show (if (2 * k) % 2 = 0 then _ else _) = _; rw [if_pos (by omega)]; rfl
    have eR : wk bs a b s (2 * k + 2) = third1 bs (b : Int) (wk bs a b s (2 * k + 1)) := by show (if (2 * k + 1) % 2 = 0 then _ else _) = _; rw [if_neg (by omega)]; rfl
    have hS := wkL_two bs a b s (2 * k)
    have hle : (wkL bs a b s (2 * k)).length ≤ 100 := by rw [wkL_len]; omega
    obtain ⟨P, hPn⟩ := Int.eq_ofNat_of_zero_le hP.1.1
    obtain ⟨Q, hQn⟩ := Int.eq_ofNat_of_zero_le hQ.1.1
    obtain ⟨R, hRn⟩ := Int.eq_ofNat_of_zero_le hR.1.1
    have tQ := tab_third HI.out HF.out (a := (a : Int)) (b := wk bs a b s (2 * k)) (by omega) hP.1 (fun e => hP.2.1 e.symm)
    have tR := tab_third HI.out HF.out (a := (b : Int)) (b := wk bs a b s (2 * k + 1)) (by omega) hQ.1 (fun e => hQ.2.2.1 e.symm)
    rw [← eQ] at tQ
    rw [← eR] at tR
    have hPr := hP.1
    have hQr := hQ.1
    rw [hPn] at hPr tQ hS
    rw [hQn] at hQr tQ tR hS
    rw [hRn] at tR
    have hSS := HSS.out.below HB.out (Nat.le_refl _)
    have o1 := hSS.cell a ha
    have o2 := hSS.cell b hb
    rw [rowT_len] at o1 o2
    have z1 := (hSS.row a ha).at_ P (by rw [rowT_len]; omega)
    have z2 := (hSS.row b hb).at_ Q (by rw [rowT_len]; omega)
    rw [rowT_at _ _ (by omega), Nat.zero_add] at z1 z2
    rw [show tabN bs a P = (Q : Int) from tQ] at z1
    rw [show tabN bs b Q = (R : Int) from tR] at z2
    have HSV := Lib.hid hS
    have HRN := Lib.hid hRn
    have HPN := Lib.hid hPn
    have g0 : (0 : Int) ≤ (a : Int) := by omega
    have g1 : (a : Int) < (n : Int) := by omega
    have g2 : (0 : Int) ≤ (b : Int) := by omega
    have g3 : (b : Int) < (n : Int) := by omega
    have g4 : (P : Int) < (n : Int) := by omega
    have g5 : (Q : Int) < (n : Int) := by omega
    have HOO := Lib.hid hO
    have hzB := HB.out.size
    have hGlt : G < w.heap.size := HSS.out.lt
    have hgb : gs b < w.heap.size := (HSS.out.row b hb).lt
    rw [hPn]
    clear hP hQ hR eQ eR hS tQ tR hSS hPn hQn hRn hPr hQr hO
    by_cases hrs : R = s
    · have hne : ((R : Int) != (s : Int)) = false := by simp; omega
      have hNk : 2 * k + 2 = N := by
        apply Classical.byContradiction
        intro hc
        refine HFR.out 0 (2 * k + 2) (by omega) (by omega) ?_
        show wk bs a b s 0 = wk bs a b s (2 * k + 2)
        rw [HS0.out, HRN.out, hrs]
      have HNK := Lib.hid hNk
      clear hrs hNk
      go_wp2_with (at_builtin; refine wpList_append_int2 rfl _ _ rfl w.heap.size _ (wkL bs a b s (2 * k)) rfl (HOO.out.below ((Below.refl _ _).alloc (Nat.le_refl _) _) (Nat.le_refl _)) _ _ (P : Int) (Q : Int) rfl (by simp [go_sem]) (by simp [go_sem]) (by omega) (by simp <;> omega) ?_; intro g' cap' w4 hO4 hg4; have hrow := HOO.out.row; have hgo : wr.grownBy w4 (Value.slice oa (2 * k) oc).ownBlock := ⟨hg4.os, hg4.tape, hg4.output, by have := hg4.size; simp at this; omega, fun i hi hne => by
        rw [hg4.block i (by simp; omega) hne, Below.heap_alloc _ _ _ hi]⟩; have o3 := (hgo.cell o2 (fun e => by have := hrow G e.symm; omega)); have z3 := (hgo.cell z2 (fun e => by have := hrow (gs b) e.symm; omega)))
      simp only [Exit.jump]
      go_ret
      exact ⟨_, rfl, by rw [← HNK.out, HSV.out]; exact hO4, HB.out.grown hgo hzB (fun j e => hrow j e)⟩
    · have hne : ((R : Int) != (s : Int)) = true := by simp; omega
      have hNk : 2 * (k + 1) < N := by
        apply Classical.byContradiction
        intro hc
        have e : 2 * k + 2 = N := by omega
        have h1 := HNS.out
        rw [← e, HRN.out] at h1
        exact hrs (by omega)
      have HNK := Lib.hid hNk
      clear hrs hNk
      go_wp2_with (at_builtin; refine wpList_append_int2 rfl _ _ rfl w.heap.size _ (wkL bs a b s (2 * k)) rfl (HOO.out.below ((Below.refl _ _).alloc (Nat.le_refl _) _) (Nat.le_refl _)) _ _ (P : Int) (Q : Int) rfl (by simp [go_sem]) (by simp [go_sem]) (by omega) (by simp <;> omega) ?_; intro g' cap' w4 hO4 hg4; have hrow := HOO.out.row; have hgo : wr.grownBy w4 (Value.slice oa (2 * k) oc).ownBlock := ⟨hg4.os, hg4.tape, hg4.output, by have := hg4.size; simp at this; omega, fun i hi hne => by
        rw [hg4.block i (by simp; omega) hne, Below.heap_alloc _ _ _ hi]⟩; have o3 := (hgo.cell o2 (fun e => by have := hrow G e.symm; omega)); have z3 := (hgo.cell z2 (fun e => by have := hrow (gs b) e.symm; omega)))
      go_step3
      rw [← HRN.out]
      refine ⟨rfl, ⟨k + 1, _, _, _, _, _, _, _, _, _, _, _, _, _, _, _, _, _, _, _, _, _, _, _, _, rfl, HNK.out, by rw [show 2 * (k + 1) = 2 * k + 2 from rfl, HSV.out]; exact hO4, ⟨some ⟨g', 0, none⟩, cap', by rw [wkL_len]; rfl⟩, HB.out.grown hgo hzB (fun j e => hrow j e)⟩, by rw [wkL_len]; simp [lenOf]; omega⟩
end Go.Proofs.Ytiomdfhhejdoiaa

namespace Go.Proofs.Ytiomdfhhejdoiaa
open Go.RowKit Go.Maps
theorem ResI.slice {w : World} {lo hi : Nat} {s : Value} {zs : List Int} (h : ResI w lo hi s zs) : ∃ a c, s = .slice a zs.length c := by
  rcases h with ⟨rfl, a, c, rfl⟩ | ⟨g, cap, rfl, _⟩ <;> exact ⟨_, _, rfl⟩
theorem ResI.wide {w : World} {lo hi lo' hi' : Nat} {s : Value} {zs : List Int} (h : ResI w lo hi s zs) (h1 : lo' ≤ lo) (h2 : hi ≤ hi') : ResI w lo' hi' s zs := by
  rcases h with h | ⟨g, cap, rfl, h3, h4, ho⟩
  · exact .inl h
  · exact .inr ⟨g, cap, rfl, by omega, by omega, ho⟩
structure St1 (w : World) (v : Int) (s : Value) (W : World) : Prop where
  below : Below w.heap.size w W
  big : w.heap.size < W.heap.size
  x0 : W.cell? ⟨w.heap.size, 0, none⟩ = some (.int .i64 v)
  x1 : W.cell? ⟨w.heap.size, 1, none⟩ = some s
theorem St1.step {w : World} {v : Int} {s : Value} {W W' : World} {row : Option Nat} (h : St1 w v s W) (hg : W.grownBy W' row) (hr : ∀ r, row = some r → w.heap.size < r) : St1 w v s W' :=
  ⟨h.below.grown hg h.below.size (fun r e => by have := hr r e; omega), Nat.lt_of_lt_of_le h.big hg.size,
    hg.cell h.x0 (fun e => by have := hr _ e.symm; simp at this), hg.cell h.x1 (fun e => by have := hr _ e.symm; simp at this)⟩
theorem St1.start (w : World) (v : Int) (s : Value) : St1 w v s (w.alloc (.cells #[.int .i64 v, s] 24)) :=
  ⟨(Below.refl _ _).alloc (Nat.le_refl _) _, by simp, by simp [go_sem], by simp [go_sem]⟩
structure CI (w : World) (v : Int) (s sW s8 sG : Value) (X i0 i1 i2 i5 i6 : Nat) (LW : List Int) (L8 : List Blk) (LG : List Int) (W : World) : Prop where
  st : St1 w v s W
  o0 : w.heap.size < i0
  o1 : i0 ≤ i1
  o2 : i1 ≤ i2
  oX : i2 ≤ X
  oX' : X < i5
  o6 : i5 ≤ i6
  rW : ResI W i0 i1 sW LW
  r8 : ResR W i1 i2 s8 L8
  vX : VarB W X v s8
  rG : ResI W i5 i6 sG LG
section
variable {w : World} {v : Int} {s sW s8 sG : Value} {X i0 i1 i2 i5 i6 : Nat} {LW LG : List Int} {L8 : List Blk} {W W' : World}
theorem CI.step (h : CI w v s sW s8 sG X i0 i1 i2 i5 i6 LW L8 LG W) (hg : W.grownBy W' none) : CI w v s sW s8 sG X i0 i1 i2 i5 i6 LW L8 LG W' :=
  ⟨h.st.step hg (by simp), h.o0, h.o1, h.o2, h.oX, h.oX', h.o6, h.rW.kept hg (by simp), h.r8.kept hg (by simp), h.vX.step hg (by simp), h.rG.kept hg (by simp)⟩
theorem CI.mark8 (h : CI w v s sW s8 sG X i0 i1 i2 i5 i6 LW L8 LG W) {row : Option Nat} (hg : W.grownBy W' row) (hr : ∀ r, row = some r → i1 ≤ r ∧ r < i2) {L : List Blk} (hn : ResR W' i1 i2 s8 L) :
    CI w v s sW s8 sG X i0 i1 i2 i5 i6 LW L LG W' := by
  obtain ⟨st, o0, o1, o2, oX, oX', o6, rW, r8, vX, rG⟩ := h
  exact ⟨st.step hg (fun r e => by have := hr r e; omega), o0, o1, o2, oX, oX', o6, rW.kept hg (fun r e => by have := hr r e; omega), hn, vX.step hg (fun e => by have := hr _ e; omega), rG.kept hg (fun r e => by have := hr r e; omega)⟩
theorem CI.markG (h : CI w v s sW s8 sG X i0 i1 i2 i5 i6 LW L8 LG W) {row : Option Nat} (hg : W.grownBy W' row) (hr : ∀ r, row = some r → i5 ≤ r ∧ r < i6) {L : List Int} (hn : ResI W' i5 i6 sG L) :
    CI w v s sW s8 sG X i0 i1 i2 i5 i6 LW L8 L W' := by
  obtain ⟨st, o0, o1, o2, oX, oX', o6, rW, r8, vX, rG⟩ := h
  exact ⟨st.step hg (fun r e => by have := hr r e; omega), o0, o1, o2, oX, oX', o6, rW.kept hg (fun r e => by have := hr r e; omega), r8.kept hg (fun r e => by have := hr r e; omega), vX.step hg (fun e => by have := hr _ e; omega), hn⟩
end
theorem gb_drew1 (w : World) : w.grownBy w.drew none := ⟨rfl, rfl, rfl, Nat.le_refl _, fun _ _ _ => rfl⟩
theorem gb_alloc1 (w : World) (o : Obj) : w.grownBy (w.alloc o) none := World.grownBy_alloc w o none
end Go.Proofs.Ytiomdfhhejdoiaa

namespace Go.Proofs.Ytiomdfhhejdoiaa
open Go.RowKit Go.Maps
def Stays (lo hi : Nat) (W W' : World) : Prop := W.heap.size ≤ W'.heap.size ∧ ∀ i, lo ≤ i → i < hi → W'.heap[i]? = W.heap[i]?
structure Item where
  lo : Nat
  hi : Nat
  P : World → Prop
def Item.Ok (it : Item) : Prop := ∀ W W', it.hi ≤ W.heap.size → Stays it.lo it.hi W W' → it.P W → it.P W'
structure Mem (w : World) (L : List Item) (W : World) : Prop where
  below : Below w.heap.size w W
  pw : L.Pairwise (fun x y => y.hi ≤ x.lo ∨ x.hi ≤ y.lo)
  rng : ∀ it ∈ L, w.heap.size ≤ it.lo ∧ it.lo ≤ it.hi ∧ it.hi ≤ W.heap.size
  ok : ∀ it ∈ L, it.Ok
  holds : ∀ it ∈ L, it.P W
def MemOf {w : World} {L : List Item} {W : World} (_ : Mem w L W) (wx : World) : Prop := Mem w L wx
/-- Only blocks from lo on, below hi, have changed, and what is new. -/
structure OnlyIn (lo hi : Nat) (W W' : World) : Prop where
  os : W'.os = W.os
  tape : W'.tape = W.tape
  output : W'.output = W.output
  size : W.heap.size ≤ W'.heap.size
  block : ∀ i, i < W.heap.size → (i < lo ∨ hi ≤ i) → W'.heap[i]? = W.heap[i]?
section
variable {lo hi lo' hi' : Nat} {W W' W'' w : World} {L : List Item}
theorem OnlyIn.of_grown {row : Option Nat} (hg : W.grownBy W' row) (hr : ∀ r, row = some r → lo ≤ r ∧ r < hi) : OnlyIn lo hi W W' :=
  ⟨hg.os, hg.tape, hg.output, hg.size, fun i h1 h2 => hg.block i h1 (fun e => by have := hr i e.symm; omega)⟩
theorem OnlyIn.refl (lo hi : Nat) (W : World) : OnlyIn lo hi W W := ⟨rfl, rfl, rfl, Nat.le_refl _, fun _ _ _ => rfl⟩
theorem OnlyIn.trans (h : OnlyIn lo hi W W') (k : OnlyIn lo hi W' W'') : OnlyIn lo hi W W'' :=
  ⟨k.os.trans h.os, k.tape.trans h.tape, k.output.trans h.output, Nat.le_trans h.size k.size, fun i h1 h2 => (k.block i (Nat.lt_of_lt_of_le h1 h.size) h2).trans (h.block i h1 h2)⟩
theorem OnlyIn.of_below (h : Below lo W W') : OnlyIn lo W.heap.size W W' :=
  ⟨h.os, h.tape, h.output, h.size, fun i h1 h2 => h.block i (by omega)⟩
theorem OnlyIn.stays (h : OnlyIn lo hi W W') (hh : hi' ≤ W.heap.size) (hd : hi' ≤ lo ∨ hi ≤ lo') : Stays lo' hi' W W' :=
  ⟨h.size, fun i h1 h2 => h.block i (by omega) (by omega)⟩
theorem OnlyIn.below (h : OnlyIn lo hi W W') {B : Nat} (hB : B ≤ lo) (hz : B ≤ W.heap.size) : Below B W W' :=
  ⟨h.os, h.tape, h.output, h.size, fun i h1 => h.block i (by omega) (by omega)⟩
theorem Mem.start (w : World) : Mem w [] w := ⟨Below.refl _ _, List.Pairwise.nil, by simp, by simp, by simp⟩
theorem Mem.step (h : Mem w L W) (hg : W.grownBy W' none) : Mem w L W' :=
  ⟨h.below.grown hg h.below.size (by simp), h.pw, fun it hi => ⟨(h.rng it hi).1, (h.rng it hi).2.1, Nat.le_trans (h.rng it hi).2.2 hg.size⟩, h.ok,
    fun it hi => h.ok it hi W W' (h.rng it hi).2.2 ⟨hg.size, fun i _ h2 => hg.block i (Nat.lt_of_lt_of_le h2 (h.rng it hi).2.2) (by simp)⟩ (h.holds it hi)⟩
theorem Mem.push (h : Mem w L W) (hg : W.grownBy W' none) (it : Item) (h1 : W.heap.size ≤ it.lo) (h2 : it.lo ≤ it.hi) (h3 : it.hi ≤ W'.heap.size) (ok : it.Ok) (hP : it.P W') : Mem w (it :: L) W' := by
  have hs := h.step hg
  refine ⟨hs.below, List.pairwise_cons.2 ⟨fun y hy => .inl (Nat.le_trans (h.rng y hy).2.2 h1), hs.pw⟩, ?_, ?_, ?_⟩
  · intro x hx
    rcases List.mem_cons.1 hx with rfl | hx
    · exact ⟨Nat.le_trans h.below.size h1, h2, h3⟩
    · exact hs.rng x hx
  · intro x hx
    rcases List.mem_cons.1 hx with rfl | hx
    · exact ok
    · exact hs.ok x hx
  · intro x hx
    rcases List.mem_cons.1 hx with rfl | hx
    · exact hP
    · exact hs.holds x hx
theorem Mem.swap {a b : Item} (h : Mem w (a :: b :: L) W) : Mem w (b :: a :: L) W := by
  have hm : ∀ x, x ∈ b :: a :: L → x ∈ a :: b :: L := fun x hx => by simp only [List.mem_cons] at hx ⊢; rcases hx with h | h | h <;> simp [h]
  refine ⟨h.below, ?_, fun it hi => h.rng it (hm it hi), fun it hi => h.ok it (hm it hi), fun it hi => h.holds it (hm it hi)⟩
  have hp := h.pw
  rw [List.pairwise_cons, List.pairwise_cons] at hp
  refine List.pairwise_cons.2 ⟨fun y hy => ?_, List.pairwise_cons.2 ⟨fun y hy => hp.1 y (by simp [hy]), hp.2.2⟩⟩
  rcases List.mem_cons.1 hy with rfl | hy
  · exact (hp.1 b (by simp)).symm
  · exact hp.2.1 y hy
theorem Mem.at (h : Mem w L W) (k : Nat) {it : Item} (e : L[k]? = some it) : it.P W := h.holds it (List.mem_of_getElem? e)
theorem mem_set_cases {k : Nat} {x y it : Item} (_e : L[k]? = some it) (hx : x ∈ L.set k y) : x = y ∨ ∃ j, j ≠ k ∧ L[j]? = some x := by
  obtain ⟨j, hj⟩ := List.mem_iff_getElem?.1 hx
  rw [List.getElem?_set] at hj
  split at hj
  · split at hj
    · cases hj; exact .inl rfl
    · cases hj
  · exact .inr ⟨j, by omega, hj⟩
theorem Mem.apart (h : Mem w L W) {k j : Nat} {x it : Item} (e : L[k]? = some it) (f : L[j]? = some x) (hne : j ≠ k) : it.hi ≤ x.lo ∨ x.hi ≤ it.lo := by
  obtain ⟨hk, e⟩ := List.getElem?_eq_some_iff.1 e
  obtain ⟨hj, f⟩ := List.getElem?_eq_some_iff.1 f
  have hp := List.pairwise_iff_getElem.1 h.pw
  rcases Nat.lt_or_gt_of_ne hne with hlt | hlt
  · have := hp j k hj hk hlt
    rw [e, f] at this
    exact this
  · have := hp k j hk hj hlt
    rw [e, f] at this
    exact this.symm
theorem Mem.mark (h : Mem w L W) (k : Nat) {it : Item} (e : L[k]? = some it) (hw : OnlyIn it.lo it.hi W W') {P' : World → Prop} (ok : Item.Ok ⟨it.lo, it.hi, P'⟩) (hP : P' W') : Mem w (L.set k ⟨it.lo, it.hi, P'⟩) W' := by
  have hit := List.mem_of_getElem? e
  have hr := h.rng it hit
  refine ⟨h.below.trans (hw.below hr.1 (by omega)), ?_, ?_, ?_, ?_⟩
  · rw [List.pairwise_iff_getElem]
    intro i j hi hj hlt
    rw [List.length_set] at hi hj
    have hp := List.pairwise_iff_getElem.1 h.pw i j hi hj hlt
    obtain ⟨hk, e'⟩ := List.getElem?_eq_some_iff.1 e
    rw [List.getElem_set, List.getElem_set]
    split
    · rename_i hki
      cases hki
      rw [if_neg (by omega)]
      rw [e'] at hp; exact hp
    · split
      · rename_i hkj
        cases hkj
        rw [e'] at hp; exact hp
      · exact hp
  · intro x hx
    rcases mem_set_cases e hx with rfl | ⟨j, hj, f⟩
    · exact ⟨hr.1, hr.2.1, Nat.le_trans hr.2.2 hw.size⟩
    · have := h.rng x (List.mem_of_getElem? f)
      exact ⟨this.1, this.2.1, Nat.le_trans this.2.2 hw.size⟩
  · intro x hx
    rcases mem_set_cases e hx with rfl | ⟨j, hj, f⟩
    · exact ok
    · exact h.ok x (List.mem_of_getElem? f)
  · intro x hx
    rcases mem_set_cases e hx with rfl | ⟨j, hj, f⟩
    · exact hP
    · have hx := List.mem_of_getElem? f
      exact h.ok x hx W W' (h.rng x hx).2.2 (hw.stays (h.rng x hx).2.2 ((h.apart e f hj).symm)) (h.holds x hx)
end
section
variable {w w' : World} {lo hi g : Nat}
theorem OwnAt.stay {bs : List Blk} (h : OwnAt w g bs) (hb : w'.heap[g]? = w.heap[g]?) (hz : w.heap.size ≤ w'.heap.size) : OwnAt w' g bs := by
  refine ⟨Nat.lt_of_lt_of_le h.lt hz, fun k hk => ?_, fun o => ?_⟩
  · obtain ⟨h1, h2, h3⟩ := h.at_ k hk
    exact ⟨(World.cell?_of_block (w := w) (a := ⟨g, _, none⟩) hb).trans h1, (World.cell?_of_block (w := w) (a := ⟨g, _, none⟩) hb).trans h2, (World.cell?_of_block (w := w) (a := ⟨g, _, none⟩) hb).trans h3⟩
  · exact (World.frozen?_of_block (w := w) (a := ⟨g, o, none⟩) hb).trans (h.free o)
theorem OwnAtI.stay {zs : List Int} (h : OwnAtI w g zs) (hb : w'.heap[g]? = w.heap[g]?) (hz : w.heap.size ≤ w'.heap.size) : OwnAtI w' g zs :=
  ⟨Nat.lt_of_lt_of_le h.lt hz, fun k hk => (World.cell?_of_block (w := w) (a := ⟨g, _, none⟩) hb).trans (h.at_ k hk), fun o => (World.frozen?_of_block (w := w) (a := ⟨g, o, none⟩) hb).trans (h.free o)⟩
/-- Blocks in memory of their own. -/
def iBlks (lo hi : Nat) (s : Value) (bs : List Blk) : Item := ⟨lo, hi, fun W => ResR W lo hi s bs⟩
theorem iBlks_ok (lo hi : Nat) (s : Value) (bs : List Blk) : (iBlks lo hi s bs).Ok := fun W W' _ hs h => by
  rcases h with h | ⟨g, cap, rfl, h1, h2, ho⟩
  · exact .inl h
  · exact .inr ⟨g, cap, rfl, h1, h2, ho.stay (hs.2 g h1 h2) hs.1⟩
/-- Integers in memory of their own. -/
def iInts (lo hi : Nat) (s : Value) (zs : List Int) : Item := ⟨lo, hi, fun W => ResI W lo hi s zs⟩
theorem iInts_ok (lo hi : Nat) (s : Value) (zs : List Int) : (iInts lo hi s zs).Ok := fun W W' _ hs h => by
  rcases h with h | ⟨g, cap, rfl, h1, h2, ho⟩
  · exact .inl h
  · exact .inr ⟨g, cap, rfl, h1, h2, ho.stay (hs.2 g h1 h2) hs.1⟩
/-- Rows in memory of their own. -/
def ResH (W : World) (lo hi : Nat) (u : Value) (n : Nat) (F : Nat → List Int) : Prop :=
  (n = 0 ∧ ∃ a c, u = .slice a 0 c) ∨ ∃ G cap gs caps, u = .slice (some ⟨G, 0, none⟩) n cap ∧ lo ≤ G ∧ G < hi ∧ (∀ k, k < n → gs k < hi) ∧ SSR W lo G gs caps n F
theorem ResSS.resH {lo n : Nat} {u : Value} {F : Nat → List Int} (h : ResSS w lo u n F) : ResH w lo w.heap.size u n F := by
  rcases h with h | ⟨G, cap, gs, caps, rfl, hG, hS⟩
  · exact .inl h
  · exact .inr ⟨G, cap, gs, caps, rfl, hG, hS.lt, fun k hk => (hS.row k hk).lt, hS⟩
theorem ResH.slice {n : Nat} {u : Value} {F : Nat → List Int} (h : ResH w lo hi u n F) : ∃ a c, u = .slice a n c := by
  rcases h with ⟨rfl, a, c, rfl⟩ | ⟨G, cap, gs, caps, rfl, _⟩ <;> exact ⟨_, _, rfl⟩
theorem ResH.sb {n : Nat} {u : Value} {F : Nat → List Int} (h : ResH w lo hi u n F) (hn : n ≤ 1100000) (hF : ∀ k, k < n → (F k).length ≤ 1100000) : SSB w u n F := by
  rcases h with h | ⟨G, cap, gs, caps, rfl, hG, _, _, hS⟩
  · exact ⟨hn, .inl h⟩
  · exact hS.sb hn hF
def iRows (lo hi : Nat) (u : Value) (n : Nat) (F : Nat → List Int) : Item := ⟨lo, hi, fun W => ResH W lo hi u n F⟩
theorem iRows_ok (lo hi : Nat) (u : Value) (n : Nat) (F : Nat → List Int) : (iRows lo hi u n F).Ok := fun W W' hh hs h => by
  rcases h with h | ⟨G, cap, gs, caps, rfl, h1, h2, h3, hS⟩
  · exact .inl h
  · refine .inr ⟨G, cap, gs, caps, rfl, h1, h2, h3, fun k hk => ?_, fun k hk => (hS.row k hk).stay (hs.2 _ (hS.low k hk) (h3 k hk)) hs.1, hS.ne, hS.inc, hS.low, Nat.lt_of_lt_of_le hS.lt hs.1⟩
    exact (World.cell?_of_block (w := W) (a := ⟨G, k, none⟩) (hs.2 G h1 h2)).trans (hS.cell k hk)
/-- A variable that holds a system. -/
def iVar (X : Nat) (v : Int) (s : Value) : Item := ⟨X, X + 1, fun W => VarB W X v s⟩
theorem iVar_ok (X : Nat) (v : Int) (s : Value) : (iVar X v s).Ok := fun W W' _ hs h => by
  have hb := hs.2 X (Nat.le_refl _) (Nat.lt_succ_self _)
  exact ⟨Nat.lt_of_lt_of_le h.lt hs.1, (World.cell?_of_block (w := W) (a := ⟨X, 0, none⟩) hb).trans h.c0, (World.cell?_of_block (w := W) (a := ⟨X, 1, none⟩) hb).trans h.c1⟩
/-- A variable that holds a block. -/
structure VarA (W : World) (X : Nat) (x : Blk) : Prop where
  lt : X < W.heap.size
  c0 : W.cell? ⟨X, 0, none⟩ = some (.int .i64 x.a)
  c1 : W.cell? ⟨X, 1, none⟩ = some (.int .i64 x.b)
  c2 : W.cell? ⟨X, 2, none⟩ = some (.int .i64 x.c)
theorem VarA.new (W : World) (x : Blk) (T : TypeId) : VarA (W.alloc (.cells #[.int .i64 x.a, .int .i64 x.b, .int .i64 x.c] T)) W.heap.size x := ⟨by simp, by simp, by simp, by simp⟩
def iArr (X : Nat) (x : Blk) : Item := ⟨X, X + 1, fun W => VarA W X x⟩
theorem iArr_ok (X : Nat) (x : Blk) : (iArr X x).Ok := fun W W' _ hs h => by
  have hb := hs.2 X (Nat.le_refl _) (Nat.lt_succ_self _)
  exact ⟨Nat.lt_of_lt_of_le h.lt hs.1, (World.cell?_of_block (w := W) (a := ⟨X, 0, none⟩) hb).trans h.c0, (World.cell?_of_block (w := W) (a := ⟨X, 1, none⟩) hb).trans h.c1, (World.cell?_of_block (w := W) (a := ⟨X, 2, none⟩) hb).trans h.c2⟩
end
section
variable {w W W' : World} {L : List Item} {lo hi : Nat}
theorem Mem.var (h : Mem w L W) (k : Nat) {X : Nat} {v : Int} {s : Value} (e : L[k]? = some (iVar X v s)) : VarB W X v s := h.at k e
theorem Mem.arr (h : Mem w L W) (k : Nat) {X : Nat} {x : Blk} (e : L[k]? = some (iArr X x)) : VarA W X x := h.at k e
theorem Mem.blks (h : Mem w L W) (k : Nat) {s : Value} {bs : List Blk} (e : L[k]? = some (iBlks lo hi s bs)) : ResR W lo hi s bs := h.at k e
theorem Mem.ints (h : Mem w L W) (k : Nat) {s : Value} {zs : List Int} (e : L[k]? = some (iInts lo hi s zs)) : ResI W lo hi s zs := h.at k e
theorem Mem.rows (h : Mem w L W) (k : Nat) {u : Value} {n : Nat} {F : Nat → List Int} (e : L[k]? = some (iRows lo hi u n F)) : ResH W lo hi u n F := h.at k e
theorem Mem.pushVar (h : Mem w L W) (v : Int) (s : Value) (T : TypeId) : Mem w (iVar W.heap.size v s :: L) (W.alloc (.cells #[.int .i64 v, s] T)) :=
  h.push (gb_alloc1 W _) (iVar W.heap.size v s) (Nat.le_refl _) (Nat.le_succ _) (by simp [iVar]) (iVar_ok _ _ _) (VarB.new W v s T)
theorem Mem.pushArr (h : Mem w L W) (x : Blk) (T : TypeId) : Mem w (iArr W.heap.size x :: L) (W.alloc (.cells #[.int .i64 x.a, .int .i64 x.b, .int .i64 x.c] T)) :=
  h.push (gb_alloc1 W _) (iArr W.heap.size x) (Nat.le_refl _) (Nat.le_succ _) (by simp [iArr]) (iArr_ok _ _) (VarA.new W x T)
theorem Mem.pushB (h : Mem w L W) (hb : Below W.heap.size W W') {s : Value} {bs : List Blk} (hr : ResR W' W.heap.size W'.heap.size s bs) : Mem w (iBlks W.heap.size W'.heap.size s bs :: L) W' :=
  h.push (gb_below hb) (iBlks W.heap.size W'.heap.size s bs) (Nat.le_refl _) hb.size (Nat.le_refl _) (iBlks_ok _ _ _ _) hr
theorem Mem.pushI (h : Mem w L W) (hb : Below W.heap.size W W') {s : Value} {zs : List Int} (hr : ResI W' W.heap.size W'.heap.size s zs) : Mem w (iInts W.heap.size W'.heap.size s zs :: L) W' :=
  h.push (gb_below hb) (iInts W.heap.size W'.heap.size s zs) (Nat.le_refl _) hb.size (Nat.le_refl _) (iInts_ok _ _ _ _) hr
theorem Mem.pushH (h : Mem w L W) (hb : Below W.heap.size W W') {u : Value} {n : Nat} {F : Nat → List Int} (hr : ResH W' W.heap.size W'.heap.size u n F) : Mem w (iRows W.heap.size W'.heap.size u n F :: L) W' :=
  h.push (gb_below hb) (iRows W.heap.size W'.heap.size u n F) (Nat.le_refl _) hb.size (Nat.le_refl _) (iRows_ok _ _ _ _ _) hr
theorem Mem.markB (h : Mem w L W) (k : Nat) {s : Value} {bs : List Blk} (e : L[k]? = some (iBlks lo hi s bs)) (hw : ∃ row, W.grownBy W' row ∧ ∀ r, row = some r → lo ≤ r ∧ r < hi) {bs' : List Blk} (hP : ResR W' lo hi s bs') : Mem w (L.set k (iBlks lo hi s bs')) W' := by
  obtain ⟨row, hg, hr⟩ := hw
  exact h.mark k e (OnlyIn.of_grown hg hr) (iBlks_ok lo hi s bs') hP
theorem Mem.markI (h : Mem w L W) (k : Nat) {s : Value} {zs : List Int} (e : L[k]? = some (iInts lo hi s zs)) (hw : ∃ row, W.grownBy W' row ∧ ∀ r, row = some r → lo ≤ r ∧ r < hi) {zs' : List Int} (hP : ResI W' lo hi s zs') : Mem w (L.set k (iInts lo hi s zs')) W' := by
  obtain ⟨row, hg, hr⟩ := hw
  exact h.mark k e (OnlyIn.of_grown hg hr) (iInts_ok lo hi s zs') hP
theorem Mem.markH (h : Mem w L W) (k : Nat) {u : Value} {n : Nat} {F : Nat → List Int} (e : L[k]? = some (iRows lo hi u n F)) (hw : OnlyIn lo hi W W') {F' : Nat → List Int} (hP : ResH W' lo hi u n F') : Mem w (L.set k (iRows lo hi u n F')) W' :=
  h.mark k e hw (iRows_ok lo hi u n F') hP
theorem OwnAtI.res {g cap : Nat} {zs : List Int} (h : OwnAtI w g zs) {lo : Nat} (hl : lo ≤ g) : ResI w lo w.heap.size (.slice (some ⟨g, 0, none⟩) zs.length cap) zs := .inr ⟨g, cap, rfl, hl, h.lt, h⟩
end
end Go.Proofs.Ytiomdfhhejdoiaa


/- A region that draws its order and whose last operation writes a cell that it loads: what the loads read must hold till the last operation alone. The model's FillSystem. How the laws' arguments are read. -/
import Derived.Test.YtiomdfhhejdoiaaJ10
import Derived.Deep.RegionHeld3
import Derived.Deep.Cut
import Derived.Deep.DeepCutAuto
import Derived.Test.YtiomdfhhejdoiaaRows
import Derived.ProofKit
import Derived.OpenShut
import Derived.Deep.Slices
import Derived.Lib.SmallJoins
import Derived.ChangeOld
namespace Go.Proofs.Ytiomdfhhejdoiaa
section
variable {P : Program} {ops : Array Oper} {Q : Exit → Act → World → Prop} {md : Region.Mode} {S : World → Prop}
/-- Whatever order is picked from here on; S holds behind every operation but the last one. -/
def wpAnyB (P : Program) (md : Region.Mode) (ops : Array Oper) (Q : Exit → Act → World → Prop) (S : World → Prop) : Nat → Array Bool → Act → World → Prop
  | 0, listed, a, w => Region.ready md ops listed = [] ∧ Q .normal a w
  | fuel + 1, listed, a, w =>
    (Region.ready md ops listed = [] → Q .normal a w) ∧
    ∀ i ∈ Region.ready md ops listed, wpOp P ops Q i (fun a' w' => ((∃ k, (listed.setIfInBounds i true).getD k true = false) → S w') ∧ wpAnyB P md ops Q S fuel (listed.setIfInBounds i true) a' w') a w
theorem wpAny_of_B : ∀ (fuel : Nat) (listed : Array Bool) (a : Act) (w : World), wpAnyB P md ops Q S fuel listed a w → wpAny P md ops Q fuel listed a w
  | 0, _, _, _, h => h
  | fuel + 1, _, _, _, h => ⟨h.1, fun i hi => wpOp_mono (fun a' w' h' => wpAny_of_B fuel _ a' w' h'.2) (h.2 i hi)⟩
/-- An operation that somebody else waits for may be taken first where S holds till the last operation. -/
theorem wpAnyB_first {i k : Nat} {oi ok : Oper} {v : Value} (hi : ops[i]? = some oi) (hk : ops[k]? = some ok) (hki : ∃ e ∈ ok.after, Region.binds md e = true ∧ e.on = i) (hsel : ∀ (j : Nat) (o : Oper) cs b, ops[j]? = some o → o.op ≠ .select cs b)
    (hQ : ∀ c a w, Q (.panic c) (a.put oi.dst v) w → Q (.panic c) a w) :
    ∀ (fuel : Nat) (listed : Array Bool) (a : Act) (w : World),
      (∀ j oj, ops[j]? = some oj → j ≠ i → listed.getD j true = false → (∀ e ∈ oj.after, Region.binds md e = true → e.on ≠ i) → oi.apart ops oj = true) →
      i ∈ Region.ready md ops listed → listed.getD k true = false → i ≠ k → YieldsIf P ops S oi v a → S w →
      wpAnyB P md ops Q S fuel (listed.setIfInBounds i true) (a.put oi.dst v) w → wpAnyB P md ops Q S (fuel + 1) listed a w := by
  intro fuel
  induction fuel with
  | zero =>
    intro listed a w _ hr hku hik hy hS H
    refine ⟨fun h => (by rw [h] at hr; cases hr), fun j hj => ?_⟩
    by_cases hji : j = i
    · subst hji; exact hy.wpOp hi hS ⟨fun _ => hS, H⟩
    · have := ready_mono hj hji
      rw [H.1] at this
      cases this
  | succ fuel ih =>
    intro listed a w hfree hr hku hik hy hS H
    refine ⟨fun h => (by rw [h] at hr; cases hr), fun j hj => ?_⟩
    by_cases hji : j = i
    · subst hji; exact hy.wpOp hi hS ⟨fun _ => hS, H⟩
    · have h1 := H.2 j (ready_mono hj hji)
      obtain ⟨hjun, oj, hoj, hall⟩ := mem_ready.1 hj
      have hnot : ∀ e ∈ oj.after, Region.binds md e = true → e.on ≠ i := fun e he hb heq => by
        have h1 := hall e he hb
        have h0 := (mem_ready.1 hr).1
        rw [heq] at h1
        rcases Nat.lt_or_ge i listed.size with h' | h'
        · simp [h'] at h0 h1; rw [h0] at h1; cases h1
        · simp [Array.getElem?_eq_none h'] at h1
      have hjk : j ≠ k := fun e => by
        subst e
        rw [hk] at hoj
        cases hoj
        obtain ⟨e, he, hb, hon⟩ := hki
        exact hnot e he hb hon
      have h2 := wpOp_putIf hoj (hfree j oj hoj hji hjun hnot) (fun cs b => hsel i oi cs b hi) (fun cs b => hsel j oj cs b hoj) hQ hy h1
      have hfree' : ∀ k ok, ops[k]? = some ok → k ≠ i → (listed.setIfInBounds j true).getD k true = false →
          (∀ e ∈ ok.after, Region.binds md e = true → e.on ≠ i) → oi.apart ops ok = true := fun k ok hk hki hun hno => by
        refine hfree k ok hk hki ?_ hno
        by_cases hjk : j = k
        · subst hjk; exact hjun
        · rw [getD_set_ne true hjk] at hun; exact hun
      have hku' : (listed.setIfInBounds j true).getD k true = false := by rw [getD_set_ne true hjk]; exact hku
      refine wpOp_mono (fun a' w' h3 => ?_) h2
      have hS' : S w' := h3.2.1 ⟨k, by rw [getD_set_ne true hjk, getD_set_ne true hik]; exact hku⟩
      refine ⟨fun _ => hS', ih (listed.setIfInBounds j true) a' w' hfree' (ready_mono hr (Ne.symm hji)) hku' hik h3.1 hS' ?_⟩
      rw [Array.setIfInBounds_comm _ _ hji]
      exact h3.2.2
theorem get_of_drop {ops : Array Oper} {i : Nat} {o : Oper} {r : List Oper} (h : ops.toList.drop i = o :: r) : ops[i]? = some o := by
  have : (ops.toList.drop i)[0]? = some o := by rw [h]; rfl
  rw [List.getElem?_drop] at this
  simpa using this
/-- Somebody who has not come up waits for number i. -/
def waits (md : Region.Mode) (ops : Array Oper) (listed : Array Bool) (i : Nat) : Bool :=
  (List.range ops.size).any fun k => k != i && !listed.getD k true && match ops[k]? with
    | some ok => ok.after.any fun e => Region.binds md e && e.on == i
    | none => false
theorem wpAnyB_take {i : Nat} {oi : Oper} {r : List Oper} {v : Value} {fuel : Nat} {listed : Array Bool} {a : Act} {w : World} (hi : ops.toList.drop i = oi :: r)
    (hs : Region.noSelect ops = true) (hf : Region.free md ops listed i = true) (hr : (Region.ready md ops listed).contains i = true) (hw : waits md ops listed i = true)
    (hQ : ∀ c a w, Q (.panic c) (a.put oi.dst v) w → Q (.panic c) a w) (hy : YieldsIf P ops S oi v a) (hS : S w)
    (h : wpAnyB P md ops Q S fuel (listed.setIfInBounds i true) (a.put oi.dst v) w) : wpAnyB P md ops Q S (fuel + 1) listed a w := by
  unfold waits at hw
  rw [List.any_eq_true] at hw
  obtain ⟨k, _, hk⟩ := hw
  rw [Bool.and_eq_true, Bool.and_eq_true] at hk
  obtain ⟨⟨hki, hku⟩, hk⟩ := hk
  cases hok : ops[k]? with
  | none => rw [hok] at hk; cases hk
  | some ok =>
    rw [hok] at hk
    obtain ⟨e, he, hb⟩ := Array.any_eq_true'.1 hk
    simp only [Bool.and_eq_true, beq_iff_eq] at hb
    exact wpAnyB_first (get_of_drop hi) hok ⟨e, he, hb⟩ (Region.noSelect_spec hs) hQ fuel listed a w (Region.free_spec (get_of_drop hi) hf) (by simpa using hr) (by simpa using hku) (fun e => by simp [e] at hki) hy hS h
def AllReadyB (P : Program) (md : Region.Mode) (ops : Array Oper) (Q : Exit → Act → World → Prop) (S : World → Prop) (fuel : Nat) (listed : Array Bool) (a : Act) (w : World) (rs : List Nat) : Prop :=
  ∀ i ∈ rs, wpOp P ops Q i (fun a' w' => ((∃ k, (listed.setIfInBounds i true).getD k true = false) → S w') ∧ wpAnyB P md ops Q S fuel (listed.setIfInBounds i true) a' w') a w
theorem AllReadyB.nil {fuel : Nat} {listed : Array Bool} {a : Act} {w : World} : AllReadyB P md ops Q S fuel listed a w [] := fun _ h => by cases h
theorem AllReadyB.cons {fuel : Nat} {listed : Array Bool} {a : Act} {w : World} {i : Nat} {o : Oper} {r : List Oper} {rs : List Nat} (ho : ops.toList.drop i = o :: r)
    (h : ∀ K' : Act → World → Prop, Shut (∀ a w, S w → (S w → wpAnyB P md ops Q S fuel (listed.setIfInBounds i true) a w) → K' a w) → if Region.wanted o (yielded ops a.tmps) = true then Oper.wp P o a w K' Q else K' (a.put o.dst undef) w)
    (hs : AllReadyB P md ops Q S fuel listed a w rs) : AllReadyB P md ops Q S fuel listed a w (i :: rs) := fun j hj => by
  rcases List.mem_cons.1 hj with rfl | hj
  · exact wpOp_step (get_of_drop ho) (fun K' hK => h K' (fun a w hS hW => hK a w ⟨fun _ => hS, hW hS⟩))
  · exact hs j hj
/-- The last operation: nothing is to be shown behind it but the post. -/
theorem AllReadyB.last {fuel : Nat} {listed : Array Bool} {a : Act} {w : World} {i : Nat} {o : Oper} {r : List Oper} (ho : ops.toList.drop i = o :: r) (hl : (listed.setIfInBounds i true).toList.all id = true) (hr : Region.ready md ops (listed.setIfInBounds i true) = [])
    (h : ∀ K' : Act → World → Prop, Shut (∀ a w, Q .normal a w → K' a w) → if Region.wanted o (yielded ops a.tmps) = true then Oper.wp P o a w K' Q else K' (a.put o.dst undef) w) : AllReadyB P md ops Q S fuel listed a w [i] := fun j hj => by
  have e := List.mem_singleton.1 hj
  subst e
  refine wpOp_step (get_of_drop ho) (fun K' hK => h K' (fun a w hq => hK a w ⟨fun ⟨k, hk⟩ => ?_, ?_⟩))
  · exfalso
    rw [Array.getD_eq_getD_getElem?] at hk
    cases hg : (listed.setIfInBounds j true)[k]? with
    | none => rw [hg] at hk; cases hk
    | some b =>
      rw [hg] at hk
      have hb : b = false := hk
      subst hb
      have := List.all_eq_true.1 hl false (by rw [Array.mem_toList_iff]; exact Array.mem_of_getElem? hg)
      cases this
  · cases fuel with
    | zero => exact ⟨hr, hq⟩
    | succ f => exact ⟨fun _ => hq, by rw [hr]; simp⟩
theorem wpAnyB_ready {rs : List Nat} {fuel : Nat} {listed : Array Bool} {a : Act} {w : World} (hr : Region.ready md ops listed = rs) (hne : rs ≠ [])
    (h : AllReadyB P md ops Q S fuel listed a w rs) : wpAnyB P md ops Q S (fuel + 1) listed a w :=
  ⟨fun h0 => absurd (hr ▸ h0) hne, hr ▸ h⟩
theorem wp_region_B {id : Nat} {a : Act} {w : World} (n : Nat) (hm : P.follows .mixedOrders = true) (hn : ops.size = n)
    (h : wpAnyB P .any ops Q S n (Array.replicate n false) a w.drew) : (Code.region id ops true).wp P Q a w := by
  subst hn
  exact wp_region_any hm (wpAny_of_B _ _ _ _ h)
end
end Go.Proofs.Ytiomdfhhejdoiaa

namespace Go.Proofs.Ytiomdfhhejdoiaa
open Go.RowKit Go.Maps Go.Shelf
/-- A system in a variable. -/
def SysB (W : World) (B : Nat) (v : Int) (s : Value) : Prop := W.heap[B]? = some (.cells #[.int .i64 v, s] 31 (0, 0))
theorem SysB.cells {W : World} {B : Nat} {v : Int} {s : Value} (h : SysB W B v s) : W.cell? ⟨B, 0, none⟩ = some (.int .i64 v) ∧ W.cell? ⟨B, 1, none⟩ = some s ∧ B < W.heap.size := by
  have : W.heap[B]? = _ := h
  refine ⟨by simp [World.cell?, this], by simp [World.cell?, this], (Array.getElem?_eq_some_iff.1 this).1⟩
theorem SysB.kept {W W' : World} {B : Nat} {v : Int} {s : Value} {row : Option Nat} (h : SysB W B v s) (hg : W.grownBy W' row) (hr : some B ≠ row) : SysB W' B v s := (hg.block B h.cells.2.2 hr).trans h
theorem SysB.set2 {W : World} {X : Nat} {v0 v : Int} {u0 : Value} (h : SysB W X v0 u0) (u : Value) : SysB ((W.setCell ⟨X, 0, none⟩ (.int .i64 v)).setCell ⟨X, 1, none⟩ u) X v u := by
  unfold SysB at *
  have h1 := heap_setCell_same W X 0 _ _ (.int .i64 v) h
  have h2 := heap_setCell_same _ X 1 _ _ u h1
  simpa using h2
theorem SysB.fr {W : World} {X : Nat} {v : Int} {u : Value} (h : SysB W X v u) (i : Nat) : W.frozen? ⟨X, i, none⟩ = false := by
  unfold SysB at h
  simp [World.frozen?, h]
theorem SysB.low {W W' : World} {X : Nat} {v : Int} {u : Value} (h : SysB W X v u) (hb : Below W.heap.size W W') : SysB W' X v u := h.kept (gb_below hb) (fun e => by cases e)
theorem SysB.drw {W : World} {X : Nat} {v : Int} {u : Value} (h : SysB W X v u) : SysB W.drew X v u := h
theorem ResR.sxR {W : World} {lo hi : Nat} {u : Value} {bs : List Blk} (h : ResR W lo hi u bs) : SX W u bs := by
  rcases h with ⟨rfl, a, c, rfl⟩ | ⟨g, cap, rfl, _, _, ho⟩
  · exact .inl ⟨a, c, rfl, rfl⟩
  · exact .inr ⟨g, 0, cap, rfl, ho.lt, ho.at_⟩
/-- The memory of the walk: the argument's box, the result's, the variable X for what is filled, the list of blocks. -/
structure FilW (w W : World) (v : Int) (s : Value) (X : Nat) (rv : Value) (R : List Blk) (u : Value) (out : List Blk) : Prop where
  bel : Below w.heap.size w W
  six : Six W w.heap.size v s
  hX : w.heap.size + 1 < X
  xb : SysB W X v u
  rest : OwnR W (w.heap.size + 2) rv R
  rne : rv.ownBlock ≠ some X
  own : ∃ lo hi, ResR W lo hi u out ∧ w.heap.size + 2 ≤ lo ∧ hi ≤ W.heap.size ∧ (X < lo ∨ hi ≤ X)
section
variable {w W W2 : World} {v : Int} {s : Value} {X : Nat} {rv : Value} {R : List Blk} {u : Value} {out : List Blk}
theorem FilW.step (h : FilW w W v s X rv R u out) (hb : Below W.heap.size W W2) : FilW w W2 v s X rv R u out := by
  obtain ⟨lo, hi, h1, h2, h3, h4⟩ := h.own
  exact ⟨h.bel.trans (hb.mono h.bel.size), keep6 h.six (gb_below hb) (by simp), h.hX, h.xb.low hb, h.rest.below hb (Nat.le_refl _), h.rne, lo, hi, h1.kept (gb_below hb) (by simp), h2, Nat.le_trans h3 hb.size, h4⟩
theorem FilW.store (h : FilW w W v s X rv R u out) (hb : Below W.heap.size W W2) {u2 : Value} {out2 : List Blk} (hr : ResR W2 W.heap.size W2.heap.size u2 out2) : FilW w ((W2.setCell ⟨X, 0, none⟩ (.int .i64 v)).setCell ⟨X, 1, none⟩ u2) v s X rv R u2 out2 := by
  have h2 := h.step hb
  have hXl := h.xb.cells.2.2
  have hX := h.hX
  have hz := h.bel.size
  have gb := gb_set2 W2 X (.int .i64 v) u2
  exact ⟨below_set2 h2.bel (by omega) _ _, keep6 h2.six gb (fun r e => by cases e; exact hX), hX, h2.xb.set2 u2, h2.rest.apart gb (fun r e e2 => h.rne (by rw [e, ← e2])), h.rne, W.heap.size, W2.heap.size, hr.kept gb (fun r e => by cases e; exact .inl hXl), by omega, by simp [World.setCell], .inl hXl⟩
end
/-- Behind the statement that makes the variable. -/
def FilRel (w : World) (v : Int) (s : Value) (m : Nat) (R bs : List Blk) (rv bx : Value) (W : World) : Prop :=
  ∃ X a c u, rv = .slice a m c ∧ bx = .pointer (some ⟨X, 0, none⟩) ∧ FilW w W v s X (.slice a m c) R u bs
theorem FilRel.drew {w W : World} {v : Int} {s : Value} {m : Nat} {R bs : List Blk} {rv bx : Value} (h : FilRel w v s m R bs rv bx W) : FilRel w v s m R bs rv bx W.drew := by
  obtain ⟨X, a, c, u, h1, h2, h3⟩ := h
  exact ⟨X, a, c, u, h1, h2, h3.step ((Below.refl _ _).drew)⟩
section
variable {w W1 W2 W3 : World} {v : Int} {s : Value} {m c : Nat} {a : Option Addr} {R bs : List Blk} {u : Value}
/-- The variable was made behind both calls. -/
theorem FilRel.late (hb : Below w.heap.size w W1) (h6 : Six W1 w.heap.size v s) (hlt : w.heap.size + 1 < W1.heap.size) (hR : OwnR W2 W1.heap.size (.slice a m c) R) (hb2 : Below W1.heap.size W1 W2) (hC : ResR W3 W2.heap.size W3.heap.size u bs) (hb3 : Below W2.heap.size W2 W3) :
    FilRel w v s m R bs (.slice a m c) (.pointer (some ⟨W3.heap.size, 0, none⟩)) (W3.alloc (.cells #[.int .i64 v, u] 31)) := by
  have hz2 := hb2.size
  have hz3 := hb3.size
  have hb13 : Below W1.heap.size W1 W3 := hb2.trans (hb3.mono hz2)
  have hal : W3.grownBy (W3.alloc (.cells #[.int .i64 v, u] 31)) none := World.grownBy_alloc _ _ none
  exact ⟨W3.heap.size, a, c, u, rfl, rfl, (hb.trans (hb13.mono hb.size)).alloc (by omega) _, keep6 (keep6 h6 (gb_below hb13) (by simp)) hal (by simp), by omega, World.alloc_heap_new W3 _, ownsRow_base ((hR.below hb3 (Nat.le_refl _)).kept hal (by simp)) (by omega), fun e => by have := ((hR.below hb3 (Nat.le_refl _)).lt _ e).2; omega, W2.heap.size, W3.heap.size, hC.kept hal (by simp), by omega, by simp, .inr (Nat.le_refl _)⟩
/-- The variable was made ahead of the copy (and of the list, where Y is W1's size). -/
theorem FilRel.early {X : Nat} (hb : Below w.heap.size w W1) (h6 : Six W1 w.heap.size v s) (hlt : w.heap.size + 1 < W1.heap.size) (hb2 : Below W1.heap.size W1 W2) (hz : SysB W2 X 0 (.slice none 0 0)) (hX : W1.heap.size ≤ X) (hR : OwnR W2 W1.heap.size (.slice a m c) R) (hne : (Value.slice a m c).ownBlock ≠ some X) (hC : ResR W3 W2.heap.size W3.heap.size u bs) (hb3 : Below W2.heap.size W2 W3) :
    FilRel w v s m R bs (.slice a m c) (.pointer (some ⟨X, 0, none⟩)) ((W3.setCell ⟨X, 0, none⟩ (.int .i64 v)).setCell ⟨X, 1, none⟩ u) := by
  have hz2 := hb2.size
  have hz3 := hb3.size
  have hXl := hz.cells.2.2
  have hb13 : Below W1.heap.size W1 W3 := hb2.trans (hb3.mono hz2)
  have gb := gb_set2 W3 X (.int .i64 v) u
  exact ⟨X, a, c, u, rfl, rfl, below_set2 (hb.trans (hb13.mono hb.size)) (by omega) _ _, keep6 (keep6 h6 (gb_below hb13) (by simp)) gb (fun r e => by cases e; omega), by omega, (hz.low hb3).set2 u, ownsRow_base ((hR.below hb3 (Nat.le_refl _)).apart gb (fun r e e2 => hne (by rw [e, ← e2]))) (by omega), hne, W2.heap.size, W3.heap.size, hC.kept gb (fun r e => by cases e; exact .inl hXl), by omega, by simp [World.setCell], .inl hXl⟩
end
/-- What the loads of the last region read. -/
def Fil8 (w W0 : World) (v : Int) (X b o : Nat) (xa xb xc : Int) (s : Value) (W : World) : Prop := W.cell? ⟨w.heap.size, 0, none⟩ = some (.int .i64 v) ∧ W.cell? ⟨b, o, none⟩ = some (.int .i64 xa) ∧ W.cell? ⟨b, o + 1, none⟩ = some (.int .i64 xb) ∧ W.cell? ⟨b, o + 2, none⟩ = some (.int .i64 xc) ∧ W.cell? ⟨X, 1, none⟩ = some s
theorem Fil8.of {w W0 W : World} {v : Int} {X b o : Nat} {xa xb xc : Int} {s : Value} (H : ∀ W', Below W0.heap.size W0 W' → W'.cell? ⟨w.heap.size, 0, none⟩ = some (.int .i64 v) ∧ W'.cell? ⟨b, o, none⟩ = some (.int .i64 xa) ∧ W'.cell? ⟨b, o + 1, none⟩ = some (.int .i64 xb) ∧ W'.cell? ⟨b, o + 2, none⟩ = some (.int .i64 xc) ∧ W'.cell? ⟨X, 0, none⟩ = some (.int .i64 v) ∧ W'.cell? ⟨X, 1, none⟩ = some s ∧ W'.frozen? ⟨X, 0, none⟩ = false ∧ W'.frozen? ⟨X, 1, none⟩ = false) (hb : Below W0.heap.size W0 W) : Fil8 w W0 v X b o xa xb xc s W := by
  obtain ⟨h0, h1, h2, h3, _, h5, _, _⟩ := H W hb
  exact ⟨h0, h1, h2, h3, h5⟩
theorem fillF_len (v : Int) (bs : List Blk) : (fillF v bs).2.1.length ≤ 5000 := by
  unfold fillF
  split
  · rename_i h
    obtain ⟨h3, h15, hb⟩ := sys_size h
    show (sortB (fillGo bs (restA bs v.toNat v.toNat))).length ≤ 5000
    rw [sortB_length]
    have h1 := fillGo_len (restA bs v.toNat v.toNat) bs
    have h2 := restA_len (v := v.toNat) (by omega) bs
    omega
  · simp
theorem fillF_wf (v : Int) (bs : List Blk) : ∀ y ∈ (fillF v bs).2.1, WFB y := by
  unfold fillF
  split
  · rename_i h
    obtain ⟨h3, h15, hb⟩ := sys_size h
    intro y hy
    have hy : y ∈ sortB (fillGo bs (restA bs v.toNat v.toNat)) := hy
    rw [sortB_mem] at hy
    refine good_wf (v := v) (fillGo_good (v := v) _ _ (fun z hz => ?_) (sys_good h) y hy) h15
    have := restA_good z hz
    rw [show ((v.toNat : Nat) : Int) = v by omega] at this
    exact this
  · simp
set_option maxRecDepth 100000 in
set_option maxHeartbeats 8000000 in
theorem specFillSystem_any (v : Int) (s : Value) (bs : List Blk) (w : World) (h : SB w s bs) :
    Calls Try.prog 23 #[.agg #[.int .i64 v, s]] w (RSys (fillF v bs) w) := by
  have hs := h.slice
  have HI := Lib.hid fun W (hb : Below w.heap.size w W) => l01Is_any v s bs W (h.below hb (Nat.le_refl _))
  have HSB := Lib.hid h
  clear h
  obtain ⟨a0, c0, rfl⟩ := hs
  cases hi : isSysImpl v bs with
  | false =>
    have hval : fillF v bs = (0, [], 1) := by simp [fillF, hi]
    rw [hval]
    rw [hi] at HI
    clear hval hi HSB
    go_enter Try.func23, Try.ntmps23
    go_wp2_with (go_at_call 45; refine (HI.out _ (below2 _ _ _ _)).mono ?_; rintro e w1 ⟨rfl, hb1⟩; obtain ⟨_, _, d0, d1, f0, f1, hbw, hlt⟩ := boxes2 hb1)
    exact bodyPost_ret (v := .tuple #[.agg #[.int .i64 0, .slice none 0 0], .int .i64 1]) (by simp [results, Try.results23, go_sem, *]) rfl ⟨_, rfl, .inl ⟨rfl, _, _, rfl⟩, below_set2 hbw (by omega) _ _⟩
  | true =>
    obtain ⟨hv3, hv15, hb35⟩ := sys_size hi
    rw [hi] at HI
    have hval : fillF v bs = (v, sortB (fillGo bs (restA bs v.toNat v.toNat)), 0) := by simp [fillF, hi]
    rw [hval]
    obtain ⟨vn, hvn⟩ : ∃ vn : Nat, v = (vn : Int) := ⟨v.toNat, by omega⟩
    have evn : v.toNat = vn := by omega
    rw [evn]
    have HR := Lib.hid fun W (hb : Below w.heap.size w W) => l01Rest_any vn (by omega) (.slice a0 bs.length c0) bs W (HSB.out.below hb (Nat.le_refl _))
    rw [← hvn] at HR
    have HC := Lib.hid fun W (hb : Below w.heap.size w W) => l01Copy_any v (.slice a0 bs.length c0) bs W (HSB.out.below hb (Nat.le_refl _))
    have HRG := Lib.hid (show ∀ x ∈ restA bs vn vn, goodB v x = true from fun x hx => by rw [hvn]; exact restA_good x hx)
    have hRl := restA_len (v := vn) (by omega) bs
    have HGD := Lib.hid (sys_good hi)
    have HSRT := Lib.hid (show sortB bs = bs from sortB_eq (strict_srt (sys_strict hi)) (List.Perm.refl _))
    obtain ⟨R, hR⟩ : ∃ R, R = restA bs vn vn := ⟨_, rfl⟩
    rw [← hR] at HR HRG hRl ⊢
    obtain ⟨m, hm⟩ : ∃ m, m = R.length := ⟨_, rfl⟩
    have HM := Lib.hid hm
    rw [← hm] at hRl
    clear hval hi evn hR hm hvn
    go_enter Try.func23, Try.ntmps23
    go_wp2_with fail
    refine (HI.out _ (below2 _ _ _ _)).mono ?_
    rintro e w1 ⟨rfl, hb1⟩
    obtain ⟨p0, p1, d0, d1, f0, f1, hbw, hlt⟩ := boxes2 hb1
    have HS6 := Lib.hid (show Six w1 w.heap.size v (.slice a0 bs.length c0) from ⟨p0, p1, d0, d1, f0, f1⟩)
    have HBW := Lib.hid hbw
    have hlt0 : w.heap.size < w1.heap.size := by omega
    have hne1 : ¬ w1.heap.size = w.heap.size := by omega
    clear hb1
    go_upto_region 3 with fail
    go_cut [4, 5] (fun rv bx wx => FilRel w v (.slice a0 bs.length c0) m R bs rv bx wx)
    case first =>
      go_region_held3 (fun w' => w'.cell? ⟨w.heap.size, 0, none⟩ = some (.int .i64 v) ∧ w'.cell? ⟨w.heap.size, 1, none⟩ = some (.slice a0 bs.length c0))
        (first
          | exact ⟨B0, B1⟩
          | exact ⟨A0, A1⟩
          | exact ⟨keepset A0 (by omega), keepset A1 (by omega)⟩
          | exact ⟨keepset B0 (by omega), keepset B1 (by omega)⟩
          | go_keep)
        (first
          | (go_at_call 51; refine (HR.out _ (by first | exact HBW.out | exact HBW.out.drew | exact HBW.out.alloc HBW.out.size _ | exact (HBW.out.alloc HBW.out.size _).drew)).mono ?_; rintro e w3 ⟨u3, rfl, hO3, hb3⟩; (obtain ⟨a3, c3, hu3⟩ := hO3.form); rw [← HM.out] at hu3; subst hu3; have hb3' : Below w1.heap.size w1 w3 := (by first | exact hb3 | exact ((Below.refl _ _).drew).trans (hb3.mono (by simp)) | exact ((Below.refl _ _).alloc (Nat.le_refl _) _).trans (hb3.mono (by simp)) | exact (((Below.refl _ _).alloc (Nat.le_refl _) _).drew).trans (hb3.mono (by simp))); have A0 := (hb3'.cell (p := ⟨w.heap.size, 0, none⟩) hlt0).trans p0; have A1 := (hb3'.cell (p := ⟨w.heap.size, 1, none⟩) hlt0).trans p1; have hO3' : OwnR w3 w1.heap.size (.slice a3 m c3) R := (by first | exact hO3 | exact ownsRow_base hO3 (by simp)); have hz3 := hb3'.size; have hne3 : ¬ w3.heap.size = w.heap.size := (by omega); (first | (have BX := Lib.hid (And.intro (SysB.low (X := w1.heap.size) (v := 0) (u := .slice none 0 0) (World.alloc_heap_new w1.drew (.cells #[.int .i64 0, .slice none 0 0] 31)) hb3) (show (Value.slice a3 m c3).ownBlock ≠ some w1.heap.size from fun e => by have := (hO3.lt _ e).1; simp at this; omega))) | (have BX := Lib.hid (And.intro (SysB.low (X := w1.heap.size) (v := 0) (u := .slice none 0 0) (World.alloc_heap_new w1 (.cells #[.int .i64 0, .slice none 0 0] 31)) hb3) (show (Value.slice a3 m c3).ownBlock ≠ some w1.heap.size from fun e => by have := (hO3.lt _ e).1; simp at this; omega))) | skip))
          | (go_at_call 53; refine (HC.out _ (by first | exact HBW.out.trans (hb3'.mono HBW.out.size) | exact (HBW.out.trans (hb3'.mono HBW.out.size)).drew | exact (HBW.out.trans (hb3'.mono HBW.out.size)).alloc (by omega) _ | exact ((HBW.out.trans (hb3'.mono HBW.out.size)).alloc (by omega) _).drew)).mono ?_; rintro e w4 ⟨u4, rfl, hC4, hb4⟩; (obtain ⟨a4, c4, hu4⟩ := hC4.slice); subst hu4; have hb4' : Below w3.heap.size w3 w4 := (by first | exact hb4 | exact ((Below.refl _ _).drew).trans (hb4.mono (by simp)) | exact ((Below.refl _ _).alloc (Nat.le_refl _) _).trans (hb4.mono (by simp)) | exact (((Below.refl _ _).alloc (Nat.le_refl _) _).drew).trans (hb4.mono (by simp))); have B0 := (hb4'.cell (p := ⟨w.heap.size, 0, none⟩) (by show w.heap.size < _; omega)).trans A0; have B1 := (hb4'.cell (p := ⟨w.heap.size, 1, none⟩) (by show w.heap.size < _; omega)).trans A1; have hz4 := hb4'.size; (first | (have BZ := BX.out.1.low hb4') | (have BZ := SysB.low (X := w3.heap.size) (v := 0) (u := .slice none 0 0) (World.alloc_heap_new w3 (.cells #[.int .i64 0, .slice none 0 0] 31)) hb4) | skip); (try (obtain ⟨z0, z1, _⟩ := BZ.cells)); (try (have z2 := BZ.fr 0)); (try (have z3 := BZ.fr 1))))
      all_goals
        go_wp2_with fail
        go_meet
        first
          | exact FilRel.early HBW.out HS6.out hlt hb3' BX.out.1 (Nat.le_refl _) hO3' BX.out.2 (hC4.wide (by simp) (Nat.le_refl _)) hb4'
          | exact (FilRel.early HBW.out HS6.out hlt hb3' BX.out.1 (Nat.le_refl _) hO3' BX.out.2 (hC4.wide (by simp) (Nat.le_refl _)) hb4').drew
          | exact FilRel.late HBW.out HS6.out hlt hO3' hb3' (hC4.wide (by first | exact Nat.le_refl _ | simp) (Nat.le_refl _)) hb4'
          | exact (FilRel.late HBW.out HS6.out hlt hO3' hb3' (hC4.wide (by first | exact Nat.le_refl _ | simp) (Nat.le_refl _)) hb4').drew
          | exact FilRel.early (W2 := w3.alloc (.cells #[.int .i64 0, .slice none 0 0] 31)) HBW.out HS6.out hlt (hb3'.alloc hz3 _) (World.alloc_heap_new w3 _) hz3 (hO3'.kept (World.grownBy_alloc _ _ none) (by simp)) (fun e => by have := (hO3'.lt _ e).2; omega) hC4 hb4
          | exact FilRel.early (W2 := w3.alloc (.cells #[.int .i64 0, .slice none 0 0] 31)) HBW.out HS6.out hlt (hb3'.alloc hz3 _) (World.alloc_heap_new w3 _) hz3 (hO3'.kept (World.grownBy_alloc _ _ none) (by simp)) (fun e => by have := (hO3'.lt _ e).2; omega) (hC4.wide (by simp) (Nat.le_refl _)) (((Below.refl _ _).drew).trans (by simpa using hb4))
    case rest =>
    obtain ⟨X, a4, c4, u0, rfl, rfl, hF0⟩ := hcut
    obtain ⟨W1, rfl⟩ : ∃ W, W = wc := ⟨_, rfl⟩
    have HF0 := Lib.hid hF0
    clear hF0 p0 p1 d0 d1 f0 f1
    go_wp2_with fail
    go_loopw [6] (fun i wr => ∃ (k : Nat) (u : Value) (out : List Blk), k ≤ m ∧ i = .int .i64 k ∧ FilW w wr v (.slice a0 bs.length c0) X (.slice a4 m c4) R u out ∧ Hid (out = sortB (fillGo bs (R.take k)))) (fun i _ => m - (intOf i).toNat)
    case atStart => exact ⟨0, u0, bs, Nat.zero_le _, rfl, HF0.out, Lib.hid (by simp [fillGo, HSRT.out])⟩
    case round =>
      obtain ⟨k, u, out, hk, rfl, hF, HOU⟩ := hrel
      obtain ⟨V, rfl⟩ : ∃ W, W = wr := ⟨_, rfl⟩
      have HF := Lib.hid hF
      obtain ⟨x0, x1, hXl⟩ := hF.xb.cells
      obtain ⟨p0, p1, d0, d1, f0, f1⟩ := hF.six
      have hbV := hF.bel
      have hX2 := hF.hX
      have hzV := hbV.size
      obtain ⟨lo, hh, hown, _, _, _⟩ := hF.own
      have HSXO := Lib.hid hown.sxR
      obtain ⟨a8, c8, hu8⟩ := hown.slice
      subst hu8
      have hol : out.length ≤ 5000 := by
        rw [HOU.out, sortB_length]
        have h1 := fillGo_len (R.take k) bs
        have h2 : (R.take k).length ≤ k := List.length_take_le _ _
        omega
      clear hF hown
      by_cases hkm : k < m
      · have hsxR := HF.out.rest.sx
        rcases hsxR with ⟨_, _, _, hnil⟩ | ⟨b, off, cap, hv, hblt, hbl⟩
        · have := HM.out; rw [hnil] at this; simp at this; omega
        · rw [← HM.out] at hv
          simp at hv
          obtain ⟨rfl, rfl⟩ := hv
          have hbX : b ≠ X := fun e => HF.out.rne (by rw [← e]; rfl)
          obtain ⟨x, hx, ex, y1, y2, y3⟩ := blks_at hbl (show k < R.length by rw [← HM.out]; exact hkm)
          have hxg := HRG.out x hx
          have htk : R.take (k + 1) = R.take k ++ [x] := by rw [List.take_add_one, ex]; rfl
          have hsucc := fillGo_snoc x (R.take k) bs
          rw [← htk] at hsucc
          have hag := fillGo_good (v := v) (R.take k) bs (fun z hz => HRG.out z (List.mem_of_mem_take hz)) HGD.out
          have hok := okB_sort hag hxg
          rw [← HOU.out] at hok
          have hwfo : ∀ z ∈ out, WFB z := fun z hz => by
            rw [HOU.out, sortB_mem] at hz
            exact good_wf (hag z hz) hv15
          have HFRE := Lib.hid fun W (hb : Below V.heap.size V W) => l01Free_any v (.slice a8 out.length c8) out x W ⟨hwfo, by omega, HSXO.out.below hb (Nat.le_refl _)⟩
          have HSU := Lib.hid hsucc
          have HOK := Lib.hid hok
          obtain ⟨xa, xb, xc⟩ := x
          unfold bv at HFRE
          dsimp only at y1 y2 y3 HFRE
          obtain ⟨β, hβ⟩ : ∃ β, β = okB out ⟨xa, xb, xc⟩ := ⟨_, rfl⟩
          rw [← hβ] at HFRE HOK
          have g0 : (0 : Int) ≤ (k : Int) := by omega
          have g1 : (k : Int) < (m : Int) := by omega
          clear hx ex hbl hxg htk hsucc hag hok hwfo hβ
          go_wp2_with fail
          go_region_held3 (fun w' => w'.cell? ⟨X, 0, none⟩ = some (.int .i64 v) ∧ w'.cell? ⟨X, 1, none⟩ = some (.slice a8 out.length c8) ∧ w'.cell? ⟨b, off + k * 3, none⟩ = some (.int .i64 xa) ∧ w'.cell? ⟨b, off + k * 3 + 1, none⟩ = some (.int .i64 xb) ∧ w'.cell? ⟨b, off + k * 3 + 2, none⟩ = some (.int .i64 xc))
            (first
              | exact ⟨A0, A1, A2, A3, A4⟩
              | go_keep)
            (first
              | (go_at_call 54; refine (HFRE.out _ (by first | exact Below.refl _ _ | exact (Below.refl _ _).drew)).mono ?_; rintro e w5 ⟨rfl, hb5⟩; have hb5' : Below V.heap.size V w5 := (by first | exact hb5 | exact ((Below.refl _ _).drew).trans (hb5.mono (by simp))); have A0 := (hb5'.cell (p := ⟨X, 0, none⟩) hXl).trans x0; have A1 := (hb5'.cell (p := ⟨X, 1, none⟩) hXl).trans x1; have A2 := (hb5'.cell (p := ⟨b, off + k * 3, none⟩) hblt).trans y1; have A3 := (hb5'.cell (p := ⟨b, off + k * 3 + 1, none⟩) hblt).trans y2; have A4 := (hb5'.cell (p := ⟨b, off + k * 3 + 2, none⟩) hblt).trans y3))
          all_goals
            have HF5 := Lib.hid (HF.out.step hb5')
            have HSX5 := Lib.hid (HSXO.out.below hb5' (Nat.le_refl _))
            have hz5 := hb5'.size
            have P0 := (hb5'.cell (p := ⟨w.heap.size, 0, none⟩) (by show w.heap.size < _; omega)).trans p0
            have P1 := (hb5'.cell (p := ⟨w.heap.size, 1, none⟩) (by show w.heap.size < _; omega)).trans p1
            clear x0 x1 y1 y2 y3 p0 p1 d0 d1 f0 f1 hb5 hb5'
            cases β with
            | false =>
              have HREL := Lib.hid (show out = sortB (fillGo bs (R.take (k + 1))) by
                rw [HSU.out, ← HOK.out, if_neg (by decide)]
                exact HOU.out)
              go_wp2
              go_roundw
              case rel => exact ⟨k + 1, _, out, by omega, by go_num, HF5.out, HREL⟩
              case measure => simp [intOf]; omega
            | true =>
              obtain ⟨L, hL⟩ : ∃ L, L = out ++ [(⟨xa, xb, xc⟩ : Blk)] := ⟨_, rfl⟩
              have hLl : L.length ≤ 100000 := by rw [hL, List.length_append, List.length_singleton]; omega
              have HLL := Lib.hid hL
              have HREL := Lib.hid (show sortB L = sortB (fillGo bs (R.take (k + 1))) by
                rw [HSU.out, ← HOK.out, if_pos rfl, hL, HOU.out, sort_snoc])
              obtain ⟨W0, hW0⟩ : ∃ W, W = w5 := ⟨_, rfl⟩
              rw [← hW0] at HF5 HSX5 hz5 P0 P1 A0 A1 A2 A3 A4 ⊢
              clear hW0 hL HFRE
              have HSX6 := HSX5
              have HO0 := Lib.hid (lit_own W0)
              have ho3 := lit_own (W0.alloc (.cells #[.int .i64 xa, .int .i64 xb, .int .i64 xc] 68))
              simp only [World.size_alloc] at ho3
              have HO3 : Hid (OwnR ((W0.alloc (.cells #[.int .i64 xa, .int .i64 xb, .int .i64 xc] 68)).alloc (.cells #[] 68)) W0.heap.size (.slice (some ⟨W0.heap.size + 1, 0, none⟩) 0 0) []) := Lib.hid (ownsRow_base ho3 (by omega))
              clear ho3
              have hXl0 : X < W0.heap.size := by omega
              have hb0 : b < W0.heap.size := by omega
              have hw0 : w.heap.size < W0.heap.size := by omega
              have hneX : ¬ X = w.heap.size := by omega
              have hneb : ¬ X = b := fun e => hbX e.symm
              have fX0 := HF5.out.xb.fr 0
              have fX1 := HF5.out.xb.fr 1
              have HBX6 := Lib.hid fun W' (hb : Below W0.heap.size W0 W') => And.intro ((hb.cell (p := ⟨w.heap.size, 0, none⟩) hw0).trans P0) (And.intro ((hb.cell (p := ⟨b, off + k * 3, none⟩) hb0).trans A2) (And.intro ((hb.cell (p := ⟨b, off + k * 3 + 1, none⟩) hb0).trans A3) (And.intro ((hb.cell (p := ⟨b, off + k * 3 + 2, none⟩) hb0).trans A4) (And.intro ((hb.cell (p := ⟨X, 0, none⟩) hXl0).trans A0) (And.intro ((hb.cell (p := ⟨X, 1, none⟩) hXl0).trans A1) (And.intro ((hb.frozen (p := ⟨X, 0, none⟩) hXl0).trans fX0) ((hb.frozen (p := ⟨X, 1, none⟩) hXl0).trans fX1)))))))
              go_upto_region 8 with fail
              refine wp_region_B (S := Fil8 w W0 v X b (off + k * 3) xa xb xc (.slice a8 out.length c8)) 14 (by kernel_rfl) (by kernel_rfl) ?_
              have hS0 : Fil8 w W0 v X b (off + k * 3) xa xb xc (.slice a8 out.length c8) W0.drew := Fil8.of HBX6.out ((Below.refl _ _).drew)
              refine wpAnyB_take (i := 0) (v := ?vv0) rfl (by kernel_rfl) (by kernel_rfl) (by kernel_rfl) (by kernel_rfl) (fun _ _ _ h => h) (Or.inl ⟨by rfl, ?yy0⟩) hS0 ?rr0
              case yy0 =>
                intro wq hSw
                obtain ⟨q0, q1, q2, q3, q4⟩ := hSw
                go_simp
                try with_reducible rfl
              simp only [Act.put, List.setIfInBounds_toArray, List.set_cons_zero, List.set_cons_succ]
              refine wpAnyB_take (i := 3) (v := ?vv3) rfl (by kernel_rfl) (by kernel_rfl) (by kernel_rfl) (by kernel_rfl) (fun _ _ _ h => h) (Or.inl ⟨by rfl, ?yy3⟩) hS0 ?rr3
              case yy3 =>
                intro wq hSw
                obtain ⟨q0, q1, q2, q3, q4⟩ := hSw
                go_simp
                try with_reducible rfl
              simp only [Act.put, List.setIfInBounds_toArray, List.set_cons_zero, List.set_cons_succ]
              refine wpAnyB_take (i := 6) (v := ?vv6) rfl (by kernel_rfl) (by kernel_rfl) (by kernel_rfl) (by kernel_rfl) (fun _ _ _ h => h) (Or.inl ⟨by rfl, ?yy6⟩) hS0 ?rr6
              case yy6 =>
                intro wq hSw
                obtain ⟨q0, q1, q2, q3, q4⟩ := hSw
                go_simp
                try with_reducible rfl
              simp only [Act.put, List.setIfInBounds_toArray, List.set_cons_zero, List.set_cons_succ]
              refine wpAnyB_take (i := 7) (v := ?vv7) rfl (by kernel_rfl) (by kernel_rfl) (by kernel_rfl) (by kernel_rfl) (fun _ _ _ h => h) (Or.inl ⟨by rfl, ?yy7⟩) hS0 ?rr7
              case yy7 =>
                intro wq hSw
                obtain ⟨q0, q1, q2, q3, q4⟩ := hSw
                go_simp
                try with_reducible rfl
              simp only [Act.put, List.setIfInBounds_toArray, List.set_cons_zero, List.set_cons_succ]
              refine wpAnyB_take (i := 8) (v := ?vv8) rfl (by kernel_rfl) (by kernel_rfl) (by kernel_rfl) (by kernel_rfl) (fun _ _ _ h => h) (Or.inl ⟨by rfl, ?yy8⟩) hS0 ?rr8
              case yy8 =>
                intro wq hSw
                obtain ⟨q0, q1, q2, q3, q4⟩ := hSw
                go_simp
                try with_reducible rfl
              simp only [Act.put, List.setIfInBounds_toArray, List.set_cons_zero, List.set_cons_succ]
              refine wpAnyB_take (i := 1) (v := ?vv1) rfl (by kernel_rfl) (by kernel_rfl) (by kernel_rfl) (by kernel_rfl) (fun _ _ _ h => h) (Or.inl ⟨by rfl, ?yy1⟩) hS0 ?rr1
              case yy1 =>
                intro wq hSw
                obtain ⟨q0, q1, q2, q3, q4⟩ := hSw
                go_simp
                try with_reducible rfl
              simp only [Act.put, List.setIfInBounds_toArray, List.set_cons_zero, List.set_cons_succ]
              refine wpAnyB_take (i := 4) (v := ?vv4) rfl (by kernel_rfl) (by kernel_rfl) (by kernel_rfl) (by kernel_rfl) (fun _ _ _ h => h) (Or.inl ⟨by rfl, ?yy4⟩) hS0 ?rr4
              case yy4 =>
                intro wq hSw
                obtain ⟨q0, q1, q2, q3, q4⟩ := hSw
                go_simp
                try with_reducible rfl
              simp only [Act.put, List.setIfInBounds_toArray, List.set_cons_zero, List.set_cons_succ]
              refine wpAnyB_take (i := 9) (v := ?vv9) rfl (by kernel_rfl) (by kernel_rfl) (by kernel_rfl) (by kernel_rfl) (fun _ _ _ h => h) (Or.inl ⟨by rfl, ?yy9⟩) hS0 ?rr9
              case yy9 =>
                intro wq hSw
                obtain ⟨q0, q1, q2, q3, q4⟩ := hSw
                go_simp
                try with_reducible rfl
              simp only [Act.put, List.setIfInBounds_toArray, List.set_cons_zero, List.set_cons_succ]
              refine wpAnyB_ready (rs := [2, 10]) (by kernel_rfl) (by simp) ?_
              refine (AllReadyB.cons rfl (fun K1 hK1 => ?_) (AllReadyB.cons rfl (fun K2 hK2 => ?_) AllReadyB.nil))
              · go_simp
                refine hK1.out _ _ (Fil8.of HBX6.out (by first | exact (Below.refl _ _).drew | exact ((Below.refl _ _).drew).alloc (by simp) _ | exact ((Below.refl _ _).alloc (Nat.le_refl _) _).drew | exact (((Below.refl _ _).drew).alloc (by simp) _).alloc (by simp) _ | exact (((Below.refl _ _).alloc (Nat.le_refl _) _).alloc (by simp) _).drew | exact hB7 | exact hB9 | exact hB7.alloc hB7.size _ | exact (hB7.alloc hB7.size _).drew | exact hB10)) (fun hS1 => ?_)
                clear hK1 K1
                try simp only [Act.put, List.setIfInBounds_toArray, List.set_cons_zero, List.set_cons_succ]
                refine wpAnyB_ready (rs := [5, 10]) (by kernel_rfl) (by simp) ?_
                refine (AllReadyB.cons rfl (fun K3 hK3 => ?_) (AllReadyB.cons rfl (fun K4 hK4 => ?_) AllReadyB.nil))
                · skip
                  (refine step_append_many rfl (.tmp 29) (.tmp 31) rfl W0.heap.size (.slice (some ⟨W0.heap.size, 0, none⟩) 0 0) [] (by simp [Act.eval]) (by first | exact HO0.out.below (Below.refl _ _).drew (Nat.le_refl _) | exact HO0.out) (.slice a8 out.length c8) out (by simp [Act.eval]) (by first | exact HSX6.out.below (((Below.refl _ _).alloc (Nat.le_refl _) _).drew) (Nat.le_refl _) | exact HSX6.out.below ((Below.refl _ _).alloc (Nat.le_refl _) _) (Nat.le_refl _)) (by simp; omega) (by simp) ?_; intro a7 c7 w7 ho7 hg7; have hB7 : Below W0.heap.size W0 w7 := ((((Below.refl _ _).alloc (Nat.le_refl _) _).drew).grown hg7 (by simp) (fun r e => by simp [Value.ownBlock] at e; omega)); obtain ⟨E0, E2, E3, E4, _⟩ := HBX6.out _ hB7; have HO7 := Lib.hid (show OwnR w7 W0.heap.size (.slice a7 out.length c7) out by simpa using ho7))
                  refine hK3.out _ _ (Fil8.of HBX6.out (by first | exact (Below.refl _ _).drew | exact ((Below.refl _ _).drew).alloc (by simp) _ | exact ((Below.refl _ _).alloc (Nat.le_refl _) _).drew | exact (((Below.refl _ _).drew).alloc (by simp) _).alloc (by simp) _ | exact (((Below.refl _ _).alloc (Nat.le_refl _) _).alloc (by simp) _).drew | exact hB7 | exact hB9 | exact hB7.alloc hB7.size _ | exact (hB7.alloc hB7.size _).drew | exact hB10)) (fun hS3 => ?_)
                  clear hK3 K3
                  try simp only [Act.put, List.setIfInBounds_toArray, List.set_cons_zero, List.set_cons_succ]
                  refine wpAnyB_ready (rs := [10]) (by kernel_rfl) (by simp) ?_
                  refine (AllReadyB.cons rfl (fun K5 hK5 => ?_) AllReadyB.nil)
                  go_simp
                  refine hK5.out _ _ (Fil8.of HBX6.out (by first | exact (Below.refl _ _).drew | exact ((Below.refl _ _).drew).alloc (by simp) _ | exact ((Below.refl _ _).alloc (Nat.le_refl _) _).drew | exact (((Below.refl _ _).drew).alloc (by simp) _).alloc (by simp) _ | exact (((Below.refl _ _).alloc (Nat.le_refl _) _).alloc (by simp) _).drew | exact hB7 | exact hB9 | exact hB7.alloc hB7.size _ | exact (hB7.alloc hB7.size _).drew | exact hB10)) (fun hS5 => ?_)
                  clear hK5 K5
                  try simp only [Act.put, List.setIfInBounds_toArray, List.set_cons_zero, List.set_cons_succ]
                  refine wpAnyB_ready (rs := [11]) (by kernel_rfl) (by simp) ?_
                  refine (AllReadyB.cons rfl (fun K6 hK6 => ?_) AllReadyB.nil)
                  (refine step_append_many rfl (.tmp 32) (.tmp 37) rfl W0.heap.size (.slice a7 out.length c7) out (by simp [Act.eval]) (by first | exact HO7.out.below ((Below.refl _ _).alloc (Nat.le_refl _) _) (Nat.le_refl _) | exact HO7.out.below (((Below.refl _ _).alloc (Nat.le_refl _) _).drew) (Nat.le_refl _) | exact HO7.out) (.slice (some ⟨w7.heap.size, 0, none⟩) 1 1) [⟨xa, xb, xc⟩] (by simp [Act.eval]) (by first | exact sx_one' w7 ⟨xa, xb, xc⟩ _ | exact (sx_one' w7 ⟨xa, xb, xc⟩ _).below ((Below.refl _ _).drew) (Nat.le_refl _)) (by simp; omega) (by have := hB7.size; simp; omega) ?_; intro a9 c9 w9 ho9 hg9; have hB9 : Below W0.heap.size W0 w9 := (hB7.alloc hB7.size _).grown (by first | exact hg9 | exact gb_drewL hg9) (by have := hB7.size; simp; omega) (fun r e => HO7.out.row r e); obtain ⟨F0, F2, F3, F4, _⟩ := HBX6.out _ hB9; have HS9 := Lib.hid ho9.sx)
                  refine hK6.out _ _ (Fil8.of HBX6.out (by first | exact (Below.refl _ _).drew | exact ((Below.refl _ _).drew).alloc (by simp) _ | exact ((Below.refl _ _).alloc (Nat.le_refl _) _).drew | exact (((Below.refl _ _).drew).alloc (by simp) _).alloc (by simp) _ | exact (((Below.refl _ _).alloc (Nat.le_refl _) _).alloc (by simp) _).drew | exact hB7 | exact hB9 | exact hB7.alloc hB7.size _ | exact (hB7.alloc hB7.size _).drew | exact hB10)) (fun hS6 => ?_)
                  clear hK6 K6
                  try simp only [Act.put, List.setIfInBounds_toArray, List.set_cons_zero, List.set_cons_succ]
                  refine wpAnyB_ready (rs := [12]) (by kernel_rfl) (by simp) ?_
                  refine (AllReadyB.cons rfl (fun K7 hK7 => ?_) AllReadyB.nil)
                  go_simp
                  (go_at_call 55; refine (l01Made_any v _ L _ ?_ hLl).mono ?_; (rw [HLL.out]; first | exact HS9.out | exact HS9.out.below ((Below.refl _ _).drew) (Nat.le_refl _)); rintro e w10 ⟨u, rfl, hres, hb10⟩; obtain ⟨aq, cq, hu⟩ := hres.slice; (obtain ⟨nq9, hnq⟩ : ∃ n, n = (sortB L).length := ⟨_, rfl⟩); rw [← hnq] at hu; subst hu; have HNQ := Lib.hid hnq; clear hnq; have hB10 : Below W0.heap.size W0 w10 := hB9.trans ((by first | exact hb10 | exact ((Below.refl _ _).drew).trans (hb10.mono (by simp)) : Below w9.heap.size w9 w10).mono hB9.size); obtain ⟨G0, G2, G3, G4, D0, D1, D2, D3⟩ := HBX6.out _ hB10; have gset := gb_set2 w10 X (.int .i64 v) (.slice aq nq9 cq); have K0 := gset.cell G0 (by simp; omega); have K2 := gset.cell G2 (by simp; omega); have K3 := gset.cell G3 (by simp; omega); have K4 := gset.cell G4 (by simp; omega))
                  go_wp2_with fail
                  refine hK7.out _ _ (Fil8.of HBX6.out (by first | exact (Below.refl _ _).drew | exact ((Below.refl _ _).drew).alloc (by simp) _ | exact ((Below.refl _ _).alloc (Nat.le_refl _) _).drew | exact (((Below.refl _ _).drew).alloc (by simp) _).alloc (by simp) _ | exact (((Below.refl _ _).alloc (Nat.le_refl _) _).alloc (by simp) _).drew | exact hB7 | exact hB9 | exact hB7.alloc hB7.size _ | exact (hB7.alloc hB7.size _).drew | exact hB10)) (fun hS7 => ?_)
                  clear hK7 K7
                  try simp only [Act.put, List.setIfInBounds_toArray, List.set_cons_zero, List.set_cons_succ]
                  refine wpAnyB_ready (rs := [13]) (by kernel_rfl) (by simp) ?_
                  refine AllReadyB.last rfl (by kernel_rfl) (by kernel_rfl) (fun K8 hK8 => ?_)
                  go_simp
                  refine hK8.out _ _ ?_
                  clear hK8 K8
                  have hz10 := hB10.size
                  have hfin := HF5.out.store hB10 (hres.wide (lo' := W0.heap.size) (by have := hB9.size; first | exact this | (simp; omega)) (Nat.le_refl _))
                  have HFIN := Lib.hid hfin
                  clear hfin
                  go_wp2_with fail
                  go_roundw
                  case rel => exact ⟨k + 1, _, sortB L, by omega, by go_num, HFIN.out, HREL⟩
                  case measure => simp [intOf]; omega
                · go_simp
                  refine hK4.out _ _ (Fil8.of HBX6.out (by first | exact (Below.refl _ _).drew | exact ((Below.refl _ _).drew).alloc (by simp) _ | exact ((Below.refl _ _).alloc (Nat.le_refl _) _).drew | exact (((Below.refl _ _).drew).alloc (by simp) _).alloc (by simp) _ | exact (((Below.refl _ _).alloc (Nat.le_refl _) _).alloc (by simp) _).drew | exact hB7 | exact hB9 | exact hB7.alloc hB7.size _ | exact (hB7.alloc hB7.size _).drew | exact hB10)) (fun hS4 => ?_)
                  clear hK4 K4
                  try simp only [Act.put, List.setIfInBounds_toArray, List.set_cons_zero, List.set_cons_succ]
                  refine wpAnyB_ready (rs := [5]) (by kernel_rfl) (by simp) ?_
                  refine (AllReadyB.cons rfl (fun K5 hK5 => ?_) AllReadyB.nil)
                  (refine step_append_many rfl (.tmp 29) (.tmp 31) rfl W0.heap.size (.slice (some ⟨W0.heap.size, 0, none⟩) 0 0) [] (by simp [Act.eval]) (by first | exact HO0.out.below ((Below.refl _ _).alloc (Nat.le_refl _) _) (Nat.le_refl _) | exact (HO0.out.below ((Below.refl _ _).alloc (Nat.le_refl _) _) (Nat.le_refl _)).below ((Below.refl _ _).drew) (Nat.le_refl _)) (.slice a8 out.length c8) out (by simp [Act.eval]) (by first | exact HSX6.out.below ((((Below.refl _ _).alloc (Nat.le_refl _) _).alloc (by simp) _).drew) (Nat.le_refl _) | exact HSX6.out.below (((Below.refl _ _).alloc (Nat.le_refl _) _).alloc (by simp) _) (Nat.le_refl _)) (by simp; omega) (by simp; omega) ?_; intro a7 c7 w7 ho7 hg7; have hB7 : Below W0.heap.size W0 w7 := (by first | exact (((((Below.refl _ _).alloc (Nat.le_refl _) _).alloc (by simp) _).drew).grown hg7 (by simp; omega) (fun r e => by simp [Value.ownBlock] at e; omega)) | exact ((((Below.refl _ _).alloc (Nat.le_refl _) _).alloc (by simp) _).grown hg7 (by simp; omega) (fun r e => by simp [Value.ownBlock] at e; omega))); obtain ⟨E0, E2, E3, E4, _⟩ := HBX6.out _ hB7; have HO7 := Lib.hid (show OwnR w7 W0.heap.size (.slice a7 out.length c7) out by simpa using ho7); have HX7 : Hid (SX w7 (.slice (some ⟨W0.heap.size + 1, 0, none⟩) 1 1) [⟨xa, xb, xc⟩]) := Lib.hid (sx_kept1 (by first | exact gb_drewL hg7 | exact hg7) ⟨by simp [go_sem], by simp [go_sem], by simp [go_sem]⟩ (by simp [Value.ownBlock])))
                  refine hK5.out _ _ (Fil8.of HBX6.out (by first | exact (Below.refl _ _).drew | exact ((Below.refl _ _).drew).alloc (by simp) _ | exact ((Below.refl _ _).alloc (Nat.le_refl _) _).drew | exact (((Below.refl _ _).drew).alloc (by simp) _).alloc (by simp) _ | exact (((Below.refl _ _).alloc (Nat.le_refl _) _).alloc (by simp) _).drew | exact hB7 | exact hB9 | exact hB7.alloc hB7.size _ | exact (hB7.alloc hB7.size _).drew | exact hB10)) (fun hS5 => ?_)
                  clear hK5 K5
                  try simp only [Act.put, List.setIfInBounds_toArray, List.set_cons_zero, List.set_cons_succ]
                  refine wpAnyB_ready (rs := [11]) (by kernel_rfl) (by simp) ?_
                  refine (AllReadyB.cons rfl (fun K6 hK6 => ?_) AllReadyB.nil)
                  (refine step_append_many rfl (.tmp 32) (.tmp 37) rfl W0.heap.size (.slice a7 out.length c7) out (by simp [Act.eval]) (by first | exact HO7.out | exact HO7.out.below ((Below.refl _ _).drew) (Nat.le_refl _)) (.slice (some ⟨W0.heap.size + 1, 0, none⟩) 1 1) [⟨xa, xb, xc⟩] (by simp [Act.eval]) (by first | exact HX7.out | exact HX7.out.below ((Below.refl _ _).drew) (Nat.le_refl _)) (by simp; omega) (by have := hB7.size; first | omega | (simp; omega)) ?_; intro a9 c9 w9 ho9 hg9; have hB9 : Below W0.heap.size W0 w9 := hB7.grown (by first | exact hg9 | exact gb_drewL hg9) (by have := hB7.size; omega) (fun r e => HO7.out.row r e); obtain ⟨F0, F2, F3, F4, _⟩ := HBX6.out _ hB9; have HS9 := Lib.hid ho9.sx)
                  refine hK6.out _ _ (Fil8.of HBX6.out (by first | exact (Below.refl _ _).drew | exact ((Below.refl _ _).drew).alloc (by simp) _ | exact ((Below.refl _ _).alloc (Nat.le_refl _) _).drew | exact (((Below.refl _ _).drew).alloc (by simp) _).alloc (by simp) _ | exact (((Below.refl _ _).alloc (Nat.le_refl _) _).alloc (by simp) _).drew | exact hB7 | exact hB9 | exact hB7.alloc hB7.size _ | exact (hB7.alloc hB7.size _).drew | exact hB10)) (fun hS6 => ?_)
                  clear hK6 K6
                  try simp only [Act.put, List.setIfInBounds_toArray, List.set_cons_zero, List.set_cons_succ]
                  refine wpAnyB_ready (rs := [12]) (by kernel_rfl) (by simp) ?_
                  refine (AllReadyB.cons rfl (fun K7 hK7 => ?_) AllReadyB.nil)
                  go_simp
                  (go_at_call 55; refine (l01Made_any v _ L _ ?_ hLl).mono ?_; (rw [HLL.out]; first | exact HS9.out | exact HS9.out.below ((Below.refl _ _).drew) (Nat.le_refl _)); rintro e w10 ⟨u, rfl, hres, hb10⟩; obtain ⟨aq, cq, hu⟩ := hres.slice; (obtain ⟨nq9, hnq⟩ : ∃ n, n = (sortB L).length := ⟨_, rfl⟩); rw [← hnq] at hu; subst hu; have HNQ := Lib.hid hnq; clear hnq; have hB10 : Below W0.heap.size W0 w10 := hB9.trans ((by first | exact hb10 | exact ((Below.refl _ _).drew).trans (hb10.mono (by simp)) : Below w9.heap.size w9 w10).mono hB9.size); obtain ⟨G0, G2, G3, G4, D0, D1, D2, D3⟩ := HBX6.out _ hB10; have gset := gb_set2 w10 X (.int .i64 v) (.slice aq nq9 cq); have K0 := gset.cell G0 (by simp; omega); have K2 := gset.cell G2 (by simp; omega); have K3 := gset.cell G3 (by simp; omega); have K4 := gset.cell G4 (by simp; omega))
                  go_wp2_with fail
                  refine hK7.out _ _ (Fil8.of HBX6.out (by first | exact (Below.refl _ _).drew | exact ((Below.refl _ _).drew).alloc (by simp) _ | exact ((Below.refl _ _).alloc (Nat.le_refl _) _).drew | exact (((Below.refl _ _).drew).alloc (by simp) _).alloc (by simp) _ | exact (((Below.refl _ _).alloc (Nat.le_refl _) _).alloc (by simp) _).drew | exact hB7 | exact hB9 | exact hB7.alloc hB7.size _ | exact (hB7.alloc hB7.size _).drew | exact hB10)) (fun hS7 => ?_)
                  clear hK7 K7
                  try simp only [Act.put, List.setIfInBounds_toArray, List.set_cons_zero, List.set_cons_succ]
                  refine wpAnyB_ready (rs := [13]) (by kernel_rfl) (by simp) ?_
                  refine AllReadyB.last rfl (by kernel_rfl) (by kernel_rfl) (fun K8 hK8 => ?_)
                  go_simp
                  refine hK8.out _ _ ?_
                  clear hK8 K8
                  have hz10 := hB10.size
                  have hfin := HF5.out.store hB10 (hres.wide (lo' := W0.heap.size) (by have := hB9.size; first | exact this | (simp; omega)) (Nat.le_refl _))
                  have HFIN := Lib.hid hfin
                  clear hfin
                  go_wp2_with fail
                  go_roundw
                  case rel => exact ⟨k + 1, _, sortB L, by omega, by go_num, HFIN.out, HREL⟩
                  case measure => simp [intOf]; omega
              · go_simp
                refine hK2.out _ _ (Fil8.of HBX6.out (by first | exact (Below.refl _ _).drew | exact ((Below.refl _ _).drew).alloc (by simp) _ | exact ((Below.refl _ _).alloc (Nat.le_refl _) _).drew | exact (((Below.refl _ _).drew).alloc (by simp) _).alloc (by simp) _ | exact (((Below.refl _ _).alloc (Nat.le_refl _) _).alloc (by simp) _).drew | exact hB7 | exact hB9 | exact hB7.alloc hB7.size _ | exact (hB7.alloc hB7.size _).drew | exact hB10)) (fun hS2 => ?_)
                clear hK2 K2
                try simp only [Act.put, List.setIfInBounds_toArray, List.set_cons_zero, List.set_cons_succ]
                refine wpAnyB_ready (rs := [2]) (by kernel_rfl) (by simp) ?_
                refine (AllReadyB.cons rfl (fun K4 hK4 => ?_) AllReadyB.nil)
                go_simp
                refine hK4.out _ _ (Fil8.of HBX6.out (by first | exact (Below.refl _ _).drew | exact ((Below.refl _ _).drew).alloc (by simp) _ | exact ((Below.refl _ _).alloc (Nat.le_refl _) _).drew | exact (((Below.refl _ _).drew).alloc (by simp) _).alloc (by simp) _ | exact (((Below.refl _ _).alloc (Nat.le_refl _) _).alloc (by simp) _).drew | exact hB7 | exact hB9 | exact hB7.alloc hB7.size _ | exact (hB7.alloc hB7.size _).drew | exact hB10)) (fun hS4 => ?_)
                clear hK4 K4
                try simp only [Act.put, List.setIfInBounds_toArray, List.set_cons_zero, List.set_cons_succ]
                refine wpAnyB_ready (rs := [5]) (by kernel_rfl) (by simp) ?_
                refine (AllReadyB.cons rfl (fun K5 hK5 => ?_) AllReadyB.nil)
                (refine step_append_many rfl (.tmp 29) (.tmp 31) rfl W0.heap.size (.slice (some ⟨W0.heap.size + 1, 0, none⟩) 0 0) [] (by simp [Act.eval]) (by first | exact HO3.out | exact (HO3.out).below ((Below.refl _ _).drew) (Nat.le_refl _)) (.slice a8 out.length c8) out (by simp [Act.eval]) (by first | exact HSX6.out.below ((((Below.refl _ _).alloc (Nat.le_refl _) _).alloc (by simp) _).drew) (Nat.le_refl _) | exact HSX6.out.below (((Below.refl _ _).alloc (Nat.le_refl _) _).alloc (by simp) _) (Nat.le_refl _)) (by simp; omega) (by simp; omega) ?_; intro a7 c7 w7 ho7 hg7; have hB7 : Below W0.heap.size W0 w7 := (by first | exact (((((Below.refl _ _).alloc (Nat.le_refl _) _).alloc (by simp) _).drew).grown hg7 (by simp; omega) (fun r e => by simp [Value.ownBlock] at e; omega)) | exact ((((Below.refl _ _).alloc (Nat.le_refl _) _).alloc (by simp) _).grown hg7 (by simp; omega) (fun r e => by simp [Value.ownBlock] at e; omega))); obtain ⟨E0, E2, E3, E4, _⟩ := HBX6.out _ hB7; have HO7 := Lib.hid (show OwnR w7 W0.heap.size (.slice a7 out.length c7) out by simpa using ho7); have HX7 : Hid (SX w7 (.slice (some ⟨W0.heap.size, 0, none⟩) 1 1) [⟨xa, xb, xc⟩]) := Lib.hid (sx_kept1 (by first | exact gb_drewL hg7 | exact hg7) ⟨by simp [go_sem], by simp [go_sem], by simp [go_sem]⟩ (by simp [Value.ownBlock])))
                refine hK5.out _ _ (Fil8.of HBX6.out (by first | exact (Below.refl _ _).drew | exact ((Below.refl _ _).drew).alloc (by simp) _ | exact ((Below.refl _ _).alloc (Nat.le_refl _) _).drew | exact (((Below.refl _ _).drew).alloc (by simp) _).alloc (by simp) _ | exact (((Below.refl _ _).alloc (Nat.le_refl _) _).alloc (by simp) _).drew | exact hB7 | exact hB9 | exact hB7.alloc hB7.size _ | exact (hB7.alloc hB7.size _).drew | exact hB10)) (fun hS5 => ?_)
                clear hK5 K5
                try simp only [Act.put, List.setIfInBounds_toArray, List.set_cons_zero, List.set_cons_succ]
                refine wpAnyB_ready (rs := [11]) (by kernel_rfl) (by simp) ?_
                refine (AllReadyB.cons rfl (fun K6 hK6 => ?_) AllReadyB.nil)
                (refine step_append_many rfl (.tmp 32) (.tmp 37) rfl W0.heap.size (.slice a7 out.length c7) out (by simp [Act.eval]) (by first | exact HO7.out | exact HO7.out.below ((Below.refl _ _).drew) (Nat.le_refl _)) (.slice (some ⟨W0.heap.size, 0, none⟩) 1 1) [⟨xa, xb, xc⟩] (by simp [Act.eval]) (by first | exact HX7.out | exact HX7.out.below ((Below.refl _ _).drew) (Nat.le_refl _)) (by simp; omega) (by have := hB7.size; first | omega | (simp; omega)) ?_; intro a9 c9 w9 ho9 hg9; have hB9 : Below W0.heap.size W0 w9 := hB7.grown (by first | exact hg9 | exact gb_drewL hg9) (by have := hB7.size; omega) (fun r e => HO7.out.row r e); obtain ⟨F0, F2, F3, F4, _⟩ := HBX6.out _ hB9; have HS9 := Lib.hid ho9.sx)
                refine hK6.out _ _ (Fil8.of HBX6.out (by first | exact (Below.refl _ _).drew | exact ((Below.refl _ _).drew).alloc (by simp) _ | exact ((Below.refl _ _).alloc (Nat.le_refl _) _).drew | exact (((Below.refl _ _).drew).alloc (by simp) _).alloc (by simp) _ | exact (((Below.refl _ _).alloc (Nat.le_refl _) _).alloc (by simp) _).drew | exact hB7 | exact hB9 | exact hB7.alloc hB7.size _ | exact (hB7.alloc hB7.size _).drew | exact hB10)) (fun hS6 => ?_)
                clear hK6 K6
                try simp only [Act.put, List.setIfInBounds_toArray, List.set_cons_zero, List.set_cons_succ]
                refine wpAnyB_ready (rs := [12]) (by kernel_rfl) (by simp) ?_
                refine (AllReadyB.cons rfl (fun K7 hK7 => ?_) AllReadyB.nil)
                go_simp
                (go_at_call 55; refine (l01Made_any v _ L _ ?_ hLl).mono ?_; (rw [HLL.out]; first | exact HS9.out | exact HS9.out.below ((Below.refl _ _).drew) (Nat.le_refl _)); rintro e w10 ⟨u, rfl, hres, hb10⟩; obtain ⟨aq, cq, hu⟩ := hres.slice; (obtain ⟨nq9, hnq⟩ : ∃ n, n = (sortB L).length := ⟨_, rfl⟩); rw [← hnq] at hu; subst hu; have HNQ := Lib.hid hnq; clear hnq; have hB10 : Below W0.heap.size W0 w10 := hB9.trans ((by first | exact hb10 | exact ((Below.refl _ _).drew).trans (hb10.mono (by simp)) : Below w9.heap.size w9 w10).mono hB9.size); obtain ⟨G0, G2, G3, G4, D0, D1, D2, D3⟩ := HBX6.out _ hB10; have gset := gb_set2 w10 X (.int .i64 v) (.slice aq nq9 cq); have K0 := gset.cell G0 (by simp; omega); have K2 := gset.cell G2 (by simp; omega); have K3 := gset.cell G3 (by simp; omega); have K4 := gset.cell G4 (by simp; omega))
                go_wp2_with fail
                refine hK7.out _ _ (Fil8.of HBX6.out (by first | exact (Below.refl _ _).drew | exact ((Below.refl _ _).drew).alloc (by simp) _ | exact ((Below.refl _ _).alloc (Nat.le_refl _) _).drew | exact (((Below.refl _ _).drew).alloc (by simp) _).alloc (by simp) _ | exact (((Below.refl _ _).alloc (Nat.le_refl _) _).alloc (by simp) _).drew | exact hB7 | exact hB9 | exact hB7.alloc hB7.size _ | exact (hB7.alloc hB7.size _).drew | exact hB10)) (fun hS7 => ?_)
                clear hK7 K7
                try simp only [Act.put, List.setIfInBounds_toArray, List.set_cons_zero, List.set_cons_succ]
                refine wpAnyB_ready (rs := [13]) (by kernel_rfl) (by simp) ?_
                refine AllReadyB.last rfl (by kernel_rfl) (by kernel_rfl) (fun K8 hK8 => ?_)
                go_simp
                refine hK8.out _ _ ?_
                clear hK8 K8
                have hz10 := hB10.size
                have hfin := HF5.out.store hB10 (hres.wide (lo' := W0.heap.size) (by have := hB9.size; first | exact this | (simp; omega)) (Nat.le_refl _))
                have HFIN := Lib.hid hfin
                clear hfin
                go_wp2_with fail
                go_roundw
                case rel => exact ⟨k + 1, _, sortB L, by omega, by go_num, HFIN.out, HREL⟩
                case measure => simp [intOf]; omega
      · have e : k = m := by omega
        have ht : R.take k = R := by rw [e, HM.out, List.take_length]
        have HOUT := Lib.hid HOU.out
        rw [ht] at HOUT
        obtain ⟨lo, hh, hown, hlo2, hhi, _⟩ := HF.out.own
        have HOWN := Lib.hid hown
        have HBV := Lib.hid hbV
        clear hown hbV e ht
        go_wp2
        refine bodyPost_ret (v := .tuple #[.agg #[.int .i64 v, .slice a8 out.length c8], .int .i64 0]) (by simp [results, Try.results23, go_sem, *]) rfl ?_
        have hres := HOWN.out.kept (gb_set2 V (w.heap.size + 1) (.int .i64 v) (.slice a8 out.length c8)) (fun r e => by cases e; exact .inl (by omega))
        refine ⟨.slice a8 out.length c8, rfl, ?_, below_set2 HBV.out (by omega) _ _⟩
        show ResR _ _ _ _ (sortB (fillGo bs R))
        rw [← HOUT.out]
        exact hres.wide (by omega) (by simp [World.setCell]; omega)
end Go.Proofs.Ytiomdfhhejdoiaa

namespace Go.Proofs.Ytiomdfhhejdoiaa
open Go.ChangeShapes Go.WideShapes Go.ChangeAt Go.RowKit Go.Deep Go.Joins
theorem ownKnobs : ownKnob Try.prog.godebug = none := by kernel_rfl
section
variable {H : Type} {enc : TypeId × Value → H} {W : World} {base : Nat} {held : Bool}
theorem arrCells : Try.prog.cellsOf 67 = 3 := by kernel_rfl
set_option maxRecDepth 100000 in
theorem open_arr3 {fuel : Nat} {cs : List Value} {x : DataW H × List MemPlace} (h : DataW.trod enc Try.prog W base (fun _ => true) held fuel 67 cs = some x) :
    ∃ a b c : Int, cs = [.int .i64 a, .int .i64 b, .int .i64 c] ∧ (Lit.int .i64 a).wf = true ∧ (Lit.int .i64 b).wf = true ∧ (Lit.int .i64 c).wf = true := by
  obtain ⟨xs, m, rfl, rfl, hl, hx, hat⟩ := DataW.trod_array Try.underlying67 h
  rw [arrCells] at hl
  match cs, hl with
  | [c0, c1, c2], _ =>
    match xs, hx with
    | [x0, x1, x2], _ =>
      have h0 := hat 0 (by omega)
      have h1 := hat 1 (by omega)
      have h2 := hat 2 (by omega)
      rw [int64Cells] at h0 h1 h2
      simp at h0 h1 h2
      obtain ⟨a, ha, _, wa⟩ := DataW.trod_int Try.underlying2 h0
      obtain ⟨b, hb, _, wb⟩ := DataW.trod_int Try.underlying2 h1
      obtain ⟨c, hc, _, wc⟩ := DataW.trod_int Try.underlying2 h2
      simp at ha hb hc
      exact ⟨a, b, c, by rw [ha, hb, hc], wa, wb, wc⟩
theorem add_at (b off i : Nat) : (⟨b, off, none⟩ : Addr).add i = ⟨b, off + i, none⟩ := by
  unfold Addr.add
  split
  · subst_vars; rfl
  · rfl
set_option maxRecDepth 100000 in
theorem open_arrs {fuel : Nat} {s : Value} {x : DataW H × List MemPlace} (h : DataW.trod enc Try.prog W base (fun _ => true) held fuel 22 [s] = some x) : ∃ bs, InB W s bs := by
  rcases open_slice Try.underlying22 h with ⟨hcs, _⟩ | ⟨a, len, cap, m, n, D, Pl, hcs, hb, hl, hm, hmm, hx, hi⟩
  · simp at hcs
    exact ⟨[], by simp, by simp, .inl ⟨none, 0, hcs, rfl⟩⟩
  · simp at hcs
    subst hcs
    simp at hmm
    subst hmm
    have hm' : m ≤ 9223372036854775807 := by unfold maxLen at hm; exact hm
    by_cases h0 : len = 0
    · subst h0
      exact ⟨[], by simp, by simp, .inl ⟨_, _, rfl, rfl⟩⟩
    · have cell : ∀ i, i < m → ∃ y : Blk, WFB y ∧ ∀ j (v : Value), [Value.int .i64 y.a, Value.int .i64 y.b, Value.int .i64 y.c][j]? = some v → W.cell? (a.add (i * 3 + j)) = some v := fun i him => by
        obtain ⟨cs', hc, ht⟩ := hi i him
        obtain ⟨p, q, r, rfl, wp, wq, wr⟩ := open_arr3 ht
        rw [arrCells] at hc
        obtain ⟨_, _, hat⟩ := World.cells?_some hc
        refine ⟨⟨p, q, r⟩, ⟨wp, wq, wr⟩, fun j v hv => ?_⟩
        have hj : j < 3 := by
          have := (List.getElem?_eq_some_iff.1 hv).1
          simpa using this
        rw [← Go.Deep.add_add, hat j hj]
        exact hv
      obtain ⟨F, hF⟩ := choose_lt (α := Blk) cell
      obtain ⟨b, off, spot⟩ := a
      have hc0 := (hF 0 (by omega)).2 0 _ rfl
      have hspot : spot = none := by simpa [Addr.add] using World.cell?_spot hc0
      subst hspot
      refine ⟨(List.range len).map F, ?_, by simp; omega, .inr ⟨b, off, m, by simp, ?_, ?_⟩⟩
      · intro y hy
        obtain ⟨i, hi', rfl⟩ := List.mem_map.1 hy
        exact (hF i (by have := List.mem_range.1 hi'; omega)).1
      · exact block_lt_of_cell hc0
      · intro k hk
        simp at hk
        have e : ((List.range len).map F)[k]?.getD default = F k := by simp [hk]
        rw [e]
        have := (hF k (by omega)).2
        refine ⟨?_, ?_, ?_⟩
        · have h0 := this 0 _ rfl
          rw [add_at] at h0
          exact h0
        · have h1 := this 1 _ rfl
          rw [add_at, ← Nat.add_assoc] at h1
          exact h1
        · have h2 := this 2 _ rfl
          rw [add_at, ← Nat.add_assoc] at h2
          exact h2
theorem isSys : ∃ f0 f1 : Field, Try.prog.underlying 24 = some (.struct #[f0, f1]) ∧ f0.type = 2 ∧ f1.type = 22 ∧ oneCellFields Try.prog #[f0, f1] = true :=
  ⟨_, _, Try.underlying24, rfl, rfl, by kernel_rfl⟩
theorem sysCells : Try.prog.cellsOf 24 = 2 := by kernel_rfl
set_option maxRecDepth 100000 in
theorem open_system {r : Reach} {b0 : Nat} {v : Value} {d : DataW H} {p : List MemPlace} (hv : Value.okWide Try.prog W r b0 24 v) (h : DataW.Trod enc Try.prog W base (fun _ => true) held 24 v d p) :
    ∃ (n : Int) (s : Value) (bs : List Blk), v = .agg #[.int .i64 n, s] ∧ WF n ∧ InB W s bs := by
  obtain ⟨f0, f1, hu, e0, e1, hone⟩ := isSys
  obtain ⟨v0, v1, y0, y1, n, rfl, _, _, h0, h1⟩ := open_agg2 hu hone sysCells hv h
  rw [e0] at h0
  rw [e1] at h1
  obtain ⟨k, hk, _, wk⟩ := DataW.trod_int Try.underlying2 h0
  simp at hk
  subst hk
  obtain ⟨bs, hbs⟩ := open_arrs h1
  exact ⟨k, v1, bs, rfl, wk, hbs⟩
end
end Go.Proofs.Ytiomdfhhejdoiaa


/- A region that draws its order and whose last operation writes a cell that it loads: what the loads read must hold till the last operation alone. The program's iterator over renumberings: the innermost loop: what follows from one image more. -/
import Derived.Test.YtoicdfdfajfopaaJ6
import Derived.Deep.RegionHeld3
import Derived.BigFrame
import Derived.BigRegion
namespace Go.Proofs.Ytoicdfdfajfopaa
section
variable {P : Program} {ops : Array Oper} {Q : Exit → Act → World → Prop} {md : Region.Mode} {S : World → Prop}
/-- Whatever order is picked from here on; S holds behind every operation but the last one. -/
def wpAnyB (P : Program) (md : Region.Mode) (ops : Array Oper) (Q : Exit → Act → World → Prop) (S : World → Prop) : Nat → Array Bool → Act → World → Prop
  | 0, listed, a, w => Region.ready md ops listed = [] ∧ Q .normal a w
  | fuel + 1, listed, a, w =>
    (Region.ready md ops listed = [] → Q .normal a w) ∧
    ∀ i ∈ Region.ready md ops listed, wpOp P ops Q i (fun a' w' => ((∃ k, (listed.setIfInBounds i true).getD k true = false) → S w') ∧ wpAnyB P md ops Q S fuel (listed.setIfInBounds i true) a' w') a w
theorem wpAny_of_B : ∀ (fuel : Nat) (listed : Array Bool) (a : Act) (w : World), wpAnyB P md ops Q S fuel listed a w → wpAny P md ops Q fuel listed a w
  | 0, _, _, _, h => h
  | fuel + 1, _, _, _, h => ⟨h.1, fun i hi => wpOp_mono (fun a' w' h' => wpAny_of_B fuel _ a' w' h'.2) (h.2 i hi)⟩
/-- An operation that somebody else waits for may be taken first where S holds till the last operation. -/
theorem wpAnyB_first {i k : Nat} {oi ok : Oper} {v : Value} (hi : ops[i]? = some oi) (hk : ops[k]? = some ok) (hki : ∃ e ∈ ok.after, Region.binds md e = true ∧ e.on = i) (hsel : ∀ (j : Nat) (o : Oper) cs b, ops[j]? = some o → o.op ≠ .select cs b)
    (hQ : ∀ c a w, Q (.panic c) (a.put oi.dst v) w → Q (.panic c) a w) :
    ∀ (fuel : Nat) (listed : Array Bool) (a : Act) (w : World),
      (∀ j oj, ops[j]? = some oj → j ≠ i → listed.getD j true = false → (∀ e ∈ oj.after, Region.binds md e = true → e.on ≠ i) → oi.apart ops oj = true) →
      i ∈ Region.ready md ops listed → listed.getD k true = false → i ≠ k → YieldsIf P ops S oi v a → S w →
      wpAnyB P md ops Q S fuel (listed.setIfInBounds i true) (a.put oi.dst v) w → wpAnyB P md ops Q S (fuel + 1) listed a w := by
  intro fuel
  induction fuel with
  | zero =>
    intro listed a w _ hr hku hik hy hS H
    refine ⟨fun h => (by rw [h] at hr; cases hr), fun j hj => ?_⟩
    by_cases hji : j = i
    · subst hji; exact hy.wpOp hi hS ⟨fun _ => hS, H⟩
    · have := ready_mono hj hji
      rw [H.1] at this
      cases this
  | succ fuel ih =>
    intro listed a w hfree hr hku hik hy hS H
    refine ⟨fun h => (by rw [h] at hr; cases hr), fun j hj => ?_⟩
    by_cases hji : j = i
    · subst hji; exact hy.wpOp hi hS ⟨fun _ => hS, H⟩
    · have h1 := H.2 j (ready_mono hj hji)
      obtain ⟨hjun, oj, hoj, hall⟩ := mem_ready.1 hj
      have hnot : ∀ e ∈ oj.after, Region.binds md e = true → e.on ≠ i := fun e he hb heq => by
        have h1 := hall e he hb
        have h0 := (mem_ready.1 hr).1
        rw [heq] at h1
        rcases Nat.lt_or_ge i listed.size with h' | h'
        · simp [h'] at h0 h1; rw [h0] at h1; cases h1
        · simp [Array.getElem?_eq_none h'] at h1
      have hjk : j ≠ k := fun e => by
        subst e
        rw [hk] at hoj
        cases hoj
        obtain ⟨e, he, hb, hon⟩ := hki
        exact hnot e he hb hon
      have h2 := wpOp_putIf hoj (hfree j oj hoj hji hjun hnot) (fun cs b => hsel i oi cs b hi) (fun cs b => hsel j oj cs b hoj) hQ hy h1
      have hfree' : ∀ k ok, ops[k]? = some ok → k ≠ i → (listed.setIfInBounds j true).getD k true = false →
          (∀ e ∈ ok.after, Region.binds md e = true → e.on ≠ i) → oi.apart ops ok = true := fun k ok hk hki hun hno => by
        refine hfree k ok hk hki ?_ hno
        by_cases hjk : j = k
        · subst hjk; exact hjun
        · rw [getD_set_ne true hjk] at hun; exact hun
      have hku' : (listed.setIfInBounds j true).getD k true = false := by rw [getD_set_ne true hjk]; exact hku
      refine wpOp_mono (fun a' w' h3 => ?_) h2
      have hS' : S w' := h3.2.1 ⟨k, by rw [getD_set_ne true hjk, getD_set_ne true hik]; exact hku⟩
      refine ⟨fun _ => hS', ih (listed.setIfInBounds j true) a' w' hfree' (ready_mono hr (Ne.symm hji)) hku' hik h3.1 hS' ?_⟩
      rw [Array.setIfInBounds_comm _ _ hji]
      exact h3.2.2
theorem get_of_drop {ops : Array Oper} {i : Nat} {o : Oper} {r : List Oper} (h : ops.toList.drop i = o :: r) : ops[i]? = some o := by
  have : (ops.toList.drop i)[0]? = some o := by rw [h]; rfl
  rw [List.getElem?_drop] at this
  simpa using this
/-- Somebody who has not come up waits for number i. -/
def waits (md : Region.Mode) (ops : Array Oper) (listed : Array Bool) (i : Nat) : Bool :=
  (List.range ops.size).any fun k => k != i && !listed.getD k true && match ops[k]? with
    | some ok => ok.after.any fun e => Region.binds md e && e.on == i
    | none => false
theorem wpAnyB_take {i : Nat} {oi : Oper} {r : List Oper} {v : Value} {fuel : Nat} {listed : Array Bool} {a : Act} {w : World} (hi : ops.toList.drop i = oi :: r)
    (hs : Region.noSelect ops = true) (hf : Region.free md ops listed i = true) (hr : (Region.ready md ops listed).contains i = true) (hw : waits md ops listed i = true)
    (hQ : ∀ c a w, Q (.panic c) (a.put oi.dst v) w → Q (.panic c) a w) (hy : YieldsIf P ops S oi v a) (hS : S w)
    (h : wpAnyB P md ops Q S fuel (listed.setIfInBounds i true) (a.put oi.dst v) w) : wpAnyB P md ops Q S (fuel + 1) listed a w := by
  unfold waits at hw
  rw [List.any_eq_true] at hw
  obtain ⟨k, _, hk⟩ := hw
  rw [Bool.and_eq_true, Bool.and_eq_true] at hk
  obtain ⟨⟨hki, hku⟩, hk⟩ := hk
  cases hok : ops[k]? with
  | none => rw [hok] at hk; cases hk
  | some ok =>
    rw [hok] at hk
    obtain ⟨e, he, hb⟩ := Array.any_eq_true'.1 hk
    simp only [Bool.and_eq_true, beq_iff_eq] at hb
    exact wpAnyB_first (get_of_drop hi) hok ⟨e, he, hb⟩ (Region.noSelect_spec hs) hQ fuel listed a w (Region.free_spec (get_of_drop hi) hf) (by simpa using hr) (by simpa using hku) (fun e => by simp [e] at hki) hy hS h
def AllReadyB (P : Program) (md : Region.Mode) (ops : Array Oper) (Q : Exit → Act → World → Prop) (S : World → Prop) (fuel : Nat) (listed : Array Bool) (a : Act) (w : World) (rs : List Nat) : Prop :=
  ∀ i ∈ rs, wpOp P ops Q i (fun a' w' => ((∃ k, (listed.setIfInBounds i true).getD k true = false) → S w') ∧ wpAnyB P md ops Q S fuel (listed.setIfInBounds i true) a' w') a w
theorem AllReadyB.nil {fuel : Nat} {listed : Array Bool} {a : Act} {w : World} : AllReadyB P md ops Q S fuel listed a w [] := fun _ h => by cases h
theorem AllReadyB.cons {fuel : Nat} {listed : Array Bool} {a : Act} {w : World} {i : Nat} {o : Oper} {r : List Oper} {rs : List Nat} (ho : ops.toList.drop i = o :: r)
    (h : ∀ K' : Act → World → Prop, Shut (∀ a w, S w → (S w → wpAnyB P md ops Q S fuel (listed.setIfInBounds i true) a w) → K' a w) → if Region.wanted o (yielded ops a.tmps) = true then Oper.wp P o a w K' Q else K' (a.put o.dst undef) w)
    (hs : AllReadyB P md ops Q S fuel listed a w rs) : AllReadyB P md ops Q S fuel listed a w (i :: rs) := fun j hj => by
  rcases List.mem_cons.1 hj with rfl | hj
  · exact wpOp_step (get_of_drop ho) (fun K' hK => h K' (fun a w hS hW => hK a w ⟨fun _ => hS, hW hS⟩))
  · exact hs j hj
/-- The last operation: nothing is to be shown behind it but the post. -/
theorem AllReadyB.last {fuel : Nat} {listed : Array Bool} {a : Act} {w : World} {i : Nat} {o : Oper} {r : List Oper} (ho : ops.toList.drop i = o :: r) (hl : (listed.setIfInBounds i true).toList.all id = true) (hr : Region.ready md ops (listed.setIfInBounds i true) = [])
    (h : ∀ K' : Act → World → Prop, Shut (∀ a w, Q .normal a w → K' a w) → if Region.wanted o (yielded ops a.tmps) = true then Oper.wp P o a w K' Q else K' (a.put o.dst undef) w) : AllReadyB P md ops Q S fuel listed a w [i] := fun j hj => by
  have e := List.mem_singleton.1 hj
  subst e
  refine wpOp_step (get_of_drop ho) (fun K' hK => h K' (fun a w hq => hK a w ⟨fun ⟨k, hk⟩ => ?_, ?_⟩))
  · exfalso
    rw [Array.getD_eq_getD_getElem?] at hk
    cases hg : (listed.setIfInBounds j true)[k]? with
    | none => rw [hg] at hk; cases hk
    | some b =>
      rw [hg] at hk
      have hb : b = false := hk
      subst hb
      have := List.all_eq_true.1 hl false (by rw [Array.mem_toList_iff]; exact Array.mem_of_getElem? hg)
      cases this
  · cases fuel with
    | zero => exact ⟨hr, hq⟩
    | succ f => exact ⟨fun _ => hq, by rw [hr]; simp⟩
theorem wpAnyB_ready {rs : List Nat} {fuel : Nat} {listed : Array Bool} {a : Act} {w : World} (hr : Region.ready md ops listed = rs) (hne : rs ≠ [])
    (h : AllReadyB P md ops Q S fuel listed a w rs) : wpAnyB P md ops Q S (fuel + 1) listed a w :=
  ⟨fun h0 => absurd (hr ▸ h0) hne, hr ▸ h⟩
theorem wp_region_B {id : Nat} {a : Act} {w : World} (n : Nat) (hm : P.follows .mixedOrders = true) (hn : ops.size = n)
    (h : wpAnyB P .any ops Q S n (Array.replicate n false) a w.drew) : (Code.region id ops true).wp P Q a w := by
  subst hn
  exact wp_region_any hm (wpAny_of_B _ _ _ _ h)
end
end Go.Proofs.Ytoicdfdfajfopaa

namespace Go.Proofs.Ytoicdfdfajfopaa
open Go.RowKit Go.Maps Go.Shelf
def firstLoopR : Code → Option Code
  | .loop c => some c
  | .seq a b => match firstLoopR a with
    | some c => some c
    | none => firstLoopR b
  | .block _ c => firstLoopR c
  | .scope c => firstLoopR c
  | .cond _ a b => match firstLoopR a with
    | some c => some c
    | none => firstLoopR b
  | _ => none
noncomputable def ren1 : Code := (Try.f121.body.bind firstLoopR).getD .skip
noncomputable def ren2 : Code := (firstLoopR ren1).getD .skip
noncomputable def ren3 : Code := (firstLoopR ren2).getD .skip
/-- A table of third points in a box, below lim. -/
def TbR (W : World) (lim Bx n : Nat) (T : Nat → Nat → Nat) : Prop := ∃ (G cap : Nat) (gs cs : Nat → Nat), Bx < lim ∧ G < lim ∧ (∀ a, a < n → gs a < lim) ∧ W.cell? ⟨Bx, 0, none⟩ = some (.slice (some ⟨G, 0, none⟩) n cap) ∧
  (∀ a, a < n → W.cell? ⟨G, a, none⟩ = some (.slice (some ⟨gs a, 0, none⟩) n (cs a))) ∧ ∀ a c, a < n → c < n → a ≠ c → W.cell? ⟨gs a, c, none⟩ = some (.int .i64 (T a c : Int))
theorem TbR.below {W W' : World} {lim lim' Bx n : Nat} {T : Nat → Nat → Nat} (h : TbR W lim Bx n T) (hb : Below lim' W W') (hl : lim ≤ lim') : TbR W' lim Bx n T := by
  obtain ⟨G, cap, gs, cs, h1, h2, h3, h4, h5, h6⟩ := h
  exact ⟨G, cap, gs, cs, h1, h2, h3, (hb.cell (p := ⟨Bx, 0, none⟩) (show Bx < lim' by omega)).trans h4, fun a ha => (hb.cell (p := ⟨G, a, none⟩) (show G < lim' by omega)).trans (h5 a ha), fun a c ha hc hne => (hb.cell (p := ⟨gs a, c, none⟩) (show gs a < lim' by have := h3 a ha; omega)).trans (h6 a c ha hc hne)⟩
/-- What follows, of the first k points. -/
def newsK (T1 T2 : Nat → Nat → Nat) (m : List (Option Nat)) (a b k : Nat) : List (Nat × Nat) := news k T1 T2 m a b
theorem newsK_succ (T1 T2 : Nat → Nat → Nat) (m : List (Option Nat)) (a b k : Nat) : newsK T1 T2 m a b (k + 1) = newsK T1 T2 m a b k ++ match gm m k with
    | none => []
    | some d => if gm m (T1 a k) = some (T2 b d) then [] else [(T1 a k, T2 b d)] := by
  unfold newsK news
  rw [List.range_succ, List.filterMap_append]
  congr 1
  cases h : gm m k with
  | none => simp [h]
  | some d =>
    by_cases h2 : gm m (T1 a k) = some (T2 b d)
    · simp [h, h2]
    · simp [h, h2]
def castP (ps : List (Nat × Nat)) : List (Int × Int) := ps.map fun p => ((p.1 : Int), (p.2 : Int))
theorem castP_len (ps : List (Nat × Nat)) : (castP ps).length = ps.length := by simp [castP]
theorem castP_snoc (ps : List (Nat × Nat)) (x y : Nat) : castP ps ++ [((x : Int), (y : Int))] = castP (ps ++ [(x, y)]) := by simp [castP]
theorem castP_append (ps qs : List (Nat × Nat)) : castP (ps ++ qs) = castP ps ++ castP qs := by simp [castP]
theorem OwnJ.cellJ {W : World} {base g n cap : Nat} {zs : List Int} (h : OwnJ W base (.slice (some ⟨g, 0, none⟩) n cap) zs) {i : Nat} (hi : i < zs.length) : W.cell? ⟨g, i, none⟩ = some (.int .i64 (zs[i]?.getD 0)) := by
  have := h.cells (g := g) rfl i (.int .i64 (zs[i]?.getD 0)) (by simp [hi])
  rw [addr_at, Nat.zero_add] at this
  exact this
set_option maxRecDepth 1000000 in
def WI3 (W : World) (Bf Bt g1 n cap1 a b q0 : Nat) (ps : List (Nat × Nat)) (T1 T2 : Nat → Nat → Nat) (m : List (Option Nat)) (ds : List Deferred) (c0 c1 c4 c5 c6 c13 c14 c15 c16 c17 c18 c19 c20 c21 c22 c23 c24 c25 c26 c27 c28 c29 c30 c31 c32 c33 c34 c35 c36 c37 c38 c39 c40 c41 c42 c43 c44 c45 c46 c47 c48 c49 c50 c51 c52 c53 c54 c55 c56 c57 c58 c59 c60 c109 c110 c111 c112 c113 c114 c115 c116 c117 c118 c119 c120 c121 c122 : Value) (a' : Act) (w' : World) : Prop :=
  ∃ (k : Nat) (u8 : Value) (u11 u12 u64 u65 u66 u67 u68 u69 u70 u71 u72 u73 u74 u75 u76 u77 u78 u79 u80 u81 u82 u83 u84 u85 u86 u87 u88 u89 u90 u91 u92 u93 u94 u95 u96 u97 u98 u99 u100 u101 u102 u103 u104 u105 u106 u107 u108 : Value), k ≤ n ∧ QuP w' q0 u8 (castP (ps ++ newsK T1 T2 m a b k)) ∧ Below q0 W w' ∧ q0 ≤ w'.heap.size ∧ a' = { tmps := #[c0, c1, .pointer (some ⟨Bt, 0, none⟩), .pointer (some ⟨Bf, 0, none⟩), c4, c5, c6, .slice (some ⟨g1, 0, none⟩) n cap1, u8, .int .i64 (a : Int), .int .i64 (b : Int), u11, u12, c13, c14, c15, c16, c17, c18, c19, c20, c21, c22, c23, c24, c25, c26, c27, c28, c29, c30, c31, c32, c33, c34, c35, c36, c37, c38, c39, c40, c41, c42, c43, c44, c45, c46, c47, c48, c49, c50, c51, c52, c53, c54, c55, c56, c57, c58, c59, c60, .slice (some ⟨g1, 0, none⟩) n cap1, .int .i64 (n : Int), .int .i64 (k : Int), u64, u65, u66, u67, u68, u69, u70, u71, u72, u73, u74, u75, u76, u77, u78, u79, u80, u81, u82, u83, u84, u85, u86, u87, u88, u89, u90, u91, u92, u93, u94, u95, u96, u97, u98, u99, u100, u101, u102, u103, u104, u105, u106, u107, u108, c109, c110, c111, c112, c113, c114, c115, c116, c117, c118, c119, c120, c121, c122], defers := ds }
set_option maxRecDepth 1000000 in
set_option maxHeartbeats 4000000 in
theorem ren3_none {W : World} {Bf Bt g1 n cap1 a b q0 : Nat} {ps : List (Nat × Nat)} {T1 T2 : Nat → Nat → Nat} {m : List (Option Nat)} {ds : List Deferred} {k : Nat} {wr : World} (hn : n ≤ 15) (hcell : wr.cell? ⟨g1, k, none⟩ = some (.int .i64 (-1))) (hS : newsK T1 T2 m a b (k + 1) = newsK T1 T2 m a b k)
    (c0 c1 c4 c5 c6 c13 c14 c15 c16 c17 c18 c19 c20 c21 c22 c23 c24 c25 c26 c27 c28 c29 c30 c31 c32 c33 c34 c35 c36 c37 c38 c39 c40 c41 c42 c43 c44 c45 c46 c47 c48 c49 c50 c51 c52 c53 c54 c55 c56 c57 c58 c59 c60 c109 c110 c111 c112 c113 c114 c115 c116 c117 c118 c119 c120 c121 c122 : Value) (Q0 : Exit → Act → World → Prop)
    (u8 : Value) (u11 u12 u64 u65 u66 u67 u68 u69 u70 u71 u72 u73 u74 u75 u76 u77 u78 u79 u80 u81 u82 u83 u84 u85 u86 u87 u88 u89 u90 u91 u92 u93 u94 u95 u96 u97 u98 u99 u100 u101 u102 u103 u104 u105 u106 u107 u108 : Value) (hkn : k < n) (hQ : QuP wr q0 u8 (castP (ps ++ newsK T1 T2 m a b k))) (hB : Below q0 W wr) (hz : q0 ≤ wr.heap.size) :
    Code.wp Try.prog ren3 (Exit.then (fun a' w' => WI3 W Bf Bt g1 n cap1 a b q0 ps T1 T2 m ds c0 c1 c4 c5 c6 c13 c14 c15 c16 c17 c18 c19 c20 c21 c22 c23 c24 c25 c26 c27 c28 c29 c30 c31 c32 c33 c34 c35 c36 c37 c38 c39 c40 c41 c42 c43 c44 c45 c46 c47 c48 c49 c50 c51 c52 c53 c54 c55 c56 c57 c58 c59 c60 c109 c110 c111 c112 c113 c114 c115 c116 c117 c118 c119 c120 c121 c122 a' w' ∧ (n - (intOf (a'.tmps.getD 63 undef)).toNat) < n - k) Q0) { tmps := #[c0, c1, .pointer (some ⟨Bt, 0, none⟩), .pointer (some ⟨Bf, 0, none⟩), c4, c5, c6, .slice (some ⟨g1, 0, none⟩) n cap1, u8, .int .i64 (a : Int), .int .i64 (b : Int), u11, u12, c13, c14, c15, c16, c17, c18, c19, c20, c21, c22, c23, c24, c25, c26, c27, c28, c29, c30, c31, c32, c33, c34, c35, c36, c37, c38, c39, c40, c41, c42, c43, c44, c45, c46, c47, c48, c49, c50, c51, c52, c53, c54, c55, c56, c57, c58, c59, c60, .slice (some ⟨g1, 0, none⟩) n cap1, .int .i64 (n : Int), .int .i64 (k : Int), u64, u65, u66, u67, u68, u69, u70, u71, u72, u73, u74, u75, u76, u77, u78, u79, u80, u81, u82, u83, u84, u85, u86, u87, u88, u89, u90, u91, u92, u93, u94, u95, u96, u97, u98, u99, u100, u101, u102, u103, u104, u105, u106, u107, u108, c109, c110, c111, c112, c113, c114, c115, c116, c117, c118, c119, c120, c121, c122], defers := ds } wr := by
  conv => arg 2; whnf
  have HQ := Lib.hid hQ
  have HS := Lib.hid hS
  clear hQ hS
  go_wp2
  refine wp_region_quiet_below (by kernel_rfl) (by kernel_rfl) ?_
  repeat (go_big_quiet_step (fail))
  refine wpQuiet_nil ?_
  intro _ hw'
  obtain ⟨⟨dq, osq⟩, hw''⟩ := hw'
  subst hw''
  have hbq := below_regrown wr dq osq
  go_wp2
  rw [show ((k : Int) + 1) = ((k + 1 : Nat) : Int) by omega]
  refine ⟨⟨k + 1, _, _, _, _, _, _, _, _, _, _, _, _, _, _, _, _, _, _, _, _, _, _, _, _, _, _, _, _, _, _, _, _, _, _, _, _, _, _, _, _, _, _, _, _, _, _, _, _, hkn, ?_, hB.trans (hbq.mono hz), Nat.le_trans hz hbq.size, rfl⟩, ?_⟩
  · rw [HS.out]
    exact HQ.out.below hbq
  · show n - ((k + 1 : Nat) : Int).toNat < n - k
    omega
set_option maxRecDepth 1000000 in
set_option maxHeartbeats 4000000 in
theorem ren3_eq {W : World} {G H ga gb ca cb capG capH x y d : Nat} {Bf Bt g1 n cap1 a b q0 : Nat} {ps : List (Nat × Nat)} {T1 T2 : Nat → Nat → Nat} {m : List (Option Nat)} {ds : List Deferred} {k : Nat} {wr : World} (hn : n ≤ 15) (f0 : wr.cell? ⟨Bf, 0, none⟩ = some (.slice (some ⟨G, 0, none⟩) n capG)) (f1 : wr.cell? ⟨G, a, none⟩ = some (.slice (some ⟨ga, 0, none⟩) n ca)) (f2 : wr.cell? ⟨ga, k, none⟩ = some (.int .i64 (x : Int)))
    (t0 : wr.cell? ⟨Bt, 0, none⟩ = some (.slice (some ⟨H, 0, none⟩) n capH)) (t1 : wr.cell? ⟨H, b, none⟩ = some (.slice (some ⟨gb, 0, none⟩) n cb)) (t2 : wr.cell? ⟨gb, d, none⟩ = some (.int .i64 (y : Int))) (ha : a < n) (hb : b < n) (hdn : d < n) (hxn : x < n)
    (hcell : wr.cell? ⟨g1, k, none⟩ = some (.int .i64 (d : Int))) (mcell : wr.cell? ⟨g1, x, none⟩ = some (.int .i64 (y : Int))) (hS : newsK T1 T2 m a b (k + 1) = newsK T1 T2 m a b k)
    (c0 c1 c4 c5 c6 c13 c14 c15 c16 c17 c18 c19 c20 c21 c22 c23 c24 c25 c26 c27 c28 c29 c30 c31 c32 c33 c34 c35 c36 c37 c38 c39 c40 c41 c42 c43 c44 c45 c46 c47 c48 c49 c50 c51 c52 c53 c54 c55 c56 c57 c58 c59 c60 c109 c110 c111 c112 c113 c114 c115 c116 c117 c118 c119 c120 c121 c122 : Value) (Q0 : Exit → Act → World → Prop)
    (u8 : Value) (u11 u12 u64 u65 u66 u67 u68 u69 u70 u71 u72 u73 u74 u75 u76 u77 u78 u79 u80 u81 u82 u83 u84 u85 u86 u87 u88 u89 u90 u91 u92 u93 u94 u95 u96 u97 u98 u99 u100 u101 u102 u103 u104 u105 u106 u107 u108 : Value) (hkn : k < n) (hQ : QuP wr q0 u8 (castP (ps ++ newsK T1 T2 m a b k))) (hB : Below q0 W wr) (hz : q0 ≤ wr.heap.size) :
    Code.wp Try.prog ren3 (Exit.then (fun a' w' => WI3 W Bf Bt g1 n cap1 a b q0 ps T1 T2 m ds c0 c1 c4 c5 c6 c13 c14 c15 c16 c17 c18 c19 c20 c21 c22 c23 c24 c25 c26 c27 c28 c29 c30 c31 c32 c33 c34 c35 c36 c37 c38 c39 c40 c41 c42 c43 c44 c45 c46 c47 c48 c49 c50 c51 c52 c53 c54 c55 c56 c57 c58 c59 c60 c109 c110 c111 c112 c113 c114 c115 c116 c117 c118 c119 c120 c121 c122 a' w' ∧ (n - (intOf (a'.tmps.getD 63 undef)).toNat) < n - k) Q0) { tmps := #[c0, c1, .pointer (some ⟨Bt, 0, none⟩), .pointer (some ⟨Bf, 0, none⟩), c4, c5, c6, .slice (some ⟨g1, 0, none⟩) n cap1, u8, .int .i64 (a : Int), .int .i64 (b : Int), u11, u12, c13, c14, c15, c16, c17, c18, c19, c20, c21, c22, c23, c24, c25, c26, c27, c28, c29, c30, c31, c32, c33, c34, c35, c36, c37, c38, c39, c40, c41, c42, c43, c44, c45, c46, c47, c48, c49, c50, c51, c52, c53, c54, c55, c56, c57, c58, c59, c60, .slice (some ⟨g1, 0, none⟩) n cap1, .int .i64 (n : Int), .int .i64 (k : Int), u64, u65, u66, u67, u68, u69, u70, u71, u72, u73, u74, u75, u76, u77, u78, u79, u80, u81, u82, u83, u84, u85, u86, u87, u88, u89, u90, u91, u92, u93, u94, u95, u96, u97, u98, u99, u100, u101, u102, u103, u104, u105, u106, u107, u108, c109, c110, c111, c112, c113, c114, c115, c116, c117, c118, c119, c120, c121, c122], defers := ds } wr := by
  conv => arg 2; whnf
  have hd1 : ((d : Int) != -1) = true := by rw [bne_iff_ne]; omega
  have hy1 : ((y : Int) != (y : Int)) = false := by simp
  have HQ := Lib.hid hQ
  have HS := Lib.hid hS
  clear hQ hS
  go_wp2
  have f0 := cell_regrown f0
  have f1 := cell_regrown f1
  have f2 := cell_regrown f2
  have t0 := cell_regrown t0
  have t1 := cell_regrown t1
  have t2 := cell_regrown t2
  have mcell := cell_regrown mcell
  refine wp_region_quiet_below (by kernel_rfl) (by kernel_rfl) ?_
  repeat (go_big_quiet_step (fail))
  refine wpQuiet_nil ?_
  intro _ hw'
  obtain ⟨⟨dq, osq⟩, hw''⟩ := hw'
  subst hw''
  have hbq := below_regrown wr dq osq
  go_wp2
  rw [show ((k : Int) + 1) = ((k + 1 : Nat) : Int) by omega]
  refine ⟨⟨k + 1, _, _, _, _, _, _, _, _, _, _, _, _, _, _, _, _, _, _, _, _, _, _, _, _, _, _, _, _, _, _, _, _, _, _, _, _, _, _, _, _, _, _, _, _, _, _, _, _, hkn, ?_, hB.trans (hbq.mono hz), Nat.le_trans hz hbq.size, rfl⟩, ?_⟩
  · rw [HS.out]
    exact HQ.out.below hbq
  · show n - ((k + 1 : Nat) : Int).toNat < n - k
    omega
set_option maxRecDepth 1000000 in
set_option maxHeartbeats 4000000 in
theorem ren3_ne {W : World} {G H ga gb ca cb capG capH x y d : Nat} {Bf Bt g1 n cap1 a b q0 : Nat} {ps : List (Nat × Nat)} {T1 T2 : Nat → Nat → Nat} {m : List (Option Nat)} {ds : List Deferred} {k : Nat} {wr : World} (hn : n ≤ 15) (f0 : wr.cell? ⟨Bf, 0, none⟩ = some (.slice (some ⟨G, 0, none⟩) n capG)) (f1 : wr.cell? ⟨G, a, none⟩ = some (.slice (some ⟨ga, 0, none⟩) n ca)) (f2 : wr.cell? ⟨ga, k, none⟩ = some (.int .i64 (x : Int)))
    (t0 : wr.cell? ⟨Bt, 0, none⟩ = some (.slice (some ⟨H, 0, none⟩) n capH)) (t1 : wr.cell? ⟨H, b, none⟩ = some (.slice (some ⟨gb, 0, none⟩) n cb)) (t2 : wr.cell? ⟨gb, d, none⟩ = some (.int .i64 (y : Int))) (ha : a < n) (hb : b < n) (hdn : d < n) (hxn : x < n)
    (hcell : wr.cell? ⟨g1, k, none⟩ = some (.int .i64 (d : Int))) {z : Int} (mcell : wr.cell? ⟨g1, x, none⟩ = some (.int .i64 z)) (hzy : z ≠ (y : Int)) (hl : (castP (ps ++ newsK T1 T2 m a b k)).length ≤ 1100000) (hG : G < q0) (hga : ga < q0) (hH : H < q0) (hgb : gb < q0) (hBf : Bf < q0) (hBt : Bt < q0) (hS : newsK T1 T2 m a b (k + 1) = newsK T1 T2 m a b k ++ [(x, y)])
    (c0 c1 c4 c5 c6 c13 c14 c15 c16 c17 c18 c19 c20 c21 c22 c23 c24 c25 c26 c27 c28 c29 c30 c31 c32 c33 c34 c35 c36 c37 c38 c39 c40 c41 c42 c43 c44 c45 c46 c47 c48 c49 c50 c51 c52 c53 c54 c55 c56 c57 c58 c59 c60 c109 c110 c111 c112 c113 c114 c115 c116 c117 c118 c119 c120 c121 c122 : Value) (Q0 : Exit → Act → World → Prop) (hQ0 : ∀ c a a' w, Q0 (.panic c) a w → Q0 (.panic c) a' w)
    (u8 : Value) (u11 u12 u64 u65 u66 u67 u68 u69 u70 u71 u72 u73 u74 u75 u76 u77 u78 u79 u80 u81 u82 u83 u84 u85 u86 u87 u88 u89 u90 u91 u92 u93 u94 u95 u96 u97 u98 u99 u100 u101 u102 u103 u104 u105 u106 u107 u108 : Value) (hkn : k < n) (hQ : QuP wr q0 u8 (castP (ps ++ newsK T1 T2 m a b k))) (hB : Below q0 W wr) (hz : q0 ≤ wr.heap.size) :
    Code.wp Try.prog ren3 (Exit.then (fun a' w' => WI3 W Bf Bt g1 n cap1 a b q0 ps T1 T2 m ds c0 c1 c4 c5 c6 c13 c14 c15 c16 c17 c18 c19 c20 c21 c22 c23 c24 c25 c26 c27 c28 c29 c30 c31 c32 c33 c34 c35 c36 c37 c38 c39 c40 c41 c42 c43 c44 c45 c46 c47 c48 c49 c50 c51 c52 c53 c54 c55 c56 c57 c58 c59 c60 c109 c110 c111 c112 c113 c114 c115 c116 c117 c118 c119 c120 c121 c122 a' w' ∧ (n - (intOf (a'.tmps.getD 63 undef)).toNat) < n - k) Q0) { tmps := #[c0, c1, .pointer (some ⟨Bt, 0, none⟩), .pointer (some ⟨Bf, 0, none⟩), c4, c5, c6, .slice (some ⟨g1, 0, none⟩) n cap1, u8, .int .i64 (a : Int), .int .i64 (b : Int), u11, u12, c13, c14, c15, c16, c17, c18, c19, c20, c21, c22, c23, c24, c25, c26, c27, c28, c29, c30, c31, c32, c33, c34, c35, c36, c37, c38, c39, c40, c41, c42, c43, c44, c45, c46, c47, c48, c49, c50, c51, c52, c53, c54, c55, c56, c57, c58, c59, c60, .slice (some ⟨g1, 0, none⟩) n cap1, .int .i64 (n : Int), .int .i64 (k : Int), u64, u65, u66, u67, u68, u69, u70, u71, u72, u73, u74, u75, u76, u77, u78, u79, u80, u81, u82, u83, u84, u85, u86, u87, u88, u89, u90, u91, u92, u93, u94, u95, u96, u97, u98, u99, u100, u101, u102, u103, u104, u105, u106, u107, u108, c109, c110, c111, c112, c113, c114, c115, c116, c117, c118, c119, c120, c121, c122], defers := ds } wr := by
  conv => arg 2; whnf
  have hd1 : ((d : Int) != -1) = true := by rw [bne_iff_ne]; omega
  have hy1 : (z != (y : Int)) = true := by rw [bne_iff_ne]; exact hzy
  have HQ := Lib.hid hQ
  have HS := Lib.hid hS
  clear hQ hS
  go_wp2
  have f0 := cell_regrown f0
  have f1 := cell_regrown f1
  have f2 := cell_regrown f2
  have t0 := cell_regrown t0
  have t1 := cell_regrown t1
  have t2 := cell_regrown t2
  have mcell := cell_regrown mcell
  refine wp_region_quiet_below (by kernel_rfl) (by kernel_rfl) ?_
  repeat (go_big_quiet_step (fail))
  refine wpQuiet_nil ?_
  intro _ hw'
  obtain ⟨⟨dq, osq⟩, hw''⟩ := hw'
  subst hw''
  have hbq := below_regrown wr dq osq
  obtain ⟨V, hV⟩ : ∃ V, V = «Sort».grow (redrawn wr dq) osq := ⟨_, rfl⟩
  have HQ2 := Lib.hid (HQ.out.below hbq)
  have HBV := Lib.hid (hB.trans (hbq.mono hz))
  have hzV := Nat.le_trans hz hbq.size
  have f0 := f0 dq osq
  have f1 := f1 dq osq
  have f2 := f2 dq osq
  have t0 := t0 dq osq
  have t1 := t1 dq osq
  have t2 := t2 dq osq
  have HL := Lib.hid hl
  rw [← hV] at HQ2 HBV hzV f0 f1 f2 t0 t1 t2 ⊢
  obtain ⟨L, hL⟩ : ∃ L, L = castP (ps ++ newsK T1 T2 m a b k) := ⟨_, rfl⟩
  rw [← hL] at HQ2 HL
  obtain ⟨p8, n8, d8, hu8⟩ : ∃ p n d, u8 = .slice p n d := by obtain ⟨_, _, _, _, e, _⟩ := HQ2.out; exact ⟨_, _, _, e⟩
  subst hu8
  have HS2 := Lib.hid hL
  clear hV hbq HQ hB hz mcell hcell hl hL hy1 hd1
  go_wp2
  have hlt : ∀ i, i < q0 → i < V.heap.size := fun i hi => by omega
  refine wp_region_B (S := (fun w' : World => w'.cell? ⟨Bf, 0, none⟩ = some (.slice (some ⟨G, 0, none⟩) n capG) ∧ w'.cell? ⟨G, a, none⟩ = some (.slice (some ⟨ga, 0, none⟩) n ca) ∧ w'.cell? ⟨ga, k, none⟩ = some (.int .i64 (x : Int)) ∧ w'.cell? ⟨Bt, 0, none⟩ = some (.slice (some ⟨H, 0, none⟩) n capH) ∧ w'.cell? ⟨H, b, none⟩ = some (.slice (some ⟨gb, 0, none⟩) n cb) ∧ w'.cell? ⟨gb, d, none⟩ = some (.int .i64 (y : Int)))) 19 (by kernel_rfl) (by kernel_rfl) ?_
  have hS0 : (fun w' : World => w'.cell? ⟨Bf, 0, none⟩ = some (.slice (some ⟨G, 0, none⟩) n capG) ∧ w'.cell? ⟨G, a, none⟩ = some (.slice (some ⟨ga, 0, none⟩) n ca) ∧ w'.cell? ⟨ga, k, none⟩ = some (.int .i64 (x : Int)) ∧ w'.cell? ⟨Bt, 0, none⟩ = some (.slice (some ⟨H, 0, none⟩) n capH) ∧ w'.cell? ⟨H, b, none⟩ = some (.slice (some ⟨gb, 0, none⟩) n cb) ∧ w'.cell? ⟨gb, d, none⟩ = some (.int .i64 (y : Int))) V.drew := ⟨f0, f1, f2, t0, t1, t2⟩
  refine wpAnyB_take (i := 0) (v := ?vv0) rfl (by kernel_rfl) (by kernel_rfl) (by kernel_rfl) (by kernel_rfl) (fun _ _ _ h => hQ0 _ _ _ _ h) (Or.inl ⟨by rfl, ?yy0⟩) hS0 ?rr0
  case yy0 =>
    intro wq hSw
    obtain ⟨q0', q1', q2', q3', q4', q5'⟩ := hSw
    go_simp
    try with_reducible rfl
  simp only [Act.put, List.setIfInBounds_toArray, List.set_cons_zero, List.set_cons_succ]
  refine wpAnyB_take (i := 1) (v := ?vv1) rfl (by kernel_rfl) (by kernel_rfl) (by kernel_rfl) (by kernel_rfl) (fun _ _ _ h => hQ0 _ _ _ _ h) (Or.inl ⟨by rfl, ?yy1⟩) hS0 ?rr1
  case yy1 =>
    intro wq hSw
    obtain ⟨q0', q1', q2', q3', q4', q5'⟩ := hSw
    go_simp
    try with_reducible rfl
  simp only [Act.put, List.setIfInBounds_toArray, List.set_cons_zero, List.set_cons_succ]
  refine wpAnyB_take (i := 2) (v := ?vv2) rfl (by kernel_rfl) (by kernel_rfl) (by kernel_rfl) (by kernel_rfl) (fun _ _ _ h => hQ0 _ _ _ _ h) (Or.inl ⟨by rfl, ?yy2⟩) hS0 ?rr2
  case yy2 =>
    intro wq hSw
    obtain ⟨q0', q1', q2', q3', q4', q5'⟩ := hSw
    go_simp
    try with_reducible rfl
  simp only [Act.put, List.setIfInBounds_toArray, List.set_cons_zero, List.set_cons_succ]
  refine wpAnyB_take (i := 3) (v := ?vv3) rfl (by kernel_rfl) (by kernel_rfl) (by kernel_rfl) (by kernel_rfl) (fun _ _ _ h => hQ0 _ _ _ _ h) (Or.inl ⟨by rfl, ?yy3⟩) hS0 ?rr3
  case yy3 =>
    intro wq hSw
    obtain ⟨q0', q1', q2', q3', q4', q5'⟩ := hSw
    go_simp
    try with_reducible rfl
  simp only [Act.put, List.setIfInBounds_toArray, List.set_cons_zero, List.set_cons_succ]
  refine wpAnyB_take (i := 4) (v := ?vv4) rfl (by kernel_rfl) (by kernel_rfl) (by kernel_rfl) (by kernel_rfl) (fun _ _ _ h => hQ0 _ _ _ _ h) (Or.inl ⟨by rfl, ?yy4⟩) hS0 ?rr4
  case yy4 =>
    intro wq hSw
    obtain ⟨q0', q1', q2', q3', q4', q5'⟩ := hSw
    go_simp
    try with_reducible rfl
  simp only [Act.put, List.setIfInBounds_toArray, List.set_cons_zero, List.set_cons_succ]
  refine wpAnyB_take (i := 5) (v := ?vv5) rfl (by kernel_rfl) (by kernel_rfl) (by kernel_rfl) (by kernel_rfl) (fun _ _ _ h => hQ0 _ _ _ _ h) (Or.inl ⟨by rfl, ?yy5⟩) hS0 ?rr5
  case yy5 =>
    intro wq hSw
    obtain ⟨q0', q1', q2', q3', q4', q5'⟩ := hSw
    go_simp
    try with_reducible rfl
  simp only [Act.put, List.setIfInBounds_toArray, List.set_cons_zero, List.set_cons_succ]
  refine wpAnyB_take (i := 6) (v := ?vv6) rfl (by kernel_rfl) (by kernel_rfl) (by kernel_rfl) (by kernel_rfl) (fun _ _ _ h => hQ0 _ _ _ _ h) (Or.inl ⟨by rfl, ?yy6⟩) hS0 ?rr6
  case yy6 =>
    intro wq hSw
    obtain ⟨q0', q1', q2', q3', q4', q5'⟩ := hSw
    go_simp
    try with_reducible rfl
  simp only [Act.put, List.setIfInBounds_toArray, List.set_cons_zero, List.set_cons_succ]
  refine wpAnyB_take (i := 7) (v := ?vv7) rfl (by kernel_rfl) (by kernel_rfl) (by kernel_rfl) (by kernel_rfl) (fun _ _ _ h => hQ0 _ _ _ _ h) (Or.inl ⟨by rfl, ?yy7⟩) hS0 ?rr7
  case yy7 =>
    intro wq hSw
    obtain ⟨q0', q1', q2', q3', q4', q5'⟩ := hSw
    go_simp
    try with_reducible rfl
  simp only [Act.put, List.setIfInBounds_toArray, List.set_cons_zero, List.set_cons_succ]
  refine wpAnyB_take (i := 8) (v := ?vv8) rfl (by kernel_rfl) (by kernel_rfl) (by kernel_rfl) (by kernel_rfl) (fun _ _ _ h => hQ0 _ _ _ _ h) (Or.inl ⟨by rfl, ?yy8⟩) hS0 ?rr8
  case yy8 =>
    intro wq hSw
    obtain ⟨q0', q1', q2', q3', q4', q5'⟩ := hSw
    go_simp
    try with_reducible rfl
  simp only [Act.put, List.setIfInBounds_toArray, List.set_cons_zero, List.set_cons_succ]
  refine wpAnyB_take (i := 9) (v := ?vv9) rfl (by kernel_rfl) (by kernel_rfl) (by kernel_rfl) (by kernel_rfl) (fun _ _ _ h => hQ0 _ _ _ _ h) (Or.inl ⟨by rfl, ?yy9⟩) hS0 ?rr9
  case yy9 =>
    intro wq hSw
    obtain ⟨q0', q1', q2', q3', q4', q5'⟩ := hSw
    go_simp
    try with_reducible rfl
  simp only [Act.put, List.setIfInBounds_toArray, List.set_cons_zero, List.set_cons_succ]
  refine wpAnyB_take (i := 10) (v := ?vv10) rfl (by kernel_rfl) (by kernel_rfl) (by kernel_rfl) (by kernel_rfl) (fun _ _ _ h => hQ0 _ _ _ _ h) (Or.inl ⟨by rfl, ?yy10⟩) hS0 ?rr10
  case yy10 =>
    intro wq hSw
    obtain ⟨q0', q1', q2', q3', q4', q5'⟩ := hSw
    go_simp
    try with_reducible rfl
  simp only [Act.put, List.setIfInBounds_toArray, List.set_cons_zero, List.set_cons_succ]
  refine wpAnyB_take (i := 11) (v := ?vv11) rfl (by kernel_rfl) (by kernel_rfl) (by kernel_rfl) (by kernel_rfl) (fun _ _ _ h => hQ0 _ _ _ _ h) (Or.inl ⟨by rfl, ?yy11⟩) hS0 ?rr11
  case yy11 =>
    intro wq hSw
    obtain ⟨q0', q1', q2', q3', q4', q5'⟩ := hSw
    go_simp
    try with_reducible rfl
  simp only [Act.put, List.setIfInBounds_toArray, List.set_cons_zero, List.set_cons_succ]
  refine wpAnyB_take (i := 12) (v := ?vv12) rfl (by kernel_rfl) (by kernel_rfl) (by kernel_rfl) (by kernel_rfl) (fun _ _ _ h => hQ0 _ _ _ _ h) (Or.inl ⟨by rfl, ?yy12⟩) hS0 ?rr12
  case yy12 =>
    intro wq hSw
    obtain ⟨q0', q1', q2', q3', q4', q5'⟩ := hSw
    go_simp
    try with_reducible rfl
  simp only [Act.put, List.setIfInBounds_toArray, List.set_cons_zero, List.set_cons_succ]
  refine wpAnyB_take (i := 13) (v := ?vv13) rfl (by kernel_rfl) (by kernel_rfl) (by kernel_rfl) (by kernel_rfl) (fun _ _ _ h => hQ0 _ _ _ _ h) (Or.inl ⟨by rfl, ?yy13⟩) hS0 ?rr13
  case yy13 =>
    intro wq hSw
    obtain ⟨q0', q1', q2', q3', q4', q5'⟩ := hSw
    go_simp
    try with_reducible rfl
  simp only [Act.put, List.setIfInBounds_toArray, List.set_cons_zero, List.set_cons_succ]
  refine wpAnyB_take (i := 14) (v := ?vv14) rfl (by kernel_rfl) (by kernel_rfl) (by kernel_rfl) (by kernel_rfl) (fun _ _ _ h => hQ0 _ _ _ _ h) (Or.inl ⟨by rfl, ?yy14⟩) hS0 ?rr14
  case yy14 =>
    intro wq hSw
    obtain ⟨q0', q1', q2', q3', q4', q5'⟩ := hSw
    go_simp
    try with_reducible rfl
  simp only [Act.put, List.setIfInBounds_toArray, List.set_cons_zero, List.set_cons_succ]
  refine wpAnyB_take (i := 15) (v := ?vv15) rfl (by kernel_rfl) (by kernel_rfl) (by kernel_rfl) (by kernel_rfl) (fun _ _ _ h => hQ0 _ _ _ _ h) (Or.inl ⟨by rfl, ?yy15⟩) hS0 ?rr15
  case yy15 =>
    intro wq hSw
    obtain ⟨q0', q1', q2', q3', q4', q5'⟩ := hSw
    go_simp
    try with_reducible rfl
  simp only [Act.put, List.setIfInBounds_toArray, List.set_cons_zero, List.set_cons_succ]
  refine wpAnyB_ready (rs := [16]) (by kernel_rfl) (by simp) ?_
  refine (AllReadyB.cons rfl (fun K1 hK1 => ?_) AllReadyB.nil)
  go_simp
  have hA : Below V.heap.size V (V.drew.alloc (.cells #[.int .i64 (x : Int), .int .i64 (y : Int)] 124)) := ((Below.refl _ _).drew).alloc (by simp) _
  refine hK1.out _ _ ⟨(hA.cell (p := ⟨Bf, 0, none⟩) (show Bf < V.heap.size from hlt _ hBf)).trans f0, (hA.cell (p := ⟨G, a, none⟩) (show G < V.heap.size from hlt _ hG)).trans f1, (hA.cell (p := ⟨ga, k, none⟩) (show ga < V.heap.size from hlt _ hga)).trans f2, (hA.cell (p := ⟨Bt, 0, none⟩) (show Bt < V.heap.size from hlt _ hBt)).trans t0, (hA.cell (p := ⟨H, b, none⟩) (show H < V.heap.size from hlt _ hH)).trans t1, (hA.cell (p := ⟨gb, d, none⟩) (show gb < V.heap.size from hlt _ hgb)).trans t2⟩ (fun hS1 => ?_)
  clear hK1 K1
  try simp only [Act.put, List.setIfInBounds_toArray, List.set_cons_zero, List.set_cons_succ]
  refine wpAnyB_ready (rs := [17]) (by kernel_rfl) (by simp) ?_
  refine (AllReadyB.cons rfl (fun K2 hK2 => ?_) AllReadyB.nil)
  refine step_append_q rfl (.tmp 90) (.tmp 106) rfl q0 (.slice p8 n8 d8) L (x : Int) (y : Int) (by simp [Act.eval]) (HQ2.out.below hA) (Nat.le_trans hzV hA.size) V.heap.size 1 (by simp [Act.eval]) (by simp [go_sem]) (by simp [go_sem]) HL.out ?_
  intro gq oq cq w4 hq4 hg4
  have hb4 : Below q0 V w4 := (hA.mono hzV).grown hg4 (Nat.le_trans hzV hA.size) (fun r e => (HQ2.out.in_ r e).1)
  refine hK2.out _ _ ⟨(hb4.cell (p := ⟨Bf, 0, none⟩) (show Bf < q0 from hBf)).trans f0, (hb4.cell (p := ⟨G, a, none⟩) (show G < q0 from hG)).trans f1, (hb4.cell (p := ⟨ga, k, none⟩) (show ga < q0 from hga)).trans f2, (hb4.cell (p := ⟨Bt, 0, none⟩) (show Bt < q0 from hBt)).trans t0, (hb4.cell (p := ⟨H, b, none⟩) (show H < q0 from hH)).trans t1, (hb4.cell (p := ⟨gb, d, none⟩) (show gb < q0 from hgb)).trans t2⟩ (fun hS2 => ?_)
  clear hK2 K2
  try simp only [Act.put, List.setIfInBounds_toArray, List.set_cons_zero, List.set_cons_succ]
  refine wpAnyB_ready (rs := [18]) (by kernel_rfl) (by simp) ?_
  refine AllReadyB.last rfl (by kernel_rfl) (by kernel_rfl) (fun K3 hK3 => ?_)
  go_simp
  refine hK3.out _ _ ?_
  clear hK3 K3
  go_wp2
  rw [show ((k : Int) + 1) = ((k + 1 : Nat) : Int) by omega]
  refine ⟨⟨k + 1, _, _, _, _, _, _, _, _, _, _, _, _, _, _, _, _, _, _, _, _, _, _, _, _, _, _, _, _, _, _, _, _, _, _, _, _, _, _, _, _, _, _, _, _, _, _, _, _, hkn, ?_, HBV.out.trans hb4, Nat.le_trans hzV hb4.size, rfl⟩, ?_⟩
  · rw [HS.out, ← List.append_assoc, ← castP_snoc, ← HS2.out]
    exact hq4
  · show n - ((k + 1 : Nat) : Int).toNat < n - k
    omega
set_option maxRecDepth 1000000 in
set_option maxHeartbeats 4000000 in
theorem ren3_loop {W : World} {Bf Bt g1 n cap1 a b q0 lo : Nat} {ps : List (Nat × Nat)} {T1 T2 : Nat → Nat → Nat} {m : List (Option Nat)} {ds : List Deferred} (hn : n ≤ 15) (hps : ps.length ≤ 1000000)
    (hT1 : Thd n T1) (hm : m.length = n) (hg : ∀ c d, gm m c = some d → d < n) (ha : a < n) (hb : b < n) (hma : gm m a = none) (hmb : some b ∉ m)
    (hF : TbR W q0 Bf n T1) (hT : TbR W q0 Bt n T2) (hO : OwnJ W lo (.slice (some ⟨g1, 0, none⟩) n cap1) (encM m)) (hg1 : g1 < q0) (c0 c1 c4 c5 c6 c13 c14 c15 c16 c17 c18 c19 c20 c21 c22 c23 c24 c25 c26 c27 c28 c29 c30 c31 c32 c33 c34 c35 c36 c37 c38 c39 c40 c41 c42 c43 c44 c45 c46 c47 c48 c49 c50 c51 c52 c53 c54 c55 c56 c57 c58 c59 c60 c109 c110 c111 c112 c113 c114 c115 c116 c117 c118 c119 c120 c121 c122 : Value) (Q0 : Exit → Act → World → Prop)
    (hQ0 : ∀ c a a' w, Q0 (.panic c) a w → Q0 (.panic c) a' w)
    (hexit : ∀ a' w', (∃ (u8 : Value) (u11 u12 u64 u65 u66 u67 u68 u69 u70 u71 u72 u73 u74 u75 u76 u77 u78 u79 u80 u81 u82 u83 u84 u85 u86 u87 u88 u89 u90 u91 u92 u93 u94 u95 u96 u97 u98 u99 u100 u101 u102 u103 u104 u105 u106 u107 u108 : Value), QuP w' q0 u8 (castP (ps ++ news n T1 T2 m a b)) ∧ Below q0 W w' ∧ q0 ≤ w'.heap.size ∧ a' = { tmps := #[c0, c1, .pointer (some ⟨Bt, 0, none⟩), .pointer (some ⟨Bf, 0, none⟩), c4, c5, c6, .slice (some ⟨g1, 0, none⟩) n cap1, u8, .int .i64 (a : Int), .int .i64 (b : Int), u11, u12, c13, c14, c15, c16, c17, c18, c19, c20, c21, c22, c23, c24, c25, c26, c27, c28, c29, c30, c31, c32, c33, c34, c35, c36, c37, c38, c39, c40, c41, c42, c43, c44, c45, c46, c47, c48, c49, c50, c51, c52, c53, c54, c55, c56, c57, c58, c59, c60, .slice (some ⟨g1, 0, none⟩) n cap1, .int .i64 (n : Int), .int .i64 (n : Int), u64, u65, u66, u67, u68, u69, u70, u71, u72, u73, u74, u75, u76, u77, u78, u79, u80, u81, u82, u83, u84, u85, u86, u87, u88, u89, u90, u91, u92, u93, u94, u95, u96, u97, u98, u99, u100, u101, u102, u103, u104, u105, u106, u107, u108, c109, c110, c111, c112, c113, c114, c115, c116, c117, c118, c119, c120, c121, c122], defers := ds }) → Q0 (.exit 4) a' w')
    (u8 : Value) (u11 u12 u64 u65 u66 u67 u68 u69 u70 u71 u72 u73 u74 u75 u76 u77 u78 u79 u80 u81 u82 u83 u84 u85 u86 u87 u88 u89 u90 u91 u92 u93 u94 u95 u96 u97 u98 u99 u100 u101 u102 u103 u104 u105 u106 u107 u108 : Value) (hQ : QuP W q0 u8 (castP ps)) (hz : q0 ≤ W.heap.size) :
    Code.wp Try.prog (Code.loop ren3) Q0 { tmps := #[c0, c1, .pointer (some ⟨Bt, 0, none⟩), .pointer (some ⟨Bf, 0, none⟩), c4, c5, c6, .slice (some ⟨g1, 0, none⟩) n cap1, u8, .int .i64 (a : Int), .int .i64 (b : Int), u11, u12, c13, c14, c15, c16, c17, c18, c19, c20, c21, c22, c23, c24, c25, c26, c27, c28, c29, c30, c31, c32, c33, c34, c35, c36, c37, c38, c39, c40, c41, c42, c43, c44, c45, c46, c47, c48, c49, c50, c51, c52, c53, c54, c55, c56, c57, c58, c59, c60, .slice (some ⟨g1, 0, none⟩) n cap1, .int .i64 (n : Int), .int .i64 ((0 : Nat) : Int), u64, u65, u66, u67, u68, u69, u70, u71, u72, u73, u74, u75, u76, u77, u78, u79, u80, u81, u82, u83, u84, u85, u86, u87, u88, u89, u90, u91, u92, u93, u94, u95, u96, u97, u98, u99, u100, u101, u102, u103, u104, u105, u106, u107, u108, c109, c110, c111, c112, c113, c114, c115, c116, c117, c118, c119, c120, c121, c122], defers := ds } W := by
  refine wp_loop (fun a' w' => WI3 W Bf Bt g1 n cap1 a b q0 ps T1 T2 m ds c0 c1 c4 c5 c6 c13 c14 c15 c16 c17 c18 c19 c20 c21 c22 c23 c24 c25 c26 c27 c28 c29 c30 c31 c32 c33 c34 c35 c36 c37 c38 c39 c40 c41 c42 c43 c44 c45 c46 c47 c48 c49 c50 c51 c52 c53 c54 c55 c56 c57 c58 c59 c60 c109 c110 c111 c112 c113 c114 c115 c116 c117 c118 c119 c120 c121 c122 a' w') (fun a' _ => n - (intOf (a'.tmps.getD 63 undef)).toNat) ?_ ?_
  · exact ⟨0, u8, u11, u12, u64, u65, u66, u67, u68, u69, u70, u71, u72, u73, u74, u75, u76, u77, u78, u79, u80, u81, u82, u83, u84, u85, u86, u87, u88, u89, u90, u91, u92, u93, u94, u95, u96, u97, u98, u99, u100, u101, u102, u103, u104, u105, u106, u107, u108, Nat.zero_le _, by simpa [newsK, news] using hQ, Below.refl _ _, hz, rfl⟩
  intro a' wr hI
  obtain ⟨k, hI⟩ := hI
  obtain ⟨u8, hI⟩ := hI
  obtain ⟨u11, hI⟩ := hI
  obtain ⟨u12, hI⟩ := hI
  obtain ⟨u64, hI⟩ := hI
  obtain ⟨u65, hI⟩ := hI
  obtain ⟨u66, hI⟩ := hI
  obtain ⟨u67, hI⟩ := hI
  obtain ⟨u68, hI⟩ := hI
  obtain ⟨u69, hI⟩ := hI
  obtain ⟨u70, hI⟩ := hI
  obtain ⟨u71, hI⟩ := hI
  obtain ⟨u72, hI⟩ := hI
  obtain ⟨u73, hI⟩ := hI
  obtain ⟨u74, hI⟩ := hI
  obtain ⟨u75, hI⟩ := hI
  obtain ⟨u76, hI⟩ := hI
  obtain ⟨u77, hI⟩ := hI
  obtain ⟨u78, hI⟩ := hI
  obtain ⟨u79, hI⟩ := hI
  obtain ⟨u80, hI⟩ := hI
  obtain ⟨u81, hI⟩ := hI
  obtain ⟨u82, hI⟩ := hI
  obtain ⟨u83, hI⟩ := hI
  obtain ⟨u84, hI⟩ := hI
  obtain ⟨u85, hI⟩ := hI
  obtain ⟨u86, hI⟩ := hI
  obtain ⟨u87, hI⟩ := hI
  obtain ⟨u88, hI⟩ := hI
  obtain ⟨u89, hI⟩ := hI
  obtain ⟨u90, hI⟩ := hI
  obtain ⟨u91, hI⟩ := hI
  obtain ⟨u92, hI⟩ := hI
  obtain ⟨u93, hI⟩ := hI
  obtain ⟨u94, hI⟩ := hI
  obtain ⟨u95, hI⟩ := hI
  obtain ⟨u96, hI⟩ := hI
  obtain ⟨u97, hI⟩ := hI
  obtain ⟨u98, hI⟩ := hI
  obtain ⟨u99, hI⟩ := hI
  obtain ⟨u100, hI⟩ := hI
  obtain ⟨u101, hI⟩ := hI
  obtain ⟨u102, hI⟩ := hI
  obtain ⟨u103, hI⟩ := hI
  obtain ⟨u104, hI⟩ := hI
  obtain ⟨u105, hI⟩ := hI
  obtain ⟨u106, hI⟩ := hI
  obtain ⟨u107, hI⟩ := hI
  obtain ⟨u108, hI⟩ := hI
  obtain ⟨hk, hQ, hB, hz, rfl⟩ := hI
  by_cases hkn : k < n
  · have hcell : wr.cell? ⟨g1, k, none⟩ = some (.int .i64 ((encM m)[k]?.getD 0)) := (hB.cell (p := ⟨g1, k, none⟩) hg1).trans (hO.cellJ (by rw [encM_len, hm]; exact hkn))
    rw [encM_at (by rw [hm]; exact hkn)] at hcell
    have HS := newsK_succ T1 T2 m a b k
    have hLn : (newsK T1 T2 m a b k).length ≤ k := news_len _ _ _
    obtain ⟨G, capG, gs, gc, hBf, hG, hgs, f0, f1, f2⟩ := hF.below hB (Nat.le_refl _)
    obtain ⟨H, capH, hs, hc, hBt, hH, hhs, t0, t1, t2⟩ := hT.below hB (Nat.le_refl _)
    cases hd : gm m k with
    | none =>
      rw [hd] at hcell HS
      rw [List.append_nil] at HS
      exact ren3_none hn hcell HS c0 c1 c4 c5 c6 c13 c14 c15 c16 c17 c18 c19 c20 c21 c22 c23 c24 c25 c26 c27 c28 c29 c30 c31 c32 c33 c34 c35 c36 c37 c38 c39 c40 c41 c42 c43 c44 c45 c46 c47 c48 c49 c50 c51 c52 c53 c54 c55 c56 c57 c58 c59 c60 c109 c110 c111 c112 c113 c114 c115 c116 c117 c118 c119 c120 c121 c122 Q0 u8 u11 u12 u64 u65 u66 u67 u68 u69 u70 u71 u72 u73 u74 u75 u76 u77 u78 u79 u80 u81 u82 u83 u84 u85 u86 u87 u88 u89 u90 u91 u92 u93 u94 u95 u96 u97 u98 u99 u100 u101 u102 u103 u104 u105 u106 u107 u108 hkn hQ hB hz
    | some d =>
      rw [hd] at hcell HS
      dsimp only at hcell HS
      have hdn := hg k d hd
      have hak : a ≠ k := fun e => by rw [e] at hma; rw [hma] at hd; cases hd
      have hbd : b ≠ d := fun e => by
        subst e
        exact hmb (gm_mem.2 ⟨k, by rw [hm]; exact hkn, hd⟩)
      have hTl := hT1.lt a k ha hkn hak
      have mcell : wr.cell? ⟨g1, T1 a k, none⟩ = some (.int .i64 ((encM m)[T1 a k]?.getD 0)) := (hB.cell (p := ⟨g1, T1 a k, none⟩) hg1).trans (hO.cellJ (by rw [encM_len, hm]; exact hTl))
      rw [encM_at (by rw [hm]; exact hTl)] at mcell
      by_cases heq : gm m (T1 a k) = some (T2 b d)
      · rw [heq] at mcell
        rw [if_pos heq, List.append_nil] at HS
        exact ren3_eq hn f0 (f1 a ha) (f2 a k ha hkn hak) t0 (t1 b hb) (t2 b d hb hdn hbd) ha hb hdn hTl hcell mcell HS c0 c1 c4 c5 c6 c13 c14 c15 c16 c17 c18 c19 c20 c21 c22 c23 c24 c25 c26 c27 c28 c29 c30 c31 c32 c33 c34 c35 c36 c37 c38 c39 c40 c41 c42 c43 c44 c45 c46 c47 c48 c49 c50 c51 c52 c53 c54 c55 c56 c57 c58 c59 c60 c109 c110 c111 c112 c113 c114 c115 c116 c117 c118 c119 c120 c121 c122 Q0 u8 u11 u12 u64 u65 u66 u67 u68 u69 u70 u71 u72 u73 u74 u75 u76 u77 u78 u79 u80 u81 u82 u83 u84 u85 u86 u87 u88 u89 u90 u91 u92 u93 u94 u95 u96 u97 u98 u99 u100 u101 u102 u103 u104 u105 u106 u107 u108 hkn hQ hB hz
      · rw [if_neg heq] at HS
        refine ren3_ne hn f0 (f1 a ha) (f2 a k ha hkn hak) t0 (t1 b hb) (t2 b d hb hdn hbd) ha hb hdn hTl hcell mcell ?_ (by rw [castP_len, List.length_append]; omega) hG (hgs a ha) hH (hhs b hb) hBf hBt HS c0 c1 c4 c5 c6 c13 c14 c15 c16 c17 c18 c19 c20 c21 c22 c23 c24 c25 c26 c27 c28 c29 c30 c31 c32 c33 c34 c35 c36 c37 c38 c39 c40 c41 c42 c43 c44 c45 c46 c47 c48 c49 c50 c51 c52 c53 c54 c55 c56 c57 c58 c59 c60 c109 c110 c111 c112 c113 c114 c115 c116 c117 c118 c119 c120 c121 c122 Q0 hQ0 u8 u11 u12 u64 u65 u66 u67 u68 u69 u70 u71 u72 u73 u74 u75 u76 u77 u78 u79 u80 u81 u82 u83 u84 u85 u86 u87 u88 u89 u90 u91 u92 u93 u94 u95 u96 u97 u98 u99 u100 u101 u102 u103 u104 u105 u106 u107 u108 hkn hQ hB hz
        intro h
        cases hgx : gm m (T1 a k) with
        | none =>
          rw [hgx] at h
          dsimp only at h
          omega
        | some e =>
          rw [hgx] at h
          dsimp only at h
          exact heq (by rw [hgx]; congr 1; omega)
  · have hkn' : k = n := by omega
    subst hkn'
    conv => arg 2; whnf
    have HX := Lib.hid hexit
    have HQ := Lib.hid hQ
    clear hexit hQ hF hT
    go_wp2
    exact HX.out _ _ ⟨_, _, _, _, _, _, _, _, _, _, _, _, _, _, _, _, _, _, _, _, _, _, _, _, _, _, _, _, _, _, _, _, _, _, _, _, _, _, _, _, _, _, _, _, _, _, _, _, HQ.out, hB, hz, rfl⟩
end Go.Proofs.Ytoicdfdfajfopaa

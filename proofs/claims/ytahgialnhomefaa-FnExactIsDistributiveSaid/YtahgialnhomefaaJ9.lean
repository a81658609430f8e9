
/- The program's DegreesOf, plain. The program's LeaveDegrees. The model's LeaveDegrees. The common point of two blocks: the program's and the model's. Sets of blocks that are closures: what they answer, and how one more block comes in. areDisjoint of the program. What DoubleSystem answers: plain. Renumbered systems, and systems of blocks in any order: plain. Plain facts on squares. Plain facts on the points of blocks. -/
import Derived.Test.YtahgialnhomefaaJ8
import Derived.Deep.RegionHeld3
import Derived.Outline
import Derived.Lib.SlicesCompact
namespace Go.Proofs.Ytahgialnhomefaa
open Go.RowKit Go.Maps Go.Shelf
theorem mkRowD (n : Nat) (hn : n ≤ 1100000) (W : World) : (Instr.makeSlice 38 (.int .i64 (n : Int)) (.int .i64 (n : Int))).run Try.prog W = .ok (.slice (some ⟨W.heap.size, 0, none⟩) n n) (W.alloc (.cells (madeCells #[.int .i64 0] n) 2)) := by
  obtain ⟨i0, hi, hz0, hz1, hz2⟩ := info_parts infoInt64
  have hr := run_make (P := Try.prog) W 38 2 i0 (.int .i64 0) Try.underlying38 hi hz0 .i64 .i64 n n (by omega) (by omega) (by rw [hz2]; omega) (by omega)
  simp only [Int.toNat_natCast, hz1, Nat.mul_one] at hr
  exact hr
/-- The row while point k is counted: c of its blocks were met. -/
def degR (bs : List Blk) (v k c : Nat) : List Int := (List.range v).map fun q => if q < k then ((idxI (q : Int) bs bs.length).length : Int) else if q = k then (c : Int) else 0
theorem degR_len (bs : List Blk) (v k c : Nat) : (degR bs v k c).length = v := by simp [degR]
theorem degR_at (bs : List Blk) {v k : Nat} (c : Nat) (hk : k < v) : (degR bs v k c)[k]?.getD 0 = (c : Int) := by simp [degR, hk]
theorem degR_set (bs : List Blk) {v k : Nat} (c : Nat) (_hk : k < v) : (degR bs v k c).set k ((c : Int) + 1) = degR bs v k (c + 1) := by
  apply List.ext_getElem
  · simp [degR]
  · intro i h1 h2
    rw [List.getElem_set]
    by_cases e : k = i
    · subst e
      simp [degR]
    · rw [if_neg e]
      simp [degR, Ne.symm e]
theorem degR_next (bs : List Blk) (v k : Nat) : degR bs v k (idxI (k : Int) bs bs.length).length = degR bs v (k + 1) 0 := by
  apply List.map_congr_left
  intro q _
  by_cases h : q < k
  · simp [h, show q < k + 1 by omega]
  · by_cases e : q = k
    · subst e
      simp
    · simp [h, e, show ¬ q < k + 1 by omega]
theorem degR_start (bs : List Blk) (v : Nat) : degR bs v 0 0 = List.replicate v 0 := by
  apply List.ext_getElem
  · simp [degR]
  · intro i h1 h2
    simp [degR]
theorem degR_end (bs : List Blk) (v : Nat) : degR bs v v 0 = degI bs v := by
  apply List.map_congr_left
  intro q hq
  simp [List.mem_range.1 hq]
theorem idxI_upTo (p : Int) (bs : List Blk) : (idxI p bs bs.length).length = (upTo p bs bs.length).length := by simp [idxI]
theorem ownJ_own (base : Nat) (u : Value) : Own (fun (zs : List Int) W => OwnJ W base u zs) := fun _ X _ row hs hg hr => World.ownsRow.kept hs hg (by
  rcases hs.2 with ⟨rfl, _⟩ | ⟨g, cap, cur, rfl, _, hgb, _⟩
  · exact .inl rfl
  · refine .inr fun e => ?_
    obtain ⟨o, ho, hc⟩ := hr g e.symm
    rw [hgb] at ho
    cases ho
    cases hc)
/-- The marks that the loops left, the newest first: each bears a block that no call stands in. -/
def Marks (n0 : Nat) (W : World) : Nat → List Deferred → Prop
  | _, [] => True
  | n1, d :: ds => ∃ D, d = { target := .collected D, args := #[] } ∧ n0 ≤ D ∧ D < n1 ∧ W.heap[D]? = some (.deferred (some [])) ∧ Marks n0 W D ds
theorem Marks.mono {n0 : Nat} {W : World} {ds : List Deferred} {n1 n2 : Nat} (h : Marks n0 W n1 ds) (hn : n1 ≤ n2) : Marks n0 W n2 ds := by
  cases ds with
  | nil => trivial
  | cons d ds =>
    obtain ⟨D, e, h0, h1, hD, hr⟩ := h
    exact ⟨D, e, h0, by omega, hD, hr⟩
theorem Marks.kept {n0 : Nat} {W W' : World} : ∀ {ds : List Deferred} {n1 : Nat}, Marks n0 W n1 ds → (∀ D, D < n1 → W.heap[D]? = some (.deferred (some [])) → W'.heap[D]? = some (.deferred (some []))) → Marks n0 W' n1 ds
  | [], _, _, _ => trivial
  | _ :: _, _, ⟨D, e, h0, h1, hD, hr⟩, k => ⟨D, e, h0, h1, k D h1 hD, hr.kept fun D' h' => k D' (by omega)⟩
theorem Marks.grown {n0 : Nat} {W W' : World} {ds : List Deferred} {n1 : Nat} {row : Option Nat} (h : Marks n0 W n1 ds) (hg : W.grownBy W' row) (hr : ∀ r, row = some r → n1 ≤ r ∨ ∃ o : Obj, W.heap[r]? = some o ∧ o.isCells = true) : Marks n0 W' n1 ds :=
  h.kept fun D hD e => (hg.block D (Array.getElem?_eq_some_iff.1 e).1 (fun e' => by
    rcases hr D e'.symm with h | ⟨o, ho, hc⟩
    · omega
    · rw [e] at ho
      cases ho
      cases hc)).trans e
theorem Marks.alloc {n0 : Nat} {W : World} {ds : List Deferred} {n1 : Nat} (h : Marks n0 W n1 ds) (o : Obj) : Marks n0 (W.alloc o) n1 ds := h.grown (World.grownBy_alloc W o none) (fun r e => by cases e)
theorem marks_own (n0 n1 B : Nat) (hB : n1 ≤ B) {β : Type} (ds : List Deferred) : OwnFrom B (fun (_ : β) W => Marks n0 W n1 ds) := fun _ _ _ _ hs hg hr => hs.grown hg (fun r e => .inl (Nat.le_trans hB (hr r e).1))
theorem leaves_marks {F : Fence} {n : Nat} {P : Program} {fn : Func} {tmps : Array Value} {R : Ending → World → Prop} {n0 : Nat} (K : World → Prop) (hK : ∀ W D, K W → n0 ≤ D → W.heap[D]? = some (.deferred (some [])) → K (W.putObj D (.deferred none)))
    (hend : ∀ W, K W → LeavesInM F n P fn tmps R [] .returning W) : ∀ (ds : List Deferred) (n1 : Nat) (W : World), Marks n0 W n1 ds → K W → LeavesInM F n P fn tmps R ds .returning W
  | [], _, W, _, h => hend W h
  | d :: ds, n1, W, ⟨D, e, h0, h1, hD, hr⟩, h => ⟨by simp, .inl ⟨D, _, by rw [e], run_takeDeferred hD, leaves_marks K hK hend ds D _ (hr.kept fun D' h' e' => (World.putObj_heap_other (by omega)).trans e') (hK W D h h0 hD)⟩⟩
theorem meas_lt {v k : Nat} (h : k < v) : ((v : Int) - ((k + 1 : Nat) : Int)).toNat < ((v : Int) - (k : Int)).toNat := by omega
theorem wrap_succ {k : Nat} (h : k ≤ 15) : wrap64 ((k : Int) + 1) = ((k + 1 : Nat) : Int) := by unfold wrap64; omega
theorem OwnJ.baseD {w : World} {b b' : Nat} {u : Value} {zs : List Int} (h : OwnJ w b u zs) (hb : b' ≤ b) : OwnJ w b' u zs := ownsRow_base h hb
/-- A system in a box. -/
def SysAt (W : World) (B : Nat) (v : Int) (s : Value) : Prop := W.heap[B]? = some (.cells #[.int .i64 v, s] 30 (0, 0))
theorem SysAt.cells {W : World} {B : Nat} {v : Int} {s : Value} (h : SysAt W B v s) : W.cell? ⟨B, 0, none⟩ = some (.int .i64 v) ∧ W.cell? ⟨B, 1, none⟩ = some s ∧ B < W.heap.size := by
  have : W.heap[B]? = _ := h
  refine ⟨by simp [World.cell?, this], by simp [World.cell?, this], (Array.getElem?_eq_some_iff.1 this).1⟩
theorem SysAt.kept {W W' : World} {B : Nat} {v : Int} {s : Value} {row : Option Nat} (h : SysAt W B v s) (hg : W.grownBy W' row) (hr : some B ≠ row) : SysAt W' B v s := (hg.block B h.cells.2.2 hr).trans h
theorem SysAt.alloc {W : World} {B : Nat} {v : Int} {s : Value} (h : SysAt W B v s) (o : Obj) : SysAt (W.alloc o) B v s := h.kept (World.grownBy_alloc W o none) (fun e => by cases e)
theorem SysAt.own {β : Type} (B : Nat) (v : Int) (s : Value) : Own (fun (_ : β) W => SysAt W B v s) := fun _ X Y row hs hg hrow => hs.kept hg (fun e' => by
  obtain ⟨o, ho, hc⟩ := hrow B e'.symm
  rw [show X.heap[B]? = _ from hs] at ho
  cases ho
  cases hc)
end Go.Proofs.Ytahgialnhomefaa

namespace Go.Proofs.Ytahgialnhomefaa
open Go.RowKit Go.Maps
/-- How often each of the first v points is in the pairs of the list. -/
def cnV (v : Nat) (L : List (Int × Int)) : List Int := (List.range v).map fun (p : Nat) => (cntP L (p : Int) : Int)
theorem cnV_len (v : Nat) (L : List (Int × Int)) : (cnV v L).length = v := by simp [cnV]
theorem cnV_at {v : Nat} (L : List (Int × Int)) {p : Nat} (hp : p < v) : (cnV v L)[p]?.getD 0 = (cntP L (p : Int) : Int) := by simp [cnV, hp]
theorem cnV_nil (v : Nat) : cnV v [] = List.replicate v 0 := by
  apply List.ext_getElem
  · simp [cnV]
  · intro i h1 h2
    simp [cnV, cntP]
theorem cnt_le (L : List (Int × Int)) (p : Int) : cntP L p ≤ L.length := List.countP_le_length
/-- One end of a pair counted. -/
def cnH (v : Nat) (L : List (Int × Int)) (a : Nat) : List Int := (cnV v L).set a ((cntP L (a : Int) : Int) + 1)
theorem cnH_len (v : Nat) (L : List (Int × Int)) (a : Nat) : (cnH v L a).length = v := by simp [cnH, cnV_len]
theorem cnH_at {v : Nat} (L : List (Int × Int)) {a b : Nat} (hb : b < v) (hab : a ≠ b) : (cnH v L a)[b]?.getD 0 = (cntP L (b : Int) : Int) := by
  unfold cnH
  rw [List.getElem?_set_ne hab, cnV_at L hb]
theorem cnH_set {v : Nat} (L : List (Int × Int)) {a b : Nat} (_ha : a < v) (_hb : b < v) (_hab : a ≠ b) : (cnH v L a).set b ((cntP L (b : Int) : Int) + 1) = cnV v (L ++ [((a : Int), (b : Int))]) := by
  unfold cnH
  apply List.ext_getElem
  · simp [cnV]
  · intro i h1 h2
    rw [List.getElem_set, List.getElem_set]
    simp only [cnV, List.getElem_map, List.getElem_range, cntP_append]
    have e : cntP [((a : Int), (b : Int))] (i : Int) = if a = i ∨ b = i then 1 else 0 := by
      unfold cntP
      rw [List.countP_cons, List.countP_nil]
      by_cases h1 : a = i <;> by_cases h2 : b = i <;> simp [h1, h2]
      · simp [show (a : Int) ≠ (i : Int) by omega, show (b : Int) ≠ (i : Int) by omega]
    rw [e]
    by_cases h1 : b = i
    · subst h1
      simp
    · by_cases h2 : a = i
      · subst h2
        simp [h1]
      · simp [h1, h2]
theorem left_rows {v : Nat} {P : Int → Int → Bool} {k : Nat} (hk : k < (leftL P v v).length) :
    ∃ a b : Nat, a < v ∧ b < v ∧ a ≠ b ∧ fnL (leftL P v v) k = [(a : Int), (b : Int)] ∧ (leftL P v v).take (k + 1) = (leftL P v v).take k ++ [((a : Int), (b : Int))] := by
  obtain ⟨p, hp⟩ : ∃ p, p = (leftL P v v)[k] := ⟨_, rfl⟩
  have e1 : (leftL P v v)[k]? = some p := by rw [List.getElem?_eq_getElem hk, hp]
  have hm3 : 0 ≤ p.1 ∧ p.1 < v ∧ p.1 < p.2 ∧ p.2 < v := by
    rw [hp]
    have hq : (leftL P v v)[k] ∈ leftL P v v := List.getElem_mem hk
    generalize (leftL P v v)[k] = q at hq ⊢
    rw [leftL_filter] at hq
    exact (leftT_mem v v _ (Nat.le_refl _)).1 (List.mem_filter.1 hq).1
  obtain ⟨x, y⟩ := p
  dsimp only at hm3
  refine ⟨x.toNat, y.toNat, by omega, by omega, by omega, ?_, ?_⟩
  · rw [Int.toNat_of_nonneg (by omega), Int.toNat_of_nonneg (by omega)]
    unfold fnL
    rw [e1]
    rfl
  · rw [Int.toNat_of_nonneg (by omega), Int.toNat_of_nonneg (by omega), List.take_add_one, e1]
    rfl
theorem resSS_form {w : World} {lo n : Nat} {u : Value} {F : Nat → List Int} (h : ResSS w lo u n F) : ∃ a c, u = .slice a n c := by
  rcases h with ⟨rfl, a, c, rfl⟩ | ⟨G, cap, gs, caps, rfl, _⟩ <;> exact ⟨_, _, rfl⟩
def lvF (v : Int) (bs : List Blk) : List Int × Int := if isSysImpl v bs then (lvL v.toNat bs, 0) else ([], 1)
theorem lvF_len (v : Int) (bs : List Blk) : (lvF v bs).1.length ≤ 1100000 := by
  unfold lvF
  cases hi : isSysImpl v bs with
  | false => simp
  | true =>
    have := (sys_size hi).2.1
    simp [lvL]
    omega
end Go.Proofs.Ytahgialnhomefaa

namespace Go.Proofs.Ytahgialnhomefaa
open Go.RowKit Go.Maps
theorem step_append_int {w : World} {ops : Array Oper} {o : Oper} {a : Act} {K : Act → World → Prop} {Q : Exit → Act → World → Prop} {E : Prop} (hgd : o.guard = none) (s x : Operand)
    (ho : o.op = .call { callee := .builtin .append, args := #[s, x], argTypes := #[38, 38] })
    (base : Nat) (v : Value) (zs : List Int) (hs : a.eval s = v) (hown : OwnJ w base v zs) (b0 c : Nat) (y : Int) (hx : a.eval x = .slice (some ⟨b0, 0, none⟩) 1 c) (hy : w.cell? ⟨b0, 0, none⟩ = some (.int .i64 y)) (hl : zs.length ≤ 1100000) (hb : base ≤ w.heap.size)
    (h : ∀ (g cap : Nat) (w' : World), OwnJ w' base (.slice (some ⟨g, 0, none⟩) (zs.length + 1) cap) (zs ++ [y]) → w.grownBy w' v.ownBlock → K (a.put o.dst (.slice (some ⟨g, 0, none⟩) (zs.length + 1) cap)) w') :
    if Region.wanted o (yielded ops a.tmps) = true then Oper.wp Try.prog o a w K Q else E := by
  have hw : Region.wanted o (yielded ops a.tmps) = true := by simp [Region.wanted, hgd]
  rw [if_pos hw]
  obtain ⟨i0, hi, hz0, hz1, hz2⟩ := info_parts infoInt64
  obtain ⟨v', w', h1, h2, h3, _, _⟩ := run_append_own_at (P := Try.prog) w base 38 o.type 2 i0 _ 1 8 Try.underlying38 hi hz0 hz1 hz2 rfl (by decide) v zs.length (zs.map (Value.int .i64)) hown ⟨b0, 0, none⟩ 1 c [.int .i64 y] rfl (fun j u hj => by
    rw [addr_at, Nat.zero_add]
    match j, hj with
    | 0, hj => simp at hj; rw [← hj]; exact hy
    | j + 1, hj => simp at hj) (fun u hu => by
    simp at hu
    rw [hu]
    rfl) (by unfold maxLen; omega) (by omega) hb
  have h2' : OwnJ w' base v' (zs ++ [y]) := by unfold OwnJ; rw [List.length_append, List.length_singleton, List.map_append, List.map_singleton]; exact h2
  have hf : ∃ g cap, v' = .slice (some ⟨g, 0, none⟩) (zs.length + 1) cap := by
    rcases h2.2 with ⟨e, e2⟩ | ⟨g, cap, _, e, _⟩
    · omega
    · exact ⟨g, cap, e⟩
  obtain ⟨g, cap, rfl⟩ := hf
  unfold Oper.wp execOp
  simp only [ho, resolve, invoke, builtin, Sem.run_bind, Sem.run_pure, Result.andThen_ok, List.map_toArray, List.map_cons, List.map_nil, hs, hx, h1]
  exact h g cap w' h2' h3
theorem OwnJ.formL {W : World} {base : Nat} {u : Value} {zs : List Int} (h : OwnJ W base u zs) : ∃ a c, u = .slice a zs.length c := by
  rcases h.2 with ⟨rfl, h0⟩ | ⟨g, cap, cur, rfl, _⟩
  · rw [h0]; exact ⟨_, _, rfl⟩
  · exact ⟨_, _, rfl⟩
theorem lv_succ {n : Nat} {bs : List Blk} (h : isSysImpl (n : Int) bs = true) {k : Nat} (hk : k < n) :
    (lvL n bs).take (k + 1) = (lvL n bs).take k ++ [(n : Int) - 1 - 2 * ((idxI (k : Int) bs bs.length).length : Int)] := by
  have hl : k < (lvL n bs).length := by simpa [lvL] using hk
  rw [List.take_add_one, List.getElem?_eq_getElem hl]
  simp only [lvL, List.getElem_map, List.getElem_range, Option.toList_some]
  rw [lv_at h hk]
end Go.Proofs.Ytahgialnhomefaa

namespace Go.Proofs.Ytahgialnhomefaa
open Go.RowKit Go.Maps
/-- The first point of b that is in c. -/
def comP (b c : Blk) : Option Int := if hasB c b.a then some b.a else if hasB c b.b then some b.b else if hasB c b.c then some b.c else none
theorem inL_has (p : Int) (x : Blk) : inL p [x.a, x.b, x.c] = hasB x p := by
  rw [Bool.eq_iff_iff]
  simp [inL, hasB]
  omega
set_option maxRecDepth 100000 in
theorem commonPoint_any (x y : Blk) (w : World) : Calls Try.prog 127 #[bv x, bv y] w (RV (.tuple #[.int .i64 ((comP x y).getD 0), .bool (comP x y).isSome]) w) := by
  have HC := Lib.hid fun (p : Int) (B cap : Nat) (W : World) (h0 : W.cell? ⟨B, 0, none⟩ = some (.int .i64 y.a)) (h1 : W.cell? ⟨B, 1, none⟩ = some (.int .i64 y.b)) (h2 : W.cell? ⟨B, 2, none⟩ = some (.int .i64 y.c)) => Contains_any B 0 cap [y.a, y.b, y.c] p W (ints3 h0 h1 h2) (by simp)
  simp only [inL_has] at HC
  obtain ⟨β0, h0⟩ : ∃ β, β = hasB y x.a := ⟨_, rfl⟩
  obtain ⟨β1, h1⟩ : ∃ β, β = hasB y x.b := ⟨_, rfl⟩
  obtain ⟨β2, h2⟩ : ∃ β, β = hasB y x.c := ⟨_, rfl⟩
  have HCM := Lib.hid (show comP x y = if β0 then some x.a else if β1 then some x.b else if β2 then some x.c else none by unfold comP; rw [h0, h1, h2])
  have HA := Lib.hid fun (B cap : Nat) W j0 j1 j2 => HC.out x.a B cap W j0 j1 j2
  have HB := Lib.hid fun (B cap : Nat) W j0 j1 j2 => HC.out x.b B cap W j0 j1 j2
  have HD := Lib.hid fun (B cap : Nat) W j0 j1 j2 => HC.out x.c B cap W j0 j1 j2
  rw [← h0] at HA
  rw [← h1] at HB
  rw [← h2] at HD
  clear HC h0 h1 h2
  obtain ⟨xa, xb, xc⟩ := x
  obtain ⟨ya, yb, yc⟩ := y
  unfold bv
  dsimp only at HA HB HD HCM ⊢
  have ix0 : ∀ w, (Instr.index 84 (.agg #[.int .i64 xa, .int .i64 xb, .int .i64 xc]) (.int .i64 0)).run Try.prog w = .ok (.int .i64 xa) w := fun _ => by kernel_rfl
  have ix1 : ∀ w, (Instr.index 84 (.agg #[.int .i64 xa, .int .i64 xb, .int .i64 xc]) (.int .i64 1)).run Try.prog w = .ok (.int .i64 xb) w := fun _ => by kernel_rfl
  have ix2 : ∀ w, (Instr.index 84 (.agg #[.int .i64 xa, .int .i64 xb, .int .i64 xc]) (.int .i64 2)).run Try.prog w = .ok (.int .i64 xc) w := fun _ => by kernel_rfl
  cases β0 with
  | true =>
    have HV := Lib.hid (show comP ⟨xa, xb, xc⟩ ⟨ya, yb, yc⟩ = some xa by rw [HCM.out]; rfl)
    go_enter Try.func127, Try.ntmps127
    go_wp2
    refine wp_loop_rounds 1 ?_
    rw [rounds_succ]
    go_wp2_with (go_at_call 79; refine (HA.out _ _ _ (by simp [go_sem]) (by simp [go_sem]) (by simp [go_sem])).mono ?_; rintro e w0 ⟨rfl, rfl⟩)
    go_ret2
    exact ⟨by rw [HV.out]; rfl, ((Below.refl _ _).alloc (Nat.le_refl _) _).alloc (by simp) _⟩
  | false =>
    cases β1 with
    | true =>
      have HV := Lib.hid (show comP ⟨xa, xb, xc⟩ ⟨ya, yb, yc⟩ = some xb by rw [HCM.out]; rfl)
      go_enter Try.func127, Try.ntmps127
      go_wp2
      refine wp_loop_rounds 2 ?_
      rw [rounds_succ]
      go_wp2_with (go_at_call 79; refine (HA.out _ _ _ (by simp [go_sem]) (by simp [go_sem]) (by simp [go_sem])).mono ?_; rintro e w0 ⟨rfl, rfl⟩)
      rw [rounds_succ]
      go_wp2_with (go_at_call 79; refine (HB.out _ _ _ (by simp [go_sem]) (by simp [go_sem]) (by simp [go_sem])).mono ?_; rintro e w1 ⟨rfl, rfl⟩)
      go_ret2
      exact ⟨by rw [HV.out]; rfl, ((Below.refl _ _).alloc (Nat.le_refl _) _).alloc (by simp) _⟩
    | false =>
      cases β2 with
      | true =>
        have HV := Lib.hid (show comP ⟨xa, xb, xc⟩ ⟨ya, yb, yc⟩ = some xc by rw [HCM.out]; rfl)
        go_enter Try.func127, Try.ntmps127
        go_wp2
        refine wp_loop_rounds 3 ?_
        rw [rounds_succ]
        go_wp2_with (go_at_call 79; refine (HA.out _ _ _ (by simp [go_sem]) (by simp [go_sem]) (by simp [go_sem])).mono ?_; rintro e w0 ⟨rfl, rfl⟩)
        rw [rounds_succ]
        go_wp2_with (go_at_call 79; refine (HB.out _ _ _ (by simp [go_sem]) (by simp [go_sem]) (by simp [go_sem])).mono ?_; rintro e w1 ⟨rfl, rfl⟩)
        rw [rounds_succ]
        go_wp2_with (go_at_call 79; refine (HD.out _ _ _ (by simp [go_sem]) (by simp [go_sem]) (by simp [go_sem])).mono ?_; rintro e w2 ⟨rfl, rfl⟩)
        go_ret2
        exact ⟨by rw [HV.out]; rfl, ((Below.refl _ _).alloc (Nat.le_refl _) _).alloc (by simp) _⟩
      | false =>
        have HV := Lib.hid (show comP ⟨xa, xb, xc⟩ ⟨ya, yb, yc⟩ = none by rw [HCM.out]; rfl)
        go_enter Try.func127, Try.ntmps127
        go_wp2
        refine wp_loop_rounds 4 ?_
        rw [rounds_succ]
        go_wp2_with (go_at_call 79; refine (HA.out _ _ _ (by simp [go_sem]) (by simp [go_sem]) (by simp [go_sem])).mono ?_; rintro e w0 ⟨rfl, rfl⟩)
        rw [rounds_succ]
        go_wp2_with (go_at_call 79; refine (HB.out _ _ _ (by simp [go_sem]) (by simp [go_sem]) (by simp [go_sem])).mono ?_; rintro e w1 ⟨rfl, rfl⟩)
        rw [rounds_succ]
        go_wp2_with (go_at_call 79; refine (HD.out _ _ _ (by simp [go_sem]) (by simp [go_sem]) (by simp [go_sem])).mono ?_; rintro e w2 ⟨rfl, rfl⟩)
        rw [rounds_succ]
        go_wp2
        go_ret2
        exact ⟨by rw [HV.out]; rfl, ((Below.refl _ _).alloc (Nat.le_refl _) _).alloc (by simp) _⟩
end Go.Proofs.Ytahgialnhomefaa

namespace Go.Proofs.Ytahgialnhomefaa
open Go.RowKit Go.Maps
/-- Have two blocks a point in common? -/
def touch (x y : Blk) : Bool := (comP x y).isSome
/-- The value is a closure over the blocks of a list, the last one that came in first. -/
inductive MeetV (W : World) : Value → List Blk → Prop
  | nil : MeetV W (.func (.func 109) #[] #[]) []
  | cons {pc pm : Nat} {m : Value} {c : Blk} {L : List Blk} (hc : pc < W.heap.size) (hm : pm < W.heap.size) (c0 : W.cell? ⟨pc, 0, none⟩ = some (.int .i64 c.a)) (c1 : W.cell? ⟨pc, 1, none⟩ = some (.int .i64 c.b)) (c2 : W.cell? ⟨pc, 2, none⟩ = some (.int .i64 c.c)) (m0 : W.cell? ⟨pm, 0, none⟩ = some m) (h : MeetV W m L) :
      MeetV W (.func (.func 126) #[] #[.pointer (some ⟨pc, 0, none⟩), .pointer (some ⟨pm, 0, none⟩)]) (c :: L)
theorem MeetV.later {W W' : World} {m : Value} {L : List Blk} (h : MeetV W m L) {B : Nat} (hb : Below B W W') (hB : W.heap.size ≤ B) : MeetV W' m L := by
  induction h with
  | nil => exact .nil
  | cons hc hm c0 c1 c2 m0 _ ih =>
    exact .cons (Nat.lt_of_lt_of_le hc hb.size) (Nat.lt_of_lt_of_le hm hb.size) ((hb.cell (Nat.lt_of_lt_of_le hc hB)).trans c0) ((hb.cell (Nat.lt_of_lt_of_le hc hB)).trans c1) ((hb.cell (Nat.lt_of_lt_of_le hc hB)).trans c2) ((hb.cell (Nat.lt_of_lt_of_le hm hB)).trans m0) ih
theorem noBlocks_any (b : Blk) (w : World) : Calls Try.prog 109 #[bv b] w (RV (.bool false) w) := by
  obtain ⟨b0, b1, b2⟩ := b
  unfold bv
  dsimp only
  go_enter Try.func109, Try.ntmps109
  go_wp2
  go_ret
  exact ⟨rfl, (Below.refl _ _).alloc (Nat.le_refl _) _⟩
set_option maxRecDepth 100000 in
theorem with1_any : ∀ (L : List Blk) (c b : Blk) (pc pm : Nat) (m : Value) (w : World) (_ : pc < w.heap.size) (_ : pm < w.heap.size) (_ : w.cell? ⟨pc, 0, none⟩ = some (.int .i64 c.a)) (_ : w.cell? ⟨pc, 1, none⟩ = some (.int .i64 c.b)) (_ : w.cell? ⟨pc, 2, none⟩ = some (.int .i64 c.c)) (_ : w.cell? ⟨pm, 0, none⟩ = some m) (_ : MeetV w m L),
    Calls Try.prog 126 #[bv b, .pointer (some ⟨pc, 0, none⟩), .pointer (some ⟨pm, 0, none⟩)] w (RV (.bool (touch b c || L.any (touch b))) w) := by
  intro L
  induction L with
  | nil =>
    intro c b pc pm m w hpc hpm c0 c1 c2 m0 hm
    cases hm
    have HP := Lib.hid fun W => commonPoint_any b c W
    have HN := Lib.hid fun W => noBlocks_any b W
    obtain ⟨β, hβ⟩ : ∃ β, β = touch b c := ⟨_, rfl⟩
    have HE := Lib.hid hβ
    rw [show (comP b c).isSome = β by rw [hβ]; rfl] at HP
    clear hβ
    obtain ⟨b0, b1, b2⟩ := b
    obtain ⟨x0, x1, x2⟩ := c
    unfold bv at HP HN ⊢
    dsimp only at HP HN c0 c1 c2 ⊢
    cases β with
    | true =>
      go_enter Try.func126, Try.ntmps126
      go_wp2_with fail
      refine (HP.out _).mono ?_
      rintro e w1 ⟨rfl, hb1⟩
      have hb2 := below_new hb1
      go_wp2
      go_ret
      exact ⟨by rw [← HE.out]; rfl, hb2⟩
    | false =>
      go_enter Try.func126, Try.ntmps126
      go_wp2_with fail
      refine (HP.out _).mono ?_
      rintro e w1 ⟨rfl, hb1⟩
      have hb2 := below_new hb1
      have d0 := (hb1.cell (p := ⟨w.heap.size, 0, none⟩) (by simp)).trans (by simp [go_sem] : _ = some (Value.int .i64 b0))
      have d1 := (hb1.cell (p := ⟨w.heap.size, 1, none⟩) (by simp)).trans (by simp [go_sem] : _ = some (Value.int .i64 b1))
      have d2 := (hb1.cell (p := ⟨w.heap.size, 2, none⟩) (by simp)).trans (by simp [go_sem] : _ = some (Value.int .i64 b2))
      have e0 := (hb2.cell (p := ⟨pm, 0, none⟩) hpm).trans m0
      clear hb1
      go_wp2_with fail
      refine (HN.out _).mono ?_
      rintro e w2 ⟨rfl, hb3⟩
      have hz := hb2.size
      go_wp2
      go_ret
      exact ⟨by rw [← HE.out]; rfl, hb2.trans (hb3.mono hz)⟩
  | cons y L ih =>
    intro c b pc pm m w hpc hpm c0 c1 c2 m0 hm
    cases hm with
    | cons hqc hqm q0 q1 q2 k0 hk =>
    have HP := Lib.hid fun W => commonPoint_any b c W
    have HN := Lib.hid fun W (hb : Below w.heap.size w W) => ih y b _ _ _ W (Nat.lt_of_lt_of_le hqc hb.size) (Nat.lt_of_lt_of_le hqm hb.size) ((hb.cell hqc).trans q0) ((hb.cell hqc).trans q1) ((hb.cell hqc).trans q2) ((hb.cell hqm).trans k0) (hk.later hb (Nat.le_refl _))
    obtain ⟨β, hβ⟩ : ∃ β, β = touch b c := ⟨_, rfl⟩
    have HE := Lib.hid hβ
    rw [show (comP b c).isSome = β by rw [hβ]; rfl] at HP
    clear hβ ih q0 q1 q2 k0 hk hqc hqm
    obtain ⟨μ, hμ⟩ : ∃ μ, μ = (touch b y || L.any (touch b)) := ⟨_, rfl⟩
    have HM := Lib.hid hμ
    rw [← hμ] at HN
    clear hμ
    obtain ⟨b0, b1, b2⟩ := b
    obtain ⟨x0, x1, x2⟩ := c
    unfold bv at HP HN ⊢
    dsimp only at HP HN c0 c1 c2 ⊢
    cases β with
    | true =>
      go_enter Try.func126, Try.ntmps126
      go_wp2_with fail
      refine (HP.out _).mono ?_
      rintro e w1 ⟨rfl, hb1⟩
      have hb2 := below_new hb1
      go_wp2
      go_ret
      exact ⟨by rw [← HE.out]; rfl, hb2⟩
    | false =>
      go_enter Try.func126, Try.ntmps126
      go_wp2_with fail
      refine (HP.out _).mono ?_
      rintro e w1 ⟨rfl, hb1⟩
      have hb2 := below_new hb1
      have d0 := (hb1.cell (p := ⟨w.heap.size, 0, none⟩) (by simp)).trans (by simp [go_sem] : _ = some (Value.int .i64 b0))
      have d1 := (hb1.cell (p := ⟨w.heap.size, 1, none⟩) (by simp)).trans (by simp [go_sem] : _ = some (Value.int .i64 b1))
      have d2 := (hb1.cell (p := ⟨w.heap.size, 2, none⟩) (by simp)).trans (by simp [go_sem] : _ = some (Value.int .i64 b2))
      have e0 := (hb2.cell (p := ⟨pm, 0, none⟩) hpm).trans m0
      clear hb1
      go_wp2_with fail
      refine (HN.out _ hb2).mono ?_
      rintro e w2 ⟨rfl, hb3⟩
      have hz := hb2.size
      go_wp2
      go_ret
      exact ⟨by rw [List.any_cons, ← HE.out, ← HM.out]; rfl, hb2.trans (hb3.mono hz)⟩
/-- A set of blocks, asked. -/
theorem MeetV.call {W : World} {m : Value} {L : List Blk} (h : MeetV W m L) : ∃ f caps, m = .func (.func f) #[] caps ∧ ∀ (b : Blk) (w : World) (_ : Below W.heap.size W w), Calls Try.prog f (#[bv b] ++ caps) w (RV (.bool (L.any (touch b))) w) := by
  cases h with
  | nil => exact ⟨_, _, rfl, fun b w _ => noBlocks_any b w⟩
  | cons hc hm c0 c1 c2 m0 h =>
    exact ⟨_, _, rfl, fun b w hb => with1_any _ _ b _ _ _ w (Nat.lt_of_lt_of_le hc hb.size) (Nat.lt_of_lt_of_le hm hb.size) ((hb.cell hc).trans c0) ((hb.cell hc).trans c1) ((hb.cell hc).trans c2) ((hb.cell hm).trans m0) (h.later hb (Nat.le_refl _))⟩
/-- A set of blocks, asked: which function it is. -/
theorem MeetV.call2 {W : World} {m : Value} {L : List Blk} (h : MeetV W m L) :
    (m = .func (.func 109) #[] #[] ∧ ∀ (b : Blk) (w : World) (_ : Below W.heap.size W w), Calls Try.prog 109 #[bv b] w (RV (.bool (L.any (touch b))) w)) ∨
    (∃ pc pm, m = .func (.func 126) #[] #[.pointer (some ⟨pc, 0, none⟩), .pointer (some ⟨pm, 0, none⟩)] ∧ ∀ (b : Blk) (w : World) (_ : Below W.heap.size W w), Calls Try.prog 126 #[bv b, .pointer (some ⟨pc, 0, none⟩), .pointer (some ⟨pm, 0, none⟩)] w (RV (.bool (L.any (touch b))) w)) := by
  cases h with
  | nil => exact .inl ⟨rfl, fun b w _ => noBlocks_any b w⟩
  | cons hc hm c0 c1 c2 m0 h =>
    exact .inr ⟨_, _, rfl, fun b w hb => with1_any _ _ b _ _ _ w (Nat.lt_of_lt_of_le hc hb.size) (Nat.lt_of_lt_of_le hm hb.size) ((hb.cell hc).trans c0) ((hb.cell hc).trans c1) ((hb.cell hc).trans c2) ((hb.cell hm).trans m0) (h.later hb (Nat.le_refl _))⟩
theorem with_any (m : Value) (L : List Blk) (c : Blk) (w : World) (h : MeetV w m L) :
    Calls Try.prog 110 #[m, bv c] w fun e w' => ∃ u, e = .returned u ∧ MeetV w' u (c :: L) ∧ Below w.heap.size w w' := by
  have hmf : ∀ (fn : Fn) (first cap : Array Value) (w : World), (Instr.makeFunc fn first cap).run Try.prog w = .ok (.func fn first cap) w := fun _ _ _ _ => rfl
  obtain ⟨f, caps, hf, _⟩ := h.call
  have HM := Lib.hid h
  clear h
  subst hf
  obtain ⟨c0, c1, c2⟩ := c
  unfold bv
  dsimp only
  go_enter Try.func110, Try.ntmps110
  go_wp2
  go_ret
  have hb : Below w.heap.size w ((w.alloc (.cells #[.func (.func f) #[] caps] 113)).alloc (.cells #[.int .i64 c0, .int .i64 c1, .int .i64 c2] 84)) := ((Below.refl _ _).alloc (Nat.le_refl _) _).alloc (by simp) _
  exact ⟨_, rfl, .cons (by simp) (by simp; omega) (by simp) (by simp) (by simp) (by simp [go_sem]) (HM.out.later hb (Nat.le_refl _)), hb⟩
end Go.Proofs.Ytahgialnhomefaa

namespace Go.Proofs.Ytahgialnhomefaa
open Go.RowKit Go.Maps
/-- Disjoint blocks, those of the first list being there already. -/
def disGo : List Blk → List Blk → Bool
  | _, [] => true
  | L, b :: r => !(L.any (touch b)) && disGo (b :: L) r
/-- The blocks with the numbers of a list. -/
def blksAt (bs : List Blk) (zs : List Int) : List Blk := zs.map fun z => bs[z.toNat]?.getD default
theorem blksAt_len (bs : List Blk) (zs : List Int) : (blksAt bs zs).length = zs.length := by simp [blksAt]
/-- The set of the first k of them, the last one first. -/
def preB (bs : List Blk) (zs : List Int) (k : Nat) : List Blk := ((blksAt bs zs).take k).reverse
theorem preB_succ {bs : List Blk} {zs : List Int} {k : Nat} (hk : k < zs.length) : preB bs zs (k + 1) = (bs[(zs[k]?.getD 0).toNat]?.getD default) :: preB bs zs k := by
  have h : k < (blksAt bs zs).length := by rw [blksAt_len]; exact hk
  rw [preB, List.take_succ_eq_append_getElem h, List.reverse_append, preB]
  simp [blksAt, hk]
theorem disGo_cons (L : List Blk) (b : Blk) (r : List Blk) : disGo L (b :: r) = (!(L.any (touch b)) && disGo (b :: L) r) := rfl
theorem disGo_nil (L : List Blk) : disGo L [] = true := rfl
theorem drop_blksAt {bs : List Blk} {zs : List Int} {k : Nat} (hk : k < zs.length) : (blksAt bs zs).drop k = (bs[(zs[k]?.getD 0).toNat]?.getD default) :: (blksAt bs zs).drop (k + 1) := by
  have h : k < (blksAt bs zs).length := by rw [blksAt_len]; exact hk
  rw [List.drop_eq_getElem_cons h]
  simp [blksAt, hk]
end Go.Proofs.Ytahgialnhomefaa

namespace Go.Proofs.Ytahgialnhomefaa
def dblB (v : Int) (x : Blk) : List Blk := [⟨x.a, v + x.b, v + x.c⟩, ⟨x.b, v + x.a, v + x.c⟩, ⟨x.c, v + x.a, v + x.b⟩]
def dblP (v : Int) (k : Nat) : List Blk := (List.range k).map fun (a : Nat) => ⟨(a : Int), v + (a : Int), 2 * v⟩
theorem dblP_succ (v : Int) (k : Nat) : dblP v (k + 1) = dblP v k ++ [⟨(k : Int), v + (k : Int), 2 * v⟩] := by simp [dblP, List.range_succ]
theorem dblP_len (v : Int) (k : Nat) : (dblP v k).length = k := by simp [dblP]
def dblA (v : Int) (bs : List Blk) (k : Nat) : List Blk := bs ++ (bs.take k).flatMap (dblB v)
theorem dblA_succ {v : Int} {bs : List Blk} {k : Nat} (hk : k < bs.length) {x : Blk} (hx : bs[k]? = some x) : dblA v bs (k + 1) = dblA v bs k ++ dblB v x := by
  have e : bs[k] = x := by
    rw [List.getElem?_eq_getElem hk] at hx
    simpa using hx
  unfold dblA
  rw [List.take_succ_eq_append_getElem hk, e, List.flatMap_append, List.append_assoc]
  simp
theorem dblB_len (v : Int) : ∀ l : List Blk, (l.flatMap (dblB v)).length = 3 * l.length
  | [] => rfl
  | x :: r => by rw [List.flatMap_cons, List.length_append, dblB_len v r]; simp [dblB]; omega
theorem dblA_len (v : Int) (bs : List Blk) {k : Nat} (hk : k ≤ bs.length) : (dblA v bs k).length = bs.length + 3 * k := by
  unfold dblA
  rw [List.length_append, dblB_len, List.length_take, Nat.min_eq_left hk]
def dblL (v : Int) (bs : List Blk) : List Blk := dblA v bs bs.length ++ dblP v v.toNat
theorem dblL_len (v : Int) (bs : List Blk) : (dblL v bs).length = bs.length + 3 * bs.length + v.toNat := by
  unfold dblL
  rw [List.length_append, dblA_len v bs (Nat.le_refl _), dblP_len]
theorem dblL_mem {v : Int} (hv : 0 ≤ v) (hv15 : v ≤ 15) {bs : List Blk} (hg : ∀ x ∈ bs, goodB v x = true) : ∀ x ∈ dblL v bs, (0 ≤ x.a ∧ x.a ≤ 1000) ∧ (0 ≤ x.b ∧ x.b ≤ 1000) ∧ (0 ≤ x.c ∧ x.c ≤ 1000) := by
  intro x hx
  unfold dblL dblA at hx
  rw [List.take_length] at hx
  rcases List.mem_append.1 hx with hx | hx
  · rcases List.mem_append.1 hx with hx | hx
    · have := goodB_iff.1 (hg x hx); omega
    · obtain ⟨y, hy, hxy⟩ := List.mem_flatMap.1 hx
      have := goodB_iff.1 (hg y hy)
      simp only [dblB, List.mem_cons, List.not_mem_nil, or_false] at hxy
      rcases hxy with rfl | rfl | rfl <;> (dsimp only; omega)
  · obtain ⟨a, ha, rfl⟩ := List.mem_map.1 hx
    have := List.mem_range.1 ha
    dsimp only
    omega
/-- The smallest, the middle and the greatest of three. -/
def blk3 (a b c : Int) : Blk := ⟨min (min a b) c, a + b + c - min (min a b) c - max (max a b) c, max (max a b) c⟩
theorem blk3_of {a b c p q r : Int} (hp : p = min (min a b) c) (hr : r = max (max a b) c) (hq : q = a + b + c - p - r) : blk3 a b c = ⟨p, q, r⟩ := by
  unfold blk3
  rw [← hp, ← hr, ← hq]
end Go.Proofs.Ytahgialnhomefaa

namespace Go.Proofs.Ytahgialnhomefaa
/-- Each number is a point, and comes once. -/
def rnGo (v : Int) : List Int → List Int → Bool
  | _, [] => true
  | seen, a :: r => inP v a && !(decide (a ∈ seen)) && rnGo v (seen ++ [a]) r
def isRen (v : Int) (p : List Int) : Bool := decide ((p.length : Int) = v) && rnGo v [] p
theorem rnGo_in {v : Int} : ∀ {l seen : List Int}, rnGo v seen l = true → ∀ a ∈ l, inP v a = true
  | [], _, _, a, h => by cases h
  | b :: r, seen, h, a, ha => by
    simp only [rnGo, Bool.and_eq_true] at h
    rcases List.mem_cons.1 ha with rfl | ha
    · exact h.1.1
    · exact rnGo_in h.2 a ha
theorem rnGo_bad {v : Int} {a : Int} {r seen : List Int} (h : inP v a = false) : rnGo v seen (a :: r) = false := by simp [rnGo, h]
theorem rnGo_dup {v : Int} {a : Int} {r seen : List Int} (h : a ∈ seen) : rnGo v seen (a :: r) = false := by simp [rnGo, h]
theorem rnGo_next {v : Int} {a : Int} {r seen : List Int} (h : inP v a = true) (h2 : a ∉ seen) : rnGo v seen (a :: r) = rnGo v (seen ++ [a]) r := by simp [rnGo, h, h2]
def at0 (p : List Int) (a : Int) : Int := p[a.toNat]?.getD 0
def renB (p : List Int) (x : Blk) : Blk := blk3 (at0 p x.a) (at0 p x.b) (at0 p x.c)
/-- A system and a code: points, blocks, code. -/
def renF (v : Int) (bs : List Blk) (p : List Int) : Int × List Blk × Int :=
  if isSysImpl v bs then (if isRen v p then (v, sortB (bs.map (renB p)), 0) else (0, [], 2)) else (0, [], 1)
theorem renF_len (v : Int) (bs : List Blk) (p : List Int) : (renF v bs p).2.1.length ≤ bs.length := by
  unfold renF
  split
  · split
    · simp only [sortB_length, List.length_map]; exact Nat.le_refl _
    · simp
  · simp
theorem at0_in {v : Int} {p : List Int} (h : isRen v p = true) {a : Int} (h0 : 0 ≤ a) (h1 : a < v) : 0 ≤ at0 p a ∧ at0 p a < v := by
  unfold isRen at h
  simp only [Bool.and_eq_true, decide_eq_true_eq] at h
  have hl : a.toNat < p.length := by omega
  have := rnGo_in h.2 p[a.toNat] (List.getElem_mem hl)
  rw [inP] at this
  simp only [Bool.and_eq_true, decide_eq_true_eq] at this
  unfold at0
  rw [List.getElem?_eq_getElem hl]
  exact this
theorem blk3_in {v a b c : Int} (ha : 0 ≤ a ∧ a < v) (hb : 0 ≤ b ∧ b < v) (hc : 0 ≤ c ∧ c < v) : (0 ≤ (blk3 a b c).a ∧ (blk3 a b c).a < v) ∧ (0 ≤ (blk3 a b c).b ∧ (blk3 a b c).b < v) ∧ (0 ≤ (blk3 a b c).c ∧ (blk3 a b c).c < v) := by
  unfold blk3
  dsimp only
  omega
/-- The middle one. -/
theorem blk3_good {v a b c : Int} : goodB v (blk3 a b c) = true ↔ (0 ≤ a ∧ a < v) ∧ (0 ≤ b ∧ b < v) ∧ (0 ≤ c ∧ c < v) ∧ a ≠ b ∧ b ≠ c ∧ a ≠ c := by
  rw [goodB_iff]
  unfold blk3
  dsimp only
  omega
def b3 (x : Blk) : Blk := blk3 x.a x.b x.c
def sysOfF (v : Int) (bs : List Blk) : Int × List Blk × Int :=
  if decide (3 ≤ v) && decide (v ≤ 15) && decide (bs.length ≤ 35) && bs.all (fun x => goodB v (b3 x)) then
    (if shareGo [] (bs.map b3) then (0, [], 5) else (v, sortB (bs.map b3), 0))
  else (0, [], 2)
theorem sort3 (a b c : Int) : [a, b, c].mergeSort (fun x y => decide (x ≤ y)) = [(blk3 a b c).a, (blk3 a b c).b, (blk3 a b c).c] := by
  have hs : ([a, b, c].mergeSort (fun x y => decide (x ≤ y))).Pairwise (· ≤ ·) := by
    have := List.pairwise_mergeSort (le := fun x y : Int => decide (x ≤ y)) (fun x y z h1 h2 => by simp at *; omega) (fun x y => by simp; omega) [a, b, c]
    exact this.imp (by simp)
  have hp := List.mergeSort_perm [a, b, c] (fun x y : Int => decide (x ≤ y))
  have hs2 : [(blk3 a b c).a, (blk3 a b c).b, (blk3 a b c).c].Pairwise (· ≤ ·) := by
    unfold blk3
    simp
    omega
  have hp2 : [(blk3 a b c).a, (blk3 a b c).b, (blk3 a b c).c].Perm [a, b, c] := by
    unfold blk3
    dsimp only
    rw [List.perm_iff_count]
    intro x
    simp only [List.count_cons, List.count_nil, beq_iff_eq]
    by_cases h1 : a ≤ b <;> by_cases h2 : b ≤ c <;> by_cases h3 : a ≤ c <;> simp only [Int.min_def, Int.max_def, h1, h2, h3, if_true, if_false] <;> (try omega) <;> (repeat' split) <;> omega
  exact (hp.trans hp2.symm).eq_of_pairwise (fun x y _ _ h1 h2 => by omega) hs hs2
end Go.Proofs.Ytahgialnhomefaa

namespace Go.Proofs.Ytahgialnhomefaa
def col (n : Nat) (F : Nat → List Int) (y : Nat) : List Int := (List.range n).map fun i => (F i)[y]?.getD 0
def rowsOk (n k : Nat) (F : Nat → List Int) : Bool := (List.range k).all fun i => isRen (n : Int) (F i)
def colsOk (n k : Nat) (F : Nat → List Int) : Bool := (List.range k).all fun y => isRen (n : Int) (col n F y)
def sqB (n : Nat) (F : Nat → List Int) : Bool := decide (2 ≤ n) && decide (n ≤ 5) && rowsOk n n F && colsOk n n F
theorem col_len (n : Nat) (F : Nat → List Int) (y : Nat) : (col n F y).length = n := by simp [col]
theorem rowsOk_succ (n k : Nat) (F : Nat → List Int) : rowsOk n (k + 1) F = (rowsOk n k F && isRen (n : Int) (F k)) := by
  simp [rowsOk, List.range_succ, List.all_append]
theorem colsOk_succ (n k : Nat) (F : Nat → List Int) : colsOk n (k + 1) F = (colsOk n k F && isRen (n : Int) (col n F k)) := by
  simp [colsOk, List.range_succ, List.all_append]
theorem rowsOk_false {n m k : Nat} {F : Nat → List Int} (hk : k < m) (h : isRen (n : Int) (F k) = false) : rowsOk n m F = false := by
  unfold rowsOk
  rw [List.all_eq_false]
  exact ⟨k, List.mem_range.2 hk, by simp [h]⟩
theorem colsOk_false {n m k : Nat} {F : Nat → List Int} (hk : k < m) (h : isRen (n : Int) (col n F k) = false) : colsOk n m F = false := by
  unfold colsOk
  rw [List.all_eq_false]
  exact ⟨k, List.mem_range.2 hk, by simp [h]⟩
theorem rowsOk_at {n m k : Nat} {F : Nat → List Int} (h : rowsOk n m F = true) (hk : k < m) : isRen (n : Int) (F k) = true :=
  List.all_eq_true.1 h k (List.mem_range.2 hk)
theorem colsOk_at {n m k : Nat} {F : Nat → List Int} (h : colsOk n m F = true) (hk : k < m) : isRen (n : Int) (col n F k) = true :=
  List.all_eq_true.1 h k (List.mem_range.2 hk)
theorem isRen_len {n : Nat} {p : List Int} (h : isRen (n : Int) p = true) : p.length = n := by
  simp only [isRen, Bool.and_eq_true, decide_eq_true_eq] at h
  exact Int.ofNat_inj.1 h.1
/-- The first k numbers of a column. -/
def colK (F : Nat → List Int) (y k : Nat) : List Int := (List.range k).map fun i => (F i)[y]?.getD 0
theorem colK_succ (F : Nat → List Int) (y k : Nat) : colK F y (k + 1) = colK F y k ++ [(F k)[y]?.getD 0] := by simp [colK, List.range_succ]
theorem colK_len (F : Nat → List Int) (y k : Nat) : (colK F y k).length = k := by simp [colK]
end Go.Proofs.Ytahgialnhomefaa

namespace Go.Proofs.Ytahgialnhomefaa
open Go.Lib
/-- All points in blocks, block by block. -/
def ptsAll (bs : List Blk) : List Int := bs.flatMap fun x => [x.a, x.b, x.c]
/-- The points in blocks, ascending. -/
def ptsT (v : Int) (bs : List Blk) : List Int := ((List.range v.toNat).map fun (k : Nat) => (k : Int)).filter fun p => bs.any fun x => hasB x p
theorem asc_unique {l m : List Int} (h1 : l.Pairwise (· < ·)) (h2 : m.Pairwise (· < ·)) (h : ∀ x, x ∈ l ↔ x ∈ m) : l = m := by
  induction l generalizing m with
  | nil =>
    cases m with
    | nil => rfl
    | cons y m => exact absurd ((h y).2 (by simp)) (by simp)
  | cons x l ih =>
    cases m with
    | nil => exact absurd ((h x).1 (by simp)) (by simp)
    | cons y m =>
      rw [List.pairwise_cons] at h1 h2
      have e : x = y := by
        have a := (h x).1 (by simp)
        have b := (h y).2 (by simp)
        rcases List.mem_cons.1 a with a | a
        · exact a
        · rcases List.mem_cons.1 b with b | b
          · exact b.symm
          · have := h1.1 y b
            have := h2.1 x a
            omega
      subst e
      rw [ih h1.2 h2.2 (fun z => ?_)]
      have hz := h z
      simp only [List.mem_cons] at hz
      constructor
      · intro hm
        rcases hz.1 (.inr hm) with rfl | hq
        · have := h1.1 z hm; omega
        · exact hq
      · intro hm
        rcases hz.2 (.inr hm) with rfl | hq
        · have := h2.1 z hm; omega
        · exact hq
theorem compact_mem {zs : List Int} {x : Int} : x ∈ compact zs ↔ x ∈ zs := by
  unfold compact compactUpTo
  rw [List.mem_map]
  constructor
  · rintro ⟨j, hj, rfl⟩
    have hj := List.mem_range.1 (List.mem_filter.1 hj).1
    rw [getElem!_pos zs.toArray j (by simpa using hj)]
    simp
  · intro hx
    obtain ⟨j, hj, rfl⟩ := List.mem_iff_getElem.1 hx
    clear hx
    induction j with
    | zero => exact ⟨0, List.mem_filter.2 ⟨List.mem_range.2 hj, by simp [keeps]⟩, by rw [getElem!_pos zs.toArray 0 (by simpa using hj)]; simp⟩
    | succ j ih =>
      by_cases hk : keeps zs.toArray (j + 1) = true
      · exact ⟨j + 1, List.mem_filter.2 ⟨List.mem_range.2 hj, hk⟩, by rw [getElem!_pos zs.toArray (j + 1) (by simpa using hj)]; simp⟩
      · obtain ⟨i, h1, h2⟩ := ih (by omega)
        refine ⟨i, h1, h2.trans ?_⟩
        rw [Bool.not_eq_true] at hk
        simp only [keeps] at hk
        rw [getElem!_pos zs.toArray (j + 1) (by simpa using hj), getElem!_pos zs.toArray (j + 1 - 1) (by simp; omega)] at hk
        simp at hk
        exact hk.symm
theorem compact_asc {zs : List Int} (h : zs.Pairwise (· ≤ ·)) : (compact zs).Pairwise (· < ·) := by
  unfold compact compactUpTo
  rw [List.pairwise_map]
  have hr : (List.range zs.length).Pairwise (· < ·) := List.pairwise_lt_range
  refine ((hr.filter (keeps zs.toArray)).imp_of_mem ?_)
  intro i j hi hj hlt
  have li := List.mem_range.1 (List.mem_filter.1 hi).1
  have lj := List.mem_range.1 (List.mem_filter.1 hj).1
  have hk := (List.mem_filter.1 hj).2
  simp only [keeps] at hk
  rw [getElem!_pos zs.toArray i (by simpa using li), getElem!_pos zs.toArray j (by simpa using lj)]
  rw [getElem!_pos zs.toArray j (by simpa using lj), getElem!_pos zs.toArray (j - 1) (by simp; omega)] at hk
  simp at hk ⊢
  have e0 : j ≠ 0 := by omega
  have hp := List.pairwise_iff_getElem.1 h
  have h1 : zs[i] ≤ zs[j - 1] := by
    by_cases e : i = j - 1
    · simp [e]
    · exact hp i (j - 1) li (by omega) (by omega)
  have h2 := hp (j - 1) j (by omega) lj (by omega)
  have h3 : zs[j] ≠ zs[j - 1] := by
    rcases hk with hk | hk
    · exact absurd hk e0
    · exact hk
  omega
theorem ptsAll_mem {bs : List Blk} {p : Int} : p ∈ ptsAll bs ↔ bs.any (fun x => hasB x p) = true := by
  simp only [ptsAll, List.mem_flatMap, List.any_eq_true, hasB, List.mem_cons, List.not_mem_nil, or_false, Bool.or_eq_true, decide_eq_true_eq]
  constructor
  · rintro ⟨x, hx, h⟩
    exact ⟨x, hx, by rcases h with rfl | rfl | rfl <;> simp⟩
  · rintro ⟨x, hx, h⟩
    exact ⟨x, hx, by rcases h with (rfl | rfl) | rfl <;> simp⟩
theorem ptsT_mem {v : Int} {bs : List Blk} (h : ∀ x ∈ bs, goodB v x = true) {p : Int} : p ∈ ptsT v bs ↔ p ∈ ptsAll bs := by
  rw [ptsAll_mem, ptsT, List.mem_filter, List.mem_map]
  constructor
  · exact fun hp => hp.2
  · intro hp
    refine ⟨⟨p.toNat, List.mem_range.2 ?_, ?_⟩, hp⟩
    all_goals
      obtain ⟨x, hx, hh⟩ := List.any_eq_true.1 hp
      have hg := goodB_iff.1 (h x hx)
      simp only [hasB, Bool.or_eq_true, decide_eq_true_eq] at hh
      rcases hh with (rfl | rfl) | rfl <;> omega
theorem ptsT_asc (v : Int) (bs : List Blk) : (ptsT v bs).Pairwise (· < ·) := by
  unfold ptsT
  refine List.Pairwise.filter _ ?_
  rw [List.pairwise_map]
  exact List.pairwise_lt_range.imp fun {a b} h => by omega
theorem pts_same {v : Int} {bs : List Blk} (h : ∀ x ∈ bs, goodB v x = true) : compact ((ptsAll bs).mergeSort fun x y => decide (x ≤ y)) = ptsT v bs := by
  have hp := List.mergeSort_perm (ptsAll bs) (fun x y => decide (x ≤ y))
  have hs : ((ptsAll bs).mergeSort fun x y => decide (x ≤ y)).Pairwise (· ≤ ·) := by
    have := List.pairwise_mergeSort (le := fun (x y : Int) => decide (x ≤ y)) (by intro a b c; simp; omega) (by intro a b; simp; omega) (ptsAll bs)
    exact this.imp fun {a b} h => by simpa using h
  refine asc_unique (compact_asc hs) (ptsT_asc v bs) fun x => ?_
  rw [compact_mem, hp.mem_iff, ptsT_mem h]
theorem ptsT_len (v : Int) (bs : List Blk) (hv : v ≤ 15) : (ptsT v bs).length ≤ 15 := by
  unfold ptsT
  refine Nat.le_trans (List.length_filter_le _ _) ?_
  simp; omega
theorem ptsAll_len (bs : List Blk) : (ptsAll bs).length = 3 * bs.length := by
  induction bs with
  | nil => rfl
  | cons x r ih => simp [ptsAll] at ih ⊢; omega
def ptsF (v : Int) (bo bi : List Blk) : List Int × Int := if trdB v bo bi then (ptsT v bo, 0) else ([], 1)
end Go.Proofs.Ytahgialnhomefaa

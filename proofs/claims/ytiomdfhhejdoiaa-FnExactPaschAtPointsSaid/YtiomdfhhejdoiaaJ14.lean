
/- The leave degrees, plain. The model's DegreesOf. The program's DegreesOf, plain. The program's LeaveDegrees. The program's PaschAtPoints. The model's l03Pasch, walked. The model's PaschList and CountPasch. -/
import Derived.Test.YtiomdfhhejdoiaaJ13
import Derived.Deep.RegionHeld3
import Derived.Deep.Cut
namespace Go.Proofs.Ytiomdfhhejdoiaa
/-- How many pairs of the list have the point. -/
def cntP (L : List (Int × Int)) (p : Int) : Nat := L.countP fun q => decide (q.1 = p) || decide (q.2 = p)
theorem cntP_append (L M : List (Int × Int)) (p : Int) : cntP (L ++ M) p = cntP L p + cntP M p := by simp [cntP]
theorem filter_append' {α : Type} (l m : List α) (p : α → Bool) : (l ++ m).filter p = l.filter p ++ m.filter p := by simp
theorem rowL_filter (P : Int → Int → Bool) (a : Nat) : ∀ n, rowL P a n = (rowL (fun _ _ => true) a n).filter fun q => P q.1 q.2
  | 0 => rfl
  | n + 1 => by
    unfold rowL
    rw [List.filter_append, ← rowL_filter P a n]
    cases hp : P (a : Int) ((a : Int) + 1 + n) <;> simp [hp]
theorem leftL_filter (P : Int → Int → Bool) (v : Nat) : ∀ a, leftL P v a = (leftL (fun _ _ => true) v a).filter fun q => P q.1 q.2
  | 0 => rfl
  | a + 1 => by
    unfold leftL
    rw [List.filter_append, ← leftL_filter P v a, ← rowL_filter]
theorem rowT_mem (a : Nat) : ∀ n (q : Int × Int), q ∈ rowL (fun _ _ => true) a n ↔ q.1 = a ∧ (a : Int) < q.2 ∧ q.2 ≤ (a : Int) + n
  | 0, q => by
    simp only [rowL, List.not_mem_nil, false_iff]
    omega
  | n + 1, q => by
    obtain ⟨x, y⟩ := q
    unfold rowL
    rw [List.mem_append, rowT_mem a n]
    simp only [if_true, List.mem_singleton, Prod.mk.injEq]
    omega
theorem leftT_mem (v : Nat) : ∀ a (q : Int × Int), a ≤ v → (q ∈ leftL (fun _ _ => true) v a ↔ 0 ≤ q.1 ∧ q.1 < a ∧ q.1 < q.2 ∧ q.2 < v)
  | 0, q, _ => by
    simp only [leftL, List.not_mem_nil, false_iff]
    omega
  | a + 1, q, h => by
    unfold leftL
    rw [List.mem_append, leftT_mem v a q (by omega), rowT_mem]
    omega
theorem rowT_nodup (a : Nat) : ∀ n, (rowL (fun _ _ => true) a n).Nodup
  | 0 => by simp [rowL]
  | n + 1 => by
    unfold rowL
    rw [List.nodup_append]
    refine ⟨rowT_nodup a n, by simp, fun x hx y hy => ?_⟩
    rw [rowT_mem] at hx
    simp only [if_true, List.mem_singleton] at hy
    subst hy
    intro e
    rw [e] at hx
    dsimp only at hx
    omega
theorem leftT_nodup (v : Nat) : ∀ a, a ≤ v → (leftL (fun _ _ => true) v a).Nodup
  | 0, _ => by simp [leftL]
  | a + 1, h => by
    unfold leftL
    rw [List.nodup_append]
    refine ⟨leftT_nodup v a (by omega), rowT_nodup a _, fun x hx y hy => ?_⟩
    rw [leftT_mem v a x (by omega)] at hx
    rw [rowT_mem] at hy
    intro e
    rw [e] at hx
    omega
theorem leftT_cnt : ∀ v : Fin 16, ∀ p : Fin 16, p.val < v.val → cntP (leftL (fun _ _ => true) v.val v.val) (p.val : Int) = v.val - 1 := by decide +kernel
/-- Two lists without doubles with the same members that pass a test pass it equally often. -/
theorem nodup_count {α : Type} [DecidableEq α] {l m : List α} (hl : l.Nodup) (hm : m.Nodup) (P Q : α → Bool) (h : ∀ x, (x ∈ l ∧ P x = true) ↔ (x ∈ m ∧ Q x = true)) : l.countP P = m.countP Q := by
  rw [List.countP_eq_length_filter, List.countP_eq_length_filter]
  apply Nat.le_antisymm
  · exact nodup_length _ _ (hl.sublist List.filter_sublist) fun x hx => List.mem_filter.2 ((h x).1 (List.mem_filter.1 hx))
  · exact nodup_length _ _ (hm.sublist List.filter_sublist) fun x hx => List.mem_filter.2 ((h x).2 (List.mem_filter.1 hx))
theorem cnt_pairs {v : Int} {x : Blk} (hx : goodB v x = true) (p : Int) : cntP (pairsL x) p = if hasB x p then 2 else 0 := by
  rw [goodB_iff] at hx
  unfold cntP pairsL hasB
  simp only [List.countP_cons, List.countP_nil]
  by_cases h1 : x.a = p <;> by_cases h2 : x.b = p <;> by_cases h3 : x.c = p <;> simp [h1, h2, h3, eq_comm] <;> omega
theorem cnt_flat {v : Int} (p : Int) : ∀ bs : List Blk, (∀ x ∈ bs, goodB v x = true) → cntP (bs.flatMap pairsL) p = 2 * (bs.filter fun x => hasB x p).length
  | [], _ => by simp [cntP]
  | x :: r, h => by
    rw [List.flatMap_cons, cntP_append, cnt_pairs (h x (by simp)), cnt_flat p r (fun y hy => h y (by simp [hy])), List.filter_cons]
    split <;> simp <;> omega
theorem upTo_cnt (p : Int) (bs : List Blk) : ∀ k, k ≤ bs.length → (upTo p bs k).length = ((bs.take k).filter fun x => hasB x p).length
  | 0, _ => rfl
  | k + 1, h => by
    rw [upTo_succ, List.length_append, upTo_cnt p bs k (by omega), List.take_add_one, List.filter_append, List.length_append, List.getElem?_eq_getElem (by omega)]
    simp only [Option.getD_some, Option.toList_some, List.filter_cons, List.filter_nil]
    split <;> rfl
/-- The leave degrees of the points. -/
def lvL (v : Nat) (bs : List Blk) : List Int := (List.range v).map fun (p : Nat) => (cntP (leftL (notIn (bs.flatMap pairsL)) v v) (p : Int) : Int)
theorem lv_at {v : Nat} {bs : List Blk} (h : isSysImpl (v : Int) bs = true) {p : Nat} (hp : p < v) :
    (cntP (leftL (notIn (bs.flatMap pairsL)) v v) (p : Int) : Int) = (v : Int) - 1 - 2 * ((idxI (p : Int) bs bs.length).length : Int) := by
  obtain ⟨h3, h15, hg, hs⟩ := sys_parts h
  have hn : (bs.flatMap pairsL).Nodup := by simpa [prs] using share_nodup h15 bs [] hg (by simp) hs
  have hin : ∀ q ∈ bs.flatMap pairsL, q ∈ leftL (fun _ _ => true) v v := fun q hq => by
    obtain ⟨x, hx, hqx⟩ := List.mem_flatMap.1 hq
    have := hg x hx
    rw [goodB_iff] at this
    rw [leftT_mem v v q (Nat.le_refl _)]
    simp only [pairsL, List.mem_cons, List.not_mem_nil, or_false] at hqx
    rcases hqx with rfl | rfl | rfl <;> (dsimp only; omega)
  have hA : cntP (leftL (fun _ _ => true) v v) (p : Int) = v - 1 := leftT_cnt ⟨v, by omega⟩ ⟨p, by omega⟩ hp
  have hB : cntP (bs.flatMap pairsL) (p : Int) = 2 * (idxI (p : Int) bs bs.length).length := by
    rw [cnt_flat (p : Int) bs hg, idxI, List.length_map, upTo_cnt _ _ _ (Nat.le_refl _), List.take_length]
  have hL := leftL_filter (notIn (bs.flatMap pairsL)) v v
  have hsplit : cntP (leftL (fun _ _ => true) v v) (p : Int) = cntP (leftL (notIn (bs.flatMap pairsL)) v v) (p : Int) + cntP (bs.flatMap pairsL) (p : Int) := by
    rw [hL]
    have e : cntP (bs.flatMap pairsL) (p : Int) = ((leftL (fun _ _ => true) v v).filter fun q => !notIn (bs.flatMap pairsL) q.1 q.2).countP fun q => decide (q.1 = (p : Int)) || decide (q.2 = (p : Int)) := by
      unfold cntP
      refine nodup_count hn ((leftT_nodup v v (Nat.le_refl _)).sublist List.filter_sublist) _ _ fun q => ?_
      rw [List.mem_filter]
      constructor
      · rintro ⟨h1, h2⟩
        exact ⟨⟨hin q h1, by simpa [notIn] using h1⟩, h2⟩
      · rintro ⟨⟨_, h1⟩, h2⟩
        exact ⟨by simpa [notIn] using h1, h2⟩
    rw [e]
    unfold cntP
    rw [List.countP_filter, List.countP_filter]
    induction leftL (fun _ _ => true) v v with
    | nil => rfl
    | cons q r ih =>
      simp only [List.countP_cons, ih]
      cases notIn (bs.flatMap pairsL) q.1 q.2 <;> cases (decide (q.1 = (p : Int)) || decide (q.2 = (p : Int))) <;> simp <;> omega
  omega
end Go.Proofs.Ytiomdfhhejdoiaa

namespace Go.Proofs.Ytiomdfhhejdoiaa
open Go.RowKit Go.Maps
/-- How many blocks go through each of the first k points. -/
def degI (bs : List Blk) (k : Nat) : List Int := (List.range k).map fun (q : Nat) => ((idxI (q : Int) bs bs.length).length : Int)
theorem degI_succ (bs : List Blk) (k : Nat) : degI bs (k + 1) = degI bs k ++ [((idxI (k : Int) bs bs.length).length : Int)] := by
  simp [degI, List.range_succ]
theorem degI_len (bs : List Blk) (k : Nat) : (degI bs k).length = k := by simp [degI]
def degF (v : Int) (bs : List Blk) : List Int × Int := if isSysImpl v bs then (degI bs v.toNat, 0) else ([], 1)
end Go.Proofs.Ytiomdfhhejdoiaa

namespace Go.Proofs.Ytiomdfhhejdoiaa
open Go.RowKit Go.Maps Go.Shelf
theorem mkRowD (n : Nat) (hn : n ≤ 1100000) (W : World) : (Instr.makeSlice 26 (.int .i64 (n : Int)) (.int .i64 (n : Int))).run Try.prog W = .ok (.slice (some ⟨W.heap.size, 0, none⟩) n n) (W.alloc (.cells (madeCells #[.int .i64 0] n) 2)) := by
  obtain ⟨i0, hi, hz0, hz1, hz2⟩ := info_parts infoInt64
  have hr := run_make (P := Try.prog) W 26 2 i0 (.int .i64 0) Try.underlying26 hi hz0 .i64 .i64 n n (by omega) (by omega) (by rw [hz2]; omega) (by omega)
  simp only [Int.toNat_natCast, hz1, Nat.mul_one] at hr
  exact hr
/-- The row while point k is counted: c of its blocks were met. -/
def degR (bs : List Blk) (v k c : Nat) : List Int := (List.range v).map fun q => if q < k then ((idxI (q : Int) bs bs.length).length : Int) else if q = k then (c : Int) else 0
theorem degR_len (bs : List Blk) (v k c : Nat) : (degR bs v k c).length = v := by simp [degR]
theorem degR_at (bs : List Blk) {v k : Nat} (c : Nat) (hk : k < v) : (degR bs v k c)[k]?.getD 0 = (c : Int) := by simp [degR, hk]
theorem degR_set (bs : List Blk) {v k : Nat} (c : Nat) (_hk : k < v) : (degR bs v k c).set k ((c : Int) + 1) = degR bs v k (c + 1) := by
  apply List.ext_getElem
  · simp [degR]
  · intro i h1 h2
    rw [List.getElem_set]
    by_cases e : k = i
    · subst e
      simp [degR]
    · rw [if_neg e]
      simp [degR, Ne.symm e]
theorem degR_next (bs : List Blk) (v k : Nat) : degR bs v k (idxI (k : Int) bs bs.length).length = degR bs v (k + 1) 0 := by
  apply List.map_congr_left
  intro q _
  by_cases h : q < k
  · simp [h, show q < k + 1 by omega]
  · by_cases e : q = k
    · subst e
      simp
    · simp [h, e, show ¬ q < k + 1 by omega]
theorem degR_start (bs : List Blk) (v : Nat) : degR bs v 0 0 = List.replicate v 0 := by
  apply List.ext_getElem
  · simp [degR]
  · intro i h1 h2
    simp [degR]
theorem degR_end (bs : List Blk) (v : Nat) : degR bs v v 0 = degI bs v := by
  apply List.map_congr_left
  intro q hq
  simp [List.mem_range.1 hq]
theorem idxI_upTo (p : Int) (bs : List Blk) : (idxI p bs bs.length).length = (upTo p bs bs.length).length := by simp [idxI]
theorem OwnJ.made0 (W : World) {base : Nat} (n : Nat) (hn : n ≤ 1100000) (hb : base ≤ W.heap.size) : OwnJ (W.alloc (.cells (madeCells #[.int .i64 0] n) 2)) base (.slice (some ⟨W.heap.size, 0, none⟩) n n) (List.replicate n 0) := by
  have hml : 1100000 ≤ maxLen := by decide
  unfold OwnJ World.ownsRow
  refine ⟨by simp, .inr ⟨W.heap.size, n, madeCells #[.int .i64 0] n, by simp, hb, World.alloc_heap_new W _, by simp, by omega, by simp [madeCells], ?_⟩⟩
  apply List.ext_getElem
  · simp [madeCells]
  · intro i h1 h2
    simp [madeCells, Nat.mod_one]
theorem ownJ_own (base : Nat) (u : Value) : Own (fun (zs : List Int) W => OwnJ W base u zs) := fun _ X _ row hs hg hr => World.ownsRow.kept hs hg (by
  rcases hs.2 with ⟨rfl, _⟩ | ⟨g, cap, cur, rfl, _, hgb, _⟩
  · exact .inl rfl
  · refine .inr fun e => ?_
    obtain ⟨o, ho, hc⟩ := hr g e.symm
    rw [hgb] at ho
    cases ho
    cases hc)
/-- The marks that the loops left, the newest first: each bears a block that no call stands in. -/
def Marks (n0 : Nat) (W : World) : Nat → List Deferred → Prop
  | _, [] => True
  | n1, d :: ds => ∃ D, d = { target := .collected D, args := #[] } ∧ n0 ≤ D ∧ D < n1 ∧ W.heap[D]? = some (.deferred (some [])) ∧ Marks n0 W D ds
theorem Marks.mono {n0 : Nat} {W : World} {ds : List Deferred} {n1 n2 : Nat} (h : Marks n0 W n1 ds) (hn : n1 ≤ n2) : Marks n0 W n2 ds := by
  cases ds with
  | nil => trivial
  | cons d ds =>
    obtain ⟨D, e, h0, h1, hD, hr⟩ := h
    exact ⟨D, e, h0, by omega, hD, hr⟩
theorem Marks.kept {n0 : Nat} {W W' : World} : ∀ {ds : List Deferred} {n1 : Nat}, Marks n0 W n1 ds → (∀ D, D < n1 → W.heap[D]? = some (.deferred (some [])) → W'.heap[D]? = some (.deferred (some []))) → Marks n0 W' n1 ds
  | [], _, _, _ => trivial
  | _ :: _, _, ⟨D, e, h0, h1, hD, hr⟩, k => ⟨D, e, h0, h1, k D h1 hD, hr.kept fun D' h' => k D' (by omega)⟩
theorem Marks.grown {n0 : Nat} {W W' : World} {ds : List Deferred} {n1 : Nat} {row : Option Nat} (h : Marks n0 W n1 ds) (hg : W.grownBy W' row) (hr : ∀ r, row = some r → n1 ≤ r ∨ ∃ o : Obj, W.heap[r]? = some o ∧ o.isCells = true) : Marks n0 W' n1 ds :=
  h.kept fun D hD e => (hg.block D (Array.getElem?_eq_some_iff.1 e).1 (fun e' => by
    rcases hr D e'.symm with h | ⟨o, ho, hc⟩
    · omega
    · rw [e] at ho
      cases ho
      cases hc)).trans e
theorem Marks.alloc {n0 : Nat} {W : World} {ds : List Deferred} {n1 : Nat} (h : Marks n0 W n1 ds) (o : Obj) : Marks n0 (W.alloc o) n1 ds := h.grown (World.grownBy_alloc W o none) (fun r e => by cases e)
theorem marks_own (n0 n1 B : Nat) (hB : n1 ≤ B) {β : Type} (ds : List Deferred) : OwnFrom B (fun (_ : β) W => Marks n0 W n1 ds) := fun _ _ _ _ hs hg hr => hs.grown hg (fun r e => .inl (Nat.le_trans hB (hr r e).1))
theorem leaves_marks {F : Fence} {n : Nat} {P : Program} {fn : Func} {tmps : Array Value} {R : Ending → World → Prop} {n0 : Nat} (K : World → Prop) (hK : ∀ W D, K W → n0 ≤ D → W.heap[D]? = some (.deferred (some [])) → K (W.putObj D (.deferred none)))
    (hend : ∀ W, K W → LeavesInM F n P fn tmps R [] .returning W) : ∀ (ds : List Deferred) (n1 : Nat) (W : World), Marks n0 W n1 ds → K W → LeavesInM F n P fn tmps R ds .returning W
  | [], _, W, _, h => hend W h
  | d :: ds, n1, W, ⟨D, e, h0, h1, hD, hr⟩, h => ⟨by simp, .inl ⟨D, _, by rw [e], run_takeDeferred hD, leaves_marks K hK hend ds D _ (hr.kept fun D' h' e' => (World.putObj_heap_other (by omega)).trans e') (hK W D h h0 hD)⟩⟩
theorem meas_lt {v k : Nat} (h : k < v) : ((v : Int) - ((k + 1 : Nat) : Int)).toNat < ((v : Int) - (k : Int)).toNat := by omega
theorem wrap_succ {k : Nat} (h : k ≤ 15) : wrap64 ((k : Int) + 1) = ((k + 1 : Nat) : Int) := by unfold wrap64; omega
theorem OwnJ.baseD {w : World} {b b' : Nat} {u : Value} {zs : List Int} (h : OwnJ w b u zs) (hb : b' ≤ b) : OwnJ w b' u zs := ownsRow_base h hb
/-- A system in a box. -/
def SysAt (W : World) (B : Nat) (v : Int) (s : Value) : Prop := W.heap[B]? = some (.cells #[.int .i64 v, s] 31 (0, 0))
theorem SysAt.cells {W : World} {B : Nat} {v : Int} {s : Value} (h : SysAt W B v s) : W.cell? ⟨B, 0, none⟩ = some (.int .i64 v) ∧ W.cell? ⟨B, 1, none⟩ = some s ∧ B < W.heap.size := by
  have : W.heap[B]? = _ := h
  refine ⟨by simp [World.cell?, this], by simp [World.cell?, this], (Array.getElem?_eq_some_iff.1 this).1⟩
theorem SysAt.kept {W W' : World} {B : Nat} {v : Int} {s : Value} {row : Option Nat} (h : SysAt W B v s) (hg : W.grownBy W' row) (hr : some B ≠ row) : SysAt W' B v s := (hg.block B h.cells.2.2 hr).trans h
theorem SysAt.alloc {W : World} {B : Nat} {v : Int} {s : Value} (h : SysAt W B v s) (o : Obj) : SysAt (W.alloc o) B v s := h.kept (World.grownBy_alloc W o none) (fun e => by cases e)
theorem SysAt.own {β : Type} (B : Nat) (v : Int) (s : Value) : Own (fun (_ : β) W => SysAt W B v s) := fun _ X Y row hs hg hrow => hs.kept hg (fun e' => by
  obtain ⟨o, ho, hc⟩ := hrow B e'.symm
  rw [show X.heap[B]? = _ from hs] at ho
  cases ho
  cases hc)
end Go.Proofs.Ytiomdfhhejdoiaa

namespace Go.Proofs.Ytiomdfhhejdoiaa
open Go.RowKit Go.Maps
/-- How often each of the first v points is in the pairs of the list. -/
def cnV (v : Nat) (L : List (Int × Int)) : List Int := (List.range v).map fun (p : Nat) => (cntP L (p : Int) : Int)
theorem cnV_len (v : Nat) (L : List (Int × Int)) : (cnV v L).length = v := by simp [cnV]
theorem cnV_at {v : Nat} (L : List (Int × Int)) {p : Nat} (hp : p < v) : (cnV v L)[p]?.getD 0 = (cntP L (p : Int) : Int) := by simp [cnV, hp]
theorem cnV_nil (v : Nat) : cnV v [] = List.replicate v 0 := by
  apply List.ext_getElem
  · simp [cnV]
  · intro i h1 h2
    simp [cnV, cntP]
theorem cnt_le (L : List (Int × Int)) (p : Int) : cntP L p ≤ L.length := List.countP_le_length
/-- One end of a pair counted. -/
def cnH (v : Nat) (L : List (Int × Int)) (a : Nat) : List Int := (cnV v L).set a ((cntP L (a : Int) : Int) + 1)
theorem cnH_len (v : Nat) (L : List (Int × Int)) (a : Nat) : (cnH v L a).length = v := by simp [cnH, cnV_len]
theorem cnH_at {v : Nat} (L : List (Int × Int)) {a b : Nat} (hb : b < v) (hab : a ≠ b) : (cnH v L a)[b]?.getD 0 = (cntP L (b : Int) : Int) := by
  unfold cnH
  rw [List.getElem?_set_ne hab, cnV_at L hb]
theorem cnH_set {v : Nat} (L : List (Int × Int)) {a b : Nat} (_ha : a < v) (_hb : b < v) (_hab : a ≠ b) : (cnH v L a).set b ((cntP L (b : Int) : Int) + 1) = cnV v (L ++ [((a : Int), (b : Int))]) := by
  unfold cnH
  apply List.ext_getElem
  · simp [cnV]
  · intro i h1 h2
    rw [List.getElem_set, List.getElem_set]
    simp only [cnV, List.getElem_map, List.getElem_range, cntP_append]
    have e : cntP [((a : Int), (b : Int))] (i : Int) = if a = i ∨ b = i then 1 else 0 := by
      unfold cntP
      rw [List.countP_cons, List.countP_nil]
      by_cases h1 : a = i <;> by_cases h2 : b = i <;> simp [h1, h2]
      · simp [show (a : Int) ≠ (i : Int) by omega, show (b : Int) ≠ (i : Int) by omega]
    rw [e]
    by_cases h1 : b = i
    · subst h1
      simp
    · by_cases h2 : a = i
      · subst h2
        simp [h1]
      · simp [h1, h2]
theorem left_rows {v : Nat} {P : Int → Int → Bool} {k : Nat} (hk : k < (leftL P v v).length) :
    ∃ a b : Nat, a < v ∧ b < v ∧ a ≠ b ∧ fnL (leftL P v v) k = [(a : Int), (b : Int)] ∧ (leftL P v v).take (k + 1) = (leftL P v v).take k ++ [((a : Int), (b : Int))] := by
  obtain ⟨p, hp⟩ : ∃ p, p = (leftL P v v)[k] := ⟨_, rfl⟩
  have e1 : (leftL P v v)[k]? = some p := by rw [List.getElem?_eq_getElem hk, hp]
  have hm3 : 0 ≤ p.1 ∧ p.1 < v ∧ p.1 < p.2 ∧ p.2 < v := by
    rw [hp]
    have hq : (leftL P v v)[k] ∈ leftL P v v := List.getElem_mem hk
    generalize (leftL P v v)[k] = q at hq ⊢
    rw [leftL_filter] at hq
    exact (leftT_mem v v _ (Nat.le_refl _)).1 (List.mem_filter.1 hq).1
  obtain ⟨x, y⟩ := p
  dsimp only at hm3
  refine ⟨x.toNat, y.toNat, by omega, by omega, by omega, ?_, ?_⟩
  · rw [Int.toNat_of_nonneg (by omega), Int.toNat_of_nonneg (by omega)]
    unfold fnL
    rw [e1]
    rfl
  · rw [Int.toNat_of_nonneg (by omega), Int.toNat_of_nonneg (by omega), List.take_add_one, e1]
    rfl
theorem resSS_form {w : World} {lo n : Nat} {u : Value} {F : Nat → List Int} (h : ResSS w lo u n F) : ∃ a c, u = .slice a n c := by
  rcases h with ⟨rfl, a, c, rfl⟩ | ⟨G, cap, gs, caps, rfl, _⟩ <;> exact ⟨_, _, rfl⟩
def lvF (v : Int) (bs : List Blk) : List Int × Int := if isSysImpl v bs then (lvL v.toNat bs, 0) else ([], 1)
theorem lvF_len (v : Int) (bs : List Blk) : (lvF v bs).1.length ≤ 1100000 := by
  unfold lvF
  cases hi : isSysImpl v bs with
  | false => simp
  | true =>
    have := (sys_size hi).2.1
    simp [lvL]
    omega
set_option maxRecDepth 100000 in
set_option maxHeartbeats 2000000 in
theorem LeaveDegrees_main (v : Nat) (s : Value) (bs : List Blk) (w : World) (h : SB w s bs) (hi : isSysImpl (v : Int) bs = true) :
    Calls Try.prog 15 #[.agg #[.int .i64 (v : Int), s]] w (RJ (lvL v bs, 0) w) := by
  have hs := h.slice
  have HP := Lib.hid fun W (hb : Below w.heap.size w W) => PairsLeft_any (v : Int) s bs W (h.below hb (Nat.le_refl _))
  have hval : pairsF (v : Int) bs = (leftL (notIn (bs.flatMap pairsL)) v v, 0) := by simp [pairsF, hi]
  rw [hval] at HP
  obtain ⟨hv3, hv15, _⟩ := sys_size hi
  have hlv : lvL v bs = cnV v (leftL (notIn (bs.flatMap pairsL)) v v) := rfl
  rw [hlv]
  have hLl := leftL_len (notIn (bs.flatMap pairsL)) v v
  have hLb : v * v ≤ 225 := by
    have h1 : v * v ≤ 15 * 15 := Nat.mul_le_mul (by omega) (by omega)
    omega
  have HR := Lib.hid fun (k : Nat) (hk : k < (leftL (notIn (bs.flatMap pairsL)) v v).length) => left_rows hk
  obtain ⟨L, hL⟩ : ∃ L, L = leftL (notIn (bs.flatMap pairsL)) v v := ⟨_, rfl⟩
  rw [← hL] at HP HR hLl ⊢
  clear hL hlv hval hi h
  have hL2 : L.length ≤ 225 := by omega
  obtain ⟨m, hm⟩ : ∃ m, m = L.length := ⟨_, rfl⟩
  have HM := Lib.hid hm
  have hm2 : m ≤ 225 := by omega
  have HP2 : Hid (∀ W, Below w.heap.size w W → Calls Try.prog 48 #[.agg #[.int .i64 (v : Int), s]] W fun e w' => ∃ u, e = .returned (.tuple #[u, .int .i64 0]) ∧ Below W.heap.size W w' ∧ ResSS w' W.heap.size u m (fnL L)) := Lib.hid fun W hb => by
    rw [hm]
    exact HP.out W hb
  clear hm hLl hLb hL2 HP
  obtain ⟨a0, c0, rfl⟩ := hs
  have hmk := mkRowD v (by omega)
  go_enter Try.func15, Try.ntmps15
  go_wp2_with fail
  refine (HP2.out _ ((Below.refl _ _).alloc (Nat.le_refl _) _)).mono ?_
  rintro e w1 ⟨u, rfl, hb1, hr⟩
  have q0 := cell_new hb1 0 rfl
  have q1 := cell_new hb1 1 rfl
  have hlt1 := lt_new hb1
  have hbw := below_new hb1
  obtain ⟨a2, c2, rfl⟩ := resSS_form hr
  have HRS := Lib.hid hr
  clear hb1 hr
  have hO0 := OwnJ.made0 w1 (base := w1.heap.size) v (by omega) (Nat.le_refl _)
  rw [← cnV_nil v] at hO0
  have hB0 : Below w1.heap.size w1 (w1.alloc (.cells (madeCells #[.int .i64 0] v) 2)) := (Below.refl _ _).alloc (Nat.le_refl _) _
  have hO1 := Lib.hid hO0
  clear hO0
  go_wp2_with fail
  go_loopw [22] (fun i wr => ∃ k : Nat, k ≤ m ∧ i = .int .i64 k ∧ Below w1.heap.size w1 wr ∧ OwnJ wr w1.heap.size (.slice (some ⟨w1.heap.size, 0, none⟩) v v) (cnV v (L.take k))) (fun i _ => m - (intOf i).toNat)
  case atStart => exact ⟨0, Nat.zero_le _, rfl, hB0, by simpa using hO1.out⟩
  case round =>
    obtain ⟨k, hk, rfl, hB, hO⟩ := hrel
    have hz := hB.size
    by_cases hkl : k < m
    · obtain ⟨a, b, ha, hb, hab, hrow, htake⟩ := HR.out k (by rw [← HM.out]; exact hkl)
      rcases HRS.out with ⟨e0, _⟩ | ⟨G, cap, gs, caps, hu, hG, hS⟩
      · omega
      · simp at hu
        obtain ⟨rfl, rfl⟩ := hu
        have c0 := hS.cell k hkl
        have hrk := hS.row k hkl
        rw [hrow] at c0 hrk
        have hgl := hrk.lt
        have hGl := hS.lt
        have r0 := (hB.cell (p := ⟨G, k, none⟩) hGl).trans c0
        have y1 : w1.cell? ⟨gs k, 0, none⟩ = some (.int .i64 (a : Int)) := by simpa using hrk.at_ 0 (by simp)
        have y2 : w1.cell? ⟨gs k, 1, none⟩ = some (.int .i64 (b : Int)) := by simpa using hrk.at_ 1 (by simp)
        have r1 := (hB.cell (p := ⟨gs k, 0, none⟩) hgl).trans y1
        have r2 := (hB.cell (p := ⟨gs k, 1, none⟩) hgl).trans y2
        obtain ⟨d1, d2, d3, d4, d5⟩ := hO.at_ (i := a) (by rw [cnV_len]; exact ha)
        rw [cnV_at _ ha] at d1
        have hc1 := cnt_le (L.take k) (a : Int)
        have hc2 := cnt_le (L.take k) (b : Int)
        have hl2 : (L.take k).length ≤ 225 := by rw [List.length_take]; omega
        obtain ⟨s1, t1⟩ := hO.setT (i := a) (x := (cntP (L.take k) (a : Int) : Int) + 1) (by rw [cnV_len]; exact ha)
        have s1' : OwnJ (wr.setCell ⟨w1.heap.size, a, none⟩ (.int .i64 ((cntP (L.take k) (a : Int) : Int) + 1))) w1.heap.size (.slice (some ⟨w1.heap.size, 0, none⟩) v v) (cnH v (L.take k) a) := s1
        obtain ⟨f1, f2, f3, f4, f5⟩ := s1'.at_ (i := b) (by rw [cnH_len]; exact hb)
        rw [cnH_at _ hb hab] at f1
        obtain ⟨s2, t2⟩ := s1'.setT (i := b) (x := (cntP (L.take k) (b : Int) : Int) + 1) (by rw [cnH_len]; exact hb)
        rw [cnH_set _ ha hb hab, ← htake] at s2
        have hB1 := hB.grown t1 (by omega) (fun r e => by cases e; exact Nat.le_refl _)
        have hB2 := hB1.grown t2 (by have := hB1.size; omega) (fun r e => by cases e; exact Nat.le_refl _)
        have r3 := (hB1.cell (p := ⟨gs k, 1, none⟩) hgl).trans y2
        have r0' := (hB1.cell (p := ⟨G, k, none⟩) hGl).trans c0
        obtain ⟨x, hx⟩ : ∃ x : Nat, x = cntP (L.take k) (a : Int) := ⟨_, rfl⟩
        obtain ⟨y, hy⟩ : ∃ y : Nat, y = cntP (L.take k) (b : Int) := ⟨_, rfl⟩
        rw [← hx] at d1 s2 hB1 hB2 f1 f5 r3 hc1
        rw [← hy] at s2 hB2 f1 hc2
        have w1' : IntKind.i64.wrap ((x : Int) + 1) = (x : Int) + 1 := IntWalk.i64_in _ (by omega)
        have w2' : IntKind.i64.wrap ((y : Int) + 1) = (y : Int) + 1 := IntWalk.i64_in _ (by omega)
        have HFIN := Lib.hid (And.intro hB2 s2)
        have g0 : (0 : Int) ≤ (k : Int) := by omega
        have g1 : (k : Int) < (m : Int) := by omega
        have g2 : (0 : Int) ≤ (a : Int) := by omega
        have g3 : (a : Int) < (v : Int) := by omega
        have g4 : (0 : Int) ≤ (b : Int) := by omega
        have g5 : (b : Int) < (v : Int) := by omega
        simp only [List.length_cons, List.length_nil, Nat.reduceAdd] at r0
        clear d4 f4 y1 y2 hx hy s1 s1' t1 t2 s2 hB2 hrow htake hrk c0 hS hB hO hB1 r0'
        go_wp2
        go_roundw
        case rel => exact ⟨k + 1, by omega, by go_num, HFIN.out.1, HFIN.out.2⟩
        case measure => simp [intOf]; omega
    · have e : k = m := by omega
      subst e
      rw [HM.out, List.take_length] at hO
      have HO := Lib.hid hO
      clear hO
      go_wp2
      go_ret2
      exact ⟨_, rfl, HO.out.baseD (by omega), hbw.trans (hB.mono (by omega))⟩
set_option maxRecDepth 100000 in
theorem LeaveDegrees_any (v : Int) (s : Value) (bs : List Blk) (w : World) (h : SB w s bs) :
    Calls Try.prog 15 #[.agg #[.int .i64 v, s]] w (RJ (lvF v bs) w) := by
  cases hi : isSysImpl v bs with
  | false =>
    have hval : lvF v bs = ([], 1) := by simp [lvF, hi]
    rw [hval]
    have hs := h.slice
    have HI := Lib.hid fun W (hb : Below w.heap.size w W) => PairsLeft_any v s bs W (h.below hb (Nat.le_refl _))
    have hpv : pairsF v bs = ([], 1) := by simp [pairsF, hi]
    rw [hpv] at HI
    clear h hval hi hpv
    obtain ⟨a0, c0, rfl⟩ := hs
    go_enter Try.func15, Try.ntmps15
    go_wp2_with fail
    refine (HI.out _ ((Below.refl _ _).alloc (Nat.le_refl _) _)).mono ?_
    rintro e w1 ⟨u, rfl, hb1, hr⟩
    obtain ⟨a2, c2, rfl⟩ := resSS_form hr
    have hbw := below_new hb1
    clear hr hb1
    go_wp2
    go_ret2
    exact ⟨_, rfl, OwnJ.nil _ _, hbw⟩
  | true =>
    have hval : lvF v bs = (lvL v.toNat bs, 0) := by simp [lvF, hi]
    rw [hval]
    obtain ⟨n, rfl⟩ : ∃ n : Nat, v = n := ⟨v.toNat, by have := (sys_size hi).1; omega⟩
    exact LeaveDegrees_main n s bs w h hi
end Go.Proofs.Ytiomdfhhejdoiaa

namespace Go.Proofs.Ytiomdfhhejdoiaa
open Go.RowKit Go.Maps
theorem ptsR_len (bs : List Blk) : ∀ r : List Int, (ptsR bs r).length = 3 * r.length
  | [] => rfl
  | i :: r => by
    have ih := ptsR_len bs r
    unfold ptsR at ih ⊢
    rw [List.flatMap_cons, List.length_append, ih, List.length_cons]
    simp [ptsB]
    omega
theorem ptsL_len (bs : List Blk) : ∀ L : List (List Int), (∀ r ∈ L, r.length = 4) → (ptsL bs L).length = 12 * L.length
  | [], _ => rfl
  | r :: L, h => by
    have ih := ptsL_len bs L (fun r hr => h r (by simp [hr]))
    unfold ptsL at ih ⊢
    rw [List.flatMap_cons, List.length_append, ih, List.length_cons, ptsR_len, h r (by simp)]
    omega
theorem ptsR_snoc (bs : List Blk) (r : List Int) (i : Nat) : ptsR bs (r ++ [(i : Int)]) = ptsR bs r ++ ptsB (bk bs i) := by simp [ptsR]
theorem ptsL_snoc (bs : List Blk) (L : List (List Int)) (r : List Int) : ptsL bs (L ++ [r]) = ptsL bs L ++ ptsR bs r := by simp [ptsL]
theorem pas_rows {v : Int} {bs : List Blk} (h : isSysImpl v bs = true) {k : Nat} (hk : k < (pasL bs).length) :
    ∃ r, rowsF (pasL bs) k = r ∧ (pasL bs).take (k + 1) = (pasL bs).take k ++ [r] ∧ r.length = 4 ∧ ∀ q, q < 4 → ∃ i : Nat, i < bs.length ∧ r[q]?.getD 0 = (i : Int) ∧ r.take (q + 1) = r.take q ++ [(i : Int)] := by
  have hm := List.getElem_mem hk
  obtain ⟨x, hx, h4, _, hP⟩ := pas_all (sysU h) _ hm
  refine ⟨(pasL bs)[k], by simp [rowsF, hk], by rw [List.take_add_one, List.getElem?_eq_getElem hk]; rfl, by rw [hx, castL_len, h4], fun q hq => ?_⟩
  rw [hx]
  have hqx : q < x.length := by omega
  refine ⟨x[q], hP.2.1 _ (List.getElem_mem hqx), by simp [castL, hqx], ?_⟩
  rw [List.take_add_one]
  simp [castL, hqx]
set_option maxRecDepth 100000 in
set_option maxHeartbeats 8000000 in
theorem PaschAtPoints_main (v : Nat) (s : Value) (bs : List Blk) (w : World) (h : SB w s bs) (hi : isSysImpl (v : Int) bs = true) :
    Calls Try.prog 38 #[.agg #[.int .i64 (v : Int), s]] w (RJ (patV v bs (pasL bs), 0) w) := by
  have hs := h.slice
  have HS := Lib.hid h
  have HP := Lib.hid fun W (hb : Below w.heap.size w W) => PaschList_any (v : Int) s bs W (h.below hb (Nat.le_refl _))
  rw [show pasF (v : Int) bs = (pasL bs, 0) by simp [pasF, hi]] at HP
  obtain ⟨hv3, hv15, hb35⟩ := sys_size hi
  have HGD := Lib.hid (sysU hi).good
  have HEND := Lib.hid (hfV_end (sysU hi) v)
  have HR := Lib.hid fun (k : Nat) (hk : k < (pasL bs).length) => pas_rows hi hk
  have hLl := pasL_len hi
  have HPL := Lib.hid fun (k : Nat) => ptsL_len bs ((pasL bs).take k) (fun r hr => pas_row hi r (List.mem_of_mem_take hr))
  obtain ⟨L, hL⟩ : ∃ L, L = pasL bs := ⟨_, rfl⟩
  rw [← hL] at HP HEND HR hLl HPL ⊢
  obtain ⟨m, hm⟩ : ∃ m, m = L.length := ⟨_, rfl⟩
  have HM := Lib.hid hm
  rw [← hm] at hLl
  have HP2 : Hid (∀ W, Below w.heap.size w W → Calls Try.prog 34 #[.agg #[.int .i64 (v : Int), s]] W fun e w' => ∃ u, e = .returned (.tuple #[u, .int .i64 0]) ∧ ResSS w' W.heap.size u m (rowsF L) ∧ Below W.heap.size W w') := Lib.hid fun W hb => by
    rw [hm]
    exact HP.out W hb
  obtain ⟨n, hn⟩ : ∃ n, n = bs.length := ⟨_, rfl⟩
  have HN := Lib.hid hn
  clear hL hm hi h HP hn
  obtain ⟨a0, c0, hs⟩ := hs
  rw [← HN.out] at hs
  subst hs
  have hmk := mkRowD v (by omega)
  go_enter Try.func38, Try.ntmps38
  go_wp2_with fail
  refine (HP2.out _ ((Below.refl _ _).alloc (Nat.le_refl _) _)).mono ?_
  rintro e w1 ⟨u, rfl, hr, hb1⟩
  have q0 := cell_new hb1 0 rfl
  have q1 := cell_new hb1 1 rfl
  have hlt1 := lt_new hb1
  have hbw := below_new hb1
  obtain ⟨a2, c2, rfl⟩ := resSS_form hr
  have HRS := Lib.hid hr
  clear hb1 hr
  have hO0 := OwnJ.made0 w1 (base := w1.heap.size) v (by omega) (Nat.le_refl _)
  rw [← ctV_nil v] at hO0
  have hB0 : Below w1.heap.size w1 (w1.alloc (.cells (madeCells #[.int .i64 0] v) 2)) := (Below.refl _ _).alloc (Nat.le_refl _) _
  have hO1 := Lib.hid hO0
  clear hO0
  go_wp2_with fail
  go_loopw [27] (fun i wr => ∃ k : Nat, k ≤ m ∧ i = .int .i64 k ∧ Below w1.heap.size w1 wr ∧ OwnJ wr w1.heap.size (.slice (some ⟨w1.heap.size, 0, none⟩) v v) (ctV v (ptsL bs (L.take k)))) (fun i _ => m - (intOf i).toNat)
  case atStart => exact ⟨0, Nat.zero_le _, rfl, hB0, by simpa [ptsL] using hO1.out⟩
  case round =>
    obtain ⟨k, hk, rfl, hB, hO⟩ := hrel
    obtain ⟨V1, rfl⟩ : ∃ V, V = wr := ⟨_, rfl⟩
    have hz := hB.size
    by_cases hkl : k < m
    · obtain ⟨r, hrow, htake, hr4, hel⟩ := HR.out k (by rw [← HM.out]; exact hkl)
      rcases HRS.out with ⟨e0, _⟩ | ⟨G, cap, gs, caps, hu, hG, hSR⟩
      · omega
      · simp at hu
        obtain ⟨rfl, rfl⟩ := hu
        have c0 := hSR.cell k hkl
        have hrk := hSR.row k hkl
        rw [hrow] at c0 hrk
        rw [hr4] at c0
        have hgl := hrk.lt
        have hGl := hSR.lt
        have r0 := (hB.cell (p := ⟨G, k, none⟩) hGl).trans c0
        have HEL := Lib.hid hel
        have HTK := Lib.hid htake
        have HR4 := Lib.hid hr4
        have HRK := Lib.hid hrk
        have hPl := HPL.out k
        rw [List.length_take, ← HM.out] at hPl
        have hPl2 : (ptsL bs (L.take k)).length ≤ 29400 := by omega
        have g0 : (0 : Int) ≤ (k : Int) := by omega
        have g1 : (k : Int) < (m : Int) := by omega
        have HB := Lib.hid hB
        have HO := Lib.hid hO
        clear hrow htake hrk c0 hSR hB hO hel hPl hr4
        go_wp2_with fail
        go_loopw [33] (fun i wr => ∃ q : Nat, q ≤ 4 ∧ i = .int .i64 q ∧ Below w1.heap.size w1 wr ∧ OwnJ wr w1.heap.size (.slice (some ⟨w1.heap.size, 0, none⟩) v v) (ctV v (ptsL bs (L.take k) ++ ptsR bs (r.take q)))) (fun i _ => 4 - (intOf i).toNat)
        case atStart => exact ⟨0, Nat.zero_le _, rfl, HB.out, by simpa [ptsR] using HO.out⟩
        case round =>
          obtain ⟨q, hq, rfl, hB2, hO2⟩ := hrel
          obtain ⟨V2, rfl⟩ : ∃ V, V = wr := ⟨_, rfl⟩
          have hz2 := hB2.size
          by_cases hq4 : q < 4
          · obtain ⟨i, hin, hiv, hit⟩ := HEL.out q hq4
            have y1 : w1.cell? ⟨gs k, q, none⟩ = some (.int .i64 (i : Int)) := by
              have := HRK.out.at_ q (by rw [HR4.out]; exact hq4)
              rw [hiv] at this
              simpa using this
            have r1 := (hB2.cell (p := ⟨gs k, q, none⟩) hgl).trans y1
            have hBw : Below w.heap.size w V2 := hbw.trans (hB2.mono (by omega))
            have r2 := (hB2.cell (p := ⟨w.heap.size, 1, none⟩) hlt1).trans q1
            rcases HS.out.2.2 with ⟨_, _, _, hnil⟩ | ⟨bb, off, cap2, hval, hblt, hbl⟩
            · rw [hnil] at hin; simp at hin
            · rw [← HN.out] at hval
              simp at hval
              obtain ⟨rfl, rfl⟩ := hval
              obtain ⟨x, hx, ex, d1, d2, d3⟩ := blks_at (hbl.below hBw hblt) hin
              have hbx : bk bs i = x := by unfold bk; rw [ex]; rfl
              have hg := goodB_iff.1 (HGD.out i hin)
              rw [hbx] at hg
              obtain ⟨xa, xb, xc⟩ := x
              dsimp only at d1 d2 d3 hg
              obtain ⟨a, rfl⟩ : ∃ z : Nat, xa = z := ⟨xa.toNat, by omega⟩
              obtain ⟨b, rfl⟩ : ∃ z : Nat, xb = z := ⟨xb.toNat, by omega⟩
              obtain ⟨c, rfl⟩ : ∃ z : Nat, xc = z := ⟨xc.toNat, by omega⟩
              have ha : a < v := by omega
              have hb : b < v := by omega
              have hc : c < v := by omega
              have hin2 : i < n := by rw [HN.out]; exact hin
              obtain ⟨P, hP⟩ : ∃ P, P = ptsL bs (L.take k) ++ ptsR bs (r.take q) := ⟨_, rfl⟩
              have hPl : P.length ≤ 29500 := by
                rw [hP, List.length_append, ptsR_len, List.length_take]
                omega
              have hPN : ptsL bs (L.take k) ++ ptsR bs (r.take (q + 1)) = P ++ [(a : Int)] ++ [(b : Int)] ++ [(c : Int)] := by
                rw [hit, ptsR_snoc, hbx, ← List.append_assoc, ← hP]
                simp [ptsB]
              rw [← hP] at hO2
              have HPN := Lib.hid hPN
              obtain ⟨d1', _, _, d4', d5'⟩ := hO2.at_ (i := a) (by rw [ctV_len]; exact ha)
              rw [ctV_at _ ha] at d1'
              obtain ⟨s1, t1⟩ := hO2.setT (i := a) (x := ((P.count (a : Int) : Nat) : Int) + 1) (by rw [ctV_len]; exact ha)
              rw [ctV_set _ ha] at s1
              obtain ⟨e1', _, _, e4', e5'⟩ := s1.at_ (i := b) (by rw [ctV_len]; exact hb)
              rw [ctV_at _ hb] at e1'
              obtain ⟨s2, t2⟩ := s1.setT (i := b) (x := (((P ++ [(a : Int)]).count (b : Int) : Nat) : Int) + 1) (by rw [ctV_len]; exact hb)
              rw [ctV_set _ hb] at s2
              obtain ⟨f1', _, _, f4', f5'⟩ := s2.at_ (i := c) (by rw [ctV_len]; exact hc)
              rw [ctV_at _ hc] at f1'
              obtain ⟨s3, t3⟩ := s2.setT (i := c) (x := (((P ++ [(a : Int)] ++ [(b : Int)]).count (c : Int) : Nat) : Int) + 1) (by rw [ctV_len]; exact hc)
              rw [ctV_set _ hc] at s3
              have hB3 := ((hB2.grown t1 (by omega) (fun r e => by cases e; exact Nat.le_refl _)).grown t2 (by simp [World.setCell]; omega) (fun r e => by cases e; exact Nat.le_refl _)).grown t3 (by simp [World.setCell]; omega) (fun r e => by cases e; exact Nat.le_refl _)
              have hc1 := List.count_le_length (a := (a : Int)) (l := P)
              have hc2 := List.count_le_length (a := (b : Int)) (l := P ++ [(a : Int)])
              have hc3 := List.count_le_length (a := (c : Int)) (l := P ++ [(a : Int)] ++ [(b : Int)])
              simp only [List.length_append, List.length_cons, List.length_nil] at hc2 hc3
              obtain ⟨x1, hx1⟩ : ∃ z : Nat, z = P.count (a : Int) := ⟨_, rfl⟩
              obtain ⟨x2, hx2⟩ : ∃ z : Nat, z = (P ++ [(a : Int)]).count (b : Int) := ⟨_, rfl⟩
              obtain ⟨x3, hx3⟩ : ∃ z : Nat, z = (P ++ [(a : Int)] ++ [(b : Int)]).count (c : Int) := ⟨_, rfl⟩
              rw [← hx1] at d1' hc1 e1' e5' f1' f5' s3 hB3
              rw [← hx2] at e1' hc2 f1' f5' s3 hB3
              rw [← hx3] at f1' hc3 s3 hB3
              have w1' : IntKind.i64.wrap ((x1 : Int) + 1) = (x1 : Int) + 1 := IntWalk.i64_in _ (by omega)
              have w2' : IntKind.i64.wrap ((x2 : Int) + 1) = (x2 : Int) + 1 := IntWalk.i64_in _ (by omega)
              have w3' : IntKind.i64.wrap ((x3 : Int) + 1) = (x3 : Int) + 1 := IntWalk.i64_in _ (by omega)
              rw [← hPN] at s3
              have HFIN := Lib.hid (And.intro hB3 s3)
              have k0 : ∀ w, (Instr.index 68 (.agg #[.int .i64 (a : Int), .int .i64 (b : Int), .int .i64 (c : Int)]) (.int .i64 0)).run Try.prog w = .ok (.int .i64 (a : Int)) w := fun _ => by kernel_rfl
              have k1 : ∀ w, (Instr.index 68 (.agg #[.int .i64 (a : Int), .int .i64 (b : Int), .int .i64 (c : Int)]) (.int .i64 1)).run Try.prog w = .ok (.int .i64 (b : Int)) w := fun _ => by kernel_rfl
              have k2 : ∀ w, (Instr.index 68 (.agg #[.int .i64 (a : Int), .int .i64 (b : Int), .int .i64 (c : Int)]) (.int .i64 2)).run Try.prog w = .ok (.int .i64 (c : Int)) w := fun _ => by kernel_rfl
              have j0 : (0 : Int) ≤ (q : Int) := by omega
              have j1 : (q : Int) < 4 := by omega
              have j2 : (0 : Int) ≤ (i : Int) := by omega
              have j3 : (i : Int) < (n : Int) := by omega
              have j4 : (0 : Int) ≤ (a : Int) := by omega
              have j5 : (a : Int) < (v : Int) := by omega
              have j6 : (0 : Int) ≤ (b : Int) := by omega
              have j7 : (b : Int) < (v : Int) := by omega
              have j8 : (0 : Int) ≤ (c : Int) := by omega
              have j9 : (c : Int) < (v : Int) := by omega
              clear hx ex hbx hbl hiv hit y1 hP hPN hO2 d4' e4' f4' s1 s2 s3 t1 t2 t3 hx1 hx2 hx3 hB3 hg hB2 hBw hin hin2 ha hb hc
              go_wp2_with fail
              refine wp_loop_rounds 4 ?_
              rw [rounds_succ]
              go_wp2
              rw [rounds_succ]
              go_wp2
              rw [rounds_succ]
              go_wp2
              rw [rounds_succ]
              go_wp2
              go_roundw
              case rel => exact ⟨q + 1, by omega, by go_num, HFIN.out.1, HFIN.out.2⟩
              case measure => simp [intOf]; omega
          · have e : q = 4 := by omega
            subst e
            have ht4 : r.take 4 = r := by rw [← HR4.out, List.take_length]
            rw [ht4, ← ptsL_snoc, ← HTK.out] at hO2
            have HO2 := Lib.hid hO2
            clear hO2
            go_wp2
            go_roundw
            case rel => exact ⟨k + 1, by omega, by go_num, hB2, HO2.out⟩
            case measure => simp [intOf]; omega
    · have e : k = m := by omega
      subst e
      rw [HM.out, List.take_length] at hO
      have hPl := HPL.out L.length
      rw [List.take_length, ← HM.out] at hPl
      obtain ⟨P, hP⟩ : ∃ P, P = ptsL bs L := ⟨_, rfl⟩
      rw [← hP] at hO hPl HEND
      rw [← hfV_zero] at hO
      have HO := Lib.hid hO
      clear hO hP
      go_wp2_with fail
      go_loopw [56] (fun i wr => ∃ j : Nat, j ≤ v ∧ i = .int .i64 j ∧ Below w1.heap.size w1 wr ∧ OwnJ wr w1.heap.size (.slice (some ⟨w1.heap.size, 0, none⟩) v v) (hfV v P j)) (fun i _ => v - (intOf i).toNat)
      case atStart => exact ⟨0, Nat.zero_le _, rfl, hB, HO.out⟩
      case round =>
        obtain ⟨j, hj, rfl, hB2, hO2⟩ := hrel
        obtain ⟨V2, rfl⟩ : ∃ V, V = wr := ⟨_, rfl⟩
        have hz2 := hB2.size
        by_cases hjv : j < v
        · obtain ⟨d1', _, _, d4', d5'⟩ := hO2.at_ (i := j) (by rw [hfV_len]; exact hjv)
          rw [hfV_at _ hjv] at d1'
          obtain ⟨s1, t1⟩ := hO2.setT (i := j) (x := ((P.count (j : Int) / 2 : Nat) : Int)) (by rw [hfV_len]; exact hjv)
          rw [hfV_set _ hjv] at s1
          have hc1 := List.count_le_length (a := (j : Int)) (l := P)
          obtain ⟨x1, hx1⟩ : ∃ z : Nat, z = P.count (j : Int) := ⟨_, rfl⟩
          rw [← hx1] at d1' hc1 s1 t1
          have hB3 := hB2.grown t1 (by omega) (fun r e => by cases e; exact Nat.le_refl _)
          have HFIN := Lib.hid (And.intro hB3 s1)
          have w1' : (x1 : Int).tdiv 2 = ((x1 / 2 : Nat) : Int) := by simp
          have w2' : IntKind.i64.wrap ((x1 / 2 : Nat) : Int) = ((x1 / 2 : Nat) : Int) := IntWalk.i64_in _ (by omega)
          have j4 : (0 : Int) ≤ (j : Int) := by omega
          have j5 : (j : Int) < (v : Int) := by omega
          clear s1 t1 hB3 hO2 d4' hx1 hB2
          go_wp2
          go_roundw
          case rel => exact ⟨j + 1, by omega, by go_num, HFIN.out.1, HFIN.out.2⟩
          case measure => simp [intOf]; omega
        · have e : j = v := by omega
          subst e
          rw [HEND.out] at hO2
          have HO2 := Lib.hid hO2
          clear hO2
          go_wp2
          go_ret2
          exact ⟨_, rfl, HO2.out.baseD (by omega), hbw.trans (hB2.mono (by omega))⟩
end Go.Proofs.Ytiomdfhhejdoiaa

namespace Go.Proofs.Ytiomdfhhejdoiaa
open Go.RowKit Go.Maps Go.Shelf
set_option maxRecDepth 100000 in
set_option maxHeartbeats 8000000 in
theorem l03Pasch_any (v : Int) (s : Value) (bs : List Blk) (w : World) (h : SB w s bs) (hi : isSysImpl v bs = true) :
    Calls Try.prog 72 #[.agg #[.int .i64 v, s]] w fun e w' => ∃ u Rs, e = .returned u ∧ RowsM w' w.heap.size u Rs ∧ rowsP Rs = pasL bs ∧ Below w.heap.size w w' := by
  have HU := Lib.hid (sysU hi)
  obtain ⟨hv3, hv15, hb35⟩ := sys_size hi
  have HGD := Lib.hid (sys_good hi)
  have HS := Lib.hid h
  have HT := Lib.hid fun (a b : Int) W (hb : Below w.heap.size w W) h1 h2 h3 h4 => l01Third_any v s bs a b W (h.below hb (Nat.le_refl _)) HGD.out hv15 h1 h2 h3 h4
  have HNB := Lib.hid fun (a b : Int) W (hb : Below w.heap.size w W) => l03Number_any v s bs a b W (h.below hb (Nat.le_refl _))
  obtain ⟨n, hn⟩ : ∃ n, n = bs.length := ⟨_, rfl⟩
  have HN := Lib.hid hn
  obtain ⟨a0, c0, hs⟩ := h.slice
  rw [← hn] at hs hb35
  subst hs
  have HSAME := Lib.hid (pas_same HU.out)
  clear h hi hn
  go_enter Try.func72, Try.ntmps72
  go_wp2_with fail
  have hb0 : Below w.heap.size w (w.alloc (.cells #[.int .i64 v, .slice a0 n c0] 31)) := (Below.refl _ _).alloc (Nat.le_refl _) _
  have x0 : (w.alloc (.cells #[.int .i64 v, .slice a0 n c0] 31)).cell? ⟨w.heap.size, 0, none⟩ = some (.int .i64 v) := new_at 0 rfl
  have x1 : (w.alloc (.cells #[.int .i64 v, .slice a0 n c0] 31)).cell? ⟨w.heap.size, 1, none⟩ = some (.slice a0 n c0) := new_at 1 rfl
  have hz1 : (w.alloc (.cells #[.int .i64 v, .slice a0 n c0] 31)).heap.size = w.heap.size + 1 := by simp
  have hI0 : PasI bs (w.alloc (.cells #[.int .i64 v, .slice a0 n c0] 31)) ((w.alloc (.cells #[.int .i64 v, .slice a0 n c0] 31)).alloc (.cells #[] 26)) (.slice (some ⟨w.heap.size + 1, 0, none⟩) 0 0) 0 0 0 := by
    refine ⟨(Below.refl _ _).alloc (Nat.le_refl _) _, [], ?_, by simp [rowsP, candA, candI, partJ, setR]⟩
    have := RowsM.new0 (w.alloc (.cells #[.int .i64 v, .slice a0 n c0] 31)) (base := (w.alloc (.cells #[.int .i64 v, .slice a0 n c0] 31)).heap.size) (Nat.le_refl _)
    rw [World.size_alloc] at this ⊢
    exact this
  obtain ⟨w0, hw0⟩ : ∃ w0, w.alloc (.cells #[.int .i64 v, .slice a0 n c0] 31) = w0 := ⟨_, rfl⟩
  rw [hw0] at hb0 x0 x1 hz1 hI0 ⊢
  have HB0 := Lib.hid hb0
  have HI0 := Lib.hid hI0
  clear hw0 hb0 hI0
  obtain ⟨w1, hw1⟩ : ∃ w1, w0.alloc (.cells #[] 26) = w1 := ⟨_, rfl⟩
  rw [hw1] at HI0 ⊢
  clear hw1
  go_loopw [3, 4] (fun o i wr => ∃ k : Nat, k ≤ n ∧ i = .int .i64 k ∧ PasI bs w0 wr o k 0 0 ∧ ∃ a m c, o = .slice a m c) (fun _ i _ => n - (intOf i).toNat)
  case atStart => exact ⟨0, Nat.zero_le _, rfl, HI0.out, _, _, _, rfl⟩
  case round =>
    obtain ⟨k, hk, rfl, hP1, aO, mO, cO, rfl⟩ := hrel
    obtain ⟨V1, rfl⟩ : ∃ V, V = wr := ⟨_, rfl⟩
    have r1 := (hP1.1.cell (p := ⟨w.heap.size, 1, none⟩) (by show w.heap.size < _; omega)).trans x1
    have HP1 := Lib.hid hP1
    clear hP1
    by_cases hkn : k < n
    · go_wp2_with fail
      go_loopw [3, 5] (fun o i wr => ∃ j : Nat, j ≤ k ∧ i = .int .i64 j ∧ PasI bs w0 wr o k j 0 ∧ ∃ a m c, o = .slice a m c) (fun _ i _ => k - (intOf i).toNat)
      case atStart => exact ⟨0, Nat.zero_le _, rfl, HP1.out, _, _, _, rfl⟩
      case round =>
        obtain ⟨j, hj, rfl, hP2, aP, mP, cP, rfl⟩ := hrel
        obtain ⟨V2, rfl⟩ : ∃ V, V = wr := ⟨_, rfl⟩
        have r0 := (hP2.1.cell (p := ⟨w.heap.size, 0, none⟩) (by show w.heap.size < _; omega)).trans x0
        have r1 := (hP2.1.cell (p := ⟨w.heap.size, 1, none⟩) (by show w.heap.size < _; omega)).trans x1
        have hz2 := hP2.1.size
        have hBw : Below w.heap.size w V2 := HB0.out.trans (hP2.1.mono (by omega))
        have HP2 := Lib.hid hP2
        clear hP2
        by_cases hjk : j < k
        · rcases HS.out.2.2 with ⟨_, _, _, hnil⟩ | ⟨bb, off, cap, hval, hblt, hbl⟩
          · have := HN.out; rw [hnil] at this; simp at this; omega
          · rw [← HN.out] at hval
            simp at hval
            obtain ⟨rfl, rfl⟩ := hval
            obtain ⟨x, hx, ex, d1, d2, d3⟩ := blks_at (hbl.below hBw hblt) (show k < bs.length by rw [← HN.out]; exact hkn)
            obtain ⟨y, hy, ey, g1, g2, g3⟩ := blks_at (hbl.below hBw hblt) (show j < bs.length by rw [← HN.out]; omega)
            have hbx : bk bs k = x := by unfold bk; rw [ex]; rfl
            have hby : bk bs j = y := by unfold bk; rw [ey]; rfl
            have hkb : k < bs.length := by rw [← HN.out]; exact hkn
            have hjb : j < bs.length := by rw [← HN.out]; omega
            have hab := comI_bounds HU.out hv15 (j := j) hkb
            obtain ⟨a, ha⟩ : ∃ a, a = comI (bk bs k) (bk bs j) := ⟨_, rfl⟩
            rw [← ha] at hab
            have HA := Lib.hid ha
            have hpb := bk_bounds HU.out hv15 hkb a
            have hqb := bk_bounds HU.out hv15 hjb a
            have HMEET := Lib.hid fun W => l03Meet_any x y W
            rw [show comI x y = a by rw [ha, hbx, hby]] at HMEET
            have HO1 := Lib.hid fun W => l03Others_any x a W
            have HO2 := Lib.hid fun W => l03Others_any y a W
            have HBX := Lib.hid hbx
            have HBY := Lib.hid hby
            obtain ⟨xa, xb, xc⟩ := x
            obtain ⟨ya, yb, yc⟩ := y
            unfold bv at HMEET HO1 HO2
            rw [hbx] at hpb
            rw [hby] at hqb
            obtain ⟨p, hp⟩ : ∃ p, p = othersP ⟨xa, xb, xc⟩ a := ⟨_, rfl⟩
            obtain ⟨q, hq⟩ : ∃ q, q = othersP ⟨ya, yb, yc⟩ a := ⟨_, rfl⟩
            rw [← hp] at hpb HO1
            rw [← hq] at hqb HO2
            have HPP := Lib.hid hp
            have HQQ := Lib.hid hq
            dsimp only at d1 d2 d3 g1 g2 g3 HMEET HO1 HO2
            have i1 : (0 : Int) ≤ (k : Int) := by omega
            have i2 : (k : Int) < (n : Int) := by omega
            have i3 : (0 : Int) ≤ (j : Int) := by omega
            have i4 : (j : Int) < (n : Int) := by omega
            have hbb2 : bb < V2.heap.size := by have := hBw.size; omega
            have HBW := Lib.hid hBw
            clear hx ex hy ey hbx hby ha hp hq hbl hBw
            go_wp2_with fail
            go_region_held3 (fun w' => w'.cell? ⟨w.heap.size, 1, none⟩ = some (.slice (some ⟨bb, off, none⟩) n c0) ∧ w'.cell? ⟨bb, off + k * 3, none⟩ = some (.int .i64 xa) ∧ w'.cell? ⟨bb, off + k * 3 + 1, none⟩ = some (.int .i64 xb) ∧ w'.cell? ⟨bb, off + k * 3 + 2, none⟩ = some (.int .i64 xc) ∧ w'.cell? ⟨bb, off + j * 3, none⟩ = some (.int .i64 ya) ∧ w'.cell? ⟨bb, off + j * 3 + 1, none⟩ = some (.int .i64 yb) ∧ w'.cell? ⟨bb, off + j * 3 + 2, none⟩ = some (.int .i64 yc))
              (first
                | exact ⟨E1, K1, K2, K3, F1, F2, F3⟩
                | go_keep)
              (first
                | (go_at_call 103; refine (HMEET.out _).mono ?_; rintro e w3 ⟨rfl, hbc⟩; have hbd : Below V2.heap.size V2 w3 := (by first | exact hbc | exact ((Below.refl _ _).drew).trans (hbc.mono (by simp))); have E1 := (hbd.cell (p := ⟨w.heap.size, 1, none⟩) (by show w.heap.size < _; omega)).trans r1; have K1 := (hbd.cell (p := ⟨bb, off + k * 3, none⟩) hbb2).trans d1; have K2 := (hbd.cell (p := ⟨bb, off + k * 3 + 1, none⟩) hbb2).trans d2; have K3 := (hbd.cell (p := ⟨bb, off + k * 3 + 2, none⟩) hbb2).trans d3; have F1 := (hbd.cell (p := ⟨bb, off + j * 3, none⟩) hbb2).trans g1; have F2 := (hbd.cell (p := ⟨bb, off + j * 3 + 1, none⟩) hbb2).trans g2; have F3 := (hbd.cell (p := ⟨bb, off + j * 3 + 2, none⟩) hbb2).trans g3))
            all_goals
              have hP3 := HP2.out.step hbd
              have HP3 := Lib.hid hP3
              have hz3 := hbd.size
              have E0 := (hbd.cell (p := ⟨w.heap.size, 0, none⟩) (by show w.heap.size < _; omega)).trans r0
              clear hP3 d1 d2 d3 g1 g2 g3 r0 r1
              by_cases ha0 : a < 0
              · have i5 : decide (a < 0) = true := by simpa using ha0
                go_wp2
                go_roundw
                case rel => exact ⟨j + 1, by omega, by go_num, HP3.out.turn0 (by rw [← HA.out]; exact ha0), _, _, _, rfl⟩
                case measure => simp [intOf]; omega
              · have i5 : decide (a < 0) = false := by simpa using ha0
                go_wp2_with fail
                refine (HO1.out _).mono ?_
                rintro e w4 ⟨rfl, hb4⟩
                have E0 := (hb4.cell (p := ⟨w.heap.size, 0, none⟩) (by show w.heap.size < _; omega)).trans E0
                have E1 := (hb4.cell (p := ⟨w.heap.size, 1, none⟩) (by show w.heap.size < _; omega)).trans E1
                have F1 := (hb4.cell (p := ⟨bb, off + j * 3, none⟩) (by show bb < _; omega)).trans F1
                have F2 := (hb4.cell (p := ⟨bb, off + j * 3 + 1, none⟩) (by show bb < _; omega)).trans F2
                have F3 := (hb4.cell (p := ⟨bb, off + j * 3 + 2, none⟩) (by show bb < _; omega)).trans F3
                have hz4 := hb4.size
                go_wp2_with fail
                refine (HO2.out _).mono ?_
                rintro e w5 ⟨rfl, hb5⟩
                have HP5 := Lib.hid ((HP3.out.step hb4).step hb5)
                clear E0 E1 F1 F2 F3 K1 K2 K3 hb4 hb5 hbd hbc HO1 HO2 HMEET
                go_wp2_with fail
                go_loopw [3, 9, 10, 11] (fun o dd ff tt wr => ∃ t : Nat, t ≤ 2 ∧ tt = .int .i64 t ∧ dd = .int .i64 (dT q t) ∧ ff = .int .i64 (fT q t) ∧ PasI bs w0 wr o k j t ∧ ∃ a m c, o = .slice a m c) (fun _ _ _ tt _ => 2 - (intOf tt).toNat)
                case atStart => exact ⟨0, by omega, rfl, rfl, rfl, HP5.out, _, _, _, rfl⟩
                case round =>
                  obtain ⟨t, ht, rfl, rfl, rfl, hP6, aQ, mQ, cQ, rfl⟩ := hrel
                  obtain ⟨V3, rfl⟩ : ∃ V, V = wr := ⟨_, rfl⟩
                  have s0 := (hP6.1.cell (p := ⟨w.heap.size, 0, none⟩) (by show w.heap.size < _; omega)).trans x0
                  have s1 := (hP6.1.cell (p := ⟨w.heap.size, 1, none⟩) (by show w.heap.size < _; omega)).trans x1
                  have hz6 := hP6.1.size
                  have hB6 : Below w.heap.size w V3 := HB0.out.trans (hP6.1.mono (by omega))
                  have HP6 := Lib.hid hP6
                  have HB6 := Lib.hid hB6
                  clear hP6 hB6
                  by_cases ht2 : t < 2
                  · obtain ⟨hdb, hfb⟩ := dfT_bounds hqb t
                    have HSW := Lib.hid (dT_succ q t)
                    have HCA := Lib.hid (candP_at (bs := bs) (i := k) (j := j) ht2 HA.out.symm (by omega))
                    rw [HBX.out, HBY.out, ← HPP.out, ← HQQ.out] at HCA
                    obtain ⟨dv, hdv⟩ : ∃ z, z = dT q t := ⟨_, rfl⟩
                    obtain ⟨fv, hfv⟩ : ∃ z, z = fT q t := ⟨_, rfl⟩
                    rw [← hdv] at hdb HSW HCA ⊢
                    rw [← hfv] at hfb HSW HCA ⊢
                    have HT1 := Lib.hid fun W hb => HT.out p.1 fv W hb hpb.1.1 hpb.1.2 hfb.1 hfb.2
                    have HT2 := Lib.hid fun W hb => HT.out dv p.2 W hb hdb.1 hdb.2 hpb.2.1 hpb.2.2
                    have HN1 := Lib.hid (HNB.out p.1 fv)
                    have HN2 := Lib.hid (HNB.out dv p.2)
                    obtain ⟨b1, hb1⟩ : ∃ z, z = third1 bs p.1 fv := ⟨_, rfl⟩
                    obtain ⟨b2, hb2⟩ : ∃ z, z = third1 bs dv p.2 := ⟨_, rfl⟩
                    rw [← hb1] at HT1 HCA
                    rw [← hb2] at HT2 HCA
                    obtain ⟨N1, hN1⟩ : ∃ z, z = numGo (bothB p.1 fv) bs 0 := ⟨_, rfl⟩
                    obtain ⟨N2, hN2⟩ : ∃ z, z = numGo (bothB dv p.2) bs 0 := ⟨_, rfl⟩
                    rw [← hN1] at HN1 HCA
                    rw [← hN2] at HN2 HCA
                    clear hdv hfv hb1 hb2 hN1 hN2
                    go_wp2_with fail
                    refine (HT1.out _ HB6.out).mono ?_
                    rintro e w6 ⟨rfl, hb6⟩
                    have s0 := (hb6.cell (p := ⟨w.heap.size, 0, none⟩) (by show w.heap.size < _; omega)).trans s0
                    have s1 := (hb6.cell (p := ⟨w.heap.size, 1, none⟩) (by show w.heap.size < _; omega)).trans s1
                    have hzb6 := hb6.size
                    have HP7 := Lib.hid (HP6.out.step hb6)
                    have HB7 := Lib.hid (HB6.out.trans (hb6.mono (by omega)))
                    by_cases h0 : 0 ≤ b1
                    · have i6 : decide (0 ≤ b1) = true := by simpa using h0
                      by_cases h12 : b2 = b1
                      · have i7 : (b2 == b1) = true := by simpa using h12
                        have HC := Lib.hid (HCA.out.trans (if_pos ⟨h0, h12⟩))
                        go_upto_region 17 with (go_at_call 105; refine (HT2.out _ HB7.out).mono ?_; rintro e w7 ⟨rfl, hb7⟩)
                        have s0 := (hb7.cell (p := ⟨w.heap.size, 0, none⟩) (by show w.heap.size < _; omega)).trans s0
                        have s1 := (hb7.cell (p := ⟨w.heap.size, 1, none⟩) (by show w.heap.size < _; omega)).trans s1
                        have hzb7 := hb7.size
                        have HP8 := Lib.hid (HP7.out.step hb7)
                        have HB8 := Lib.hid (HB7.out.trans (hb7.mono (by omega)))
                        clear hb6 hb7 i6 i7
                        have hzw : w.heap.size < w7.heap.size := by omega
                        go_region_held3 (fun w' => w'.cell? ⟨w.heap.size, 0, none⟩ = some (.int .i64 v) ∧ w'.cell? ⟨w.heap.size, 1, none⟩ = some (.slice (some ⟨bb, off, none⟩) n c0))
                          (first
                            | exact ⟨L0, L1⟩
                            | exact ⟨C0, C1⟩
                            | exact ⟨B0, B1⟩
                            | exact ⟨A0, A1⟩
                            | go_keep)
                          (first
                            | (go_at_call 107; refine (HN1.out _ (by first | exact HB8.out | exact HB8.out.drew)).mono ?_; rintro e w8 ⟨rfl, hb8⟩; clear HN1; have hb8' : Below w7.heap.size w7 w8 := (by first | exact hb8 | exact ((Below.refl _ _).drew).trans (hb8.mono (by simp))); have A0 := (hb8'.cell (p := ⟨w.heap.size, 0, none⟩) hzw).trans s0; have A1 := (hb8'.cell (p := ⟨w.heap.size, 1, none⟩) hzw).trans s1; have hz8 := hb8'.size)
                            | (go_at_call 107; refine (HN2.out _ (by first | exact HB8.out.trans (hb8'.mono HB8.out.size) | exact (HB8.out.trans (hb8'.mono HB8.out.size)).drew)).mono ?_; rintro e w9 ⟨rfl, hb9⟩; have hb9' : Below w7.heap.size w7 w9 := hb8'.trans ((by first | exact hb9 | exact ((Below.refl _ _).drew).trans (hb9.mono (by simp)) : Below w8.heap.size w8 w9).mono hz8); have B0 := (hb9'.cell (p := ⟨w.heap.size, 0, none⟩) hzw).trans s0; have B1 := (hb9'.cell (p := ⟨w.heap.size, 1, none⟩) hzw).trans s1; have hz9 := hb9'.size)
                            | (go_at_call 106; refine (l03Ascending_any w9.heap.size 0 4 [(k : Int), (j : Int), N1, N2] _ (by first | exact lit4 w9 _ _ _ _ | exact (lit4 w9 _ _ _ _).below ((Below.refl _ _).drew) (by simp)) (by simp) (by simp)).mono ?_; rintro e w10 ⟨u10, rfl, ⟨g10, c10, hu10⟩, hO10, hb10⟩; have hu10 : u10 = .slice (some ⟨g10, 0, none⟩) 4 c10 := hu10; subst hu10; have hb10' : Below w7.heap.size w7 w10 := (hb9'.alloc hz9 _).trans ((by first | exact hb10 | exact ((Below.refl _ _).drew).trans (hb10.mono (by simp)) : Below _ (w9.alloc (.cells #[.int .i64 (k : Int), .int .i64 (j : Int), .int .i64 N1, .int .i64 N2] 2)) w10).mono (by simp; omega)); have C0 := (hb10'.cell (p := ⟨w.heap.size, 0, none⟩) hzw).trans s0; have C1 := (hb10'.cell (p := ⟨w.heap.size, 1, none⟩) hzw).trans s1; have hz10 := hb10'.size; have hoA := hO10.atI (by rw [ascL_len]; simp))
                            | (go_at_call 94; refine (PasI.yes (by rw [← HN.out]; omega) (by rw [← HN.out]; omega) (by omega) (by omega) HP8.out (by first | exact hb10' | exact hb10'.drew) HC.out (by have := hoA.2; simp at this; omega) (by first | exact hoA.1 | exact hoA.1.kept (gb_drew1 _) (by simp))).mono ?_; rintro e w11 ⟨u11, rfl, hP11⟩; have L0 := (hP11.1.cell (p := ⟨w.heap.size, 0, none⟩) (by show w.heap.size < _; omega)).trans x0; have L1 := (hP11.1.cell (p := ⟨w.heap.size, 1, none⟩) (by show w.heap.size < _; omega)).trans x1; (obtain ⟨a11, m11, c11, hu11⟩ := hP11.form); subst hu11))
                        all_goals
                          go_wp2_with fail
                          go_roundw
                          case rel => exact ⟨t + 1, by omega, by go_num, by rw [HSW.out.1], by rw [HSW.out.2], hP11, _, _, _, rfl⟩
                          case measure => simp [intOf]; omega
                      · have i7 : (b2 == b1) = false := by simpa using h12
                        have HC := Lib.hid (HCA.out.trans (if_neg (fun h => h12 h.2)))
                        go_wp2_with (go_at_call 105; refine (HT2.out _ HB7.out).mono ?_; rintro e w7 ⟨rfl, hb7⟩)
                        go_roundw
                        case rel => exact ⟨t + 1, by omega, by go_num, by rw [HSW.out.1], by rw [HSW.out.2], (HP7.out.step hb7).no HC.out, _, _, _, rfl⟩
                        case measure => simp [intOf]; omega
                    · have i6 : decide (0 ≤ b1) = false := by simpa using h0
                      have HC := Lib.hid (HCA.out.trans (if_neg (fun h => h0 h.1)))
                      go_wp2
                      go_roundw
                      case rel => exact ⟨t + 1, by omega, by go_num, by rw [HSW.out.1], by rw [HSW.out.2], HP7.out.no HC.out, _, _, _, rfl⟩
                      case measure => simp [intOf]; omega
                  · have e : t = 2 := by omega
                    subst e
                    go_wp2
                    go_roundw
                    case rel => exact ⟨j + 1, by omega, by go_num, HP6.out.next, _, _, _, rfl⟩
                    case measure => simp [intOf]; omega
        · have e : j = k := by omega
          subst e
          go_wp2
          go_roundw
          case rel => exact ⟨j + 1, by omega, by go_num, HP2.out.row, _, _, _, rfl⟩
          case measure => simp [intOf]; omega
    · have e : k = n := by omega
      subst e
      go_wp2
      go_ret
      obtain ⟨h1, Rs, hM, hR⟩ := HP1.out
      refine ⟨_, Rs, rfl, hM.base (by omega), ?_, HB0.out.trans (h1.mono (by omega))⟩
      rw [hR, ← HSAME.out, ← HN.out]
      simp [candI, partJ]
end Go.Proofs.Ytiomdfhhejdoiaa

namespace Go.Proofs.Ytiomdfhhejdoiaa
open Go.RowKit Go.Maps Go.Shelf
set_option maxRecDepth 100000 in
theorem specPaschList_any (v : Int) (s : Value) (bs : List Blk) (w : World) (h : SB w s bs) :
    Calls Try.prog 33 #[.agg #[.int .i64 v, s]] w (RRows (pasF v bs) w) := by
  have hs := h.slice
  have HI := Lib.hid fun W (hb : Below w.heap.size w W) => l01Is_any v s bs W (h.below hb (Nat.le_refl _))
  have hb0 : Below w.heap.size w (w.alloc (.cells #[.int .i64 v, s] 31)) := (Below.refl _ _).alloc (Nat.le_refl _) _
  cases hi : isSysImpl v bs with
  | false =>
    have HV := Lib.hid (show pasF v bs = ([], 1) by simp [pasF, hi])
    rw [hi] at HI
    rw [HV.out]
    clear hi h
    obtain ⟨a0, c0, rfl⟩ := hs
    go_enter Try.func33, Try.ntmps33
    go_wp2_with fail
    refine (HI.out _ hb0).mono ?_
    rintro e w1 ⟨rfl, hb1⟩
    have hbw := below_new hb1
    clear hb1
    go_wp2
    go_ret2
    exact ⟨_, rfl, .inl ⟨rfl, _, _, rfl⟩, hbw⟩
  | true =>
    have HV := Lib.hid (show pasF v bs = (pasL bs, 0) by simp [pasF, hi])
    have HP := Lib.hid fun W (hb : Below w.heap.size w W) => l03Pasch_any v s bs W (h.below hb (Nat.le_refl _)) hi
    rw [hi] at HI
    rw [HV.out]
    clear hi h
    obtain ⟨a0, c0, rfl⟩ := hs
    go_enter Try.func33, Try.ntmps33
    go_wp2_with fail
    refine (HI.out _ hb0).mono ?_
    rintro e w1 ⟨rfl, hb1⟩
    have q0 := cell_new hb1 0 rfl
    have q1 := cell_new hb1 1 rfl
    have hbw := below_new hb1
    clear hb1
    go_wp2_with fail
    refine (HP.out _ hbw).mono ?_
    rintro e w2 ⟨u, Rs, rfl, hM, hR, hb2⟩
    have hres := (hM.base hbw.size).res
    rw [hR] at hres
    have HRES := Lib.hid hres
    obtain ⟨a1, c1, rfl⟩ := hM.form
    have hz := hbw.size
    clear hM hR hres
    go_wp2
    go_ret2
    exact ⟨_, rfl, HRES.out, hbw.trans (hb2.mono hz)⟩
set_option maxRecDepth 100000 in
theorem specCountPasch_any (v : Int) (s : Value) (bs : List Blk) (w : World) (h : SB w s bs) :
    Calls Try.prog 35 #[.agg #[.int .i64 v, s]] w (RV (cpV v bs) w) := by
  have hs := h.slice
  have HI := Lib.hid fun W (hb : Below w.heap.size w W) => l01Is_any v s bs W (h.below hb (Nat.le_refl _))
  have hb0 : Below w.heap.size w (w.alloc (.cells #[.int .i64 v, s] 31)) := (Below.refl _ _).alloc (Nat.le_refl _) _
  cases hi : isSysImpl v bs with
  | false =>
    have HV := Lib.hid (show cpV v bs = .tuple #[.int .i64 0, .int .i64 1] by simp [cpV, pasF, hi])
    rw [hi] at HI
    rw [HV.out]
    clear hi h
    obtain ⟨a0, c0, rfl⟩ := hs
    go_enter Try.func35, Try.ntmps35
    go_wp2_with fail
    refine (HI.out _ hb0).mono ?_
    rintro e w1 ⟨rfl, hb1⟩
    have hbw := below_new hb1
    clear hb1
    go_wp2
    go_ret2
    exact RV_of rfl hbw
  | true =>
    have HV := Lib.hid (show cpV v bs = .tuple #[.int .i64 ((pasL bs).length : Int), .int .i64 0] by simp [cpV, pasF, hi])
    have HP := Lib.hid fun W (hb : Below w.heap.size w W) => l03Pasch_any v s bs W (h.below hb (Nat.le_refl _)) hi
    rw [hi] at HI
    rw [HV.out]
    clear hi h
    obtain ⟨m, hm⟩ : ∃ m, m = (pasL bs).length := ⟨_, rfl⟩
    rw [← hm]
    have HM := Lib.hid hm
    clear hm
    obtain ⟨a0, c0, rfl⟩ := hs
    go_enter Try.func35, Try.ntmps35
    go_wp2_with fail
    refine (HI.out _ hb0).mono ?_
    rintro e w1 ⟨rfl, hb1⟩
    have q0 := cell_new hb1 0 rfl
    have q1 := cell_new hb1 1 rfl
    have hbw := below_new hb1
    clear hb1
    go_wp2_with fail
    refine (HP.out _ hbw).mono ?_
    rintro e w2 ⟨u, Rs, rfl, hM, hR, hb2⟩
    obtain ⟨a1, c1, hu⟩ := hM.form
    have hlen : Rs.length = m := by rw [HM.out, ← hR]; simp [rowsP]
    rw [hlen] at hu
    subst hu
    have hz := hbw.size
    clear hM hR hlen
    go_wp2
    go_ret2
    exact RV_of rfl (hbw.trans (hb2.mono hz))
end Go.Proofs.Ytiomdfhhejdoiaa

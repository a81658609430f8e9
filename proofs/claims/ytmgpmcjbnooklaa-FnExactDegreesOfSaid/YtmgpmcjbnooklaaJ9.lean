
/- The program's DegreesOf, plain. The program's DegreesOf. The program's DegreesOf answers as the plain function degF. How the laws' arguments are read. How the laws' other arguments are read: slices of integers, slices of blocks, a block, rows. What a law over one system whose result is a system knows of the memory between two of its steps. The law FnExactDegreesOf returns true. The dump's head word by word, cheaply: what every row asks of it. -/
import Derived.Test.YtmgpmcjbnooklaaJ8
import Derived.Test.YtmgpmcjbnooklaaRows
import Derived.ProofKit
import Derived.OpenShut
import Derived.Deep.Slices
import Derived.Lib.SmallJoins
import Derived.ChangeOld
import Derived.Deep.RegionWith
import Derived.Deep.DeepCutAuto
namespace Go.Proofs.Ytmgpmcjbnooklaa
open Go.RowKit Go.Maps Go.Shelf
theorem mkRowD (n : Nat) (hn : n ≤ 1100000) (W : World) : (Instr.makeSlice 26 (.int .i64 (n : Int)) (.int .i64 (n : Int))).run Try.prog W = .ok (.slice (some ⟨W.heap.size, 0, none⟩) n n) (W.alloc (.cells (madeCells #[.int .i64 0] n) 2)) := by
  obtain ⟨i0, hi, hz0, hz1, hz2⟩ := info_parts infoInt64
  have hr := run_make (P := Try.prog) W 26 2 i0 (.int .i64 0) Try.underlying26 hi hz0 .i64 .i64 n n (by omega) (by omega) (by rw [hz2]; omega) (by omega)
  simp only [Int.toNat_natCast, hz1, Nat.mul_one] at hr
  exact hr
/-- The row while point k is counted: c of its blocks were met. -/
def degR (bs : List Blk) (v k c : Nat) : List Int := (List.range v).map fun q => if q < k then ((idxI (q : Int) bs bs.length).length : Int) else if q = k then (c : Int) else 0
theorem degR_len (bs : List Blk) (v k c : Nat) : (degR bs v k c).length = v := by simp [degR]
theorem degR_at (bs : List Blk) {v k : Nat} (c : Nat) (hk : k < v) : (degR bs v k c)[k]?.getD 0 = (c : Int) := by simp [degR, hk]
theorem degR_set (bs : List Blk) {v k : Nat} (c : Nat) (_hk : k < v) : (degR bs v k c).set k ((c : Int) + 1) = degR bs v k (c + 1) := by
  apply List.ext_getElem
  · simp [degR]
  · intro i h1 h2
    rw [List.getElem_set]
    by_cases e : k = i
    · subst e
      simp [degR]
    · rw [if_neg e]
      simp [degR, Ne.symm e]
theorem degR_next (bs : List Blk) (v k : Nat) : degR bs v k (idxI (k : Int) bs bs.length).length = degR bs v (k + 1) 0 := by
  apply List.map_congr_left
  intro q _
  by_cases h : q < k
  · simp [h, show q < k + 1 by omega]
  · by_cases e : q = k
    · subst e
      simp
    · simp [h, e, show ¬ q < k + 1 by omega]
theorem degR_start (bs : List Blk) (v : Nat) : degR bs v 0 0 = List.replicate v 0 := by
  apply List.ext_getElem
  · simp [degR]
  · intro i h1 h2
    simp [degR]
theorem degR_end (bs : List Blk) (v : Nat) : degR bs v v 0 = degI bs v := by
  apply List.map_congr_left
  intro q hq
  simp [List.mem_range.1 hq]
theorem idxI_upTo (p : Int) (bs : List Blk) : (idxI p bs bs.length).length = (upTo p bs bs.length).length := by simp [idxI]
theorem OwnJ.made0 (W : World) {base : Nat} (n : Nat) (hn : n ≤ 1100000) (hb : base ≤ W.heap.size) : OwnJ (W.alloc (.cells (madeCells #[.int .i64 0] n) 2)) base (.slice (some ⟨W.heap.size, 0, none⟩) n n) (List.replicate n 0) := by
  have hml : 1100000 ≤ maxLen := by decide
  unfold OwnJ World.ownsRow
  refine ⟨by simp, .inr ⟨W.heap.size, n, madeCells #[.int .i64 0] n, by simp, hb, World.alloc_heap_new W _, by simp, by omega, by simp [madeCells], ?_⟩⟩
  apply List.ext_getElem
  · simp [madeCells]
  · intro i h1 h2
    simp [madeCells, Nat.mod_one]
theorem ownJ_own (base : Nat) (u : Value) : Own (fun (zs : List Int) W => OwnJ W base u zs) := fun _ X _ row hs hg hr => World.ownsRow.kept hs hg (by
  rcases hs.2 with ⟨rfl, _⟩ | ⟨g, cap, cur, rfl, _, hgb, _⟩
  · exact .inl rfl
  · refine .inr fun e => ?_
    obtain ⟨o, ho, hc⟩ := hr g e.symm
    rw [hgb] at ho
    cases ho
    cases hc)
/-- The marks that the loops left, the newest first: each bears a block that no call stands in. -/
def Marks (n0 : Nat) (W : World) : Nat → List Deferred → Prop
  | _, [] => True
  | n1, d :: ds => ∃ D, d = { target := .collected D, args := #[] } ∧ n0 ≤ D ∧ D < n1 ∧ W.heap[D]? = some (.deferred (some [])) ∧ Marks n0 W D ds
theorem Marks.mono {n0 : Nat} {W : World} {ds : List Deferred} {n1 n2 : Nat} (h : Marks n0 W n1 ds) (hn : n1 ≤ n2) : Marks n0 W n2 ds := by
  cases ds with
  | nil => trivial
  | cons d ds =>
    obtain ⟨D, e, h0, h1, hD, hr⟩ := h
    exact ⟨D, e, h0, by omega, hD, hr⟩
theorem Marks.kept {n0 : Nat} {W W' : World} : ∀ {ds : List Deferred} {n1 : Nat}, Marks n0 W n1 ds → (∀ D, D < n1 → W.heap[D]? = some (.deferred (some [])) → W'.heap[D]? = some (.deferred (some []))) → Marks n0 W' n1 ds
  | [], _, _, _ => trivial
  | _ :: _, _, ⟨D, e, h0, h1, hD, hr⟩, k => ⟨D, e, h0, h1, k D h1 hD, hr.kept fun D' h' => k D' (by omega)⟩
theorem Marks.grown {n0 : Nat} {W W' : World} {ds : List Deferred} {n1 : Nat} {row : Option Nat} (h : Marks n0 W n1 ds) (hg : W.grownBy W' row) (hr : ∀ r, row = some r → n1 ≤ r ∨ ∃ o : Obj, W.heap[r]? = some o ∧ o.isCells = true) : Marks n0 W' n1 ds :=
  h.kept fun D hD e => (hg.block D (Array.getElem?_eq_some_iff.1 e).1 (fun e' => by
    rcases hr D e'.symm with h | ⟨o, ho, hc⟩
    · omega
    · rw [e] at ho
      cases ho
      cases hc)).trans e
theorem Marks.alloc {n0 : Nat} {W : World} {ds : List Deferred} {n1 : Nat} (h : Marks n0 W n1 ds) (o : Obj) : Marks n0 (W.alloc o) n1 ds := h.grown (World.grownBy_alloc W o none) (fun r e => by cases e)
theorem marks_own (n0 n1 B : Nat) (hB : n1 ≤ B) {β : Type} (ds : List Deferred) : OwnFrom B (fun (_ : β) W => Marks n0 W n1 ds) := fun _ _ _ _ hs hg hr => hs.grown hg (fun r e => .inl (Nat.le_trans hB (hr r e).1))
theorem leaves_marks {F : Fence} {n : Nat} {P : Program} {fn : Func} {tmps : Array Value} {R : Ending → World → Prop} {n0 : Nat} (K : World → Prop) (hK : ∀ W D, K W → n0 ≤ D → W.heap[D]? = some (.deferred (some [])) → K (W.putObj D (.deferred none)))
    (hend : ∀ W, K W → LeavesInM F n P fn tmps R [] .returning W) : ∀ (ds : List Deferred) (n1 : Nat) (W : World), Marks n0 W n1 ds → K W → LeavesInM F n P fn tmps R ds .returning W
  | [], _, W, _, h => hend W h
  | d :: ds, n1, W, ⟨D, e, h0, h1, hD, hr⟩, h => ⟨by simp, .inl ⟨D, _, by rw [e], run_takeDeferred hD, leaves_marks K hK hend ds D _ (hr.kept fun D' h' e' => (World.putObj_heap_other (by omega)).trans e') (hK W D h h0 hD)⟩⟩
theorem meas_lt {v k : Nat} (h : k < v) : ((v : Int) - ((k + 1 : Nat) : Int)).toNat < ((v : Int) - (k : Int)).toNat := by omega
theorem wrap_succ {k : Nat} (h : k ≤ 15) : wrap64 ((k : Int) + 1) = ((k + 1 : Nat) : Int) := by unfold wrap64; omega
theorem OwnJ.baseD {w : World} {b b' : Nat} {u : Value} {zs : List Int} (h : OwnJ w b u zs) (hb : b' ≤ b) : OwnJ w b' u zs := ownsRow_base h hb
/-- A system in a box. -/
def SysAt (W : World) (B : Nat) (v : Int) (s : Value) : Prop := W.heap[B]? = some (.cells #[.int .i64 v, s] 31 (0, 0))
theorem SysAt.cells {W : World} {B : Nat} {v : Int} {s : Value} (h : SysAt W B v s) : W.cell? ⟨B, 0, none⟩ = some (.int .i64 v) ∧ W.cell? ⟨B, 1, none⟩ = some s ∧ B < W.heap.size := by
  have : W.heap[B]? = _ := h
  refine ⟨by simp [World.cell?, this], by simp [World.cell?, this], (Array.getElem?_eq_some_iff.1 this).1⟩
theorem SysAt.kept {W W' : World} {B : Nat} {v : Int} {s : Value} {row : Option Nat} (h : SysAt W B v s) (hg : W.grownBy W' row) (hr : some B ≠ row) : SysAt W' B v s := (hg.block B h.cells.2.2 hr).trans h
theorem SysAt.alloc {W : World} {B : Nat} {v : Int} {s : Value} (h : SysAt W B v s) (o : Obj) : SysAt (W.alloc o) B v s := h.kept (World.grownBy_alloc W o none) (fun e => by cases e)
theorem SysAt.own {β : Type} (B : Nat) (v : Int) (s : Value) : Own (fun (_ : β) W => SysAt W B v s) := fun _ X Y row hs hg hrow => hs.kept hg (fun e' => by
  obtain ⟨o, ho, hc⟩ := hrow B e'.symm
  rw [show X.heap[B]? = _ from hs] at ho
  cases ho
  cases hc)
end Go.Proofs.Ytmgpmcjbnooklaa

namespace Go.Proofs.Ytmgpmcjbnooklaa
open Go.RowKit Go.Maps Go.Shelf
attribute [local go_sem] Oper.semAt_some
set_option maxRecDepth 100000 in
set_option maxHeartbeats 2000000 in
theorem DegreesOf_main (v : Nat) (s : Value) (bs : List Blk) (w : World) (h : SB w s bs) (hi : isSysImpl (v : Int) bs = true) :
    Calls Try.prog 12 #[.agg #[.int .i64 (v : Int), s]] w (RJ (degI bs v, 0) w) := by
  have hs := h.slice
  have HI := Lib.hid fun W (hb : Below w.heap.size w W) => IsSystem_any (v : Int) s bs W (h.below hb (Nat.le_refl _))
  rw [hi] at HI
  have H := Lib.hid h
  have HL := Lib.hid h.2.1
  have HV := Lib.hid (sys_size hi).2.1
  clear h
  obtain ⟨a0, c0, rfl⟩ := hs
  have hmk := mkRowD v (by have := HV.out; omega)
  have hro : Fence.wide.round = none := rfl
  refine (callsIn_wide (n := 9)).1 ?_
  refine callsIn_of_wp_marks Try.func12 rfl trivial ?_ hro
  simp only [Try.ntmps12, List.size_toArray, List.length_cons, List.length_nil, Nat.reduceAdd, Nat.reduceSub, Array.replicate_succ, Array.replicate_zero, List.push_toArray, List.append_toArray, List.nil_append, List.cons_append]
  gi_wp2_with (first
    | (refine ⟨trivial, ?_⟩; gi_at_call 41; refine (callsIn_wide.2 (HI.out _ ((Below.refl _ _).alloc (Nat.le_refl _) _))).mono ?_; rintro e w1 ⟨rfl, hb1⟩; have q0 := cell_new hb1 0 rfl; have q1 := cell_new hb1 1 rfl; have hlt1 := lt_new hb1; have hbw := below_new hb1))
  have hSA : SysAt w1 w.heap.size (v : Int) (.slice a0 bs.length c0) := (hb1.block w.heap.size (by simp)).trans (World.alloc_heap_new w _)
  have hsA := (hSA.alloc (.cells (madeCells #[.int .i64 0] v) 2)).alloc (.cells #[.slice (some ⟨w1.heap.size, 0, none⟩) v v] 26)
  have hO0 := OwnJ.made0 w1 (base := w1.heap.size) v (by have := HV.out; omega) (Nat.le_refl _)
  have hO1 := hO0.kept (World.grownBy_alloc _ (.cells #[.slice (some ⟨w1.heap.size, 0, none⟩) v v] 26) none) (fun r e => by cases e)
  have hbx := Boxed.new (w1.alloc (.cells (madeCells #[.int .i64 0] v) 2)) 26 (.slice (some ⟨w1.heap.size, 0, none⟩) v v)
  rw [World.size_alloc] at hbx
  have hB0 := (hbw.alloc hbw.size (.cells (madeCells #[.int .i64 0] v) 2)).alloc (by have := hbw.size; simp; omega) (.cells #[.slice (some ⟨w1.heap.size, 0, none⟩) v v] 26)
  obtain ⟨W0, hW0⟩ : ∃ W0, (w1.alloc (.cells (madeCells #[.int .i64 0] v) 2)).alloc (.cells #[.slice (some ⟨w1.heap.size, 0, none⟩) v v] 26) = W0 := ⟨_, rfl⟩
  have hz0 : w1.heap.size + 1 < W0.heap.size := by rw [← hW0]; simp
  rw [hW0] at hsA hO1 hbx hB0 ⊢
  rw [← degR_start bs v] at hO1
  obtain ⟨g, hg⟩ : ∃ g, w1.heap.size = g := ⟨_, rfl⟩
  rw [hg] at hO1 hbx hlt1 hz0 ⊢
  clear hW0 q0 q1 hb1 HI hSA hO0 hmk hbw hg
  refine wpIn_loop (fun a' wr => ∃ (k : Nat) (ds : List Deferred) (u5 u15 u16 u17 u18 u19 u28 : Value), k ≤ v ∧ Below w.heap.size w wr ∧ SysAt wr w.heap.size (v : Int) (.slice a0 bs.length c0) ∧ Boxed wr (g + 1) 26 (.slice (some ⟨g, 0, none⟩) v v) ∧
      OwnJ wr g (.slice (some ⟨g, 0, none⟩) v v) (degR bs v k 0) ∧ Marks w.heap.size wr wr.heap.size ds ∧
      a' = { tmps := #[.agg #[.int .i64 (v : Int), .slice a0 bs.length c0], .pointer (some ⟨w.heap.size, 0, none⟩), .slice none 0 0, .int .i64 0, .pointer (some ⟨g + 1, 0, none⟩), u5, .agg #[.int .i64 (v : Int), .slice a0 bs.length c0], .bool true, .bool false, .pointer (some ⟨w.heap.size, 0, none⟩), .int .i64 (v : Int), .slice (some ⟨g, 0, none⟩) v v, .pointer (some ⟨w.heap.size, 0, none⟩), .int .i64 (v : Int), .int .i64 (k : Int), u15, u16, u17, u18, u19, undef, undef, undef, undef, undef, undef, undef, undef, u28, undef], defers := ds })
    (fun a' _ => (v - intOf (a'.tmps.getD 14 undef)).toNat) ?_ ?_
  · exact ⟨0, [], _, _, _, _, _, _, _, Nat.zero_le _, hB0, hsA, hbx, hO1, trivial, rfl⟩
  rintro a' wr ⟨k, ds, u5, u15, u16, u17, u18, u19, u28, hk, hB, hS, hX, hO, hM, rfl⟩
  clear hB0 hsA hO1 hbx
  obtain ⟨s0, s1, s2⟩ := hS.cells
  have x0 := hX.cell
  have hz := hB.size
  have hgl := hX.lt
  by_cases hkl : k < v
  · gi_wp2_with (first
      | (refine ⟨trivial, ?_⟩; gi_at_call 42; refine (callsIn_wide.2 (blocksWith_any _ _ _ _)).mono ?_; rintro e w3 ⟨rfl, rfl⟩))
    have hlk : ((k : Int)).toNat = k := Int.toNat_natCast k
    have hp5 := ((Boxed.new wr 2 (.int .i64 (k : Int))).alloc (.cells #[.int .i64 (v : Int), .slice a0 bs.length c0] 31)).alloc (.cells #[.int .i64 (k : Int)] 2)
    have hX3 := ((hX.alloc (.cells #[.int .i64 (k : Int)] 2)).alloc (.cells #[.int .i64 (v : Int), .slice a0 bs.length c0] 31)).alloc (.cells #[.int .i64 (k : Int)] 2)
    have hS3 := ((hS.alloc (.cells #[.int .i64 (k : Int)] 2)).alloc (.cells #[.int .i64 (v : Int), .slice a0 bs.length c0] 31)).alloc (.cells #[.int .i64 (k : Int)] 2)
    have hO3 := ((ownJ_own g (.slice (some ⟨g, 0, none⟩) v v)).alloc (.cells #[.int .i64 (k : Int)] 2) ((ownJ_own g (.slice (some ⟨g, 0, none⟩) v v)).alloc (.cells #[.int .i64 (v : Int), .slice a0 bs.length c0] 31) ((ownJ_own g (.slice (some ⟨g, 0, none⟩) v v)).alloc (.cells #[.int .i64 (k : Int)] 2) hO)))
    have hM3 := ((hM.alloc (.cells #[.int .i64 (k : Int)] 2)).alloc (.cells #[.int .i64 (v : Int), .slice a0 bs.length c0] 31)).alloc (.cells #[.int .i64 (k : Int)] 2)
    have hB3 := ((hB.alloc hz (.cells #[.int .i64 (k : Int)] 2)).alloc (by simp; omega) (.cells #[.int .i64 (v : Int), .slice a0 bs.length c0] 31)).alloc (by simp; omega) (.cells #[.int .i64 (k : Int)] 2)
    have hx : (((wr.alloc (.cells #[.int .i64 (k : Int)] 2)).alloc (.cells #[.int .i64 (v : Int), .slice a0 bs.length c0] 31)).alloc (.cells #[.int .i64 (k : Int)] 2)).cell? ⟨wr.heap.size + 1, 1, none⟩ = some (.slice a0 bs.length c0) := by
      have := new_at (w := wr.alloc (.cells #[.int .i64 (k : Int)] 2)) (cs := #[.int .i64 (v : Int), .slice a0 bs.length c0]) (T := 31) 1 rfl
      rw [World.size_alloc] at this
      exact cell_past this (by simp)
    have hp : (((wr.alloc (.cells #[.int .i64 (k : Int)] 2)).alloc (.cells #[.int .i64 (v : Int), .slice a0 bs.length c0] 31)).alloc (.cells #[.int .i64 (k : Int)] 2)).cell? ⟨wr.heap.size + 1 + 1, 0, none⟩ = some (.int .i64 (k : Int)) := by
      have := new_at (w := (wr.alloc (.cells #[.int .i64 (k : Int)] 2)).alloc (.cells #[.int .i64 (v : Int), .slice a0 bs.length c0] 31)) (cs := #[.int .i64 (k : Int)]) (T := 2) 0 rfl
      simp only [World.size_alloc] at this
      exact this
    have hsz3 : (((wr.alloc (.cells #[.int .i64 (k : Int)] 2)).alloc (.cells #[.int .i64 (v : Int), .slice a0 bs.length c0] 31)).alloc (.cells #[.int .i64 (k : Int)] 2)).heap.size = wr.heap.size + 1 + 1 + 1 := by simp
    obtain ⟨W3, hW3⟩ : ∃ W3, (((wr.alloc (.cells #[.int .i64 (k : Int)] 2)).alloc (.cells #[.int .i64 (v : Int), .slice a0 bs.length c0] 31)).alloc (.cells #[.int .i64 (k : Int)] 2)) = W3 := ⟨_, rfl⟩
    rw [hW3] at hp5 hX3 hS3 hO3 hM3 hB3 hx hp hsz3 ⊢
    have hM4 := hM3.mono (show wr.heap.size ≤ W3.heap.size by omega)
    clear hW3 hM hX hS hO hM3 hB s0 s1 s2 x0
    refine wpIn_rangeFunc_ownG hro (by omega) (gf := 82) (lb := #[.pointer (some ⟨wr.heap.size + 1, 0, none⟩), .pointer (some ⟨wr.heap.size + 1 + 1, 0, none⟩)]) rfl trivial (enters_of Try.func82 (by kernel_rfl) rfl)
      (with_stops (9 - 1) (by omega) (wr.heap.size + 1) (wr.heap.size + 1 + 1) (k : Int) _ bs w W3 H.out hB3 hx (by omega) hp (by omega)) KpB.trans (KpB.put (by omega)) (Below.refl _ _) (fun _ => rfl)
      (fun pre W => (((OwnJ W g (.slice (some ⟨g, 0, none⟩) v v) (degR bs v k pre.length) ∧ Boxed W (g + 1) 26 (.slice (some ⟨g, 0, none⟩) v v)) ∧ Boxed W wr.heap.size 2 (.int .i64 (k : Int)) ∧ SysAt W w.heap.size (v : Int) (.slice a0 bs.length c0)) ∧ Marks w.heap.size W W3.heap.size ds ∧ W3.heap.size ≤ W.heap.size) ∧ Below w.heap.size w W)
      (fun _ _ _ => False)
      (OwnFrom.and (OwnFrom.and (OwnFrom.and (OwnFrom.and (Own.from (fun pre X Y row => ownJ_own g (.slice (some ⟨g, 0, none⟩) v v) (degR bs v k pre.length) X Y row) _) (Own.from (boxed_own _ _ _) _)) (OwnFrom.and (Own.from (boxed_own _ _ _) _) (Own.from (SysAt.own _ _ _) _))) (OwnFrom.and (marks_own _ _ _ (Nat.le_refl _) ds) (fun _ _ _ _ hs hg _ => Nat.le_trans hs hg.size))) (ownFrom_below (Nat.le_refl _) (by omega)))
      (fun _ _ _ _ _ hs _ _ => hs)
      ⟨⟨⟨⟨hO3, hX3⟩, hp5, hS3⟩, hM4, Nat.le_refl _⟩, hB3⟩
      (fun x => { tmps := #[.agg #[.int .i64 (v : Int), .slice a0 bs.length c0], .pointer (some ⟨w.heap.size, 0, none⟩), .slice none 0 0, .int .i64 0, .pointer (some ⟨g + 1, 0, none⟩), .pointer (some ⟨wr.heap.size, 0, none⟩), .agg #[.int .i64 (v : Int), .slice a0 bs.length c0], .bool true, .bool false, .pointer (some ⟨w.heap.size, 0, none⟩), .int .i64 (v : Int), .slice (some ⟨g, 0, none⟩) v v, .pointer (some ⟨w.heap.size, 0, none⟩), .int .i64 (v : Int), .int .i64 (k : Int), .bool true, .int .i64 (k : Int), .agg #[.int .i64 (v : Int), .slice a0 bs.length c0], .int .i64 (k : Int),
        .func (.func 82) #[] #[.pointer (some ⟨wr.heap.size + 1, 0, none⟩), .pointer (some ⟨wr.heap.size + 1 + 1, 0, none⟩)], .int .i64 (x.1 : Int), bv x.2, undef, undef, undef, undef, undef, undef, u28, undef], defers := [] }) ?assign ?body ?done ?stop
    case assign =>
      intro l x W K hK
      dsimp only [encQ, bv] at hK ⊢
      gi_wp2
      simp only [List.zip_toArray, List.zip_cons_cons, List.zip_nil_right, List.size_toArray, List.length_cons, List.length_nil, List.foldl_toArray', List.foldl_cons, List.foldl_nil, List.setIfInBounds_toArray, List.set_cons_succ, List.set_cons_zero]
      exact hK
    case body =>
      rintro l pre x W ⟨⟨⟨⟨hO, hX⟩, hp5, hS⟩, hM, hsW⟩, hB⟩ hlt
      obtain ⟨c1, c2, c3, c4, c5⟩ := hO.at_ (i := k) (by rw [degR_len]; exact hkl)
      rw [degR_at bs _ hkl] at c1
      have x1 := hX.cell
      have x2 := hp5.cell
      have hlp : pre.length ≤ 1100000 := by have := HL.out; omega
      have hwr : IntKind.i64.wrap ((pre.length : Int) + 1) = (pre.length : Int) + 1 := IntWalk.i64_in _ (by omega)
      have hsB := hB.size
      clear c4
      gi_wp2
      obtain ⟨hO5, hg5⟩ := hO.setT (i := k) (x := (pre.length : Int) + 1) (by rw [degR_len]; exact hkl)
      rw [degR_set bs _ hkl] at hO5
      have hne : ∀ j, j ≠ g → some j ≠ some g := fun j hj e => hj (by cases e; rfl)
      have hK5 : KpB w.heap.size (wr.heap.size + 1 + 1) W (W.setCell ⟨g, k, none⟩ (.int .i64 ((pre.length : Int) + 1))) :=
        ⟨(Below.refl _ _).setCell (p := ⟨g, k, none⟩) (Nat.le_of_lt hlt1) _, fun u hu => by
          obtain ⟨ob, ho, _⟩ := cells_of_cell hu
          exact (World.cell?_of_block (hg5.block (wr.heap.size + 1 + 1) (Array.getElem?_eq_some_iff.1 ho).1 (hne _ (by omega)))).trans hu⟩
      refine ⟨(KeepsOthers.setCell _ _ _).from _, hK5, ⟨⟨⟨by simpa using hO5, hX.kept hg5 (hne _ (by omega))⟩, hp5.kept hg5 (hne _ (by omega)), hS.kept hg5 (hne _ (Nat.ne_of_lt hlt1))⟩, hM.grown hg5 ?_, by simpa using hsW⟩, hB.setCell (p := ⟨g, k, none⟩) (Nat.le_of_lt hlt1) _⟩
      intro r e
      cases e
      refine .inr ?_
      obtain ⟨ob, ho, hc⟩ := cells_of_cell c1
      exact ⟨ob, ho, hc⟩
    case done =>
      rintro D ys W hD rfl ⟨⟨⟨⟨hO, hX⟩, hp5, hS⟩, hM, hsW⟩, hB⟩ hK
      have hk1 : wrap64 ((k : Int) + 1) = ((k + 1 : Nat) : Int) := wrap_succ (by have := HV.out; omega)
      rw [← idxI_upTo, degR_next] at hO
      gi_wp2
      rw [hk1]
      refine ⟨⟨k + 1, { target := .collected D, args := #[] } :: ds, _, _, _, _, _, _, _, hkl, hB, hS, hX, hO, ⟨D, rfl, by omega, (Array.getElem?_eq_some_iff.1 hK).1, hK, hM.mono hD⟩, rfl⟩, meas_lt hkl⟩
    case stop =>
      rintro D c pre W _ _ h _
      exact h.elim
  · obtain rfl : k = v := by omega
    gi_wp2
    rw [degR_end] at hO
    refine leaves_marks (n0 := w.heap.size) (fun W => OwnJ W g (.slice (some ⟨g, 0, none⟩) k k) (degI bs k) ∧ Below w.heap.size w W) ?_ ?_ ds wr.heap.size wr hM ⟨hO, hB⟩
    · rintro W D ⟨h1, h2⟩ hD hK
      exact ⟨(ownJ_own g _).putObj _ h1 hK rfl, h2.trans (belowK_b (w := w) (Nat.le_refl _) W D _ _ hD hK rfl rfl)⟩
    · rintro W ⟨h1, h2⟩
      exact ⟨_, by simp [results, Try.f12, go_sem], _, rfl, OwnJ.baseD h1 (Nat.le_of_lt hlt1), h2⟩
end Go.Proofs.Ytmgpmcjbnooklaa

namespace Go.Proofs.Ytmgpmcjbnooklaa
open Go.RowKit Go.Maps Go.Shelf
theorem degF_len (v : Int) (bs : List Blk) : (degF v bs).1.length ≤ 1100000 := by
  unfold degF
  cases hi : isSysImpl v bs with
  | false => simp
  | true =>
    have := (sys_size hi).2.1
    simp [degI_len]
    omega
set_option maxRecDepth 100000 in
theorem DegreesOf_any (v : Int) (s : Value) (bs : List Blk) (w : World) (h : SB w s bs) :
    Calls Try.prog 12 #[.agg #[.int .i64 v, s]] w (RJ (degF v bs) w) := by
  cases hi : isSysImpl v bs with
  | false =>
    have hval : degF v bs = ([], 1) := by simp [degF, hi]
    rw [hval]
    have hs := h.slice
    have HI := Lib.hid fun W (hb : Below w.heap.size w W) => IsSystem_any v s bs W (h.below hb (Nat.le_refl _))
    rw [hi] at HI
    clear h hval hi
    obtain ⟨a0, c0, rfl⟩ := hs
    go_enter Try.func12, Try.ntmps12
    go_wp2_with (go_at_call 41; refine (HI.out _ ((Below.refl _ _).alloc (Nat.le_refl _) _)).mono ?_; rintro e w1 ⟨rfl, hb1⟩)
    go_ret2
    exact ⟨_, rfl, OwnJ.nil _ _, below_new hb1⟩
  | true =>
    have hval : degF v bs = (degI bs v.toNat, 0) := by simp [degF, hi]
    rw [hval]
    obtain ⟨m, rfl⟩ : ∃ m : Nat, v = m := ⟨v.toNat, by have := (sys_size hi).1; omega⟩
    exact DegreesOf_main m s bs w h hi
end Go.Proofs.Ytmgpmcjbnooklaa

namespace Go.Proofs.Ytmgpmcjbnooklaa
open Go.ChangeShapes Go.WideShapes Go.ChangeAt Go.RowKit Go.Deep Go.Joins
theorem ownKnobs : ownKnob Try.prog.godebug = none := by kernel_rfl
section
variable {H : Type} {enc : TypeId × Value → H} {W : World} {base : Nat} {held : Bool}
theorem arrCells : Try.prog.cellsOf 67 = 3 := by kernel_rfl
set_option maxRecDepth 100000 in
theorem open_arr3 {fuel : Nat} {cs : List Value} {x : DataW H × List MemPlace} (h : DataW.trod enc Try.prog W base (fun _ => true) held fuel 67 cs = some x) :
    ∃ a b c : Int, cs = [.int .i64 a, .int .i64 b, .int .i64 c] ∧ (Lit.int .i64 a).wf = true ∧ (Lit.int .i64 b).wf = true ∧ (Lit.int .i64 c).wf = true := by
  obtain ⟨xs, m, rfl, rfl, hl, hx, hat⟩ := DataW.trod_array Try.underlying67 h
  rw [arrCells] at hl
  match cs, hl with
  | [c0, c1, c2], _ =>
    match xs, hx with
    | [x0, x1, x2], _ =>
      have h0 := hat 0 (by omega)
      have h1 := hat 1 (by omega)
      have h2 := hat 2 (by omega)
      rw [int64Cells] at h0 h1 h2
      simp at h0 h1 h2
      obtain ⟨a, ha, _, wa⟩ := DataW.trod_int Try.underlying2 h0
      obtain ⟨b, hb, _, wb⟩ := DataW.trod_int Try.underlying2 h1
      obtain ⟨c, hc, _, wc⟩ := DataW.trod_int Try.underlying2 h2
      simp at ha hb hc
      exact ⟨a, b, c, by rw [ha, hb, hc], wa, wb, wc⟩
theorem add_at (b off i : Nat) : (⟨b, off, none⟩ : Addr).add i = ⟨b, off + i, none⟩ := by
  unfold Addr.add
  split
  · subst_vars; rfl
  · rfl
set_option maxRecDepth 100000 in
theorem open_arrs {fuel : Nat} {s : Value} {x : DataW H × List MemPlace} (h : DataW.trod enc Try.prog W base (fun _ => true) held fuel 22 [s] = some x) : ∃ bs, InB W s bs := by
  rcases open_slice Try.underlying22 h with ⟨hcs, _⟩ | ⟨a, len, cap, m, n, D, Pl, hcs, hb, hl, hm, hmm, hx, hi⟩
  · simp at hcs
    exact ⟨[], by simp, by simp, .inl ⟨none, 0, hcs, rfl⟩⟩
  · simp at hcs
    subst hcs
    simp at hmm
    subst hmm
    have hm' : m ≤ 9223372036854775807 := by unfold maxLen at hm; exact hm
    by_cases h0 : len = 0
    · subst h0
      exact ⟨[], by simp, by simp, .inl ⟨_, _, rfl, rfl⟩⟩
    · have cell : ∀ i, i < m → ∃ y : Blk, WFB y ∧ ∀ j (v : Value), [Value.int .i64 y.a, Value.int .i64 y.b, Value.int .i64 y.c][j]? = some v → W.cell? (a.add (i * 3 + j)) = some v := fun i him => by
        obtain ⟨cs', hc, ht⟩ := hi i him
        obtain ⟨p, q, r, rfl, wp, wq, wr⟩ := open_arr3 ht
        rw [arrCells] at hc
        obtain ⟨_, _, hat⟩ := World.cells?_some hc
        refine ⟨⟨p, q, r⟩, ⟨wp, wq, wr⟩, fun j v hv => ?_⟩
        have hj : j < 3 := by
          have := (List.getElem?_eq_some_iff.1 hv).1
          simpa using this
        rw [← Go.Deep.add_add, hat j hj]
        exact hv
      obtain ⟨F, hF⟩ := choose_lt (α := Blk) cell
      obtain ⟨b, off, spot⟩ := a
      have hc0 := (hF 0 (by omega)).2 0 _ rfl
      have hspot : spot = none := by simpa [Addr.add] using World.cell?_spot hc0
      subst hspot
      refine ⟨(List.range len).map F, ?_, by simp; omega, .inr ⟨b, off, m, by simp, ?_, ?_⟩⟩
      · intro y hy
        obtain ⟨i, hi', rfl⟩ := List.mem_map.1 hy
        exact (hF i (by have := List.mem_range.1 hi'; omega)).1
      · exact block_lt_of_cell hc0
      · intro k hk
        simp at hk
        have e : ((List.range len).map F)[k]?.getD default = F k := by simp [hk]
        rw [e]
        have := (hF k (by omega)).2
        refine ⟨?_, ?_, ?_⟩
        · have h0 := this 0 _ rfl
          rw [add_at] at h0
          exact h0
        · have h1 := this 1 _ rfl
          rw [add_at, ← Nat.add_assoc] at h1
          exact h1
        · have h2 := this 2 _ rfl
          rw [add_at, ← Nat.add_assoc] at h2
          exact h2
theorem isSys : ∃ f0 f1 : Field, Try.prog.underlying 24 = some (.struct #[f0, f1]) ∧ f0.type = 2 ∧ f1.type = 22 ∧ oneCellFields Try.prog #[f0, f1] = true :=
  ⟨_, _, Try.underlying24, rfl, rfl, by kernel_rfl⟩
theorem sysCells : Try.prog.cellsOf 24 = 2 := by kernel_rfl
set_option maxRecDepth 100000 in
theorem open_system {r : Reach} {b0 : Nat} {v : Value} {d : DataW H} {p : List MemPlace} (hv : Value.okWide Try.prog W r b0 24 v) (h : DataW.Trod enc Try.prog W base (fun _ => true) held 24 v d p) :
    ∃ (n : Int) (s : Value) (bs : List Blk), v = .agg #[.int .i64 n, s] ∧ WF n ∧ InB W s bs := by
  obtain ⟨f0, f1, hu, e0, e1, hone⟩ := isSys
  obtain ⟨v0, v1, y0, y1, n, rfl, _, _, h0, h1⟩ := open_agg2 hu hone sysCells hv h
  rw [e0] at h0
  rw [e1] at h1
  obtain ⟨k, hk, _, wk⟩ := DataW.trod_int Try.underlying2 h0
  simp at hk
  subst hk
  obtain ⟨bs, hbs⟩ := open_arrs h1
  exact ⟨k, v1, bs, rfl, wk, hbs⟩
end
end Go.Proofs.Ytmgpmcjbnooklaa

namespace Go.Proofs.Ytmgpmcjbnooklaa
open Go.ChangeShapes Go.WideShapes Go.ChangeAt Go.RowKit Go.Deep Go.Joins
/-- The value is a slice of just these integers, however many. -/
def InZ (w : World) (s : Value) (zs : List Int) : Prop :=
  (∀ z ∈ zs, WF z) ∧ zs.length ≤ 9223372036854775807 ∧ ((∃ a c, s = .slice a 0 c ∧ zs = []) ∨ ∃ b off cap, s = .slice (some ⟨b, off, none⟩) zs.length cap ∧ b < w.heap.size ∧ Ints w b off zs)
theorem InZ.slice {w : World} {s : Value} {zs : List Int} (h : InZ w s zs) : ∃ a c, s = .slice a zs.length c := by
  rcases h.2.2 with ⟨a, c, rfl, rfl⟩ | ⟨b, off, cap, rfl, _⟩ <;> exact ⟨_, _, rfl⟩
theorem InZ.ib {w : World} {s : Value} {zs : List Int} (h : InZ w s zs) (hl : zs.length ≤ 1048576) : IB w s zs := ⟨by omega, h.2.2⟩
/-- The value is a slice of just these rows, however many. -/
def InSS (w : World) (s : Value) (n : Nat) (F : Nat → List Int) : Prop :=
  n ≤ 9223372036854775807 ∧ ((n = 0 ∧ ∃ a c, s = .slice a 0 c) ∨ ∃ b off cap, s = .slice (some ⟨b, off, none⟩) n cap ∧ b < w.heap.size ∧ ∀ k, k < n → ∃ u, w.cell? ⟨b, off + k, none⟩ = some u ∧ InZ w u (F k))
theorem okWide_array {P : Program} {w : World} {r : Reach} {base : Nat} {t : TypeId} {v : Value} {n : Nat} {e : TypeId} (ht : P.underlying t = some (.array n e)) (h : Value.okWide P w r base t v) : ∃ cs, v = .agg cs ∧ cs.size = P.cellsOf t := by
  simp only [Value.okWide, ht] at h
  obtain ⟨cs, h1, h2, _⟩ := h
  exact ⟨cs, h1, h2⟩
section
variable {H : Type} {enc : TypeId × Value → H} {W : World} {base : Nat} {held : Bool}
set_option maxRecDepth 100000 in
theorem open_zs {fuel : Nat} {s : Value} {x : DataW H × List MemPlace} (h : DataW.trod enc Try.prog W base (fun _ => true) held fuel 26 [s] = some x) : ∃ zs, InZ W s zs := by
  rcases open_slice1 Try.underlying26 int64Cells h with ⟨hcs, _⟩ | ⟨a, len, cap, m, n, V, D, Pl, hcs, hb, hl, hm, hmm, hx, hi⟩
  · simp at hcs
    exact ⟨[], by simp, by simp, .inl ⟨none, 0, hcs, rfl⟩⟩
  · simp at hcs
    subst hcs
    simp at hmm
    subst hmm
    have hm' : m ≤ 9223372036854775807 := by unfold maxLen at hm; exact hm
    by_cases h0 : len = 0
    · subst h0
      exact ⟨[], by simp, by simp, .inl ⟨_, _, rfl, rfl⟩⟩
    · have cell : ∀ i, i < m → ∃ y : Int, WF y ∧ W.cell? (a.add i) = some (.int .i64 y) := fun i him => by
        obtain ⟨hc, ht⟩ := hi i him
        obtain ⟨k, hk, _, wk⟩ := DataW.trod_int Try.underlying2 ht
        simp at hk
        exact ⟨k, wk, by rw [hc, hk]⟩
      obtain ⟨F, hF⟩ := choose_lt (α := Int) cell
      obtain ⟨b, off, spot⟩ := a
      have hc0 := (hF 0 (by omega)).2
      have hspot : spot = none := by simpa [Addr.add] using World.cell?_spot hc0
      subst hspot
      refine ⟨(List.range len).map F, ?_, by simp; omega, .inr ⟨b, off, m, by simp, ?_, ?_⟩⟩
      · intro y hy
        obtain ⟨i, hi', rfl⟩ := List.mem_map.1 hy
        exact (hF i (by have := List.mem_range.1 hi'; omega)).1
      · exact block_lt_of_cell hc0
      · intro k hk
        simp at hk
        have e : ((List.range len).map F)[k]?.getD 0 = F k := by simp [hk]
        rw [e]
        have h1 := (hF k (by omega)).2
        rw [add_at] at h1
        exact h1
set_option maxRecDepth 100000 in
theorem open_ints64 {r : Reach} {b0 : Nat} {v : Value} {d : DataW H} {p : List MemPlace} (hv : Value.okWide Try.prog W r b0 26 v) (h : DataW.Trod enc Try.prog W base (fun _ => true) held 26 v d p) : ∃ zs, InZ W v zs := by
  obtain ⟨a, len, cap, rfl⟩ := okWide_slice Try.underlying26 hv
  obtain ⟨fuel, hf⟩ := h
  exact open_zs hf
set_option maxRecDepth 100000 in
theorem open_blocks {r : Reach} {b0 : Nat} {v : Value} {d : DataW H} {p : List MemPlace} (hv : Value.okWide Try.prog W r b0 22 v) (h : DataW.Trod enc Try.prog W base (fun _ => true) held 22 v d p) : ∃ bs, InB W v bs := by
  obtain ⟨a, len, cap, rfl⟩ := okWide_slice Try.underlying22 hv
  obtain ⟨fuel, hf⟩ := h
  exact open_arrs hf
theorem sliceCells : Try.prog.cellsOf 26 = 1 := by kernel_rfl
set_option maxRecDepth 100000 in
theorem open_rows {r : Reach} {b0 : Nat} {v : Value} {d : DataW H} {p : List MemPlace} (hv : Value.okWide Try.prog W r b0 45 v) (h : DataW.Trod enc Try.prog W base (fun _ => true) held 45 v d p) : ∃ n F, InSS W v n F := by
  obtain ⟨A0, L0, C0, rfl⟩ := okWide_slice Try.underlying45 hv
  obtain ⟨fuel, hf⟩ := h
  have hf' : DataW.trod enc Try.prog W base (fun _ => true) held fuel 45 [.slice A0 L0 C0] = some (d, p) := hf
  rcases open_slice1 Try.underlying45 sliceCells hf' with ⟨hcs, _⟩ | ⟨a, len, cap, m, n, V, D, Pl, hcs, hb, hl, hm, hmm, hx, hi⟩
  · simp at hcs
    obtain ⟨rfl, rfl, rfl⟩ := hcs
    exact ⟨0, fun _ => [], by omega, .inl ⟨rfl, _, _, rfl⟩⟩
  · simp at hcs
    obtain ⟨e1, e2, e3⟩ := hcs
    subst e1
    subst e2
    subst e3
    simp at hmm
    subst hmm
    have hm' : m ≤ 9223372036854775807 := by unfold maxLen at hm; exact hm
    by_cases h0 : L0 = 0
    · subst h0
      exact ⟨0, fun _ => [], by omega, .inl ⟨rfl, _, _, rfl⟩⟩
    · have cell : ∀ i, i < m → ∃ y : List Int, ∃ u, W.cell? (a.add i) = some u ∧ InZ W u y := fun i him => by
        obtain ⟨hc, ht⟩ := hi i him
        obtain ⟨zs, hz⟩ := open_zs ht
        exact ⟨zs, _, hc, hz⟩
      obtain ⟨F, hF⟩ := choose_lt (α := List Int) cell
      obtain ⟨b, off, spot⟩ := a
      obtain ⟨u0, hc0, _⟩ := hF 0 (by omega)
      have hspot : spot = none := by simpa [Addr.add] using World.cell?_spot hc0
      subst hspot
      refine ⟨L0, F, by omega, .inr ⟨b, off, m, rfl, block_lt_of_cell hc0, fun k hk => ?_⟩⟩
      obtain ⟨u, h1, h2⟩ := hF k (by omega)
      rw [add_at] at h1
      exact ⟨u, h1, h2⟩
set_option maxRecDepth 100000 in
theorem open_blk {r : Reach} {b0 : Nat} {v : Value} {d : DataW H} {p : List MemPlace} (hv : Value.okWide Try.prog W r b0 67 v) (h : DataW.Trod enc Try.prog W base (fun _ => true) held 67 v d p) : ∃ x, v = bv x ∧ WFB x := by
  obtain ⟨cs, rfl, hsz⟩ := okWide_array Try.underlying67 hv
  obtain ⟨fuel, hf⟩ := h
  obtain ⟨a, b, c, e, wa, wb, wc⟩ := open_arr3 hf
  have : cs.toList = [.int .i64 a, .int .i64 b, .int .i64 c] := e
  refine ⟨⟨a, b, c⟩, ?_, wa, wb, wc⟩
  unfold bv
  rw [← this]
end
end Go.Proofs.Ytmgpmcjbnooklaa

namespace Go.Proofs.Ytmgpmcjbnooklaa
open Go.RowKit Go.Maps
structure CS (w : World) (v p : Int) (s sW s8 sG : Value) (XW X XG i0 i1 j1 j2 k1 k2 : Nat) (LW L8 LG : List Blk) (W : World) : Prop where
  st : St1 w v s W
  o0 : w.heap.size < i0
  o1 : i0 ≤ i1
  o2 : i1 ≤ XW
  o3 : XW < j1
  o4 : j1 ≤ j2
  o5 : j2 ≤ X
  o6 : X < k1
  o7 : k1 ≤ k2
  o8 : k2 ≤ XG
  rW : ResR W i0 i1 sW LW
  vW : VarB W XW p sW
  r8 : ResR W j1 j2 s8 L8
  vX : VarB W X v s8
  rG : ResR W k1 k2 sG LG
  vG : VarB W XG p sG
section
variable {w : World} {v p : Int} {s sW s8 sG : Value} {XW X XG i0 i1 j1 j2 k1 k2 : Nat} {LW L8 LG : List Blk} {W W' : World}
theorem CS.step (h : CS w v p s sW s8 sG XW X XG i0 i1 j1 j2 k1 k2 LW L8 LG W) (hg : W.grownBy W' none) : CS w v p s sW s8 sG XW X XG i0 i1 j1 j2 k1 k2 LW L8 LG W' :=
  ⟨h.st.step hg (by simp), h.o0, h.o1, h.o2, h.o3, h.o4, h.o5, h.o6, h.o7, h.o8, h.rW.kept hg (by simp), h.vW.step hg (by simp), h.r8.kept hg (by simp), h.vX.step hg (by simp), h.rG.kept hg (by simp), h.vG.step hg (by simp)⟩
theorem CS.mark8 (h : CS w v p s sW s8 sG XW X XG i0 i1 j1 j2 k1 k2 LW L8 LG W) {row : Option Nat} (hg : W.grownBy W' row) (hr : ∀ r, row = some r → j1 ≤ r ∧ r < j2) {L : List Blk} (hn : ResR W' j1 j2 s8 L) :
    CS w v p s sW s8 sG XW X XG i0 i1 j1 j2 k1 k2 LW L LG W' := by
  obtain ⟨st, o0, o1, o2, o3, o4, o5, o6, o7, o8, rW, vW, r8, vX, rG, vG⟩ := h
  exact ⟨st.step hg (fun r e => by have := hr r e; omega), o0, o1, o2, o3, o4, o5, o6, o7, o8, rW.kept hg (fun r e => by have := hr r e; omega), vW.step hg (fun e => by have := hr _ e; omega), hn, vX.step hg (fun e => by have := hr _ e; omega), rG.kept hg (fun r e => by have := hr r e; omega), vG.step hg (fun e => by have := hr _ e; omega)⟩
theorem CS.markG (h : CS w v p s sW s8 sG XW X XG i0 i1 j1 j2 k1 k2 LW L8 LG W) {row : Option Nat} (hg : W.grownBy W' row) (hr : ∀ r, row = some r → k1 ≤ r ∧ r < k2) {L : List Blk} (hn : ResR W' k1 k2 sG L) :
    CS w v p s sW s8 sG XW X XG i0 i1 j1 j2 k1 k2 LW L8 L W' := by
  obtain ⟨st, o0, o1, o2, o3, o4, o5, o6, o7, o8, rW, vW, r8, vX, rG, vG⟩ := h
  exact ⟨st.step hg (fun r e => by have := hr r e; omega), o0, o1, o2, o3, o4, o5, o6, o7, o8, rW.kept hg (fun r e => by have := hr r e; omega), vW.step hg (fun e => by have := hr _ e; omega), r8.kept hg (fun r e => by have := hr r e; omega), vX.step hg (fun e => by have := hr _ e; omega), hn, vG.step hg (fun e => by have := hr _ e; omega)⟩
end
end Go.Proofs.Ytmgpmcjbnooklaa



namespace Go.Proofs.Ytmgpmcjbnooklaa
open Go.RowKit Go.Maps
set_option maxRecDepth 100000 in
set_option maxHeartbeats 2000000 in
theorem FnExactDegreesOf_main (v0 : Int) (s0 : Value) (bs0 : List Blk) (w : World) (h0 : InB w s0 bs0) (hl : bs0.length ≤ 1048576) :
    Calls Try.prog 3 #[.agg #[.int .i64 v0, s0]] w (RV (.bool true) w) := by
  have hsl0 := h0.slice
  have hbd0 := h0.2.1
  have hsz0 := szSystem_any v0 s0 bs0.length hsl0 (by omega) 1048576 (by omega) (by omega)
  rw [if_neg (by omega)] at hsz0
  obtain ⟨m0, hm0⟩ : ∃ m, m = (1048576 : Int) - (bs0.length : Int) := ⟨_, rfl⟩
  rw [← hm0] at hsz0
  have hmp0 : 0 ≤ m0 := by omega
  have HSZ0 := Lib.hid hsz0
  have HSB0 := Lib.hid (h0.sb (by omega))
  have HBD0 := Lib.hid (show bs0.length ≤ 1100000 by omega)
  have HWF0 := Lib.hid h0.1
  obtain ⟨L, hL⟩ : ∃ L, L = (degF v0 bs0).1 := ⟨_, rfl⟩
  obtain ⟨κ, hκ⟩ : ∃ κ, κ = (degF v0 bs0).2 := ⟨_, rfl⟩
  have hp : degF v0 bs0 = (L, κ) := by rw [hL, hκ]
  have LBD := Lib.hid (show L.length ≤ 1100000 by rw [hL]; exact degF_len v0 bs0)
  have HSP := Lib.hid fun (W : World) (t0 : Value) (r0 : SC W t0 bs0) => specDegreesOf_any v0 t0 bs0 W r0.1
  have HIM := Lib.hid fun (W : World) (t0 : Value) (r0 : SB W t0 bs0) => DegreesOf_any v0 t0 bs0 W r0
  rw [hp] at HSP HIM
  have hnk : (κ != κ) = false := by simp
  clear hsz0 hm0 hbd0 hL hκ hp h0 hl
  obtain ⟨a0, c0, rfl⟩ := hsl0
  go_enter Try.func3, Try.ntmps3
  have hm := ((Mem.start w).pushVar v0 (.slice a0 bs0.length c0) 24)
  have fA00 := (hm.var 0 rfl).c0
  have fA01 := (hm.var 0 rfl).c1
  have HM := Lib.hid hm
  clear hm
  go_wp2_with fail
  refine (HSZ0.out _).mono ?_
  rintro e w1 ⟨rfl, hbw1⟩
  have hm := HM.out.step (gb_below hbw1)
  clear fA00 fA01
  clear HM hbw1
  have fA00 := (hm.var 0 rfl).c0
  have fA01 := (hm.var 0 rfl).c1
  have HM := Lib.hid hm
  clear hm
  go_wp2_with fail
  refine (toSystem_any v0 _ bs0 _ (HSB0.out.below HM.out.below (Nat.le_refl _))).mono ?_
  rintro e w2 ⟨tw2, rfl, how2, hbw2⟩
  have r3 := how2.sc HWF0.out HBD0.out
  obtain ⟨gw2, capw2, hsw2, _⟩ := id how2
  subst hsw2
  have hm := HM.out.step (gb_below hbw2)
  clear fA00 fA01
  clear HM hbw2 how2
  have fA00 := (hm.var 0 rfl).c0
  have fA01 := (hm.var 0 rfl).c1
  have HM := Lib.hid hm
  clear hm
  go_wp2_with fail
  refine (HSP.out _ _ r3).mono ?_
  rintro e w4 ⟨uw4, rfl, hrow4, hbw4⟩
  have hrw4 := hrow4.res LBD.out
  clear hrow4
  obtain ⟨aW, nW, hsw4⟩ := hrw4.slice
  subst hsw4
  clear r3
  have hm := (HM.out.pushI hbw4 hrw4)
  clear fA00 fA01
  clear HM hbw4 hrw4
  have fA00 := (hm.var 1 rfl).c0
  have fA01 := (hm.var 1 rfl).c1
  have HM := Lib.hid hm
  clear hm
  go_wp2_with fail
  refine (toSystem_any v0 _ bs0 _ (HSB0.out.below HM.out.below (Nat.le_refl _))).mono ?_
  rintro e w5 ⟨tw5, rfl, how5, hbw5⟩
  have hrw5 := how5.res
  obtain ⟨gw5, capw5, hsw5, _⟩ := id how5
  subst hsw5
  have hm := (HM.out.pushB hbw5 hrw5).pushVar v0 (.slice (some ⟨gw5, 0, none⟩) bs0.length capw5) 31
  clear fA00 fA01
  clear HM hbw5 hrw5 how5
  have fVX00 := (hm.var 0 rfl).c0
  have fVX01 := (hm.var 0 rfl).c1
  have fA00 := (hm.var 3 rfl).c0
  have fA01 := (hm.var 3 rfl).c1
  have HM := Lib.hid hm
  clear hm
  go_wp2_with fail
  refine (HIM.out _ _ ((HM.out.blks 1 rfl).sb HWF0.out HBD0.out)).mono ?_
  rintro e w6 ⟨uw6, rfl, hrow6, hbw6⟩
  have hrw6 := hrow6.res LBD.out
  clear hrow6
  obtain ⟨aG, nG, hsw6⟩ := hrw6.slice
  subst hsw6
  have hm := (HM.out.pushI hbw6 hrw6)
  clear fVX00 fVX01 fA00 fA01
  clear HM hbw6 hrw6
  have fVX00 := (hm.var 1 rfl).c0
  have fVX01 := (hm.var 1 rfl).c1
  have fA00 := (hm.var 4 rfl).c0
  have fA01 := (hm.var 4 rfl).c1
  have HM := Lib.hid hm
  clear hm
  go_wp2_with fail
  refine (eqInt64S_same _ _ L _ ((HM.out.ints 0 rfl).ib LBD.out) ((HM.out.ints 3 rfl).ib LBD.out)).mono ?_
  rintro e w7 ⟨rfl, hbw7⟩
  have hm := HM.out.step (gb_below hbw7)
  clear fVX00 fVX01 fA00 fA01
  clear HM hbw7
  have fVX00 := (hm.var 1 rfl).c0
  have fVX01 := (hm.var 1 rfl).c1
  have fA00 := (hm.var 4 rfl).c0
  have fA01 := (hm.var 4 rfl).c1
  have HM := Lib.hid hm
  clear hm
  go_upto_region 10 with fail
  go_cut [45] (fun sq wx => sq = .bool false ∧ MemOf HM.out wx)
  case first =>
    go_region_with (first | (go_at_call 11; refine (toSystem_any v0 _ bs0 _ ?_).mono ?_; (exact HSB0.out.below HM.out.below.drew (Nat.le_refl _)); rintro e w8 ⟨tw8, rfl, how8, hbw8⟩; have hmx := (HM.out.step (gb_drew1 _)).step (gb_below hbw8); have ec0 := (hmx.var 1 rfl).c0; have ec1 := (hmx.var 1 rfl).c1; have HMX := Lib.hid hmx; clear hmx; have hsbw8 := how8.sb HWF0.out HBD0.out; obtain ⟨gw8, capw8, hsw8, _⟩ := id how8; subst hsw8) | (go_at_call 14; refine (eqSystem_same v0 _ _ bs0 _ ?_ ?_).mono ?_; (exact ((HMX.out.blks 2 rfl).sb HWF0.out HBD0.out)); (exact hsbw8); rintro e w9 ⟨rfl, hbw9⟩))
    all_goals
      go_wp2_with fail
      go_meet
      exact ⟨rfl, HMX.out.step (gb_below hbw9)⟩
  case rest =>
  obtain ⟨rfl, hm⟩ := hcut
  unfold MemOf at hm
  obtain ⟨yc0, rfl⟩ : ∃ W, W = wc := ⟨_, rfl⟩
  clear fVX00 fVX01 fA00 fA01
  clear HM
  have fVX00 := (hm.var 1 rfl).c0
  have fVX01 := (hm.var 1 rfl).c1
  have fA00 := (hm.var 4 rfl).c0
  have fA01 := (hm.var 4 rfl).c1
  have HM := Lib.hid hm
  clear hm
  go_wp2_with fail
  refine (markSystem_any _ _ v0 _ bs0 1 _ (HM.out.blks 2 rfl) HBD0.out (by omega) (by omega)).mono ?_
  rintro e w10 ⟨rfl, hww10, hrw10⟩
  have hm := HM.out.markB 2 rfl hww10 hrw10
  clear fVX00 fVX01 fA00 fA01
  clear HM hww10 hrw10
  have fVX00 := (hm.var 1 rfl).c0
  have fVX01 := (hm.var 1 rfl).c1
  have fA00 := (hm.var 4 rfl).c0
  have fA01 := (hm.var 4 rfl).c1
  have HM := Lib.hid hm
  clear hm
  obtain ⟨kw10, hkw10⟩ : ∃ m, m = 1 + 3 * (bs0.length : Int) := ⟨_, rfl⟩
  rw [← hkw10]
  have h0kw10 : 0 ≤ kw10 := by have := HBD0.out; omega
  have h1kw10 : kw10 ≤ 3300001 := by have := HBD0.out; omega
  clear hkw10
  go_wp2_with fail
  refine (eqInt64S_same _ _ L _ ((HM.out.ints 0 rfl).ib LBD.out) ((HM.out.ints 3 rfl).ib LBD.out)).mono ?_
  rintro e w11 ⟨rfl, hbw11⟩
  have hm := HM.out.step (gb_below hbw11)
  clear fVX00 fVX01 fA00 fA01
  clear HM hbw11
  have fVX00 := (hm.var 1 rfl).c0
  have fVX01 := (hm.var 1 rfl).c1
  have fA00 := (hm.var 4 rfl).c0
  have fA01 := (hm.var 4 rfl).c1
  have HM := Lib.hid hm
  clear hm
  go_wp2_with fail
  refine (markJ _ _ _ L 1 _ (HM.out.ints 0 rfl) LBD.out (by omega) (by omega)).mono ?_
  rintro e w12 ⟨rfl, hww12, hrw12⟩
  have hm := HM.out.markI 0 rfl hww12 hrw12
  clear fVX00 fVX01 fA00 fA01
  clear HM hww12 hrw12
  have fVX00 := (hm.var 1 rfl).c0
  have fVX01 := (hm.var 1 rfl).c1
  have fA00 := (hm.var 4 rfl).c0
  have fA01 := (hm.var 4 rfl).c1
  have HM := Lib.hid hm
  clear hm
  have hheld := fun lo hi W (h : ResI W lo hi (Value.slice aG L.length nG) (markI 1 L.length)) => heldJ lo hi (.slice aG L.length nG) L.length 1 W h LBD.out (by omega) (by omega)
  obtain ⟨m5, hm5⟩ : ∃ m5, m5 = 1 + (L.length : Int) := ⟨_, rfl⟩
  rw [← hm5] at hheld ⊢
  have HHELD := Lib.hid hheld
  have m50 : 0 ≤ m5 := by omega
  have hn5 : (m5 != m5) = false := by simp
  clear hm5 hheld
  go_wp2_with fail
  refine (HHELD.out _ _ _ (HM.out.ints 0 rfl)).mono ?_
  rintro e w13 ⟨rfl, rfl⟩
  go_wp2_with fail
  refine (toSystem_any v0 _ bs0 _ (HSB0.out.below HM.out.below (Nat.le_refl _))).mono ?_
  rintro e w14 ⟨tw14, rfl, how14, hbw14⟩
  have r15 := how14.sb HWF0.out HBD0.out
  obtain ⟨gw14, capw14, hsw14, _⟩ := id how14
  subst hsw14
  have hm := HM.out.step (gb_below hbw14)
  clear fVX00 fVX01 fA00 fA01
  clear HM hbw14 how14
  have fVX00 := (hm.var 1 rfl).c0
  have fVX01 := (hm.var 1 rfl).c1
  have fA00 := (hm.var 4 rfl).c0
  have fA01 := (hm.var 4 rfl).c1
  have HM := Lib.hid hm
  clear hm
  go_wp2_with fail
  refine (HIM.out _ _ r15).mono ?_
  rintro e w16 ⟨uw16, rfl, hrow16, hbw16⟩
  have hrw16 := hrow16.res LBD.out
  clear hrow16
  obtain ⟨aH, nH, hsw16⟩ := hrw16.slice
  subst hsw16
  clear r15
  have hm := (HM.out.pushI hbw16 hrw16)
  clear fVX00 fVX01 fA00 fA01
  clear HM hbw16 hrw16
  have fVX00 := (hm.var 2 rfl).c0
  have fVX01 := (hm.var 2 rfl).c1
  have fA00 := (hm.var 5 rfl).c0
  have fA01 := (hm.var 5 rfl).c1
  have HM := Lib.hid hm
  clear hm
  go_wp2_with fail
  refine (eqInt64S_same _ _ L _ ((HM.out.ints 0 rfl).ib LBD.out) ((HM.out.ints 4 rfl).ib LBD.out)).mono ?_
  rintro e w17 ⟨rfl, hbw17⟩
  have hm := HM.out.step (gb_below hbw17)
  clear fVX00 fVX01 fA00 fA01
  clear HM hbw17
  have fVX00 := (hm.var 2 rfl).c0
  have fVX01 := (hm.var 2 rfl).c1
  have fA00 := (hm.var 5 rfl).c0
  have fA01 := (hm.var 5 rfl).c1
  have HM := Lib.hid hm
  clear hm
  go_wp2_with fail
  refine (HHELD.out _ _ _ (HM.out.ints 1 rfl)).mono ?_
  rintro e w18 ⟨rfl, rfl⟩
  go_wp2
  go_ret
  exact RV_of rfl HM.out.below
set_option maxRecDepth 100000 in
theorem FnExactDegreesOf_long0 (v0 : Int) (s0 : Value) (bs0 : List Blk) (w : World) (h0 : InB w s0 bs0)  (hl : ¬ bs0.length ≤ 1048576) : Calls Try.prog 3 #[.agg #[.int .i64 v0, s0]] w (RV (.bool true) w) := by
  have hsl0 := h0.slice
  have hbd0 := h0.2.1
  have hsz0 := szSystem_any v0 s0 bs0.length hsl0 (by omega) (1048576) (by omega) (by omega)
  rw [if_pos (by omega)] at hsz0
  have HSZ0 := Lib.hid hsz0
  clear hl h0 hsz0 hbd0
  obtain ⟨a0, c0, rfl⟩ := hsl0
  go_enter Try.func3, Try.ntmps3
  go_wp2_with fail
  refine (HSZ0.out _).mono ?_
  rintro e y0 ⟨rfl, hy0⟩
  go_wp2
  go_ret
  exact RV_of rfl (((Below.refl _ _).alloc (by simp <;> omega) _).trans (hy0.mono (by first | (simp <;> omega) | (have := ((Below.refl _ _).alloc (by simp <;> omega) _).size; omega))))
theorem FnExactDegreesOf_any (v0 : Int) (s0 : Value) (bs0 : List Blk) (w : World) (h0 : InB w s0 bs0) : Calls Try.prog 3 #[.agg #[.int .i64 v0, s0]] w (RV (.bool true) w) := by
  by_cases hs0 : bs0.length ≤ 1048576
  case neg => exact FnExactDegreesOf_long0 v0 s0 bs0 w h0   hs0
  exact FnExactDegreesOf_main v0 s0 bs0 w h0 hs0 
end Go.Proofs.Ytmgpmcjbnooklaa

namespace Go.Proofs.Ytmgpmcjbnooklaa
set_option maxRecDepth 100000 in
noncomputable def iniP : { L : List Char // Try.prog.initOrder = String.ofList L } := ⟨_, by unfold Try.prog; rfl⟩
theorem iniL : Try.prog.initOrder.toList = iniP.1 := (congrArg String.toList iniP.2).trans String.toList_ofList
theorem words_cons (c : Char) (r : List Char) (h : c ≠ Char.ofNat 32) : wordsSigns (c :: r) = match wordsSigns r with | w :: ws => (c :: w) :: ws | [] => [[c]] := by
  rw [wordsSigns]
  all_goals first | rfl | exact h | (intro e; exact h e)
theorem words_word : ∀ (a b : List Char), (a.all fun c => c != Char.ofNat 32) = true → wordsSigns (a ++ Char.ofNat 32 :: b) = a :: wordsSigns b
  | [], b, _ => rfl
  | c :: a, b, h => by
    simp only [List.all_cons, Bool.and_eq_true, bne_iff_ne, ne_eq] at h
    rw [List.cons_append, words_cons _ _ h.1, words_word a b (by simpa using h.2)]
set_option maxRecDepth 100000 in
theorem split1 : iniP.1 = iniP.1.take 7 ++ Char.ofNat 32 :: iniP.1.drop 8 := by kernel_rfl
set_option maxRecDepth 100000 in
theorem split2 : iniP.1.drop 8 = (iniP.1.drop 8).take 64 ++ Char.ofNat 32 :: iniP.1.drop 73 := by kernel_rfl
set_option maxRecDepth 100000 in
theorem split3 : iniP.1.drop 73 = (iniP.1.drop 73).take 3 ++ Char.ofNat 32 :: iniP.1.drop 77 := by kernel_rfl
theorem isCut : (iniP.1.drop 73).take 3 = "cut".toList := by kernel_rfl
set_option maxRecDepth 100000 in
theorem isHead : ((iniP.1.take 7 == "harness".toList || iniP.1.take 7 == "ownmain".toList) && isSumSigns ((iniP.1.drop 8).take 64)) = true := by kernel_rfl
theorem wordsL : wordsSigns iniP.1 = iniP.1.take 7 :: (iniP.1.drop 8).take 64 :: "cut".toList :: wordsSigns (iniP.1.drop 77) := by
  rw [← isCut]
  conv => lhs; rw [split1]
  rw [words_word _ _ (by kernel_rfl)]
  conv => lhs; rw [split2]
  rw [words_word _ _ (by kernel_rfl)]
  conv => lhs; rw [split3]
  rw [words_word _ _ (by kernel_rfl)]
theorem behindL : behindMainWord (wordsSigns Try.prog.initOrder.toList) = "cut".toList :: wordsSigns (iniP.1.drop 77) := by
  rw [iniL, wordsL]
  unfold behindMainWord
  simp only [isHead, if_true]
theorem stripL (ws : List (List Char)) : stripLifts liftWords ("cut".toList :: ws) = ([], "cut".toList :: ws) := by kernel_rfl
section
variable (P : Program) (ws : List (List Char)) (h : behindMainWord (wordsSigns P.initOrder.toList) = "cut".toList :: ws)
include h
theorem head_of : P.headLifts = [] := by
  unfold Program.headLifts
  rw [h]
  simp only [stripL]
  kernel_rfl
theorem make_of : P.make = some .cut := by
  unfold Program.make
  rw [h, head_of P ws h]
  kernel_rfl
theorem lifts_of : P.liftsFinal = false := by
  unfold Program.liftsFinal
  rw [h, head_of P ws h]
  kernel_rfl
theorem enter_of (h1 : P.laysLater = false) (h2 : P.bearsReflect = false) (h3 : P.doorFits [] = true) : P.mayEnter = true := by
  unfold Program.mayEnter
  rw [h]
  simp only [stripL]
  rw [h1, h2, h3]
  kernel_rfl
end
theorem mayE : Try.pinned.checked.prog.mayEnter = true := enter_of _ _ behindL (by kernel_rfl) (by kernel_rfl) (by kernel_rfl)
theorem liftsF : Try.pinned.checked.prog.liftsFinal = false := lifts_of _ _ behindL
theorem makeF : Try.pinned.checked.prog.make = some .cut := make_of _ _ behindL
theorem both {a b : Bool} (h : a = true) (k : b = true) : (a && b) = true := by rw [h, k]; rfl
end Go.Proofs.Ytmgpmcjbnooklaa

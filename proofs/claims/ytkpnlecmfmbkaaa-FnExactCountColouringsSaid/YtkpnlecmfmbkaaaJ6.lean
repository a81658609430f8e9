
/- Colourings: plain; the rules of the program. The iterator over all blocks of v points. The pairs of a list of blocks, as a map. The laws' marks in systems. The program's FreeBlocks. Colourings: the program's rules, asked of all blocks. -/
import Derived.Test.YtkpnlecmfmbkaaaJ5
import Derived.StillTailTactics
import Derived.Lib.QuietBelow
namespace Go.Proofs.Ytkpnlecmfmbkaaa
open Go.RowKit Go.Maps Go.Shelf
/-- What a rule says of the colours of a block. -/
def ruleB (strict : Bool) (p q r : Int) : Bool := if strict then decide ((if p = q then 1 else 0) + (if p = r then 1 else 0) + (if q = r then 1 else 0) = 1) else (decide (p ≠ q) || decide (q ≠ r))
def clr (zs : List Int) (a : Int) : Int := zs[a.toNat]?.getD 0
def blkOk (strict : Bool) (zs : List Int) (x : Blk) : Bool := ruleB strict (clr zs x.a) (clr zs x.b) (clr zs x.c)
def clrB (zs : List Int) (x : Blk) : Blk := ⟨clr zs x.a, clr zs x.b, clr zs x.c⟩
set_option maxRecDepth 100000 in
theorem coloursOf_any (s : Value) (zs : List Int) (x : Blk) (w : World) (h : IB w s zs) (ha : 0 ≤ x.a ∧ x.a < zs.length) (hb : 0 ≤ x.b ∧ x.b < zs.length) (hc : 0 ≤ x.c ∧ x.c < zs.length) :
    Calls Try.prog 195 #[s, bv x] w (RV (bv (clrB zs x)) w) := by
  obtain ⟨hl, h⟩ := h
  rcases h with ⟨_, _, _, hnil⟩ | ⟨b, off, cap, rfl, hlt, hI⟩
  · rw [hnil] at ha; simp at ha; omega
  obtain ⟨x1, x2, x3⟩ := x
  dsimp only at ha hb hc
  obtain ⟨i1, rfl⟩ : ∃ i : Nat, x1 = (i : Int) := ⟨x1.toNat, by omega⟩
  obtain ⟨i2, rfl⟩ : ∃ i : Nat, x2 = (i : Int) := ⟨x2.toNat, by omega⟩
  obtain ⟨i3, rfl⟩ : ∃ i : Nat, x3 = (i : Int) := ⟨x3.toNat, by omega⟩
  have c1 := hI i1 (by omega)
  have c2 := hI i2 (by omega)
  have c3 := hI i3 (by omega)
  have HV := Lib.hid (show clrB zs ⟨i1, i2, i3⟩ = ⟨zs[i1]?.getD 0, zs[i2]?.getD 0, zs[i3]?.getD 0⟩ by simp [clrB, clr])
  obtain ⟨z1, hz1⟩ : ∃ z, z = zs[i1]?.getD 0 := ⟨_, rfl⟩
  obtain ⟨z2, hz2⟩ : ∃ z, z = zs[i2]?.getD 0 := ⟨_, rfl⟩
  obtain ⟨z3, hz3⟩ : ∃ z, z = zs[i3]?.getD 0 := ⟨_, rfl⟩
  rw [← hz1] at c1
  rw [← hz2] at c2
  rw [← hz3] at c3
  rw [← hz1, ← hz2, ← hz3] at HV
  rw [HV.out]
  obtain ⟨a1, a2⟩ := ha
  obtain ⟨b1, b2⟩ := hb
  obtain ⟨d1, d2⟩ := hc
  clear hI hz1 hz2 hz3 HV
  unfold bv
  dsimp only
  go_enter Try.func195, Try.ntmps195
  go_wp2_with fail
  have hlt2 : b < w.heap.size := hlt
  have hwa : Below w.heap.size w ((w.alloc (.cells #[.int .i64 (i1 : Int), .int .i64 (i2 : Int), .int .i64 (i3 : Int)] 78)).alloc (.cells #[.int .i64 0, .int .i64 0, .int .i64 0] 78)) := ((Below.refl _ _).alloc (Nat.le_refl _) _).alloc (by simp) _
  have c1 := (hwa.cell (p := ⟨b, off + i1, none⟩) hlt2).trans c1
  have c2 := (hwa.cell (p := ⟨b, off + i2, none⟩) hlt2).trans c2
  have c3 := (hwa.cell (p := ⟨b, off + i3, none⟩) hlt2).trans c3
  have hwb : Below (w.heap.size + 1) (w.alloc (.cells #[.int .i64 (i1 : Int), .int .i64 (i2 : Int), .int .i64 (i3 : Int)] 78)) ((w.alloc (.cells #[.int .i64 (i1 : Int), .int .i64 (i2 : Int), .int .i64 (i3 : Int)] 78)).alloc (.cells #[.int .i64 0, .int .i64 0, .int .i64 0] 78)) := (Below.refl _ _).alloc (by simp) _
  have q0 := (hwb.cell (p := ⟨w.heap.size, 0, none⟩) (by simp)).trans (by simp : _ = some (Value.int .i64 (i1 : Int)))
  have q1 := (hwb.cell (p := ⟨w.heap.size, 1, none⟩) (by simp)).trans (by simp : _ = some (Value.int .i64 (i2 : Int)))
  have q2 := (hwb.cell (p := ⟨w.heap.size, 2, none⟩) (by simp)).trans (by simp : _ = some (Value.int .i64 (i3 : Int)))
  have r0 : ((w.alloc (.cells #[.int .i64 (i1 : Int), .int .i64 (i2 : Int), .int .i64 (i3 : Int)] 78)).alloc (.cells #[.int .i64 0, .int .i64 0, .int .i64 0] 78)).cell? ⟨w.heap.size + 1, 0, none⟩ = some (.int .i64 0) := by rw [show w.heap.size + 1 = (w.alloc (.cells #[.int .i64 (i1 : Int), .int .i64 (i2 : Int), .int .i64 (i3 : Int)] 78)).heap.size by simp]; simp
  have r1 : ((w.alloc (.cells #[.int .i64 (i1 : Int), .int .i64 (i2 : Int), .int .i64 (i3 : Int)] 78)).alloc (.cells #[.int .i64 0, .int .i64 0, .int .i64 0] 78)).cell? ⟨w.heap.size + 1, 1, none⟩ = some (.int .i64 0) := by rw [show w.heap.size + 1 = (w.alloc (.cells #[.int .i64 (i1 : Int), .int .i64 (i2 : Int), .int .i64 (i3 : Int)] 78)).heap.size by simp]; simp
  have r2 : ((w.alloc (.cells #[.int .i64 (i1 : Int), .int .i64 (i2 : Int), .int .i64 (i3 : Int)] 78)).alloc (.cells #[.int .i64 0, .int .i64 0, .int .i64 0] 78)).cell? ⟨w.heap.size + 1, 2, none⟩ = some (.int .i64 0) := by rw [show w.heap.size + 1 = (w.alloc (.cells #[.int .i64 (i1 : Int), .int .i64 (i2 : Int), .int .i64 (i3 : Int)] 78)).heap.size by simp]; simp
  have f0 : ((w.alloc (.cells #[.int .i64 (i1 : Int), .int .i64 (i2 : Int), .int .i64 (i3 : Int)] 78)).alloc (.cells #[.int .i64 0, .int .i64 0, .int .i64 0] 78)).frozen? ⟨w.heap.size + 1, 0, none⟩ = false := by rw [show w.heap.size + 1 = (w.alloc (.cells #[.int .i64 (i1 : Int), .int .i64 (i2 : Int), .int .i64 (i3 : Int)] 78)).heap.size by simp]; simp [go_sem]
  have f1 : ((w.alloc (.cells #[.int .i64 (i1 : Int), .int .i64 (i2 : Int), .int .i64 (i3 : Int)] 78)).alloc (.cells #[.int .i64 0, .int .i64 0, .int .i64 0] 78)).frozen? ⟨w.heap.size + 1, 1, none⟩ = false := by rw [show w.heap.size + 1 = (w.alloc (.cells #[.int .i64 (i1 : Int), .int .i64 (i2 : Int), .int .i64 (i3 : Int)] 78)).heap.size by simp]; simp [go_sem]
  have f2 : ((w.alloc (.cells #[.int .i64 (i1 : Int), .int .i64 (i2 : Int), .int .i64 (i3 : Int)] 78)).alloc (.cells #[.int .i64 0, .int .i64 0, .int .i64 0] 78)).frozen? ⟨w.heap.size + 1, 2, none⟩ = false := by rw [show w.heap.size + 1 = (w.alloc (.cells #[.int .i64 (i1 : Int), .int .i64 (i2 : Int), .int .i64 (i3 : Int)] 78)).heap.size by simp]; simp [go_sem]
  obtain ⟨w1, hw1⟩ : ∃ w1, w1 = ((w.alloc (.cells #[.int .i64 (i1 : Int), .int .i64 (i2 : Int), .int .i64 (i3 : Int)] 78)).alloc (.cells #[.int .i64 0, .int .i64 0, .int .i64 0] 78)) := ⟨_, rfl⟩
  rw [← hw1] at c1 c2 c3 q0 q1 q2 r0 r1 r2 f0 f1 f2 hwa ⊢
  have hz1 : w.heap.size + 1 < w1.heap.size := by rw [hw1]; simp
  clear hw1 hwb
  go_still_tail 16, (by kernel_rfl)
  change wpList _ _ _ _ _ w1.drew
  have HWA := Lib.hid (show Below w.heap.size w w1.drew from hwa.drew)
  replace r0 : w1.drew.cell? ⟨w.heap.size + 1, 0, none⟩ = some (.int .i64 0) := r0
  replace r1 : w1.drew.cell? ⟨w.heap.size + 1, 1, none⟩ = some (.int .i64 0) := r1
  replace r2 : w1.drew.cell? ⟨w.heap.size + 1, 2, none⟩ = some (.int .i64 0) := r2
  replace f0 : w1.drew.frozen? ⟨w.heap.size + 1, 0, none⟩ = false := f0
  replace f1 : w1.drew.frozen? ⟨w.heap.size + 1, 1, none⟩ = false := f1
  replace f2 : w1.drew.frozen? ⟨w.heap.size + 1, 2, none⟩ = false := f2
  have hz3 : w.heap.size + 1 < w1.drew.heap.size := hz1
  obtain ⟨w3, hw3⟩ : ∃ w3, w3 = w1.drew := ⟨_, rfl⟩
  rw [← hw3] at r0 r1 r2 f0 f1 f2 hz3 HWA ⊢
  clear hw3 c1 c2 c3 q0 q1 q2 hwa
  go_wp2
  refine bodyPost_ret (v := .agg #[.int .i64 z1, .int .i64 z2, .int .i64 z3]) (by simp [results, Try.results195, go_sem, *]) rfl ?_
  exact RV_of rfl (((HWA.out.setCell (p := ⟨w.heap.size + 1, 0, none⟩) (by simp) _).setCell (p := ⟨w.heap.size + 1, 1, none⟩) (by simp) _).setCell (p := ⟨w.heap.size + 1, 2, none⟩) (by simp) _)
theorem allows1_any (x : Blk) (w : World) : Calls Try.prog 301 #[.agg #[], bv x] w (RV (.bool (ruleB false x.a x.b x.c)) w) := by
  obtain ⟨a, b, c⟩ := x
  unfold bv
  dsimp only
  by_cases h1 : a = b
  · subst h1
    by_cases h2 : a = c
    · subst h2
      go_enter Try.func301, Try.ntmps301
      go_wp2
      go_ret
      exact RV_of (bool_eq (by simp [ruleB])) (((Below.refl _ _).alloc (Nat.le_refl _) _).alloc (by simp) _)
    · have e2 : (a != c) = true := by simpa using h2
      go_enter Try.func301, Try.ntmps301
      go_wp2
      go_ret
      exact RV_of (bool_eq (by simp [ruleB, h2])) (((Below.refl _ _).alloc (Nat.le_refl _) _).alloc (by simp) _)
  · have e1 : (a != b) = true := by simpa using h1
    go_enter Try.func301, Try.ntmps301
    go_wp2
    go_ret
    exact RV_of (bool_eq (by simp [ruleB, h1])) (((Below.refl _ _).alloc (Nat.le_refl _) _).alloc (by simp) _)
theorem oneIf_any (b : Bool) (w : World) : Calls Try.prog 303 #[.bool b] w (RS (.int .i64 (if b then 1 else 0)) w) := by
  cases b with
  | false =>
    go_enter Try.func303, Try.ntmps303
    go_wp2
    go_ret
    exact RS_of rfl
  | true =>
    go_enter Try.func303, Try.ntmps303
    go_wp2
    go_ret
    exact RS_of rfl
end Go.Proofs.Ytkpnlecmfmbkaaa

namespace Go.Proofs.Ytkpnlecmfmbkaaa
open Go.RowKit Go.Maps Go.Shelf
attribute [local go_sem] Oper.semAt_some
def rowC (a b n : Nat) : List Blk := (List.range n).map fun (t : Nat) => ⟨(a : Int), (b : Int), ((b + 1 + t : Nat) : Int)⟩
def rowB (v a n : Nat) : List Blk := (List.range n).flatMap fun (t : Nat) => rowC a (a + 1 + t) (v - (a + 1 + t + 1))
def rowA (v n : Nat) : List Blk := (List.range n).flatMap fun (t : Nat) => rowB v t (v - (t + 1))
theorem rowC_succ (a b n : Nat) : rowC a b (n + 1) = rowC a b n ++ [⟨(a : Int), (b : Int), ((b + 1 + n : Nat) : Int)⟩] := by simp [rowC, List.range_succ]
theorem rowB_succ (v a n : Nat) : rowB v a (n + 1) = rowB v a n ++ rowC a (a + 1 + n) (v - (a + 1 + n + 1)) := by simp [rowB, List.range_succ]
theorem rowA_succ (v n : Nat) : rowA v (n + 1) = rowA v n ++ rowB v n (v - (n + 1)) := by simp [rowA, List.range_succ]
theorem wf_small {a : Nat} (h : a ≤ 15) : WF (a : Int) := by
  have : (a : Int) = wrap64 (a : Int) := by unfold wrap64; omega
  unfold WF
  rw [this]
  exact wrap64_wf _
theorem wfb_small {a b c : Nat} (ha : a ≤ 15) (hb : b ≤ 15) (hc : c ≤ 15) : WFB ⟨(a : Int), (b : Int), (c : Int)⟩ := ⟨wf_small ha, wf_small hb, wf_small hc⟩
theorem flat_len {α : Type} (f : Nat → List α) (m : Nat) : ∀ n : Nat, (∀ t, t < n → (f t).length ≤ m) → ((List.range n).flatMap f).length ≤ n * m
  | 0, _ => by simp
  | n + 1, h => by
    have ih := flat_len f m n (fun t ht => h t (by omega))
    have h1 := h n (by omega)
    rw [List.range_succ, List.flatMap_append, List.length_append, Nat.succ_mul, List.flatMap_cons, List.flatMap_nil, List.append_nil]
    omega
theorem rowC_len (a b n : Nat) : (rowC a b n).length = n := by simp [rowC]
theorem rowB_len {v a n : Nat} (hv : v ≤ 15) : (rowB v a n).length ≤ n * 15 := flat_len _ 15 n fun t _ => by rw [rowC_len]; omega
theorem rowA_len {v n : Nat} (hv : v ≤ 15) : (rowA v n).length ≤ n * 225 := flat_len _ 225 n fun t _ => by
  have := rowB_len (v := v) (a := t) (n := v - (t + 1)) hv
  omega
/-- A block of three int64. -/
abbrev WB := { x : Blk // WFB x }
end Go.Proofs.Ytkpnlecmfmbkaaa

namespace Go.Proofs.Ytkpnlecmfmbkaaa
open Go.RowKit Go.Maps
end Go.Proofs.Ytkpnlecmfmbkaaa

namespace Go.Proofs.Ytkpnlecmfmbkaaa
open Go.RowKit Go.Maps
theorem gb_trans {a b c : World} {row : Option Nat} (h : a.grownBy b none) (k : b.grownBy c row) : a.grownBy c row :=
  ⟨k.os.trans h.os, k.tape.trans h.tape, k.output.trans h.output, Nat.le_trans h.size k.size, fun i hi hne => (k.block i (Nat.lt_of_lt_of_le hi h.size) hne).trans (h.block i hi (by simp))⟩
theorem gb_below {a b : World} (h : Below a.heap.size a b) : a.grownBy b none := only_of_below h none
theorem ResR.slice {w : World} {lo hi : Nat} {s : Value} {bs : List Blk} (h : ResR w lo hi s bs) : ∃ a c, s = .slice a bs.length c := by
  rcases h with ⟨rfl, a, c, rfl⟩ | ⟨g, cap, rfl, _⟩ <;> exact ⟨_, _, rfl⟩
set_option maxRecDepth 100000 in
theorem markSystem_any (lo hi : Nat) (v : Int) (s : Value) (bs : List Blk) (k : Int) (w : World) (h : ResR w lo hi s bs) (hl : bs.length ≤ 1100000) (h0 : 0 ≤ k) (h1 : k ≤ 9000000) :
    Calls Try.prog 31 #[.agg #[.int .i64 v, s], .int .i64 k] w (fun e w' => e = .returned (.int .i64 (k + 3 * bs.length)) ∧ (∃ row, w.grownBy w' row ∧ ∀ r, row = some r → lo ≤ r ∧ r < hi) ∧ ResR w' lo hi s (markL k bs.length)) := by
  have hc := markR lo hi s bs k (w.alloc (.cells #[.int .i64 v, s] 32)) (h.below ((Below.refl _ _).alloc (Nat.le_refl _) _) (Nat.le_refl _)) hl h0 h1
  have hs := h.slice
  have HC := Lib.hid hc
  clear hc h
  obtain ⟨a, c, rfl⟩ := hs
  go_enter Try.func31, Try.ntmps31
  go_wp2_with (go_at_call 91; refine HC.out.mono ?_; rintro e w1 ⟨rfl, hg, hr⟩)
  go_ret
  obtain ⟨row, hg, hrow⟩ := hg
  exact ⟨rfl, ⟨row, gb_trans (World.grownBy_alloc _ _ none) hg, hrow⟩, hr⟩
end Go.Proofs.Ytkpnlecmfmbkaaa

namespace Go.Proofs.Ytkpnlecmfmbkaaa
open Go.RowKit Go.Maps Go.Shelf
attribute [local go_sem] Oper.semAt_some
/-- The blocks that are free of the pairs of bs. -/
def frL (bs : List Blk) (pre : List WB) : List Blk := (pre.map (·.1)).filter (freeB (bs.flatMap pairsL))
theorem frL_snoc (bs : List Blk) (pre : List WB) (x : WB) : frL bs (pre ++ [x]) = frL bs pre ++ if freeB (bs.flatMap pairsL) x.1 then [x.1] else [] := by
  unfold frL
  rw [List.map_append, List.filter_append]
  congr 1
  simp [List.filter_cons]
theorem frL_len (bs : List Blk) (pre : List WB) : (frL bs pre).length ≤ pre.length := by
  unfold frL
  refine Nat.le_trans (List.length_filter_le _ _) ?_
  simp
theorem own_ne {W : World} {n₁ : Nat} {e : TypeId} {size : Nat} {v : Value} {k : Nat} {xs : List Value} (hrow : W.ownsRow n₁ e size v k xs) {j : Nat} (hj : j < n₁) : some j ≠ v.ownBlock := fun ej => by
  rcases hrow.2 with ⟨rfl, _⟩ | ⟨g, cap, cur, rfl, hb, _, _⟩
  · simp [Value.ownBlock] at ej
  · obtain rfl : j = g := by simpa [Value.ownBlock] using ej
    omega
theorem cell_three_new (W : World) (y : Blk) (T : TypeId) : ∀ j u, (cells3 y)[j]? = some u → (W.alloc (.cells #[.int .i64 y.a, .int .i64 y.b, .int .i64 y.c] T)).cell? ((⟨W.heap.size, 0, none⟩ : Addr).add j) = some u := by
  intro j u hj
  rw [addr_at, Nat.zero_add]
  match j, hj with
  | 0, hj => simp [cells3] at hj; rw [← hj]; exact new_at 0 rfl
  | 1, hj => simp [cells3] at hj; rw [← hj]; exact new_at 1 rfl
  | 2, hj => simp [cells3] at hj; rw [← hj]; exact new_at 2 rfl
  | j + 3, hj => simp [cells3] at hj
end Go.Proofs.Ytkpnlecmfmbkaaa

namespace Go.Proofs.Ytkpnlecmfmbkaaa
open Go.RowKit Go.Maps Go.Shelf
set_option maxRecDepth 100000 in
set_option maxHeartbeats 1000000 in
theorem allows2_any (x : Blk) (w : World) : Calls Try.prog 302 #[.agg #[], bv x] w (RV (.bool (ruleB true x.a x.b x.c)) w) := by
  obtain ⟨a, b, c⟩ := x
  have OT : Hid (∀ W, Calls Try.prog 303 #[.bool true] W (RS (.int .i64 1) W)) := Lib.hid fun W => oneIf_any true W
  have OF : Hid (∀ W, Calls Try.prog 303 #[.bool false] W (RS (.int .i64 0) W)) := Lib.hid fun W => oneIf_any false W
  unfold bv
  dsimp only
  by_cases h1 : a = b
  · subst h1
    by_cases h2 : a = c
    · subst h2
      go_enter Try.func302, Try.ntmps302
      go_wp2_with fail
      go_quiet (first | exact RS.quiet (OT.out _) | exact RS.quiet (OF.out _))
      go_wp2
      go_ret
      exact RV_of (bool_eq (by simp_all [ruleB] <;> omega)) (below_drewN (((Below.refl _ _).alloc (Nat.le_refl _) _).alloc (by simp) _) _)
    · have e2 : (a == c) = false := by simpa using h2
      have d2 : decide (a = c) = false := by simpa using h2
      go_enter Try.func302, Try.ntmps302
      go_wp2_with fail
      go_quiet (first | exact RS.quiet (OT.out _) | exact RS.quiet (OF.out _))
      go_wp2
      go_ret
      exact RV_of (bool_eq (by simp_all [ruleB] <;> omega)) (below_drewN (((Below.refl _ _).alloc (Nat.le_refl _) _).alloc (by simp) _) _)
  · have e1 : (a == b) = false := by simpa using h1
    have d1 : decide (a = b) = false := by simpa using h1
    by_cases h2 : a = c
    · subst h2
      have e3 : (b == a) = false := by simp; omega
      have d3 : decide (b = a) = false := by simp; omega
      go_enter Try.func302, Try.ntmps302
      go_wp2_with fail
      go_quiet (first | exact RS.quiet (OT.out _) | exact RS.quiet (OF.out _))
      go_wp2
      go_ret
      exact RV_of (bool_eq (by simp_all [ruleB] <;> omega)) (below_drewN (((Below.refl _ _).alloc (Nat.le_refl _) _).alloc (by simp) _) _)
    · have e2 : (a == c) = false := by simpa using h2
      have d2 : decide (a = c) = false := by simpa using h2
      by_cases h3 : b = c
      · subst h3
        go_enter Try.func302, Try.ntmps302
        go_wp2_with fail
        go_quiet (first | exact RS.quiet (OT.out _) | exact RS.quiet (OF.out _))
        go_wp2
        go_ret
        exact RV_of (bool_eq (by simp_all [ruleB] <;> omega)) (below_drewN (((Below.refl _ _).alloc (Nat.le_refl _) _).alloc (by simp) _) _)
      · have e3 : (b == c) = false := by simpa using h3
        have d3 : decide (b = c) = false := by simpa using h3
        go_enter Try.func302, Try.ntmps302
        go_wp2_with fail
        go_quiet (first | exact RS.quiet (OT.out _) | exact RS.quiet (OF.out _))
        go_wp2
        go_ret
        exact RV_of (bool_eq (by simp_all [ruleB] <;> omega)) (below_drewN (((Below.refl _ _).alloc (Nat.le_refl _) _).alloc (by simp) _) _)
theorem keeps1_any (c k : Int) (B : Nat) (w : World) (h : w.cell? ⟨B, 0, none⟩ = some (.int .i64 k)) : Calls Try.prog 191 #[.int .i64 c, .pointer (some ⟨B, 0, none⟩)] w (RS (.bool (!(decide (0 ≤ c) && decide (c < k)))) w) := by
  by_cases h1 : c < 0
  · have e1 : decide (c < 0) = true := by simpa using h1
    go_enter Try.func191, Try.ntmps191
    go_wp2
    go_ret
    exact RS_of (bool_eq (by rw [show decide (0 ≤ c) = false by simp; omega]; rfl))
  · have e1 : decide (c < 0) = false := by simp; omega
    go_enter Try.func191, Try.ntmps191
    go_wp2
    go_ret
    exact RS_of (bool_eq (by rw [Bool.eq_iff_iff]; simp; try omega))
/-- Are the first j colours in range? -/
def inK (k : Int) (zs : List Int) : Bool := zs.all fun c => decide (0 ≤ c) && decide (c < k)
set_option maxRecDepth 100000 in
theorem IdxF1_any (s : Value) (zs : List Int) (k : Int) (B : Nat) (w : World) (h : IB w s zs) (hB : w.cell? ⟨B, 0, none⟩ = some (.int .i64 k)) :
    Calls Try.prog 226 #[s, .func (.func 191) #[] #[.pointer (some ⟨B, 0, none⟩)]] w (fun e w' => ∃ z : Int, e = .returned (.int .i64 z) ∧ w = w' ∧ decide (z ≥ 0) = !(inK k zs)) := by
  obtain ⟨hl, h⟩ := h
  have hform : ∃ a c, s = .slice a zs.length c := by rcases h with ⟨a, c, rfl, rfl⟩ | ⟨b, off, cap, rfl, _⟩ <;> exact ⟨_, _, rfl⟩
  have HI := Lib.hid h
  have HK := Lib.hid fun c => keeps1_any c k B w hB
  clear h hB
  obtain ⟨a, c, rfl⟩ := hform
  go_enter Try.func226, Try.ntmps226
  go_wp2
  go_loop [8] (fun i => ∃ j : Nat, j ≤ zs.length ∧ i = .int .i64 j ∧ Hid (inK k zs = inK k (zs.drop j))) (fun i => zs.length - (intOf i).toNat)
  case atStart => exact ⟨0, Nat.zero_le _, rfl, Lib.hid rfl⟩
  case round =>
    obtain ⟨j, hj, rfl, HR⟩ := hrel
    by_cases hjl : j < zs.length
    · rcases HI.out with ⟨_, _, _, hnil⟩ | ⟨b, off, cap, hval, hlt, hI⟩
      · rw [hnil] at hjl; simp at hjl
      simp at hval
      obtain ⟨rfl, rfl⟩ := hval
      have c0 := hI j hjl
      have HD := Lib.hid (show inK k (zs.drop j) = ((decide (0 ≤ zs[j]?.getD 0) && decide (zs[j]?.getD 0 < k)) && inK k (zs.drop (j + 1))) by unfold inK; rw [List.drop_eq_getElem_cons hjl, List.all_cons]; simp [hjl])
      obtain ⟨z, hz⟩ : ∃ z, z = zs[j]?.getD 0 := ⟨_, rfl⟩
      rw [← hz] at c0 HD
      have HK1 := Lib.hid (HK.out z)
      obtain ⟨β, hβ⟩ : ∃ β, β = (decide (0 ≤ z) && decide (z < k)) := ⟨_, rfl⟩
      rw [← hβ] at HD HK1
      have g0 : (0 : Int) ≤ (j : Int) := by omega
      have g1 : (j : Int) < (zs.length : Int) := by omega
      clear hI hz hβ HK
      cases β with
      | true =>
        have HN := Lib.hid (show inK k zs = inK k (zs.drop (j + 1)) by rw [HR.out, HD.out]; rfl)
        clear HD
        go_wp2_with fail
        refine HK1.out.mono ?_
        rintro e w2 ⟨rfl, rfl⟩
        go_wp2
        go_round
        case rel => exact ⟨j + 1, by omega, by go_num, HN⟩
        case measure => simp [intOf]; omega
      | false =>
        have HN := Lib.hid (show inK k zs = false by rw [HR.out, HD.out]; rfl)
        clear HD
        go_wp2_with fail
        refine HK1.out.mono ?_
        rintro e w2 ⟨rfl, rfl⟩
        go_wp2
        go_ret
        exact ⟨_, rfl, rfl, by rw [HN.out]; simp⟩
    · have HN := Lib.hid (show inK k zs = true by rw [HR.out, show j = zs.length by omega, List.drop_length]; rfl)
      go_wp2
      go_ret
      exact ⟨_, rfl, rfl, by rw [HN.out]; simp⟩
theorem ContF1_any (s : Value) (zs : List Int) (k : Int) (B : Nat) (w : World) (h : IB w s zs) (hB : w.cell? ⟨B, 0, none⟩ = some (.int .i64 k)) :
    Calls Try.prog 193 #[s, .func (.func 191) #[] #[.pointer (some ⟨B, 0, none⟩)]] w (RS (.bool (!(inK k zs))) w) := by
  have HI := Lib.hid (IdxF1_any s zs k B w h hB)
  obtain ⟨a, c, rfl⟩ := h.form
  clear h hB
  go_enter Try.func193, Try.ntmps193
  go_wp2_with fail
  refine HI.out.mono ?_
  rintro e w2 ⟨z, rfl, rfl, hz⟩
  go_wp2
  go_ret
  exact RS_of rfl
theorem nil_one (W : World) : Sem.run Try.prog (nilAhead (Try.prog.types.size + Made.depth) 113 (.agg #[]) "loop.example/g01355/impl.allows") W = .ok (some false) W := by kernel_rfl
theorem nil_two (W : World) : Sem.run Try.prog (nilAhead (Try.prog.types.size + Made.depth) 114 (.agg #[]) "loop.example/g01355/impl.allows") W = .ok (some false) W := by kernel_rfl
theorem run_nilMethod {P : Program} {ρ : Operand → Value} {o : Oper} (x : Operand) (h : o.op = .nilCheck x) {name : String} {t : TypeId} {v : Value} {cap : Array Value} (hx : ρ x = .func (.method name) #[.iface t v] cap)
    (hn : ∀ W, Sem.run P (nilAhead (P.types.size + Made.depth) t v name) W = .ok (some false) W) (w : World) : (execOp ρ o).run P w = .ok (.value (.func (.method name) #[.iface t v] cap)) w := by
  have h2 : Sem.run P (nilAhead (P.types.size + 100) t v name) w = .ok (some false) w := hn w
  unfold execOp
  rw [h]
  simp [go_sem, hx, h2]
theorem quiet_nilMethod {P : Program} {C : World → Prop} {a : Act} {o : Oper} {K : Act → Prop} (x : Operand) (h : o.op = .nilCheck x) {name : String} {t : TypeId} {v : Value} {cap : Array Value} (hx : a.eval x = .func (.method name) #[.iface t v] cap)
    (hn : ∀ W, Sem.run P (nilAhead (P.types.size + Made.depth) t v name) W = .ok (some false) W) (hk : K (a.put o.dst (.func (.method name) #[.iface t v] cap))) : o.quiet P a C K :=
  ⟨_, fun w _ => by unfold Oper.quietAt; rw [run_nilMethod x h hx hn]; exact ⟨rfl, rfl⟩, hk⟩
theorem inv_one (v : Value) (W : World) : Sem.run Try.prog (callMethod (.iface 113 (.agg #[])) "loop.example/g01355/impl.allows" #[v]) W = .ok (.enter 301 #[.agg #[], v]) W := by kernel_rfl
theorem inv_two (v : Value) (W : World) : Sem.run Try.prog (callMethod (.iface 114 (.agg #[])) "loop.example/g01355/impl.allows" #[v]) W = .ok (.enter 302 #[.agg #[], v]) W := by kernel_rfl
theorem run_invoke {P : Program} {ρ : Operand → Value} {o : Oper} (x y : Operand) {name : String} {ats : Array TypeId} (h : o.op = .call { callee := .invoke x name, args := #[y], argTypes := ats }) {t : TypeId} {v y' : Value} (hx : ρ x = .iface t v) (hy : ρ y = y')
    {f : FuncId} {vs : Array Value} (hi : ∀ W, Sem.run P (callMethod (.iface t v) name #[y']) W = .ok (.enter f vs) W) (w : World) : (execOp ρ o).run P w = .ok (.enter f vs) w := by
  have h2 := hi w
  unfold execOp
  rw [h]
  simp only [resolve, invoke, Sem.run_bind, Sem.run_pure, Result.andThen_ok, List.map_toArray, List.map_cons, List.map_nil, hx, hy]
  exact h2
theorem quiet_invoke {P : Program} {C : World → Prop} {a : Act} {o : Oper} {K : Act → Prop} (x y : Operand) {name : String} {ats : Array TypeId} (h : o.op = .call { callee := .invoke x name, args := #[y], argTypes := ats }) {t : TypeId} {v y' : Value} (hx : a.eval x = .iface t v) (hy : a.eval y = y')
    {f : FuncId} {vs : Array Value} (hi : ∀ W, Sem.run P (callMethod (.iface t v) name #[y']) W = .ok (.enter f vs) W) (u : Value) (hc : ∀ w, C w → Calls P f vs w (fun e w'' => e = .returned u ∧ C w'')) (hk : K (a.put o.dst u)) : o.quiet P a C K :=
  ⟨u, fun w hw => by unfold Oper.quietAt; rw [run_invoke x y h hx hy hi]; exact ⟨rfl, hc w hw⟩, hk⟩
def ruleV (strict : Bool) : Value := if strict then .iface 114 (.agg #[]) else .iface 113 (.agg #[])
def inB3 (n : Nat) (x : Blk) : Prop := (0 ≤ x.a ∧ x.a < n) ∧ (0 ≤ x.b ∧ x.b < n) ∧ (0 ≤ x.c ∧ x.c < n)
theorem allowsF_any (x : Blk) (W : World) : Calls Try.prog 301 #[.agg #[], bv x] W (RV (.bool (ruleB false x.a x.b x.c)) W) := allows1_any x W
set_option maxRecDepth 100000 in
set_option maxHeartbeats 1000000 in
theorem keeps2_any (strict : Bool) (s : Value) (zs : List Int) (x : Blk) (Br Bc : Nat) (w : World) (h : IB w s zs) (hx : inB3 zs.length x) (hr : w.cell? ⟨Br, 0, none⟩ = some (ruleV strict)) (hc : w.cell? ⟨Bc, 0, none⟩ = some s) (hrl : Br < w.heap.size) (hcl : Bc < w.heap.size) :
    Calls Try.prog 194 #[bv x, .pointer (some ⟨Br, 0, none⟩), .pointer (some ⟨Bc, 0, none⟩)] w (RV (.bool (!(blkOk strict zs x))) w) := by
  obtain ⟨a, c, rfl⟩ := h.form
  have HC := Lib.hid fun W (hb : Below w.heap.size w W) => coloursOf_any _ zs x W (h.below hb (Nat.le_refl _)) hx.1 hx.2.1 hx.2.2
  obtain ⟨y, hy⟩ : ∃ y, y = clrB zs x := ⟨_, rfl⟩
  have HY := Lib.hid (show blkOk strict zs x = ruleB strict y.a y.b y.c by rw [hy]; rfl)
  rw [← hy] at HC
  clear hy h hx
  have hb0 := (Below.refl w.heap.size w).alloc (Nat.le_refl _) (.cells #[.int .i64 x.a, .int .i64 x.b, .int .i64 x.c] 78)
  have hr := (hb0.cell hrl).trans hr
  have hc := (hb0.cell hcl).trans hc
  obtain ⟨xa, xb, xc⟩ := x
  cases strict with
  | false =>
    have HA := Lib.hid fun W => allows1_any y W
    obtain ⟨ya, yb, yc⟩ := y
    unfold bv at HC HA ⊢
    unfold ruleV at hr
    dsimp only at HC HA HY hb0 hr hc ⊢
    obtain ⟨β, hβ⟩ : ∃ β, β = ruleB false ya yb yc := ⟨_, rfl⟩
    rw [← hβ] at HA HY
    clear hβ
    rw [HY.out]
    go_enter Try.func194, Try.ntmps194
    go_wp2_with fail
    have r0 := cell_regrown (v := .iface 113 (.agg #[])) hr
    have r1 := cell_regrown hc
    have r2 := cell_regrown (by simp : (w.alloc (.cells #[.int .i64 xa, .int .i64 xb, .int .i64 xc] 78)).cell? ⟨w.heap.size, 0, none⟩ = some (.int .i64 xa))
    have r3 := cell_regrown (by simp : (w.alloc (.cells #[.int .i64 xa, .int .i64 xb, .int .i64 xc] 78)).cell? ⟨w.heap.size, 1, none⟩ = some (.int .i64 xb))
    have r4 := cell_regrown (by simp : (w.alloc (.cells #[.int .i64 xa, .int .i64 xb, .int .i64 xc] 78)).cell? ⟨w.heap.size, 2, none⟩ = some (.int .i64 xc))
    refine wp_region_quiet_below (by kernel_rfl) (by kernel_rfl) ?_
    repeat (go_big_quiet_step (first | exact Calls.regrown_of (HC.out _ (hb0.trans ((below_regrown _ _ _).mono (by simp)))) | exact Calls.regrown_of (HA.out _)))
    refine wpQuiet_step fun K hK => ?_
    rw [if_pos (by rfl)]
    refine quiet_nilMethod _ rfl (by rfl) nil_one ?_
    go_simp
    refine hK _ ?_
    clear hK K
    repeat (go_big_quiet_step (first | exact Calls.regrown_of (HC.out _ (hb0.trans ((below_regrown _ _ _).mono (by simp)))) | exact Calls.regrown_of (HA.out _)))
    refine wpQuiet_step fun K hK => ?_
    rw [if_pos (by rfl)]
    refine quiet_invoke _ _ rfl (by rfl) (by rfl) (inv_one _) _ (by rintro _ ⟨p, rfl⟩; exact Calls.regrown_of (HA.out _)) ?_
    go_simp
    refine hK _ ?_
    clear hK K
    repeat (go_big_quiet_step (fail))
    refine wpQuiet_nil ?_
    intro _ hw'
    obtain ⟨⟨dq, osq⟩, hw''⟩ := hw'
    have hbq := below_regrown (w.alloc (.cells #[.int .i64 xa, .int .i64 xb, .int .i64 xc] 78)) dq osq
    rw [← hw''] at hbq
    clear hw'' r0 r1 r2 r3 r4
    go_wp2
    go_ret
    exact RV_of rfl (hb0.trans (hbq.mono hb0.size))
  | true =>
    have HA := Lib.hid fun W => allows2_any y W
    obtain ⟨ya, yb, yc⟩ := y
    unfold bv at HC HA ⊢
    unfold ruleV at hr
    dsimp only at HC HA HY hb0 hr hc ⊢
    obtain ⟨β, hβ⟩ : ∃ β, β = ruleB true ya yb yc := ⟨_, rfl⟩
    rw [← hβ] at HA HY
    clear hβ
    rw [HY.out]
    go_enter Try.func194, Try.ntmps194
    go_wp2_with fail
    have r0 := cell_regrown (v := .iface 114 (.agg #[])) hr
    have r1 := cell_regrown hc
    have r2 := cell_regrown (by simp : (w.alloc (.cells #[.int .i64 xa, .int .i64 xb, .int .i64 xc] 78)).cell? ⟨w.heap.size, 0, none⟩ = some (.int .i64 xa))
    have r3 := cell_regrown (by simp : (w.alloc (.cells #[.int .i64 xa, .int .i64 xb, .int .i64 xc] 78)).cell? ⟨w.heap.size, 1, none⟩ = some (.int .i64 xb))
    have r4 := cell_regrown (by simp : (w.alloc (.cells #[.int .i64 xa, .int .i64 xb, .int .i64 xc] 78)).cell? ⟨w.heap.size, 2, none⟩ = some (.int .i64 xc))
    refine wp_region_quiet_below (by kernel_rfl) (by kernel_rfl) ?_
    repeat (go_big_quiet_step (first | exact Calls.regrown_of (HC.out _ (hb0.trans ((below_regrown _ _ _).mono (by simp)))) | exact Calls.regrown_of (HA.out _)))
    refine wpQuiet_step fun K hK => ?_
    rw [if_pos (by rfl)]
    refine quiet_nilMethod _ rfl (by rfl) nil_two ?_
    go_simp
    refine hK _ ?_
    clear hK K
    repeat (go_big_quiet_step (first | exact Calls.regrown_of (HC.out _ (hb0.trans ((below_regrown _ _ _).mono (by simp)))) | exact Calls.regrown_of (HA.out _)))
    refine wpQuiet_step fun K hK => ?_
    rw [if_pos (by rfl)]
    refine quiet_invoke _ _ rfl (by rfl) (by rfl) (inv_two _) _ (by rintro _ ⟨p, rfl⟩; exact Calls.regrown_of (HA.out _)) ?_
    go_simp
    refine hK _ ?_
    clear hK K
    repeat (go_big_quiet_step (fail))
    refine wpQuiet_nil ?_
    intro _ hw'
    obtain ⟨⟨dq, osq⟩, hw''⟩ := hw'
    have hbq := below_regrown (w.alloc (.cells #[.int .i64 xa, .int .i64 xb, .int .i64 xc] 78)) dq osq
    rw [← hw''] at hbq
    clear hw'' r0 r1 r2 r3 r4
    go_wp2
    go_ret
    exact RV_of rfl (hb0.trans (hbq.mono hb0.size))
/-- What a rule says of all blocks. -/
def allOk (strict : Bool) (zs : List Int) (bs : List Blk) : Bool := bs.all (blkOk strict zs)
theorem allOk_drop {strict : Bool} {zs : List Int} {bs : List Blk} {k : Nat} (hk : k < bs.length) : allOk strict zs (bs.drop k) = (blkOk strict zs (bs[k]?.getD default) && allOk strict zs (bs.drop (k + 1))) := by
  unfold allOk
  rw [List.drop_eq_getElem_cons hk, List.all_cons]
  simp [hk]
set_option maxRecDepth 100000 in
set_option maxHeartbeats 1000000 in
theorem IdxF2_any (strict : Bool) (s t : Value) (bs : List Blk) (zs : List Int) (Br Bc : Nat) (w : World) (h : SB w s bs) (ht : IB w t zs) (hx : ∀ x ∈ bs, inB3 zs.length x) (hr : w.cell? ⟨Br, 0, none⟩ = some (ruleV strict)) (hc : w.cell? ⟨Bc, 0, none⟩ = some t) (hrl : Br < w.heap.size) (hcl : Bc < w.heap.size) :
    Calls Try.prog 247 #[s, .func (.func 194) #[] #[.pointer (some ⟨Br, 0, none⟩), .pointer (some ⟨Bc, 0, none⟩)]] w (fun e w' => ∃ z : Int, e = .returned (.int .i64 z) ∧ Below w.heap.size w w' ∧ decide (z ≥ 0) = !(allOk strict zs bs)) := by
  have hs := h.slice
  have hl := h.2.1
  have H := Lib.hid h
  have HX := Lib.hid hx
  have HK := Lib.hid fun (x : Blk) (hx : inB3 zs.length x) W (hb : Below w.heap.size w W) => keeps2_any strict t zs x Br Bc W (ht.below hb (Nat.le_refl _)) hx ((hb.cell hrl).trans hr) ((hb.cell hcl).trans hc) (Nat.lt_of_lt_of_le hrl hb.size) (Nat.lt_of_lt_of_le hcl hb.size)
  clear h hx ht hr hc hrl hcl
  obtain ⟨a0, c0, rfl⟩ := hs
  go_enter Try.func247, Try.ntmps247
  go_wp2
  go_loopw [8] (fun i wr => ∃ k : Nat, k ≤ bs.length ∧ i = .int .i64 k ∧ Below w.heap.size w wr ∧ Hid (allOk strict zs bs = allOk strict zs (bs.drop k))) (fun i _ => bs.length - (intOf i).toNat)
  case atStart => exact ⟨0, Nat.zero_le _, rfl, Below.refl _ _, Lib.hid rfl⟩
  case round =>
    obtain ⟨k, hk, rfl, hB, HR⟩ := hrel
    by_cases hkl : k < bs.length
    · rcases H.out.2.2 with ⟨_, _, _, hnil⟩ | ⟨bb, off, cap, hval, hblt, hbl⟩
      · rw [hnil] at hkl; simp at hkl
      simp at hval
      obtain ⟨rfl, rfl⟩ := hval
      obtain ⟨x1, x2, x3⟩ := (hbl.below hB hblt) k hkl
      have HD := Lib.hid (allOk_drop (strict := strict) (zs := zs) hkl)
      have hxm := HX.out (bs[k]?.getD default) (by simp [hkl])
      obtain ⟨x, hx⟩ : ∃ x, x = bs[k]?.getD default := ⟨_, rfl⟩
      rw [← hx] at x1 x2 x3 HD hxm
      have HKX := Lib.hid (HK.out x hxm wr hB)
      obtain ⟨β, hβ⟩ : ∃ β, β = blkOk strict zs x := ⟨_, rfl⟩
      rw [← hβ] at HD HKX
      obtain ⟨xa, xb, xc⟩ := x
      unfold bv at HKX
      dsimp only at HKX x1 x2 x3
      have g0 : (0 : Int) ≤ (k : Int) := by omega
      have g1 : (k : Int) < (bs.length : Int) := by omega
      clear hbl hx hxm hβ HK
      cases β with
      | true =>
        have HN := Lib.hid (show allOk strict zs bs = allOk strict zs (bs.drop (k + 1)) by rw [HR.out, HD.out]; rfl)
        clear HD
        go_wp2_with fail
        refine HKX.out.mono ?_
        rintro e w2 ⟨rfl, hb2⟩
        have hB2 := hB.trans (hb2.mono hB.size)
        clear hb2
        go_wp2
        go_roundw
        case rel => exact ⟨k + 1, by omega, by go_num, hB2, HN⟩
        case measure => simp [intOf]; omega
      | false =>
        have HN := Lib.hid (show allOk strict zs bs = false by rw [HR.out, HD.out]; rfl)
        clear HD
        go_wp2_with fail
        refine HKX.out.mono ?_
        rintro e w2 ⟨rfl, hb2⟩
        have hB2 := hB.trans (hb2.mono hB.size)
        clear hb2
        go_wp2
        go_ret
        exact ⟨_, rfl, hB2, by rw [HN.out]; simp⟩
    · have HN := Lib.hid (show allOk strict zs bs = true by rw [HR.out, show k = bs.length by omega, List.drop_length]; rfl)
      go_wp2
      go_ret
      exact ⟨_, rfl, hB, by rw [HN.out]; simp⟩
theorem ContF2_any (strict : Bool) (s t : Value) (bs : List Blk) (zs : List Int) (Br Bc : Nat) (w : World) (h : SB w s bs) (ht : IB w t zs) (hx : ∀ x ∈ bs, inB3 zs.length x) (hr : w.cell? ⟨Br, 0, none⟩ = some (ruleV strict)) (hc : w.cell? ⟨Bc, 0, none⟩ = some t) (hrl : Br < w.heap.size) (hcl : Bc < w.heap.size) :
    Calls Try.prog 196 #[s, .func (.func 194) #[] #[.pointer (some ⟨Br, 0, none⟩), .pointer (some ⟨Bc, 0, none⟩)]] w (RV (.bool (!(allOk strict zs bs))) w) := by
  have HI := Lib.hid (IdxF2_any strict s t bs zs Br Bc w h ht hx hr hc hrl hcl)
  obtain ⟨a, c, rfl⟩ := h.slice
  clear h ht hx hr hc hrl hcl
  go_enter Try.func196, Try.ntmps196
  go_wp2_with fail
  refine HI.out.mono ?_
  rintro e w2 ⟨z, rfl, hb, hz⟩
  go_wp2
  go_ret
  exact RV_of rfl hb
end Go.Proofs.Ytkpnlecmfmbkaaa


/- How the laws' arguments are read. How the laws' other arguments are read: slices of integers, slices of blocks, a block, rows. The laws' copies of rows of rows, and how much they hold. The laws' copy of rows of rows. A law's argument that is rows of rows: its size and its copies. A rows argument's numbers are int64s. What a law over one system whose result is a system knows of the memory between two of its steps. The law FnExactThreefoldSystem returns true. The dump's head word by word, cheaply: what every row asks of it. -/
import Derived.Test.YtlhiokcdjnmfmaaJ11
import Derived.Test.YtlhiokcdjnmfmaaRows
import Derived.ProofKit
import Derived.OpenShut
import Derived.Deep.Slices
import Derived.Lib.SmallJoins
import Derived.ChangeOld
import Derived.Deep.RegionWith
import Derived.Deep.DeepCutAuto
namespace Go.Proofs.Ytlhiokcdjnmfmaa
open Go.ChangeShapes Go.WideShapes Go.ChangeAt Go.RowKit Go.Deep Go.Joins
theorem ownKnobs : ownKnob Try.prog.godebug = none := by kernel_rfl
section
variable {H : Type} {enc : TypeId × Value → H} {W : World} {base : Nat} {held : Bool}
theorem arrCells : Try.prog.cellsOf 76 = 3 := by kernel_rfl
set_option maxRecDepth 100000 in
theorem open_arr3 {fuel : Nat} {cs : List Value} {x : DataW H × List MemPlace} (h : DataW.trod enc Try.prog W base (fun _ => true) held fuel 76 cs = some x) :
    ∃ a b c : Int, cs = [.int .i64 a, .int .i64 b, .int .i64 c] ∧ (Lit.int .i64 a).wf = true ∧ (Lit.int .i64 b).wf = true ∧ (Lit.int .i64 c).wf = true := by
  obtain ⟨xs, m, rfl, rfl, hl, hx, hat⟩ := DataW.trod_array Try.underlying76 h
  rw [arrCells] at hl
  match cs, hl with
  | [c0, c1, c2], _ =>
    match xs, hx with
    | [x0, x1, x2], _ =>
      have h0 := hat 0 (by omega)
      have h1 := hat 1 (by omega)
      have h2 := hat 2 (by omega)
      rw [int64Cells] at h0 h1 h2
      simp at h0 h1 h2
      obtain ⟨a, ha, _, wa⟩ := DataW.trod_int Try.underlying2 h0
      obtain ⟨b, hb, _, wb⟩ := DataW.trod_int Try.underlying2 h1
      obtain ⟨c, hc, _, wc⟩ := DataW.trod_int Try.underlying2 h2
      simp at ha hb hc
      exact ⟨a, b, c, by rw [ha, hb, hc], wa, wb, wc⟩
theorem add_at (b off i : Nat) : (⟨b, off, none⟩ : Addr).add i = ⟨b, off + i, none⟩ := by
  unfold Addr.add
  split
  · subst_vars; rfl
  · rfl
set_option maxRecDepth 100000 in
theorem open_arrs {fuel : Nat} {s : Value} {x : DataW H × List MemPlace} (h : DataW.trod enc Try.prog W base (fun _ => true) held fuel 22 [s] = some x) : ∃ bs, InB W s bs := by
  rcases open_slice Try.underlying22 h with ⟨hcs, _⟩ | ⟨a, len, cap, m, n, D, Pl, hcs, hb, hl, hm, hmm, hx, hi⟩
  · simp at hcs
    exact ⟨[], by simp, by simp, .inl ⟨none, 0, hcs, rfl⟩⟩
  · simp at hcs
    subst hcs
    simp at hmm
    subst hmm
    have hm' : m ≤ 9223372036854775807 := by unfold maxLen at hm; exact hm
    by_cases h0 : len = 0
    · subst h0
      exact ⟨[], by simp, by simp, .inl ⟨_, _, rfl, rfl⟩⟩
    · have cell : ∀ i, i < m → ∃ y : Blk, WFB y ∧ ∀ j (v : Value), [Value.int .i64 y.a, Value.int .i64 y.b, Value.int .i64 y.c][j]? = some v → W.cell? (a.add (i * 3 + j)) = some v := fun i him => by
        obtain ⟨cs', hc, ht⟩ := hi i him
        obtain ⟨p, q, r, rfl, wp, wq, wr⟩ := open_arr3 ht
        rw [arrCells] at hc
        obtain ⟨_, _, hat⟩ := World.cells?_some hc
        refine ⟨⟨p, q, r⟩, ⟨wp, wq, wr⟩, fun j v hv => ?_⟩
        have hj : j < 3 := by
          have := (List.getElem?_eq_some_iff.1 hv).1
          simpa using this
        rw [← Go.Deep.add_add, hat j hj]
        exact hv
      obtain ⟨F, hF⟩ := choose_lt (α := Blk) cell
      obtain ⟨b, off, spot⟩ := a
      have hc0 := (hF 0 (by omega)).2 0 _ rfl
      have hspot : spot = none := by simpa [Addr.add] using World.cell?_spot hc0
      subst hspot
      refine ⟨(List.range len).map F, ?_, by simp; omega, .inr ⟨b, off, m, by simp, ?_, ?_⟩⟩
      · intro y hy
        obtain ⟨i, hi', rfl⟩ := List.mem_map.1 hy
        exact (hF i (by have := List.mem_range.1 hi'; omega)).1
      · exact block_lt_of_cell hc0
      · intro k hk
        simp at hk
        have e : ((List.range len).map F)[k]?.getD default = F k := by simp [hk]
        rw [e]
        have := (hF k (by omega)).2
        refine ⟨?_, ?_, ?_⟩
        · have h0 := this 0 _ rfl
          rw [add_at] at h0
          exact h0
        · have h1 := this 1 _ rfl
          rw [add_at, ← Nat.add_assoc] at h1
          exact h1
        · have h2 := this 2 _ rfl
          rw [add_at, ← Nat.add_assoc] at h2
          exact h2
theorem isSys : ∃ f0 f1 : Field, Try.prog.underlying 24 = some (.struct #[f0, f1]) ∧ f0.type = 2 ∧ f1.type = 22 ∧ oneCellFields Try.prog #[f0, f1] = true :=
  ⟨_, _, Try.underlying24, rfl, rfl, by kernel_rfl⟩
theorem sysCells : Try.prog.cellsOf 24 = 2 := by kernel_rfl
set_option maxRecDepth 100000 in
theorem open_system {r : Reach} {b0 : Nat} {v : Value} {d : DataW H} {p : List MemPlace} (hv : Value.okWide Try.prog W r b0 24 v) (h : DataW.Trod enc Try.prog W base (fun _ => true) held 24 v d p) :
    ∃ (n : Int) (s : Value) (bs : List Blk), v = .agg #[.int .i64 n, s] ∧ WF n ∧ InB W s bs := by
  obtain ⟨f0, f1, hu, e0, e1, hone⟩ := isSys
  obtain ⟨v0, v1, y0, y1, n, rfl, _, _, h0, h1⟩ := open_agg2 hu hone sysCells hv h
  rw [e0] at h0
  rw [e1] at h1
  obtain ⟨k, hk, _, wk⟩ := DataW.trod_int Try.underlying2 h0
  simp at hk
  subst hk
  obtain ⟨bs, hbs⟩ := open_arrs h1
  exact ⟨k, v1, bs, rfl, wk, hbs⟩
end
end Go.Proofs.Ytlhiokcdjnmfmaa

namespace Go.Proofs.Ytlhiokcdjnmfmaa
open Go.ChangeShapes Go.WideShapes Go.ChangeAt Go.RowKit Go.Deep Go.Joins
/-- The value is a slice of just these integers, however many. -/
def InZ (w : World) (s : Value) (zs : List Int) : Prop :=
  (∀ z ∈ zs, WF z) ∧ zs.length ≤ 9223372036854775807 ∧ ((∃ a c, s = .slice a 0 c ∧ zs = []) ∨ ∃ b off cap, s = .slice (some ⟨b, off, none⟩) zs.length cap ∧ b < w.heap.size ∧ Ints w b off zs)
theorem InZ.slice {w : World} {s : Value} {zs : List Int} (h : InZ w s zs) : ∃ a c, s = .slice a zs.length c := by
  rcases h.2.2 with ⟨a, c, rfl, rfl⟩ | ⟨b, off, cap, rfl, _⟩ <;> exact ⟨_, _, rfl⟩
theorem InZ.ib {w : World} {s : Value} {zs : List Int} (h : InZ w s zs) (hl : zs.length ≤ 1048576) : IB w s zs := ⟨by omega, h.2.2⟩
/-- The value is a slice of just these rows, however many. -/
def InSS (w : World) (s : Value) (n : Nat) (F : Nat → List Int) : Prop :=
  n ≤ 9223372036854775807 ∧ ((n = 0 ∧ ∃ a c, s = .slice a 0 c) ∨ ∃ b off cap, s = .slice (some ⟨b, off, none⟩) n cap ∧ b < w.heap.size ∧ ∀ k, k < n → ∃ u, w.cell? ⟨b, off + k, none⟩ = some u ∧ InZ w u (F k))
theorem okWide_array {P : Program} {w : World} {r : Reach} {base : Nat} {t : TypeId} {v : Value} {n : Nat} {e : TypeId} (ht : P.underlying t = some (.array n e)) (h : Value.okWide P w r base t v) : ∃ cs, v = .agg cs ∧ cs.size = P.cellsOf t := by
  simp only [Value.okWide, ht] at h
  obtain ⟨cs, h1, h2, _⟩ := h
  exact ⟨cs, h1, h2⟩
section
variable {H : Type} {enc : TypeId × Value → H} {W : World} {base : Nat} {held : Bool}
set_option maxRecDepth 100000 in
theorem open_zs {fuel : Nat} {s : Value} {x : DataW H × List MemPlace} (h : DataW.trod enc Try.prog W base (fun _ => true) held fuel 26 [s] = some x) : ∃ zs, InZ W s zs := by
  rcases open_slice1 Try.underlying26 int64Cells h with ⟨hcs, _⟩ | ⟨a, len, cap, m, n, V, D, Pl, hcs, hb, hl, hm, hmm, hx, hi⟩
  · simp at hcs
    exact ⟨[], by simp, by simp, .inl ⟨none, 0, hcs, rfl⟩⟩
  · simp at hcs
    subst hcs
    simp at hmm
    subst hmm
    have hm' : m ≤ 9223372036854775807 := by unfold maxLen at hm; exact hm
    by_cases h0 : len = 0
    · subst h0
      exact ⟨[], by simp, by simp, .inl ⟨_, _, rfl, rfl⟩⟩
    · have cell : ∀ i, i < m → ∃ y : Int, WF y ∧ W.cell? (a.add i) = some (.int .i64 y) := fun i him => by
        obtain ⟨hc, ht⟩ := hi i him
        obtain ⟨k, hk, _, wk⟩ := DataW.trod_int Try.underlying2 ht
        simp at hk
        exact ⟨k, wk, by rw [hc, hk]⟩
      obtain ⟨F, hF⟩ := choose_lt (α := Int) cell
      obtain ⟨b, off, spot⟩ := a
      have hc0 := (hF 0 (by omega)).2
      have hspot : spot = none := by simpa [Addr.add] using World.cell?_spot hc0
      subst hspot
      refine ⟨(List.range len).map F, ?_, by simp; omega, .inr ⟨b, off, m, by simp, ?_, ?_⟩⟩
      · intro y hy
        obtain ⟨i, hi', rfl⟩ := List.mem_map.1 hy
        exact (hF i (by have := List.mem_range.1 hi'; omega)).1
      · exact block_lt_of_cell hc0
      · intro k hk
        simp at hk
        have e : ((List.range len).map F)[k]?.getD 0 = F k := by simp [hk]
        rw [e]
        have h1 := (hF k (by omega)).2
        rw [add_at] at h1
        exact h1
set_option maxRecDepth 100000 in
theorem open_ints64 {r : Reach} {b0 : Nat} {v : Value} {d : DataW H} {p : List MemPlace} (hv : Value.okWide Try.prog W r b0 26 v) (h : DataW.Trod enc Try.prog W base (fun _ => true) held 26 v d p) : ∃ zs, InZ W v zs := by
  obtain ⟨a, len, cap, rfl⟩ := okWide_slice Try.underlying26 hv
  obtain ⟨fuel, hf⟩ := h
  exact open_zs hf
set_option maxRecDepth 100000 in
theorem open_blocks {r : Reach} {b0 : Nat} {v : Value} {d : DataW H} {p : List MemPlace} (hv : Value.okWide Try.prog W r b0 22 v) (h : DataW.Trod enc Try.prog W base (fun _ => true) held 22 v d p) : ∃ bs, InB W v bs := by
  obtain ⟨a, len, cap, rfl⟩ := okWide_slice Try.underlying22 hv
  obtain ⟨fuel, hf⟩ := h
  exact open_arrs hf
theorem sliceCells : Try.prog.cellsOf 26 = 1 := by kernel_rfl
set_option maxRecDepth 100000 in
theorem open_rows {r : Reach} {b0 : Nat} {v : Value} {d : DataW H} {p : List MemPlace} (hv : Value.okWide Try.prog W r b0 38 v) (h : DataW.Trod enc Try.prog W base (fun _ => true) held 38 v d p) : ∃ n F, InSS W v n F := by
  obtain ⟨A0, L0, C0, rfl⟩ := okWide_slice Try.underlying38 hv
  obtain ⟨fuel, hf⟩ := h
  have hf' : DataW.trod enc Try.prog W base (fun _ => true) held fuel 38 [.slice A0 L0 C0] = some (d, p) := hf
  rcases open_slice1 Try.underlying38 sliceCells hf' with ⟨hcs, _⟩ | ⟨a, len, cap, m, n, V, D, Pl, hcs, hb, hl, hm, hmm, hx, hi⟩
  · simp at hcs
    obtain ⟨rfl, rfl, rfl⟩ := hcs
    exact ⟨0, fun _ => [], by omega, .inl ⟨rfl, _, _, rfl⟩⟩
  · simp at hcs
    obtain ⟨e1, e2, e3⟩ := hcs
    subst e1
    subst e2
    subst e3
    simp at hmm
    subst hmm
    have hm' : m ≤ 9223372036854775807 := by unfold maxLen at hm; exact hm
    by_cases h0 : L0 = 0
    · subst h0
      exact ⟨0, fun _ => [], by omega, .inl ⟨rfl, _, _, rfl⟩⟩
    · have cell : ∀ i, i < m → ∃ y : List Int, ∃ u, W.cell? (a.add i) = some u ∧ InZ W u y := fun i him => by
        obtain ⟨hc, ht⟩ := hi i him
        obtain ⟨zs, hz⟩ := open_zs ht
        exact ⟨zs, _, hc, hz⟩
      obtain ⟨F, hF⟩ := choose_lt (α := List Int) cell
      obtain ⟨b, off, spot⟩ := a
      obtain ⟨u0, hc0, _⟩ := hF 0 (by omega)
      have hspot : spot = none := by simpa [Addr.add] using World.cell?_spot hc0
      subst hspot
      refine ⟨L0, F, by omega, .inr ⟨b, off, m, rfl, block_lt_of_cell hc0, fun k hk => ?_⟩⟩
      obtain ⟨u, h1, h2⟩ := hF k (by omega)
      rw [add_at] at h1
      exact ⟨u, h1, h2⟩
set_option maxRecDepth 100000 in
theorem open_blk {r : Reach} {b0 : Nat} {v : Value} {d : DataW H} {p : List MemPlace} (hv : Value.okWide Try.prog W r b0 76 v) (h : DataW.Trod enc Try.prog W base (fun _ => true) held 76 v d p) : ∃ x, v = bv x ∧ WFB x := by
  obtain ⟨cs, rfl, hsz⟩ := okWide_array Try.underlying76 hv
  obtain ⟨fuel, hf⟩ := h
  obtain ⟨a, b, c, e, wa, wb, wc⟩ := open_arr3 hf
  have : cs.toList = [.int .i64 a, .int .i64 b, .int .i64 c] := e
  refine ⟨⟨a, b, c⟩, ?_, wa, wb, wc⟩
  unfold bv
  rw [← this]
end
end Go.Proofs.Ytlhiokcdjnmfmaa

namespace Go.Proofs.Ytlhiokcdjnmfmaa
open Go.RowKit Go.Maps
/-- How many elements rows of these lengths hold, the first k of them. -/
def totL (l : Nat → Nat) : Nat → Nat
  | 0 => 0
  | k + 1 => totL l k + l k
theorem totL_le (l : Nat → Nat) {j n : Nat} (h : j ≤ n) : totL l j ≤ totL l n := by
  induction h with
  | refl => exact Nat.le_refl _
  | step _ ih => exact Nat.le_trans ih (by simp [totL])
/-- A slice of n slices of these lengths. -/
def HeadS (w : World) (s : Value) (n : Nat) (l : Nat → Nat) : Prop :=
  (n = 0 ∧ ∃ a c, s = .slice a 0 c) ∨ ∃ b off cap, s = .slice (some ⟨b, off, none⟩) n cap ∧ ∀ k, k < n → (l k : Int) ≤ 9223372036854775807 ∧ ∃ a c, w.cell? ⟨b, off + k, none⟩ = some (.slice a (l k) c)
theorem HeadS.slice {w : World} {s : Value} {n : Nat} {l : Nat → Nat} (h : HeadS w s n l) : ∃ a c, s = .slice a n c := by
  rcases h with ⟨rfl, a, c, rfl⟩ | ⟨b, off, cap, rfl, _⟩ <;> exact ⟨_, _, rfl⟩
set_option maxRecDepth 100000 in
theorem szInt64SS_any (s : Value) (n : Nat) (l : Nat → Nat) (hn : (n : Int) ≤ 9223372036854775807) (left : Int) (h0 : 0 ≤ left) (h1 : left ≤ 1048576) (w : World) (h : HeadS w s n l) : Calls Try.prog 24 #[s, .int .i64 left] w
    (RS (.int .i64 (if left - n - totL l n < 0 then -1 else left - n - totL l n)) w) := by
  by_cases hlt : left < n
  · rw [if_pos (by omega)]
    obtain ⟨a, c, rfl⟩ := h.slice
    clear h
    go_enter Try.func24, Try.ntmps24
    go_wp2
    go_ret
    exact RS_of rfl
  · have hle : (n : Int) ≤ left := by omega
    rcases h with ⟨rfl, a, c, rfl⟩ | ⟨b, off, cap, rfl, hB⟩
    · have e : (if left - ((0 : Nat) : Int) - ((totL l 0 : Nat) : Int) < 0 then -1 else left - ((0 : Nat) : Int) - ((totL l 0 : Nat) : Int)) = left := by simp [totL]; omega
      rw [e]
      clear hlt hle hn e
      go_enter Try.func24, Try.ntmps24
      go_wp2
      refine wp_loop_rounds 1 ?_
      rw [rounds_succ]
      go_wp2
      go_ret
      exact RS_of rfl
    · have HB := Lib.hid hB
      clear hB
      obtain ⟨m, hm⟩ : ∃ m, left - (n : Int) = m := ⟨_, rfl⟩
      rw [hm]
      obtain ⟨res, hres⟩ : ∃ res, res = (if m - ((totL l n : Nat) : Int) < 0 then -1 else m - ((totL l n : Nat) : Int)) := ⟨_, rfl⟩
      rw [← hres]
      have HRES := Lib.hid hres
      clear hres
      have m0 : 0 ≤ m := by omega
      have m1 : m ≤ 1048576 := by omega
      go_enter Try.func24, Try.ntmps24
      go_wp2
      have HM := Lib.hid hm
      clear hm
      go_loopw [1, 5] (fun t i wr => wr = w ∧ ∃ j : Nat, j ≤ n ∧ i = .int .i64 j ∧ t = .int .i64 (m - totL l j) ∧ (totL l j : Int) ≤ m) (fun _ i _ => n - (intOf i).toNat)
      case atStart => exact ⟨rfl, 0, Nat.zero_le _, rfl, by simp [totL], by simp [totL]; omega⟩
      case round =>
        obtain ⟨hww, j, hj, rfl, rfl, hr⟩ := hrel
        subst hww
        by_cases hjl : j < n
        · obtain ⟨hlj, a, c, c1⟩ := HB.out j hjl
          have htj := totL_le l (show j + 1 ≤ n from hjl)
          have htj' : totL l (j + 1) = totL l j + l j := rfl
          have g0 : (0 : Int) ≤ (j : Int) := by omega
          have g1 : (j : Int) < (n : Int) := by omega
          have hz := szInt64S_any (.slice a (l j) c) (l j) ⟨_, _, rfl⟩ hlj (m - totL l j) (by omega) (by omega) wr
          by_cases hneg : m - (totL l j : Int) - (l j : Int) < 0
          · rw [if_pos hneg] at hz
            have HZ := Lib.hid hz
            clear hz
            have e : res = -1 := by rw [HRES.out]; exact if_pos (by omega)
            subst e
            go_wp2_with (go_at_call 66; refine HZ.out.mono ?_; rintro e w1 ⟨rfl, hw1⟩; subst hw1)
            go_ret
            exact RS_of rfl
          · rw [if_neg hneg] at hz
            obtain ⟨r, hr'⟩ : ∃ r, r = m - (totL l j : Int) - (l j : Int) := ⟨_, rfl⟩
            rw [← hr'] at hz
            have HZ := Lib.hid hz
            have r0 : 0 ≤ r := by omega
            have HR := Lib.hid hr'
            clear hz hr'
            go_wp2_with (go_at_call 66; refine HZ.out.mono ?_; rintro e w1 ⟨rfl, rfl⟩)
            go_roundw
            case rel => exact ⟨trivial, j + 1, by omega, by go_num, int_eq (by rw [HR.out, htj']; omega), by rw [htj']; have := HR.out; omega⟩
            case measure => simp [intOf]; omega
        · have e : j = n := by omega
          subst e
          have e : res = m - ((totL l j : Nat) : Int) := by rw [HRES.out]; exact if_neg (by omega)
          subst e
          go_wp2
          go_ret
          exact RS_of rfl
end Go.Proofs.Ytlhiokcdjnmfmaa

namespace Go.Proofs.Ytlhiokcdjnmfmaa
open Go.RowKit Go.Maps
theorem mkRows (n : Nat) (hn : n ≤ 1100000) (W : World) : (Instr.makeSlice 38 (.int .i64 (n : Int)) (.int .i64 (n : Int))).run Try.prog W = .ok (.slice (some ⟨W.heap.size, 0, none⟩) n n) (W.alloc (.cells (madeCells #[.slice none 0 0] n) 26)) := by
  obtain ⟨i0, hi, hz0, hz1, hz2⟩ := info_parts infoRow
  have hr := run_make (P := Try.prog) W 38 26 i0 (.slice none 0 0) Try.underlying38 hi hz0 .i64 .i64 n n (by omega) (by omega) (by rw [hz2]; omega) (by omega)
  simp only [Int.toNat_natCast, hz1, Nat.mul_one] at hr
  exact hr
set_option maxRecDepth 100000 in
theorem toInt64SS_any (s : Value) (n : Nat) (F : Nat → List Int) (w : World) (h : SSB w s n F) :
    Calls Try.prog 26 #[s] w (fun e w' => ∃ gs caps, e = .returned (.slice (some ⟨w.heap.size, 0, none⟩) n n) ∧ Below w.heap.size w w' ∧ SSR w' w.heap.size w.heap.size gs caps n F) := by
  obtain ⟨hlen, h3⟩ := h
  rcases h3 with ⟨rfl, a0, c0, rfl⟩ | ⟨b, off, cap, rfl, hlt, hI⟩
  · have hm := mkRows 0 (by omega)
    simp only [Int.natCast_zero] at hm
    clear hlen
    go_enter Try.func26, Try.ntmps26
    go_wp2
    refine wp_loop_rounds 1 ?_
    rw [rounds_succ]
    go_wp2
    go_ret
    exact ⟨fun _ => 0, fun _ => 0, rfl, (Below.refl _ _).alloc (Nat.le_refl _) _, ⟨fun k hk => by omega, fun k hk => by omega, fun k hk => by omega, fun j k _ hk => by omega, fun k hk => by omega, by simp⟩⟩
  · have hm := mkRows n hlen
    have HI := Lib.hid hI
    clear hI
    go_enter Try.func26, Try.ntmps26
    go_wp2
    go_loopw [4] (fun i wr => ∃ (k : Nat) (gs caps : Nat → Nat), k ≤ n ∧ i = .int .i64 k ∧ Below w.heap.size w wr ∧ w.heap.size < wr.heap.size ∧ SSR wr w.heap.size w.heap.size gs caps k F ∧ (∀ q, q < n → ∃ u, wr.cell? ⟨w.heap.size, q, none⟩ = some u) ∧ (∀ o, wr.frozen? ⟨w.heap.size, o, none⟩ = false)) (fun i _ => n - (intOf i).toNat)
    case atStart => exact ⟨0, fun _ => 0, fun _ => 0, Nat.zero_le _, rfl, (Below.refl _ _).alloc (Nat.le_refl _) _, by simp, ⟨fun k hk => by omega, fun k hk => by omega, fun k hk => by omega, fun j k _ hk => by omega, fun k hk => by omega, by simp⟩, fun q hq => by rw [World.cell?_alloc_at _ _ _ _ rfl]; exact ⟨.slice none 0 0, by simp [madeCells, hq, Nat.mod_one]⟩, fun o => by simp⟩
    case round =>
      obtain ⟨k, gs, caps, hk, rfl, hB, hz, hS, hcs, hfz⟩ := hrel
      by_cases hkl : k < n
      · obtain ⟨a1, c1, q1, i1⟩ := HI.out k hkl
        have q1 := (hB.cell (p := ⟨b, off + k, none⟩) hlt).trans q1
        have I1 := Lib.hid (i1.below hB (Nat.le_refl _))
        have HS := Lib.hid hS
        have HC := Lib.hid hcs
        have HFZ := Lib.hid hfz
        clear i1 hS hcs hfz
        have g0 : (0 : Int) ≤ (k : Int) := by omega
        have g1 : (k : Int) < (n : Int) := by omega
        go_wp2_with (go_at_call 71; refine (toInt64S_any _ (F k) _ I1.out).mono ?_; rintro e w1 ⟨rfl, hb1, ho1⟩; obtain ⟨u, hu⟩ := HC.out k hkl; have m1 := (hb1.cell (p := ⟨w.heap.size, k, none⟩) hz).trans hu; have f1 := fun o => (hb1.frozen (p := ⟨w.heap.size, o, none⟩) hz).trans (HFZ.out o))
        have hz1 := hb1.size
        have hS1 := HS.out.below hb1 (Nat.le_refl _)
        have hst := only_setCell (only_refl w1 (some w.heap.size)) (p := ⟨w.heap.size, k, none⟩) rfl (.slice (some ⟨wr.heap.size, 0, none⟩) (F k).length (F k).length)
        go_roundw
        case rel =>
          refine ⟨k + 1, fun q => if q = k then wr.heap.size else gs q, fun q => if q = k then (F k).length else caps q, by omega, by go_num, (hB.trans (hb1.mono (by omega))).setCell (p := ⟨w.heap.size, k, none⟩) (Nat.le_refl _) _, by simp [World.setCell]; omega, ⟨fun q hq => ?_, fun q hq => ?_, fun q hq => ?_, fun p q hpq hq => ?_, fun q hq => ?_, by simp [World.setCell]; omega⟩, fun q hq => ?_, fun o => by rw [World.frozen?_setCell]; exact f1 o⟩
          · by_cases e : q = k
            · subst e
              rw [World.cell?_setCell_same' _ _ _ (by rw [m1]; rfl)]
              simp
            · rw [World.cell?_setCell_other _ _ _ _ (by simp <;> omega), hS1.cell q (by omega)]
              simp [e]
          · by_cases e : q = k
            · subst e
              simp only [if_pos]
              exact ho1.kept hst (by simp; omega)
            · simp only [if_neg e]
              exact (hS1.row q (by omega)).kept hst (by have := hS1.ne q (by omega); simpa using this)
          · by_cases e : q = k
            · simp only [if_pos e]; omega
            · simp only [if_neg e]; exact hS1.ne q (by omega)
          · have e1 : p ≠ k := by omega
            simp only [if_neg e1]
            by_cases e : q = k
            · simp only [if_pos e]
              exact (HS.out.row p (by omega)).lt
            · simp only [if_neg e]
              exact hS1.inc p q hpq (by omega)
          · by_cases e : q = k
            · simp only [if_pos e]; omega
            · simp only [if_neg e]; exact hS1.low q (by omega)
          · by_cases e : q = k
            · subst e
              exact ⟨_, World.cell?_setCell_same' _ _ _ (by rw [m1]; rfl)⟩
            · obtain ⟨u', hu'⟩ := HC.out q hq
              exact ⟨u', by rw [World.cell?_setCell_other _ _ _ _ (by simp <;> omega)]; exact (hb1.cell (p := ⟨w.heap.size, q, none⟩) hz).trans hu'⟩
        case measure => simp [intOf]; omega
      · go_wp2
        go_ret
        have e : k = n := by omega
        subst e
        exact ⟨gs, caps, rfl, hB, hS⟩
end Go.Proofs.Ytlhiokcdjnmfmaa

namespace Go.Proofs.Ytlhiokcdjnmfmaa
open Go.RowKit Go.Maps
theorem totL_tot (F : Nat → List Int) : ∀ n, totL (fun k => (F k).length) n = tot F n
  | 0 => rfl
  | n + 1 => by rw [totL, tot, totL_tot F n]
theorem rows_len {F : Nat → List Int} {n : Nat} (h : tot F n ≤ 1100000) : ∀ k, k < n → (F k).length ≤ 1100000 := fun k hk => by
  have h1 : tot F (k + 1) ≤ tot F n := tot_le _ hk
  have h2 : tot F (k + 1) = tot F k + (F k).length := rfl
  omega
theorem toRows_own (s : Value) (n : Nat) (F : Nat → List Int) (w : World) (h : SSB w s n F) :
    Calls Try.prog 26 #[s] w (fun e w' => ∃ t, e = .returned t ∧ (∃ g cap, t = .slice (some ⟨g, 0, none⟩) n cap) ∧ Below w.heap.size w w' ∧ ResH w' w.heap.size w'.heap.size t n F) := by
  refine (toInt64SS_any s n F w h).mono ?_
  rintro e w' ⟨gs, caps, rfl, hb, hS⟩
  exact ⟨_, rfl, ⟨_, _, rfl⟩, hb, .inr ⟨_, _, gs, caps, rfl, Nat.le_refl _, hS.lt, fun k hk => (hS.row k hk).lt, hS⟩⟩
theorem InSS.slice {w : World} {s : Value} {n : Nat} {F : Nat → List Int} (h : InSS w s n F) : ∃ a c, s = .slice a n c := by
  rcases h.2 with ⟨rfl, a, c, rfl⟩ | ⟨b, off, cap, rfl, _⟩ <;> exact ⟨_, _, rfl⟩
theorem InSS.head {w w' : World} {s : Value} {n : Nat} {F : Nat → List Int} (h : InSS w s n F) (hb : Below w.heap.size w w') : HeadS w' s n (fun k => (F k).length) := by
  rcases h.2 with h2 | ⟨b, off, cap, rfl, hlt, hr⟩
  · exact .inl h2
  · refine .inr ⟨b, off, cap, rfl, fun k hk => ?_⟩
    obtain ⟨u, hu, hz⟩ := hr k hk
    obtain ⟨a, c, rfl⟩ := hz.slice
    exact ⟨by have h2 := hz.2.1; show ((F k).length : Int) ≤ 9223372036854775807; omega, a, c, (hb.cell (p := ⟨b, off + k, none⟩) hlt).trans hu⟩
theorem InSS.sb {w : World} {s : Value} {n : Nat} {F : Nat → List Int} (h : InSS w s n F) (hl : n + tot F n ≤ 1048576) : SSB w s n F := by
  refine ⟨by omega, ?_⟩
  rcases h.2 with h2 | ⟨b, off, cap, rfl, hlt, hr⟩
  · exact .inl h2
  · refine .inr ⟨b, off, cap, rfl, hlt, fun k hk => ?_⟩
    obtain ⟨u, hu, hz⟩ := hr k hk
    have hq := rows_len (F := F) (n := n) (by omega) k hk
    have h1 : tot F (k + 1) ≤ tot F n := tot_le _ hk
    have h2 : tot F (k + 1) = tot F k + (F k).length := rfl
    obtain ⟨a, c, rfl⟩ := hz.slice
    exact ⟨a, c, hu, hz.ib (by omega)⟩
/-- The law's count of a row-of-rows argument. -/
theorem szRows_any (s : Value) (n : Nat) (F : Nat → List Int) (w : World) (h : InSS w s n F) (left : Int) (h0 : 0 ≤ left) (h1 : left ≤ 1048576) (W : World) (hb : Below w.heap.size w W) :
    Calls Try.prog 24 #[s, .int .i64 left] W (RS (.int .i64 (if left - ((n + tot F n : Nat) : Int) < 0 then -1 else left - ((n + tot F n : Nat) : Int))) W) := by
  have := szInt64SS_any s n (fun k => (F k).length) (by have := h.1; omega) left h0 h1 W (h.head hb)
  rw [totL_tot, show left - (n : Int) - (tot F n : Int) = left - ((n + tot F n : Nat) : Int) by omega] at this
  exact this
end Go.Proofs.Ytlhiokcdjnmfmaa

namespace Go.Proofs.Ytlhiokcdjnmfmaa
theorem InSS.wf {w : World} {s : Value} {n : Nat} {F : Nat → List Int} (h : InSS w s n F) : ∀ k, k < n → ∀ z ∈ F k, WF z := fun k hk => by
  rcases h.2 with ⟨h0, _⟩ | ⟨b, off, cap, rfl, hlt, hr⟩
  · omega
  · obtain ⟨u, _, hz⟩ := hr k hk
    exact hz.1
end Go.Proofs.Ytlhiokcdjnmfmaa

namespace Go.Proofs.Ytlhiokcdjnmfmaa
open Go.RowKit Go.Maps
structure CS (w : World) (v p : Int) (s sW s8 sG : Value) (XW X XG i0 i1 j1 j2 k1 k2 : Nat) (LW L8 LG : List Blk) (W : World) : Prop where
  st : St1 w v s W
  o0 : w.heap.size < i0
  o1 : i0 ≤ i1
  o2 : i1 ≤ XW
  o3 : XW < j1
  o4 : j1 ≤ j2
  o5 : j2 ≤ X
  o6 : X < k1
  o7 : k1 ≤ k2
  o8 : k2 ≤ XG
  rW : ResR W i0 i1 sW LW
  vW : VarB W XW p sW
  r8 : ResR W j1 j2 s8 L8
  vX : VarB W X v s8
  rG : ResR W k1 k2 sG LG
  vG : VarB W XG p sG
section
variable {w : World} {v p : Int} {s sW s8 sG : Value} {XW X XG i0 i1 j1 j2 k1 k2 : Nat} {LW L8 LG : List Blk} {W W' : World}
theorem CS.step (h : CS w v p s sW s8 sG XW X XG i0 i1 j1 j2 k1 k2 LW L8 LG W) (hg : W.grownBy W' none) : CS w v p s sW s8 sG XW X XG i0 i1 j1 j2 k1 k2 LW L8 LG W' :=
  ⟨h.st.step hg (by simp), h.o0, h.o1, h.o2, h.o3, h.o4, h.o5, h.o6, h.o7, h.o8, h.rW.kept hg (by simp), h.vW.step hg (by simp), h.r8.kept hg (by simp), h.vX.step hg (by simp), h.rG.kept hg (by simp), h.vG.step hg (by simp)⟩
theorem CS.mark8 (h : CS w v p s sW s8 sG XW X XG i0 i1 j1 j2 k1 k2 LW L8 LG W) {row : Option Nat} (hg : W.grownBy W' row) (hr : ∀ r, row = some r → j1 ≤ r ∧ r < j2) {L : List Blk} (hn : ResR W' j1 j2 s8 L) :
    CS w v p s sW s8 sG XW X XG i0 i1 j1 j2 k1 k2 LW L LG W' := by
  obtain ⟨st, o0, o1, o2, o3, o4, o5, o6, o7, o8, rW, vW, r8, vX, rG, vG⟩ := h
  exact ⟨st.step hg (fun r e => by have := hr r e; omega), o0, o1, o2, o3, o4, o5, o6, o7, o8, rW.kept hg (fun r e => by have := hr r e; omega), vW.step hg (fun e => by have := hr _ e; omega), hn, vX.step hg (fun e => by have := hr _ e; omega), rG.kept hg (fun r e => by have := hr r e; omega), vG.step hg (fun e => by have := hr _ e; omega)⟩
theorem CS.markG (h : CS w v p s sW s8 sG XW X XG i0 i1 j1 j2 k1 k2 LW L8 LG W) {row : Option Nat} (hg : W.grownBy W' row) (hr : ∀ r, row = some r → k1 ≤ r ∧ r < k2) {L : List Blk} (hn : ResR W' k1 k2 sG L) :
    CS w v p s sW s8 sG XW X XG i0 i1 j1 j2 k1 k2 LW L8 L W' := by
  obtain ⟨st, o0, o1, o2, o3, o4, o5, o6, o7, o8, rW, vW, r8, vX, rG, vG⟩ := h
  exact ⟨st.step hg (fun r e => by have := hr r e; omega), o0, o1, o2, o3, o4, o5, o6, o7, o8, rW.kept hg (fun r e => by have := hr r e; omega), vW.step hg (fun e => by have := hr _ e; omega), r8.kept hg (fun r e => by have := hr r e; omega), vX.step hg (fun e => by have := hr _ e; omega), hn, vG.step hg (fun e => by have := hr _ e; omega)⟩
end
end Go.Proofs.Ytlhiokcdjnmfmaa


namespace Go.Proofs.Ytlhiokcdjnmfmaa
open Go.RowKit Go.Maps
set_option maxRecDepth 100000 in
set_option maxHeartbeats 2000000 in
theorem FnExactThreefoldSystem_main (s0 : Value) (n0 : Nat) (F0 : Nat → List Int) (w : World) (h0 : InSS w s0 n0 F0) (hl : (n0 + tot F0 n0) ≤ 1048576) :
    Calls Try.prog 4 #[s0] w (RV (.bool true) w) := by
  have hsl0 := h0.slice
  have hsz0 := fun W (hb : Below w.heap.size w W) => szRows_any s0 n0 F0 w h0 1048576 (by omega) (by omega) W hb
  simp only [if_neg (show ¬ (1048576 : Int) - ((n0 + tot F0 n0 : Nat) : Int) < 0 by omega)] at hsz0
  obtain ⟨m0, hm0⟩ : ∃ m, m = (1048576 : Int) - ((n0 + tot F0 n0 : Nat) : Int) := ⟨_, rfl⟩
  simp only [← hm0] at hsz0
  have hmp0 : 0 ≤ m0 := by omega
  have HSZ0 := Lib.hid hsz0
  have HSB0 := Lib.hid (h0.sb (by omega))
  have HBD0 := Lib.hid (show n0 ≤ 1100000 by omega)
  have HTT0 := Lib.hid (show tot F0 n0 ≤ 1100000 by omega)
  have HWF0 := Lib.hid h0.wf
  obtain ⟨p, hpp⟩ : ∃ p, p = (thrF n0 F0).1 := ⟨_, rfl⟩
  obtain ⟨L, hL⟩ : ∃ L, L = (thrF n0 F0).2.1 := ⟨_, rfl⟩
  obtain ⟨κ, hκ⟩ : ∃ κ, κ = (thrF n0 F0).2.2 := ⟨_, rfl⟩
  have hp : thrF n0 F0 = (p, L, κ) := by rw [hpp, hL, hκ]
  have LBD := Lib.hid (show L.length ≤ 1100000 by rw [hL]; exact Nat.le_trans (thrF_len n0 F0) (by omega))
  have LWF := Lib.hid (show ∀ x ∈ L, WFB x by rw [hL]; exact thrF_wf n0 F0)
  have HSP := Lib.hid fun (W : World) (t0 : Value) (r0 : SSB W t0 n0 F0) => specThreefold_any t0 n0 F0 W r0
  have HIM := Lib.hid fun (W : World) (t0 : Value) (r0 : SSB W t0 n0 F0) => ThreefoldSystem_any t0 n0 F0 W r0 HWF0.out
  rw [hp] at HSP HIM
  have hnk : (κ != κ) = false := by simp
  clear hsz0 hm0 hpp hL hκ hp h0 hl
  obtain ⟨a0, c0, rfl⟩ := hsl0
  go_enter Try.func4, Try.ntmps4
  have hm := (Mem.start w)
  have HM := Lib.hid hm
  clear hm
  go_wp2_with fail
  refine (HSZ0.out _ HM.out.below).mono ?_
  rintro e w1 ⟨rfl, rfl⟩
  go_wp2_with fail
  refine (toRows_own _ n0 F0 _ (HSB0.out.below HM.out.below (Nat.le_refl _))).mono ?_
  rintro e w2 ⟨tw2, rfl, ⟨gw2, capw2, hsw2⟩, hbw2, how2⟩
  subst hsw2
  have r3 := how2.sb HBD0.out (rows_len HTT0.out)
  have hm := HM.out.step (gb_below hbw2)
  clear HM hbw2 how2
  have HM := Lib.hid hm
  clear hm
  go_wp2_with fail
  refine (HSP.out _ _ r3).mono ?_
  rintro e w4 ⟨uw4, rfl, hrw4, hbw4⟩
  obtain ⟨aW, nW, hsw4⟩ := hrw4.slice
  subst hsw4
  clear r3
  have hm := ((HM.out.pushB hbw4 hrw4).pushVar p (.slice aW L.length nW) 31)
  clear HM hbw4 hrw4
  have fVW0 := (hm.var 0 rfl).c0
  have fVW1 := (hm.var 0 rfl).c1
  have HM := Lib.hid hm
  clear hm
  go_wp2_with fail
  refine (toRows_own _ n0 F0 _ (HSB0.out.below HM.out.below (Nat.le_refl _))).mono ?_
  rintro e w5 ⟨tw5, rfl, ⟨gw5, capw5, hsw5⟩, hbw5, hrw5⟩
  subst hsw5
  have hm := HM.out.pushH hbw5 hrw5
  clear fVW0 fVW1
  clear HM hbw5 hrw5
  have fVW0 := (hm.var 1 rfl).c0
  have fVW1 := (hm.var 1 rfl).c1
  have HM := Lib.hid hm
  clear hm
  go_wp2_with fail
  refine (HIM.out _ _ ((HM.out.rows 0 rfl).sb HBD0.out (rows_len HTT0.out))).mono ?_
  rintro e w6 ⟨uw6, rfl, hrw6, hbw6⟩
  obtain ⟨aG, nG, hsw6⟩ := hrw6.slice
  subst hsw6
  have hm := ((HM.out.pushB hbw6 hrw6).pushVar p (.slice aG L.length nG) 31)
  clear fVW0 fVW1
  clear HM hbw6 hrw6
  have fVG0 := (hm.var 0 rfl).c0
  have fVG1 := (hm.var 0 rfl).c1
  have fVW0 := (hm.var 3 rfl).c0
  have fVW1 := (hm.var 3 rfl).c1
  have HM := Lib.hid hm
  clear hm
  go_wp2_with fail
  refine (eqSystem_same p _ _ L _ ((HM.out.blks 1 rfl).sb LWF.out LBD.out) ((HM.out.blks 4 rfl).sb LWF.out LBD.out)).mono ?_
  rintro e w7 ⟨rfl, hbw7⟩
  have hm := HM.out.step (gb_below hbw7)
  clear fVG0 fVG1 fVW0 fVW1
  clear HM hbw7
  have fVG0 := (hm.var 0 rfl).c0
  have fVG1 := (hm.var 0 rfl).c1
  have fVW0 := (hm.var 3 rfl).c0
  have fVW1 := (hm.var 3 rfl).c1
  have HM := Lib.hid hm
  clear hm
  go_wp2_with fail
  refine (toRows_own _ n0 F0 _ (HSB0.out.below HM.out.below (Nat.le_refl _))).mono ?_
  rintro e w8 ⟨tw8, rfl, ⟨gw8, capw8, hsw8⟩, hbw8, how8⟩
  subst hsw8
  have hkw8 := how8.sb HBD0.out (rows_len HTT0.out)
  have hm := HM.out.step (gb_below hbw8)
  clear fVG0 fVG1 fVW0 fVW1
  clear HM hbw8 how8
  have fVG0 := (hm.var 0 rfl).c0
  have fVG1 := (hm.var 0 rfl).c1
  have fVW0 := (hm.var 3 rfl).c0
  have fVW1 := (hm.var 3 rfl).c1
  have HM := Lib.hid hm
  clear hm
  go_wp2_with fail
  refine (eqInt64SS_same _ _ n0 F0 _ ((HM.out.rows 2 rfl).sb HBD0.out (rows_len HTT0.out)) hkw8).mono ?_
  rintro e w9 ⟨rfl, hbw9⟩
  have hm := HM.out.step (gb_below hbw9)
  clear fVG0 fVG1 fVW0 fVW1
  clear HM hbw9 hkw8
  have fVG0 := (hm.var 0 rfl).c0
  have fVG1 := (hm.var 0 rfl).c1
  have fVW0 := (hm.var 3 rfl).c0
  have fVW1 := (hm.var 3 rfl).c1
  have HM := Lib.hid hm
  clear hm
  go_wp2_with fail
  refine (ResH.mark (HM.out.rows 2 rfl) HBD0.out HTT0.out 1 (by omega) (by omega)).mono ?_
  rintro e w10 ⟨rfl, hww10, hrw10⟩
  have hm := HM.out.markH 2 rfl hww10 hrw10
  clear fVG0 fVG1 fVW0 fVW1
  clear HM hww10 hrw10
  have fVG0 := (hm.var 0 rfl).c0
  have fVG1 := (hm.var 0 rfl).c1
  have fVW0 := (hm.var 3 rfl).c0
  have fVW1 := (hm.var 3 rfl).c1
  have HM := Lib.hid hm
  clear hm
  obtain ⟨kw10, hkw10⟩ : ∃ m, m = 1 + ((tot F0 n0 : Nat) : Int) := ⟨_, rfl⟩
  rw [← hkw10]
  have h0kw10 : 0 ≤ kw10 := by have := HTT0.out; omega
  have h1kw10 : kw10 ≤ 3300001 := by have := HTT0.out; omega
  clear hkw10
  go_wp2_with fail
  refine (eqSystem_same p _ _ L _ ((HM.out.blks 1 rfl).sb LWF.out LBD.out) ((HM.out.blks 4 rfl).sb LWF.out LBD.out)).mono ?_
  rintro e w11 ⟨rfl, hbw11⟩
  have hm := HM.out.step (gb_below hbw11)
  clear fVG0 fVG1 fVW0 fVW1
  clear HM hbw11
  have fVG0 := (hm.var 0 rfl).c0
  have fVG1 := (hm.var 0 rfl).c1
  have fVW0 := (hm.var 3 rfl).c0
  have fVW1 := (hm.var 3 rfl).c1
  have HM := Lib.hid hm
  clear hm
  go_wp2_with fail
  refine (markSystem_any _ _ p _ L 1 _ (HM.out.blks 1 rfl) LBD.out (by omega) (by omega)).mono ?_
  rintro e w12 ⟨rfl, hww12, hrw12⟩
  have hm := HM.out.markB 1 rfl hww12 hrw12
  clear fVG0 fVG1 fVW0 fVW1
  clear HM hww12 hrw12
  have fVG0 := (hm.var 0 rfl).c0
  have fVG1 := (hm.var 0 rfl).c1
  have fVW0 := (hm.var 3 rfl).c0
  have fVW1 := (hm.var 3 rfl).c1
  have HM := Lib.hid hm
  clear hm
  have hheld := fun lo hi W (h : ResR W lo hi (Value.slice aG L.length nG) (markL 1 L.length)) => heldSystem_any lo hi p (.slice aG L.length nG) L.length 1 W h LBD.out (by omega) (by omega)
  obtain ⟨m5, hm5⟩ : ∃ m5, m5 = 1 + 3 * (L.length : Int) := ⟨_, rfl⟩
  rw [← hm5] at hheld ⊢
  have HHELD := Lib.hid hheld
  have m50 : 0 ≤ m5 := by omega
  have hn5 : (m5 != m5) = false := by simp
  clear hm5 hheld
  go_wp2_with fail
  refine (HHELD.out _ _ _ (HM.out.blks 1 rfl)).mono ?_
  rintro e w13 ⟨rfl, hbw13⟩
  have hm := HM.out.step (gb_below hbw13)
  clear fVG0 fVG1 fVW0 fVW1
  clear HM hbw13
  have fVG0 := (hm.var 0 rfl).c0
  have fVG1 := (hm.var 0 rfl).c1
  have fVW0 := (hm.var 3 rfl).c0
  have fVW1 := (hm.var 3 rfl).c1
  have HM := Lib.hid hm
  clear hm
  go_wp2_with fail
  refine (toRows_own _ n0 F0 _ (HSB0.out.below HM.out.below (Nat.le_refl _))).mono ?_
  rintro e w14 ⟨tw14, rfl, ⟨gw14, capw14, hsw14⟩, hbw14, how14⟩
  subst hsw14
  have r15 := how14.sb HBD0.out (rows_len HTT0.out)
  have hm := HM.out.step (gb_below hbw14)
  clear fVG0 fVG1 fVW0 fVW1
  clear HM hbw14 how14
  have fVG0 := (hm.var 0 rfl).c0
  have fVG1 := (hm.var 0 rfl).c1
  have fVW0 := (hm.var 3 rfl).c0
  have fVW1 := (hm.var 3 rfl).c1
  have HM := Lib.hid hm
  clear hm
  go_wp2_with fail
  refine (HIM.out _ _ r15).mono ?_
  rintro e w16 ⟨uw16, rfl, hrw16, hbw16⟩
  obtain ⟨aH, nH, hsw16⟩ := hrw16.slice
  subst hsw16
  clear r15
  have hm := ((HM.out.pushB hbw16 hrw16).pushVar p (.slice aH L.length nH) 31)
  clear fVG0 fVG1 fVW0 fVW1
  clear HM hbw16 hrw16
  have fVH0 := (hm.var 0 rfl).c0
  have fVH1 := (hm.var 0 rfl).c1
  have fVG0 := (hm.var 2 rfl).c0
  have fVG1 := (hm.var 2 rfl).c1
  have fVW0 := (hm.var 5 rfl).c0
  have fVW1 := (hm.var 5 rfl).c1
  have HM := Lib.hid hm
  clear hm
  go_wp2_with fail
  refine (eqSystem_same p _ _ L _ ((HM.out.blks 1 rfl).sb LWF.out LBD.out) ((HM.out.blks 6 rfl).sb LWF.out LBD.out)).mono ?_
  rintro e w17 ⟨rfl, hbw17⟩
  have hm := HM.out.step (gb_below hbw17)
  clear fVH0 fVH1 fVG0 fVG1 fVW0 fVW1
  clear HM hbw17
  have fVH0 := (hm.var 0 rfl).c0
  have fVH1 := (hm.var 0 rfl).c1
  have fVG0 := (hm.var 2 rfl).c0
  have fVG1 := (hm.var 2 rfl).c1
  have fVW0 := (hm.var 5 rfl).c0
  have fVW1 := (hm.var 5 rfl).c1
  have HM := Lib.hid hm
  clear hm
  go_wp2_with fail
  refine (HHELD.out _ _ _ (HM.out.blks 3 rfl)).mono ?_
  rintro e w18 ⟨rfl, hbw18⟩
  have hm := HM.out.step (gb_below hbw18)
  clear fVH0 fVH1 fVG0 fVG1 fVW0 fVW1
  clear HM hbw18
  have fVH0 := (hm.var 0 rfl).c0
  have fVH1 := (hm.var 0 rfl).c1
  have fVG0 := (hm.var 2 rfl).c0
  have fVG1 := (hm.var 2 rfl).c1
  have fVW0 := (hm.var 5 rfl).c0
  have fVW1 := (hm.var 5 rfl).c1
  have HM := Lib.hid hm
  clear hm
  go_wp2
  go_ret
  exact RV_of rfl HM.out.below
set_option maxRecDepth 100000 in
theorem FnExactThreefoldSystem_long0 (s0 : Value) (n0 : Nat) (F0 : Nat → List Int) (w : World) (h0 : InSS w s0 n0 F0)  (hl : ¬ (n0 + tot F0 n0) ≤ 1048576) : Calls Try.prog 4 #[s0] w (RV (.bool true) w) := by
  have hsl0 := h0.slice
  have hsz0 := fun W (hb : Below w.heap.size w W) => szRows_any s0 n0 F0 w h0 (1048576) (by omega) (by omega) W hb
  simp only [if_pos (show (1048576 : Int) - ((n0 + tot F0 n0 : Nat) : Int) < 0 by omega)] at hsz0
  have HSZ0 := Lib.hid hsz0
  clear hl h0 hsz0
  obtain ⟨a0, c0, rfl⟩ := hsl0
  go_enter Try.func4, Try.ntmps4
  go_wp2_with fail
  refine (HSZ0.out _ (by exact (Below.refl _ _))).mono ?_
  rintro e y0 ⟨rfl, rfl⟩
  go_wp2
  go_ret
  exact RV_of rfl (Below.refl _ _)
theorem FnExactThreefoldSystem_any (s0 : Value) (n0 : Nat) (F0 : Nat → List Int) (w : World) (h0 : InSS w s0 n0 F0) : Calls Try.prog 4 #[s0] w (RV (.bool true) w) := by
  by_cases hs0 : (n0 + tot F0 n0) ≤ 1048576
  case neg => exact FnExactThreefoldSystem_long0 s0 n0 F0 w h0   hs0
  exact FnExactThreefoldSystem_main s0 n0 F0 w h0 hs0 
end Go.Proofs.Ytlhiokcdjnmfmaa

namespace Go.Proofs.Ytlhiokcdjnmfmaa
set_option maxRecDepth 100000 in
noncomputable def iniP : { L : List Char // Try.prog.initOrder = String.ofList L } := ⟨_, by unfold Try.prog; rfl⟩
theorem iniL : Try.prog.initOrder.toList = iniP.1 := (congrArg String.toList iniP.2).trans String.toList_ofList
theorem words_cons (c : Char) (r : List Char) (h : c ≠ Char.ofNat 32) : wordsSigns (c :: r) = match wordsSigns r with | w :: ws => (c :: w) :: ws | [] => [[c]] := by
  rw [wordsSigns]
  all_goals first | rfl | exact h | (intro e; exact h e)
theorem words_word : ∀ (a b : List Char), (a.all fun c => c != Char.ofNat 32) = true → wordsSigns (a ++ Char.ofNat 32 :: b) = a :: wordsSigns b
  | [], b, _ => rfl
  | c :: a, b, h => by
    simp only [List.all_cons, Bool.and_eq_true, bne_iff_ne, ne_eq] at h
    rw [List.cons_append, words_cons _ _ h.1, words_word a b (by simpa using h.2)]
set_option maxRecDepth 100000 in
theorem split1 : iniP.1 = iniP.1.take 7 ++ Char.ofNat 32 :: iniP.1.drop 8 := by kernel_rfl
set_option maxRecDepth 100000 in
theorem split2 : iniP.1.drop 8 = (iniP.1.drop 8).take 64 ++ Char.ofNat 32 :: iniP.1.drop 73 := by kernel_rfl
set_option maxRecDepth 100000 in
theorem split3 : iniP.1.drop 73 = (iniP.1.drop 73).take 3 ++ Char.ofNat 32 :: iniP.1.drop 77 := by kernel_rfl
theorem isCut : (iniP.1.drop 73).take 3 = "cut".toList := by kernel_rfl
set_option maxRecDepth 100000 in
theorem isHead : ((iniP.1.take 7 == "harness".toList || iniP.1.take 7 == "ownmain".toList) && isSumSigns ((iniP.1.drop 8).take 64)) = true := by kernel_rfl
theorem wordsL : wordsSigns iniP.1 = iniP.1.take 7 :: (iniP.1.drop 8).take 64 :: "cut".toList :: wordsSigns (iniP.1.drop 77) := by
  rw [← isCut]
  conv => lhs; rw [split1]
  rw [words_word _ _ (by kernel_rfl)]
  conv => lhs; rw [split2]
  rw [words_word _ _ (by kernel_rfl)]
  conv => lhs; rw [split3]
  rw [words_word _ _ (by kernel_rfl)]
theorem behindL : behindMainWord (wordsSigns Try.prog.initOrder.toList) = "cut".toList :: wordsSigns (iniP.1.drop 77) := by
  rw [iniL, wordsL]
  unfold behindMainWord
  simp only [isHead, if_true]
theorem stripL (ws : List (List Char)) : stripLifts liftWords ("cut".toList :: ws) = ([], "cut".toList :: ws) := by kernel_rfl
section
variable (P : Program) (ws : List (List Char)) (h : behindMainWord (wordsSigns P.initOrder.toList) = "cut".toList :: ws)
include h
theorem head_of : P.headLifts = [] := by
  unfold Program.headLifts
  rw [h]
  simp only [stripL]
  kernel_rfl
theorem make_of : P.make = some .cut := by
  unfold Program.make
  rw [h, head_of P ws h]
  kernel_rfl
theorem lifts_of : P.liftsFinal = false := by
  unfold Program.liftsFinal
  rw [h, head_of P ws h]
  kernel_rfl
theorem enter_of (h1 : P.laysLater = false) (h2 : P.bearsReflect = false) (h3 : P.doorFits [] = true) : P.mayEnter = true := by
  unfold Program.mayEnter
  rw [h]
  simp only [stripL]
  rw [h1, h2, h3]
  kernel_rfl
end
theorem mayE : Try.pinned.checked.prog.mayEnter = true := enter_of _ _ behindL (by kernel_rfl) (by kernel_rfl) (by kernel_rfl)
theorem liftsF : Try.pinned.checked.prog.liftsFinal = false := lifts_of _ _ behindL
theorem makeF : Try.pinned.checked.prog.make = some .cut := make_of _ _ behindL
theorem both {a b : Bool} (h : a = true) (k : b = true) : (a && b) = true := by rw [h, k]; rfl
end Go.Proofs.Ytlhiokcdjnmfmaa

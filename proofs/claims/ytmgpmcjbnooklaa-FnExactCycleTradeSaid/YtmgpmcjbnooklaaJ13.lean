
/- Cycle trades: how great they are. How the laws' arguments are read. How the laws' other arguments are read: slices of integers, slices of blocks, a block, rows. How a law's trade is read. The laws' own helpers for trades: sizes, copies, equality, marks. The law FnExactCycleTrade returns true. The dump's head word by word, cheaply: what every row asks of it. -/
import Derived.Test.YtmgpmcjbnooklaaJ12
import Derived.Test.YtmgpmcjbnooklaaRows
import Derived.ProofKit
import Derived.OpenShut
import Derived.Deep.Slices
import Derived.Lib.SmallJoins
import Derived.ChangeOld
import Derived.Deep.RegionWith
import Derived.Deep.DeepCutAuto
namespace Go.Proofs.Ytmgpmcjbnooklaa
open Go.RowKit Go.Maps
theorem ct_per {v : Int} {bs : List Blk} {a b p : Int} (h : ctCode v bs a b p = 0) : perN bs a.toNat b.toNat p ≤ 15 ∧ (∀ k, 0 ≤ wk bs a.toNat b.toNat p k ∧ wk bs a.toNat b.toNat p k < v) := by
  obtain ⟨hi, hf, ha, hb, hab, hp, hpa, hpb, hpt⟩ := ct_good h
  obtain ⟨n, rfl⟩ : ∃ n : Nat, v = (n : Int) := ⟨v.toNat, by have := sys_size hi; omega⟩
  obtain ⟨i, rfl⟩ : ∃ n : Nat, a = (n : Int) := ⟨a.toNat, by omega⟩
  obtain ⟨j, rfl⟩ : ∃ n : Nat, b = (n : Int) := ⟨b.toNat, by omega⟩
  have hbey : Beyond n bs (i : Int) (j : Int) p := ⟨hp, hpa, hpb, hpt⟩
  have hper := perN_ok hi hf (a := i) (b := j) (by omega) (by omega) (by omega) hbey
  rw [Int.toNat_natCast, Int.toNat_natCast]
  exact ⟨hper.2.2.1, fun k => ((two_thirds hi hf ha hb hab).mem hbey k).1⟩
theorem ctF_le (v : Int) (bs : List Blk) (a b p : Int) : (ctF v bs a b p).2.1.1.length + (ctF v bs a b p).2.1.2.length ≤ 30 := by
  unfold ctF
  split
  · rename_i h
    have := (ct_per h).1
    simp only [sortB_length, outC_len, inC_len]
    omega
  · simp
theorem blk3_wf {v a b c : Int} (hv : v ≤ 1000) (ha : 0 ≤ a ∧ a < v) (hb : 0 ≤ b ∧ b < v) (hc : 0 ≤ c ∧ c < v) : WFB (blk3 a b c) := by
  have h := blk3_in ha hb hc
  exact ⟨wf_pl h.1.1 (by have := h.1.2; omega), wf_pl h.2.1.1 (by have := h.2.1.2; omega), wf_pl h.2.2.1 (by have := h.2.2.2; omega)⟩
theorem ctF_wfo (v : Int) (bs : List Blk) (a b p : Int) : ∀ x ∈ (ctF v bs a b p).2.1.1, WFB x := by
  unfold ctF
  split
  · rename_i h
    intro x hx
    have hx : x ∈ sortB (outC bs a.toNat b.toNat p (perN bs a.toNat b.toNat p)) := hx
    rw [sortB_mem] at hx
    obtain ⟨k, _, rfl⟩ := List.mem_map.1 hx
    obtain ⟨hi, _, ha, hb, _⟩ := ct_good h
    have hr := (ct_per h).2
    refine blk3_wf (v := v) (by have := sys_size hi; omega) ?_ (hr _) (hr _)
    split <;> omega
  · simp
theorem ctF_wfi (v : Int) (bs : List Blk) (a b p : Int) : ∀ x ∈ (ctF v bs a b p).2.1.2, WFB x := by
  unfold ctF
  split
  · rename_i h
    intro x hx
    have hx : x ∈ sortB (inC bs a.toNat b.toNat p (perN bs a.toNat b.toNat p)) := hx
    rw [sortB_mem] at hx
    obtain ⟨k, _, rfl⟩ := List.mem_map.1 hx
    obtain ⟨hi, _, ha, hb, _⟩ := ct_good h
    have hr := (ct_per h).2
    refine blk3_wf (v := v) (by have := sys_size hi; omega) ?_ (hr _) (hr _)
    split <;> omega
  · simp
end Go.Proofs.Ytmgpmcjbnooklaa

namespace Go.Proofs.Ytmgpmcjbnooklaa
open Go.ChangeShapes Go.WideShapes Go.ChangeAt Go.RowKit Go.Deep Go.Joins
theorem ownKnobs : ownKnob Try.prog.godebug = none := by kernel_rfl
section
variable {H : Type} {enc : TypeId × Value → H} {W : World} {base : Nat} {held : Bool}
theorem arrCells : Try.prog.cellsOf 67 = 3 := by kernel_rfl
set_option maxRecDepth 100000 in
theorem open_arr3 {fuel : Nat} {cs : List Value} {x : DataW H × List MemPlace} (h : DataW.trod enc Try.prog W base (fun _ => true) held fuel 67 cs = some x) :
    ∃ a b c : Int, cs = [.int .i64 a, .int .i64 b, .int .i64 c] ∧ (Lit.int .i64 a).wf = true ∧ (Lit.int .i64 b).wf = true ∧ (Lit.int .i64 c).wf = true := by
  obtain ⟨xs, m, rfl, rfl, hl, hx, hat⟩ := DataW.trod_array Try.underlying67 h
  rw [arrCells] at hl
  match cs, hl with
  | [c0, c1, c2], _ =>
    match xs, hx with
    | [x0, x1, x2], _ =>
      have h0 := hat 0 (by omega)
      have h1 := hat 1 (by omega)
      have h2 := hat 2 (by omega)
      rw [int64Cells] at h0 h1 h2
      simp at h0 h1 h2
      obtain ⟨a, ha, _, wa⟩ := DataW.trod_int Try.underlying2 h0
      obtain ⟨b, hb, _, wb⟩ := DataW.trod_int Try.underlying2 h1
      obtain ⟨c, hc, _, wc⟩ := DataW.trod_int Try.underlying2 h2
      simp at ha hb hc
      exact ⟨a, b, c, by rw [ha, hb, hc], wa, wb, wc⟩
theorem add_at (b off i : Nat) : (⟨b, off, none⟩ : Addr).add i = ⟨b, off + i, none⟩ := by
  unfold Addr.add
  split
  · subst_vars; rfl
  · rfl
set_option maxRecDepth 100000 in
theorem open_arrs {fuel : Nat} {s : Value} {x : DataW H × List MemPlace} (h : DataW.trod enc Try.prog W base (fun _ => true) held fuel 22 [s] = some x) : ∃ bs, InB W s bs := by
  rcases open_slice Try.underlying22 h with ⟨hcs, _⟩ | ⟨a, len, cap, m, n, D, Pl, hcs, hb, hl, hm, hmm, hx, hi⟩
  · simp at hcs
    exact ⟨[], by simp, by simp, .inl ⟨none, 0, hcs, rfl⟩⟩
  · simp at hcs
    subst hcs
    simp at hmm
    subst hmm
    have hm' : m ≤ 9223372036854775807 := by unfold maxLen at hm; exact hm
    by_cases h0 : len = 0
    · subst h0
      exact ⟨[], by simp, by simp, .inl ⟨_, _, rfl, rfl⟩⟩
    · have cell : ∀ i, i < m → ∃ y : Blk, WFB y ∧ ∀ j (v : Value), [Value.int .i64 y.a, Value.int .i64 y.b, Value.int .i64 y.c][j]? = some v → W.cell? (a.add (i * 3 + j)) = some v := fun i him => by
        obtain ⟨cs', hc, ht⟩ := hi i him
        obtain ⟨p, q, r, rfl, wp, wq, wr⟩ := open_arr3 ht
        rw [arrCells] at hc
        obtain ⟨_, _, hat⟩ := World.cells?_some hc
        refine ⟨⟨p, q, r⟩, ⟨wp, wq, wr⟩, fun j v hv => ?_⟩
        have hj : j < 3 := by
          have := (List.getElem?_eq_some_iff.1 hv).1
          simpa using this
        rw [← Go.Deep.add_add, hat j hj]
        exact hv
      obtain ⟨F, hF⟩ := choose_lt (α := Blk) cell
      obtain ⟨b, off, spot⟩ := a
      have hc0 := (hF 0 (by omega)).2 0 _ rfl
      have hspot : spot = none := by simpa [Addr.add] using World.cell?_spot hc0
      subst hspot
      refine ⟨(List.range len).map F, ?_, by simp; omega, .inr ⟨b, off, m, by simp, ?_, ?_⟩⟩
      · intro y hy
        obtain ⟨i, hi', rfl⟩ := List.mem_map.1 hy
        exact (hF i (by have := List.mem_range.1 hi'; omega)).1
      · exact block_lt_of_cell hc0
      · intro k hk
        simp at hk
        have e : ((List.range len).map F)[k]?.getD default = F k := by simp [hk]
        rw [e]
        have := (hF k (by omega)).2
        refine ⟨?_, ?_, ?_⟩
        · have h0 := this 0 _ rfl
          rw [add_at] at h0
          exact h0
        · have h1 := this 1 _ rfl
          rw [add_at, ← Nat.add_assoc] at h1
          exact h1
        · have h2 := this 2 _ rfl
          rw [add_at, ← Nat.add_assoc] at h2
          exact h2
theorem isSys : ∃ f0 f1 : Field, Try.prog.underlying 24 = some (.struct #[f0, f1]) ∧ f0.type = 2 ∧ f1.type = 22 ∧ oneCellFields Try.prog #[f0, f1] = true :=
  ⟨_, _, Try.underlying24, rfl, rfl, by kernel_rfl⟩
theorem sysCells : Try.prog.cellsOf 24 = 2 := by kernel_rfl
set_option maxRecDepth 100000 in
theorem open_system {r : Reach} {b0 : Nat} {v : Value} {d : DataW H} {p : List MemPlace} (hv : Value.okWide Try.prog W r b0 24 v) (h : DataW.Trod enc Try.prog W base (fun _ => true) held 24 v d p) :
    ∃ (n : Int) (s : Value) (bs : List Blk), v = .agg #[.int .i64 n, s] ∧ WF n ∧ InB W s bs := by
  obtain ⟨f0, f1, hu, e0, e1, hone⟩ := isSys
  obtain ⟨v0, v1, y0, y1, n, rfl, _, _, h0, h1⟩ := open_agg2 hu hone sysCells hv h
  rw [e0] at h0
  rw [e1] at h1
  obtain ⟨k, hk, _, wk⟩ := DataW.trod_int Try.underlying2 h0
  simp at hk
  subst hk
  obtain ⟨bs, hbs⟩ := open_arrs h1
  exact ⟨k, v1, bs, rfl, wk, hbs⟩
end
end Go.Proofs.Ytmgpmcjbnooklaa

namespace Go.Proofs.Ytmgpmcjbnooklaa
open Go.ChangeShapes Go.WideShapes Go.ChangeAt Go.RowKit Go.Deep Go.Joins
/-- The value is a slice of just these integers, however many. -/
def InZ (w : World) (s : Value) (zs : List Int) : Prop :=
  (∀ z ∈ zs, WF z) ∧ zs.length ≤ 9223372036854775807 ∧ ((∃ a c, s = .slice a 0 c ∧ zs = []) ∨ ∃ b off cap, s = .slice (some ⟨b, off, none⟩) zs.length cap ∧ b < w.heap.size ∧ Ints w b off zs)
theorem InZ.slice {w : World} {s : Value} {zs : List Int} (h : InZ w s zs) : ∃ a c, s = .slice a zs.length c := by
  rcases h.2.2 with ⟨a, c, rfl, rfl⟩ | ⟨b, off, cap, rfl, _⟩ <;> exact ⟨_, _, rfl⟩
theorem InZ.ib {w : World} {s : Value} {zs : List Int} (h : InZ w s zs) (hl : zs.length ≤ 1048576) : IB w s zs := ⟨by omega, h.2.2⟩
/-- The value is a slice of just these rows, however many. -/
def InSS (w : World) (s : Value) (n : Nat) (F : Nat → List Int) : Prop :=
  n ≤ 9223372036854775807 ∧ ((n = 0 ∧ ∃ a c, s = .slice a 0 c) ∨ ∃ b off cap, s = .slice (some ⟨b, off, none⟩) n cap ∧ b < w.heap.size ∧ ∀ k, k < n → ∃ u, w.cell? ⟨b, off + k, none⟩ = some u ∧ InZ w u (F k))
theorem okWide_array {P : Program} {w : World} {r : Reach} {base : Nat} {t : TypeId} {v : Value} {n : Nat} {e : TypeId} (ht : P.underlying t = some (.array n e)) (h : Value.okWide P w r base t v) : ∃ cs, v = .agg cs ∧ cs.size = P.cellsOf t := by
  simp only [Value.okWide, ht] at h
  obtain ⟨cs, h1, h2, _⟩ := h
  exact ⟨cs, h1, h2⟩
section
variable {H : Type} {enc : TypeId × Value → H} {W : World} {base : Nat} {held : Bool}
set_option maxRecDepth 100000 in
theorem open_zs {fuel : Nat} {s : Value} {x : DataW H × List MemPlace} (h : DataW.trod enc Try.prog W base (fun _ => true) held fuel 26 [s] = some x) : ∃ zs, InZ W s zs := by
  rcases open_slice1 Try.underlying26 int64Cells h with ⟨hcs, _⟩ | ⟨a, len, cap, m, n, V, D, Pl, hcs, hb, hl, hm, hmm, hx, hi⟩
  · simp at hcs
    exact ⟨[], by simp, by simp, .inl ⟨none, 0, hcs, rfl⟩⟩
  · simp at hcs
    subst hcs
    simp at hmm
    subst hmm
    have hm' : m ≤ 9223372036854775807 := by unfold maxLen at hm; exact hm
    by_cases h0 : len = 0
    · subst h0
      exact ⟨[], by simp, by simp, .inl ⟨_, _, rfl, rfl⟩⟩
    · have cell : ∀ i, i < m → ∃ y : Int, WF y ∧ W.cell? (a.add i) = some (.int .i64 y) := fun i him => by
        obtain ⟨hc, ht⟩ := hi i him
        obtain ⟨k, hk, _, wk⟩ := DataW.trod_int Try.underlying2 ht
        simp at hk
        exact ⟨k, wk, by rw [hc, hk]⟩
      obtain ⟨F, hF⟩ := choose_lt (α := Int) cell
      obtain ⟨b, off, spot⟩ := a
      have hc0 := (hF 0 (by omega)).2
      have hspot : spot = none := by simpa [Addr.add] using World.cell?_spot hc0
      subst hspot
      refine ⟨(List.range len).map F, ?_, by simp; omega, .inr ⟨b, off, m, by simp, ?_, ?_⟩⟩
      · intro y hy
        obtain ⟨i, hi', rfl⟩ := List.mem_map.1 hy
        exact (hF i (by have := List.mem_range.1 hi'; omega)).1
      · exact block_lt_of_cell hc0
      · intro k hk
        simp at hk
        have e : ((List.range len).map F)[k]?.getD 0 = F k := by simp [hk]
        rw [e]
        have h1 := (hF k (by omega)).2
        rw [add_at] at h1
        exact h1
set_option maxRecDepth 100000 in
theorem open_ints64 {r : Reach} {b0 : Nat} {v : Value} {d : DataW H} {p : List MemPlace} (hv : Value.okWide Try.prog W r b0 26 v) (h : DataW.Trod enc Try.prog W base (fun _ => true) held 26 v d p) : ∃ zs, InZ W v zs := by
  obtain ⟨a, len, cap, rfl⟩ := okWide_slice Try.underlying26 hv
  obtain ⟨fuel, hf⟩ := h
  exact open_zs hf
set_option maxRecDepth 100000 in
theorem open_blocks {r : Reach} {b0 : Nat} {v : Value} {d : DataW H} {p : List MemPlace} (hv : Value.okWide Try.prog W r b0 22 v) (h : DataW.Trod enc Try.prog W base (fun _ => true) held 22 v d p) : ∃ bs, InB W v bs := by
  obtain ⟨a, len, cap, rfl⟩ := okWide_slice Try.underlying22 hv
  obtain ⟨fuel, hf⟩ := h
  exact open_arrs hf
theorem sliceCells : Try.prog.cellsOf 26 = 1 := by kernel_rfl
set_option maxRecDepth 100000 in
theorem open_rows {r : Reach} {b0 : Nat} {v : Value} {d : DataW H} {p : List MemPlace} (hv : Value.okWide Try.prog W r b0 45 v) (h : DataW.Trod enc Try.prog W base (fun _ => true) held 45 v d p) : ∃ n F, InSS W v n F := by
  obtain ⟨A0, L0, C0, rfl⟩ := okWide_slice Try.underlying45 hv
  obtain ⟨fuel, hf⟩ := h
  have hf' : DataW.trod enc Try.prog W base (fun _ => true) held fuel 45 [.slice A0 L0 C0] = some (d, p) := hf
  rcases open_slice1 Try.underlying45 sliceCells hf' with ⟨hcs, _⟩ | ⟨a, len, cap, m, n, V, D, Pl, hcs, hb, hl, hm, hmm, hx, hi⟩
  · simp at hcs
    obtain ⟨rfl, rfl, rfl⟩ := hcs
    exact ⟨0, fun _ => [], by omega, .inl ⟨rfl, _, _, rfl⟩⟩
  · simp at hcs
    obtain ⟨e1, e2, e3⟩ := hcs
    subst e1
    subst e2
    subst e3
    simp at hmm
    subst hmm
    have hm' : m ≤ 9223372036854775807 := by unfold maxLen at hm; exact hm
    by_cases h0 : L0 = 0
    · subst h0
      exact ⟨0, fun _ => [], by omega, .inl ⟨rfl, _, _, rfl⟩⟩
    · have cell : ∀ i, i < m → ∃ y : List Int, ∃ u, W.cell? (a.add i) = some u ∧ InZ W u y := fun i him => by
        obtain ⟨hc, ht⟩ := hi i him
        obtain ⟨zs, hz⟩ := open_zs ht
        exact ⟨zs, _, hc, hz⟩
      obtain ⟨F, hF⟩ := choose_lt (α := List Int) cell
      obtain ⟨b, off, spot⟩ := a
      obtain ⟨u0, hc0, _⟩ := hF 0 (by omega)
      have hspot : spot = none := by simpa [Addr.add] using World.cell?_spot hc0
      subst hspot
      refine ⟨L0, F, by omega, .inr ⟨b, off, m, rfl, block_lt_of_cell hc0, fun k hk => ?_⟩⟩
      obtain ⟨u, h1, h2⟩ := hF k (by omega)
      rw [add_at] at h1
      exact ⟨u, h1, h2⟩
set_option maxRecDepth 100000 in
theorem open_blk {r : Reach} {b0 : Nat} {v : Value} {d : DataW H} {p : List MemPlace} (hv : Value.okWide Try.prog W r b0 67 v) (h : DataW.Trod enc Try.prog W base (fun _ => true) held 67 v d p) : ∃ x, v = bv x ∧ WFB x := by
  obtain ⟨cs, rfl, hsz⟩ := okWide_array Try.underlying67 hv
  obtain ⟨fuel, hf⟩ := h
  obtain ⟨a, b, c, e, wa, wb, wc⟩ := open_arr3 hf
  have : cs.toList = [.int .i64 a, .int .i64 b, .int .i64 c] := e
  refine ⟨⟨a, b, c⟩, ?_, wa, wb, wc⟩
  unfold bv
  rw [← this]
end
end Go.Proofs.Ytmgpmcjbnooklaa

namespace Go.Proofs.Ytmgpmcjbnooklaa
open Go.ChangeShapes Go.WideShapes Go.ChangeAt Go.RowKit Go.Deep Go.Joins
section
variable {H : Type} {enc : TypeId × Value → H} {W : World} {base : Nat} {held : Bool}
end
end Go.Proofs.Ytmgpmcjbnooklaa

namespace Go.Proofs.Ytmgpmcjbnooklaa
open Go.RowKit Go.Maps
theorem OwnB.grown1 {w w' : World} {lo g cap : Nat} {bs : List Blk} (h : OwnB w lo (.slice (some ⟨g, 0, none⟩) bs.length cap) bs) {row : Option Nat} (hg : w.grownBy w' row) (hr : ∀ r, row = some r → r < g) : OwnB w' lo (.slice (some ⟨g, 0, none⟩) bs.length cap) bs := by
  obtain ⟨g', cap', e, h1, h2, h3, h4, h5⟩ := h
  simp at e
  obtain ⟨rfl, rfl⟩ := e
  have hb := hg.block g h2 (fun e => by have := hr g e.symm; omega)
  refine ⟨g, cap, rfl, h1, Nat.lt_of_lt_of_le h2 hg.size, fun k hk => ?_, fun o => ?_, h5⟩
  · obtain ⟨p1, p2, p3⟩ := h3 k hk
    exact ⟨(World.cell?_of_block (w := w) (a := ⟨g, _, none⟩) hb).trans p1, (World.cell?_of_block (w := w) (a := ⟨g, _, none⟩) hb).trans p2, (World.cell?_of_block (w := w) (a := ⟨g, _, none⟩) hb).trans p3⟩
  · exact (World.frozen?_of_block (w := w) (a := ⟨g, o, none⟩) hb).trans (h4 o)
set_option maxRecDepth 100000 in
set_option maxHeartbeats 1000000 in
theorem eqTrade_same (v : Int) (so si tq ti : Value) (bo bi : List Blk) (w : World) (h : TB w so bo si bi) (k : TB w tq bo ti bi) : Calls Try.prog 20 #[.agg #[.int .i64 v, so, si], .agg #[.int .i64 v, tq, ti]] w (RV (.bool true) w) := by
  have h1 := h.1.slice
  have h2 := h.2.slice
  have k1 := k.1.slice
  have k2 := k.2.slice
  have HC1 := Lib.hid fun W (hb : Below w.heap.size w W) => eqBlockS_same so tq bo W (h.1.below hb (Nat.le_refl _)) (k.1.below hb (Nat.le_refl _))
  have HC2 := Lib.hid fun W (hb : Below w.heap.size w W) => eqBlockS_same si ti bi W (h.2.below hb (Nat.le_refl _)) (k.2.below hb (Nat.le_refl _))
  clear h k
  obtain ⟨a1, c1, rfl⟩ := h1
  obtain ⟨a2, c2, rfl⟩ := h2
  obtain ⟨a3, c3, rfl⟩ := k1
  obtain ⟨a4, c4, rfl⟩ := k2
  have hnv : (v != v) = false := by simp
  go_enter Try.func20, Try.ntmps20
  go_wp2_with fail
  have hB0 : Below w.heap.size w ((w.alloc (.cells #[.int .i64 v, .slice a1 bo.length c1, .slice a2 bi.length c2] 39)).alloc (.cells #[.int .i64 v, .slice a3 bo.length c3, .slice a4 bi.length c4] 39)) := ((Below.refl _ _).alloc (Nat.le_refl _) _).alloc (by simp) _
  have p2 : ((w.alloc (.cells #[.int .i64 v, .slice a1 bo.length c1, .slice a2 bi.length c2] 39)).alloc (.cells #[.int .i64 v, .slice a3 bo.length c3, .slice a4 bi.length c4] 39)).cell? ⟨w.heap.size, 2, none⟩ = some (.slice a2 bi.length c2) := cell_past (new_at 2 rfl) (by simp)
  have q2 : ((w.alloc (.cells #[.int .i64 v, .slice a1 bo.length c1, .slice a2 bi.length c2] 39)).alloc (.cells #[.int .i64 v, .slice a3 bo.length c3, .slice a4 bi.length c4] 39)).cell? ⟨w.heap.size + 1, 2, none⟩ = some (.slice a4 bi.length c4) := by
    have := new_at (w := w.alloc (.cells #[.int .i64 v, .slice a1 bo.length c1, .slice a2 bi.length c2] 39)) (cs := #[.int .i64 v, .slice a3 bo.length c3, .slice a4 bi.length c4]) (T := 39) 2 rfl
    rw [World.size_alloc] at this
    exact this
  refine (HC1.out _ hB0).mono ?_
  rintro e w1 ⟨rfl, hb1⟩
  have r2 := (hb1.cell (p := ⟨w.heap.size, 2, none⟩) (by simp; omega)).trans p2
  have s2 := (hb1.cell (p := ⟨w.heap.size + 1, 2, none⟩) (by simp)).trans q2
  have hbw := hB0.trans (hb1.mono hB0.size)
  clear hb1 p2 q2 hB0
  go_wp2_with fail
  refine (HC2.out _ hbw).mono ?_
  rintro e w2 ⟨rfl, hb2⟩
  go_wp2
  go_ret
  exact RV_of rfl (hbw.trans (hb2.mono hbw.size))
theorem ResR.narrow {w : World} {lo hi : Nat} {s : Value} {bs : List Blk} (h : ResR w lo hi s bs) : ResR w lo (min hi w.heap.size) s bs := by
  rcases h with h | ⟨g, cap, rfl, h1, h2, ho⟩
  · exact .inl h
  · exact .inr ⟨g, cap, rfl, h1, by have := ho.lt; omega, ho⟩
set_option maxRecDepth 100000 in
set_option maxHeartbeats 1000000 in
theorem markTrade_any (lo hi : Nat) (v : Int) (so : Value) (bo : List Blk) (si : Value) (bi : List Blk) (k : Int) (w : World) (h : ResT w lo hi so bo si bi) (hl : bo.length + bi.length ≤ 1100000) (h0 : 0 ≤ k) (h1 : k ≤ 4000000) :
    Calls Try.prog 21 #[.agg #[.int .i64 v, so, si], .int .i64 k] w (fun e w' => e = .returned (.int .i64 (k + 3 * ((bo.length + bi.length : Nat) : Int))) ∧ OnlyIn lo hi w w' ∧ ResT w' lo hi so (markL k bo.length) si (markL (k + 3 * (bo.length : Int)) bi.length)) := by
  obtain ⟨ls1, ls2⟩ := h.slice
  obtain ⟨a, b, c, d, ha, hb, hc, hd, hx, r1, r2⟩ := h
  have HC1 := Lib.hid (markR a (min b w.heap.size) so bo k (w.alloc (.cells #[.int .i64 v, so, si] 39)) (r1.narrow.below ((Below.refl _ _).alloc (Nat.le_refl _) _) (Nat.le_refl _)) (by omega) h0 (by omega))
  have hr2 := r2.narrow.below ((Below.refl w.heap.size w).alloc (Nat.le_refl _) (.cells #[.int .i64 v, so, si] 39)) (Nat.le_refl _)
  have R2 := Lib.hid hr2
  clear hr2 r2 r1
  obtain ⟨m, hm⟩ : ∃ m, m = k + 3 * (bo.length : Int) := ⟨_, rfl⟩
  have HC2 := Lib.hid fun (W : World) (hW : ResR W c (min d w.heap.size) si bi) => markR c (min d w.heap.size) si bi m W hW (by omega) (by omega) (by omega)
  rw [show k + 3 * ((bo.length + bi.length : Nat) : Int) = m + 3 * (bi.length : Int) by omega]
  rw [← hm] at HC1 ⊢
  have hm0 : 0 ≤ m := by omega
  obtain ⟨n, hn⟩ : ∃ n, n = m + 3 * (bi.length : Int) := ⟨_, rfl⟩
  rw [← hn] at HC2 ⊢
  have hn0 : 0 ≤ n := by omega
  clear hm hn
  obtain ⟨a1, c1, rfl⟩ := ls1
  obtain ⟨a2, c2, rfl⟩ := ls2
  go_enter Try.func21, Try.ntmps21
  go_wp2_with fail
  refine HC1.out.mono ?_
  rintro e w1 ⟨rfl, ⟨row, hg, hrow⟩, hr1⟩
  have x2 : w1.cell? ⟨w.heap.size, 2, none⟩ = some (.slice a2 bi.length c2) := hg.cell (new_at 2 rfl) (fun e => by have := hrow _ e.symm; simp at this; omega)
  have R1 := Lib.hid hr1
  have K2 := Lib.hid (R2.out.kept hg (fun r e => by have := hrow r e; omega))
  have O1 := Lib.hid ((OnlyIn.of_below (lo := w.heap.size) ((Below.refl w.heap.size w).alloc (Nat.le_refl _) (.cells #[.int .i64 v, .slice a1 bo.length c1, .slice a2 bi.length c2] 39))))
  have hg1 := Lib.hid hg
  have hs1 := hg.size
  clear hg hr1 R2
  go_wp2_with fail
  refine (HC2.out _ K2.out).mono ?_
  rintro e w2 ⟨rfl, ⟨row2, hg2, hrow2⟩, hr2⟩
  have R2 := Lib.hid hr2
  have G2 := Lib.hid hg2
  clear hg2 hr2
  go_wp2
  go_ret
  refine ⟨rfl, ?_, ⟨a, min b w.heap.size, c, min d w.heap.size, ha, by omega, hc, by omega, by omega, ?_, R2.out⟩⟩
  · have oA : OnlyIn lo hi w (w.alloc (.cells #[.int .i64 v, .slice a1 bo.length c1, .slice a2 bi.length c2] 39)) := OnlyIn.of_grown (World.grownBy_alloc _ _ none) (by simp)
    exact (oA.trans (OnlyIn.of_grown hg1.out (fun r e => by have := hrow r e; omega))).trans (OnlyIn.of_grown G2.out (fun r e => by have := hrow2 r e; omega))
  · have := R1.out.kept G2.out (fun r e => by have := hrow2 r e; omega)
    exact this
set_option maxRecDepth 100000 in
set_option maxHeartbeats 1000000 in
theorem heldTrade_any (lo hi : Nat) (v : Int) (so : Value) (no : Nat) (si : Value) (ni : Nat) (k : Int) (w : World) (h : ResT w lo hi so (markL k no) si (markL (k + 3 * (no : Int)) ni)) (hl : no + ni ≤ 1100000) (h0 : 0 ≤ k) (h1 : k ≤ 4000000) :
    Calls Try.prog 22 #[.agg #[.int .i64 v, so, si], .int .i64 k] w (RV (.int .i64 (k + 3 * ((no + ni : Nat) : Int))) w) := by
  obtain ⟨ls1, ls2⟩ := h.slice
  obtain ⟨a, b, c, d, ha, hb, hc, hd, hx, r1, r2⟩ := h
  have HC1 := Lib.hid (heldR a b so no k (w.alloc (.cells #[.int .i64 v, so, si] 39)) (r1.below ((Below.refl _ _).alloc (Nat.le_refl _) _) (Nat.le_refl _)) (by omega) h0 (by omega))
  have hr2 := r2.below ((Below.refl w.heap.size w).alloc (Nat.le_refl _) (.cells #[.int .i64 v, so, si] 39)) (Nat.le_refl _)
  obtain ⟨m, hm⟩ : ∃ m, m = k + 3 * (no : Int) := ⟨_, rfl⟩
  rw [← hm] at hr2 HC1
  have HC2 := Lib.hid (heldR c d si ni m _ hr2 (by omega) (by omega) (by omega))
  rw [show k + 3 * ((no + ni : Nat) : Int) = m + 3 * (ni : Int) by omega]
  have hm0 : 0 ≤ m := by omega
  obtain ⟨n, hn⟩ : ∃ n, n = m + 3 * (ni : Int) := ⟨_, rfl⟩
  rw [← hn] at HC2 ⊢
  have hn0 : 0 ≤ n := by omega
  clear hm hn hr2 r1 r2
  rw [markL_length] at ls1 ls2
  obtain ⟨a1, c1, rfl⟩ := ls1
  obtain ⟨a2, c2, rfl⟩ := ls2
  go_enter Try.func22, Try.ntmps22
  go_wp2_with fail
  refine HC1.out.mono ?_
  rintro e w1 ⟨rfl, rfl⟩
  go_wp2_with fail
  refine HC2.out.mono ?_
  rintro e w1 ⟨rfl, rfl⟩
  go_wp2
  go_ret
  exact RV_of rfl ((Below.refl _ _).alloc (Nat.le_refl _) _)
end Go.Proofs.Ytmgpmcjbnooklaa


namespace Go.Proofs.Ytmgpmcjbnooklaa
open Go.RowKit Go.Maps
set_option maxRecDepth 100000 in
set_option maxHeartbeats 2000000 in
theorem FnExactCycleTrade_main (v0 : Int) (s0 : Value) (bs0 : List Blk) (p1 : Int) (p2 : Int) (p3 : Int) (w : World) (h0 : InB w s0 bs0) (h1 : WF p1) (h2 : WF p2) (h3 : WF p3) (hl : bs0.length ≤ 1048576) :
    Calls Try.prog 4 #[.agg #[.int .i64 v0, s0], .int .i64 p1, .int .i64 p2, .int .i64 p3] w (RV (.bool true) w) := by
  have hsl0 := h0.slice
  have hbd0 := h0.2.1
  have hsz0 := szSystem_any v0 s0 bs0.length hsl0 (by omega) 1048576 (by omega) (by omega)
  rw [if_neg (by omega)] at hsz0
  obtain ⟨m0, hm0⟩ : ∃ m, m = (1048576 : Int) - (bs0.length : Int) := ⟨_, rfl⟩
  rw [← hm0] at hsz0
  have hmp0 : 0 ≤ m0 := by omega
  have HSZ0 := Lib.hid hsz0
  have HSB0 := Lib.hid (h0.sb (by omega))
  have HBD0 := Lib.hid (show bs0.length ≤ 1100000 by omega)
  have HWF0 := Lib.hid h0.1
  have HWF1 := Lib.hid h1
  have HWF2 := Lib.hid h2
  have HWF3 := Lib.hid h3
  obtain ⟨p, hpp⟩ : ∃ p, p = (ctF v0 bs0 p1 p2 p3).1 := ⟨_, rfl⟩
  obtain ⟨Lo, hLo⟩ : ∃ L, L = (ctF v0 bs0 p1 p2 p3).2.1.1 := ⟨_, rfl⟩
  obtain ⟨Li, hLi⟩ : ∃ L, L = (ctF v0 bs0 p1 p2 p3).2.1.2 := ⟨_, rfl⟩
  obtain ⟨κ, hκ⟩ : ∃ κ, κ = (ctF v0 bs0 p1 p2 p3).2.2 := ⟨_, rfl⟩
  have hp : ctF v0 bs0 p1 p2 p3 = (p, (Lo, Li), κ) := by rw [hpp, hLo, hLi, hκ]
  have LBD := Lib.hid (show Lo.length + Li.length ≤ 1100000 by rw [hLo, hLi]; exact Nat.le_trans (ctF_le v0 bs0 p1 p2 p3) (by omega))
  have LWFo := Lib.hid (show ∀ x ∈ Lo, WFB x by rw [hLo]; exact ctF_wfo v0 bs0 p1 p2 p3)
  have LWFi := Lib.hid (show ∀ x ∈ Li, WFB x by rw [hLi]; exact ctF_wfi v0 bs0 p1 p2 p3)
  have HSP := Lib.hid fun (W : World) (t0 : Value) (r0 : SC W t0 bs0) => specCycleTrade_any v0 t0 bs0 p1 p2 p3 W r0.1
  have HIM := Lib.hid fun (W : World) (t0 : Value) (r0 : SB W t0 bs0) => CycleTrade_any v0 t0 bs0 p1 p2 p3 W r0
  rw [hp] at HSP HIM
  have hnk : (κ != κ) = false := by simp
  clear hsz0 hm0 hbd0 hpp hLo hLi hκ hp h0 h1 h2 h3 hl
  obtain ⟨a0, c0, rfl⟩ := hsl0
  go_enter Try.func4, Try.ntmps4
  have hm := ((Mem.start w).pushVar v0 (.slice a0 bs0.length c0) 24)
  have fA00 := (hm.var 0 rfl).c0
  have fA01 := (hm.var 0 rfl).c1
  have HM := Lib.hid hm
  clear hm
  go_wp2_with fail
  refine (HSZ0.out _).mono ?_
  rintro e w1 ⟨rfl, hbw1⟩
  have hm := HM.out.step (gb_below hbw1)
  clear fA00 fA01
  clear HM hbw1
  have fA00 := (hm.var 0 rfl).c0
  have fA01 := (hm.var 0 rfl).c1
  have HM := Lib.hid hm
  clear hm
  go_wp2_with fail
  refine (toSystem_any v0 _ bs0 _ (HSB0.out.below HM.out.below (Nat.le_refl _))).mono ?_
  rintro e w2 ⟨tw2, rfl, how2, hbw2⟩
  have r3 := how2.sc HWF0.out HBD0.out
  obtain ⟨gw2, capw2, hsw2, _⟩ := id how2
  subst hsw2
  have hm := HM.out.step (gb_below hbw2)
  clear fA00 fA01
  clear HM hbw2 how2
  have fA00 := (hm.var 0 rfl).c0
  have fA01 := (hm.var 0 rfl).c1
  have HM := Lib.hid hm
  clear hm
  go_wp2_with fail
  refine (HSP.out _ _ r3).mono ?_
  rintro e w4 ⟨uow4, uiw4, rfl, hrw4, hbw4⟩
  obtain ⟨⟨aoW, noW, hsow4⟩, ⟨aiW, niW, hsiw4⟩⟩ := hrw4.slice
  subst hsow4
  subst hsiw4
  clear r3
  have hm := ((HM.out.pushT hbw4 hrw4).pushVarT p (.slice aoW Lo.length noW) (.slice aiW Li.length niW) 39)
  clear fA00 fA01
  clear HM hbw4 hrw4
  have fVW0 := (hm.vrt 0 rfl).c0
  have fVW1 := (hm.vrt 0 rfl).c1
  have fVW2 := (hm.vrt 0 rfl).c2
  have fA00 := (hm.var 2 rfl).c0
  have fA01 := (hm.var 2 rfl).c1
  have HM := Lib.hid hm
  clear hm
  go_wp2_with fail
  refine (toSystem_any v0 _ bs0 _ (HSB0.out.below HM.out.below (Nat.le_refl _))).mono ?_
  rintro e w5 ⟨tw5, rfl, how5, hbw5⟩
  have hrw5 := how5.res
  obtain ⟨gw5, capw5, hsw5, _⟩ := id how5
  subst hsw5
  have hm := (HM.out.pushB hbw5 hrw5).pushVar v0 (.slice (some ⟨gw5, 0, none⟩) bs0.length capw5) 31
  clear fVW0 fVW1 fVW2 fA00 fA01
  clear HM hbw5 hrw5 how5
  have fVX00 := (hm.var 0 rfl).c0
  have fVX01 := (hm.var 0 rfl).c1
  have fVW0 := (hm.vrt 2 rfl).c0
  have fVW1 := (hm.vrt 2 rfl).c1
  have fVW2 := (hm.vrt 2 rfl).c2
  have fA00 := (hm.var 4 rfl).c0
  have fA01 := (hm.var 4 rfl).c1
  have HM := Lib.hid hm
  clear hm
  go_wp2_with fail
  refine (HIM.out _ _ ((HM.out.blks 1 rfl).sb HWF0.out HBD0.out)).mono ?_
  rintro e w6 ⟨uow6, uiw6, rfl, hrw6, hbw6⟩
  obtain ⟨⟨aoG, noG, hsow6⟩, ⟨aiG, niG, hsiw6⟩⟩ := hrw6.slice
  subst hsow6
  subst hsiw6
  have hm := ((HM.out.pushT hbw6 hrw6).pushVarT p (.slice aoG Lo.length noG) (.slice aiG Li.length niG) 39)
  clear fVX00 fVX01 fVW0 fVW1 fVW2 fA00 fA01
  clear HM hbw6 hrw6
  have fVG0 := (hm.vrt 0 rfl).c0
  have fVG1 := (hm.vrt 0 rfl).c1
  have fVG2 := (hm.vrt 0 rfl).c2
  have fVX00 := (hm.var 2 rfl).c0
  have fVX01 := (hm.var 2 rfl).c1
  have fVW0 := (hm.vrt 4 rfl).c0
  have fVW1 := (hm.vrt 4 rfl).c1
  have fVW2 := (hm.vrt 4 rfl).c2
  have fA00 := (hm.var 6 rfl).c0
  have fA01 := (hm.var 6 rfl).c1
  have HM := Lib.hid hm
  clear hm
  go_wp2_with fail
  refine (eqTrade_same p _ _ _ _ Lo Li _ ((HM.out.trd 1 rfl).tb LWFo.out LWFi.out LBD.out) ((HM.out.trd 5 rfl).tb LWFo.out LWFi.out LBD.out)).mono ?_
  rintro e w7 ⟨rfl, hbw7⟩
  have hm := HM.out.step (gb_below hbw7)
  clear fVG0 fVG1 fVG2 fVX00 fVX01 fVW0 fVW1 fVW2 fA00 fA01
  clear HM hbw7
  have fVG0 := (hm.vrt 0 rfl).c0
  have fVG1 := (hm.vrt 0 rfl).c1
  have fVG2 := (hm.vrt 0 rfl).c2
  have fVX00 := (hm.var 2 rfl).c0
  have fVX01 := (hm.var 2 rfl).c1
  have fVW0 := (hm.vrt 4 rfl).c0
  have fVW1 := (hm.vrt 4 rfl).c1
  have fVW2 := (hm.vrt 4 rfl).c2
  have fA00 := (hm.var 6 rfl).c0
  have fA01 := (hm.var 6 rfl).c1
  have HM := Lib.hid hm
  clear hm
  go_upto_region 10 with fail
  go_cut [57] (fun sq wx => sq = .bool false ∧ MemOf HM.out wx)
  case first =>
    go_region_with (first | (go_at_call 11; refine (toSystem_any v0 _ bs0 _ ?_).mono ?_; (exact HSB0.out.below HM.out.below.drew (Nat.le_refl _)); rintro e w8 ⟨tw8, rfl, how8, hbw8⟩; have hmx := (HM.out.step (gb_drew1 _)).step (gb_below hbw8); have ec0 := (hmx.var 2 rfl).c0; have ec1 := (hmx.var 2 rfl).c1; have HMX := Lib.hid hmx; clear hmx; have hsbw8 := how8.sb HWF0.out HBD0.out; obtain ⟨gw8, capw8, hsw8, _⟩ := id how8; subst hsw8) | (go_at_call 14; refine (eqSystem_same v0 _ _ bs0 _ ?_ ?_).mono ?_; (exact ((HMX.out.blks 3 rfl).sb HWF0.out HBD0.out)); (exact hsbw8); rintro e w9 ⟨rfl, hbw9⟩))
    all_goals
      go_wp2_with fail
      go_meet
      exact ⟨rfl, HMX.out.step (gb_below hbw9)⟩
  case rest =>
  obtain ⟨rfl, hm⟩ := hcut
  unfold MemOf at hm
  obtain ⟨yc0, rfl⟩ : ∃ W, W = wc := ⟨_, rfl⟩
  clear fVG0 fVG1 fVG2 fVX00 fVX01 fVW0 fVW1 fVW2 fA00 fA01
  clear HM
  have fVG0 := (hm.vrt 0 rfl).c0
  have fVG1 := (hm.vrt 0 rfl).c1
  have fVG2 := (hm.vrt 0 rfl).c2
  have fVX00 := (hm.var 2 rfl).c0
  have fVX01 := (hm.var 2 rfl).c1
  have fVW0 := (hm.vrt 4 rfl).c0
  have fVW1 := (hm.vrt 4 rfl).c1
  have fVW2 := (hm.vrt 4 rfl).c2
  have fA00 := (hm.var 6 rfl).c0
  have fA01 := (hm.var 6 rfl).c1
  have HM := Lib.hid hm
  clear hm
  go_wp2_with fail
  refine (markSystem_any _ _ v0 _ bs0 1 _ (HM.out.blks 3 rfl) HBD0.out (by omega) (by omega)).mono ?_
  rintro e w10 ⟨rfl, hww10, hrw10⟩
  have hm := HM.out.markB 3 rfl hww10 hrw10
  clear fVG0 fVG1 fVG2 fVX00 fVX01 fVW0 fVW1 fVW2 fA00 fA01
  clear HM hww10 hrw10
  have fVG0 := (hm.vrt 0 rfl).c0
  have fVG1 := (hm.vrt 0 rfl).c1
  have fVG2 := (hm.vrt 0 rfl).c2
  have fVX00 := (hm.var 2 rfl).c0
  have fVX01 := (hm.var 2 rfl).c1
  have fVW0 := (hm.vrt 4 rfl).c0
  have fVW1 := (hm.vrt 4 rfl).c1
  have fVW2 := (hm.vrt 4 rfl).c2
  have fA00 := (hm.var 6 rfl).c0
  have fA01 := (hm.var 6 rfl).c1
  have HM := Lib.hid hm
  clear hm
  obtain ⟨kw10, hkw10⟩ : ∃ m, m = 1 + 3 * (bs0.length : Int) := ⟨_, rfl⟩
  rw [← hkw10]
  have h0kw10 : 0 ≤ kw10 := by have := HBD0.out; omega
  have h1kw10 : kw10 ≤ 3300001 := by have := HBD0.out; omega
  clear hkw10
  go_wp2_with fail
  refine (eqTrade_same p _ _ _ _ Lo Li _ ((HM.out.trd 1 rfl).tb LWFo.out LWFi.out LBD.out) ((HM.out.trd 5 rfl).tb LWFo.out LWFi.out LBD.out)).mono ?_
  rintro e w11 ⟨rfl, hbw11⟩
  have hm := HM.out.step (gb_below hbw11)
  clear fVG0 fVG1 fVG2 fVX00 fVX01 fVW0 fVW1 fVW2 fA00 fA01
  clear HM hbw11
  have fVG0 := (hm.vrt 0 rfl).c0
  have fVG1 := (hm.vrt 0 rfl).c1
  have fVG2 := (hm.vrt 0 rfl).c2
  have fVX00 := (hm.var 2 rfl).c0
  have fVX01 := (hm.var 2 rfl).c1
  have fVW0 := (hm.vrt 4 rfl).c0
  have fVW1 := (hm.vrt 4 rfl).c1
  have fVW2 := (hm.vrt 4 rfl).c2
  have fA00 := (hm.var 6 rfl).c0
  have fA01 := (hm.var 6 rfl).c1
  have HM := Lib.hid hm
  clear hm
  go_wp2_with fail
  refine (markTrade_any _ _ p _ Lo _ Li 1 _ (HM.out.trd 1 rfl) LBD.out (by omega) (by omega)).mono ?_
  rintro e w12 ⟨rfl, hww12, hrw12⟩
  have hm := HM.out.markT 1 rfl hww12 hrw12
  clear fVG0 fVG1 fVG2 fVX00 fVX01 fVW0 fVW1 fVW2 fA00 fA01
  clear HM hww12 hrw12
  have fVG0 := (hm.vrt 0 rfl).c0
  have fVG1 := (hm.vrt 0 rfl).c1
  have fVG2 := (hm.vrt 0 rfl).c2
  have fVX00 := (hm.var 2 rfl).c0
  have fVX01 := (hm.var 2 rfl).c1
  have fVW0 := (hm.vrt 4 rfl).c0
  have fVW1 := (hm.vrt 4 rfl).c1
  have fVW2 := (hm.vrt 4 rfl).c2
  have fA00 := (hm.var 6 rfl).c0
  have fA01 := (hm.var 6 rfl).c1
  have HM := Lib.hid hm
  clear hm
  have hheld := fun lo hi W (h : ResT W lo hi (Value.slice aoG Lo.length noG) (markL 1 Lo.length) (Value.slice aiG Li.length niG) (markL (1 + 3 * (Lo.length : Int)) Li.length)) => heldTrade_any lo hi p (.slice aoG Lo.length noG) Lo.length (.slice aiG Li.length niG) Li.length 1 W h LBD.out (by omega) (by omega)
  obtain ⟨m5, hm5⟩ : ∃ m5, m5 = 1 + 3 * ((Lo.length + Li.length : Nat) : Int) := ⟨_, rfl⟩
  rw [← hm5] at hheld ⊢
  have HHELD := Lib.hid hheld
  have m50 : 0 ≤ m5 := by omega
  have hn5 : (m5 != m5) = false := by simp
  clear hm5 hheld
  go_wp2_with fail
  refine (HHELD.out _ _ _ (HM.out.trd 1 rfl)).mono ?_
  rintro e w13 ⟨rfl, hbw13⟩
  have hm := HM.out.step (gb_below hbw13)
  clear fVG0 fVG1 fVG2 fVX00 fVX01 fVW0 fVW1 fVW2 fA00 fA01
  clear HM hbw13
  have fVG0 := (hm.vrt 0 rfl).c0
  have fVG1 := (hm.vrt 0 rfl).c1
  have fVG2 := (hm.vrt 0 rfl).c2
  have fVX00 := (hm.var 2 rfl).c0
  have fVX01 := (hm.var 2 rfl).c1
  have fVW0 := (hm.vrt 4 rfl).c0
  have fVW1 := (hm.vrt 4 rfl).c1
  have fVW2 := (hm.vrt 4 rfl).c2
  have fA00 := (hm.var 6 rfl).c0
  have fA01 := (hm.var 6 rfl).c1
  have HM := Lib.hid hm
  clear hm
  go_wp2_with fail
  refine (toSystem_any v0 _ bs0 _ (HSB0.out.below HM.out.below (Nat.le_refl _))).mono ?_
  rintro e w14 ⟨tw14, rfl, how14, hbw14⟩
  have r15 := how14.sb HWF0.out HBD0.out
  obtain ⟨gw14, capw14, hsw14, _⟩ := id how14
  subst hsw14
  have hm := HM.out.step (gb_below hbw14)
  clear fVG0 fVG1 fVG2 fVX00 fVX01 fVW0 fVW1 fVW2 fA00 fA01
  clear HM hbw14 how14
  have fVG0 := (hm.vrt 0 rfl).c0
  have fVG1 := (hm.vrt 0 rfl).c1
  have fVG2 := (hm.vrt 0 rfl).c2
  have fVX00 := (hm.var 2 rfl).c0
  have fVX01 := (hm.var 2 rfl).c1
  have fVW0 := (hm.vrt 4 rfl).c0
  have fVW1 := (hm.vrt 4 rfl).c1
  have fVW2 := (hm.vrt 4 rfl).c2
  have fA00 := (hm.var 6 rfl).c0
  have fA01 := (hm.var 6 rfl).c1
  have HM := Lib.hid hm
  clear hm
  go_wp2_with fail
  refine (HIM.out _ _ r15).mono ?_
  rintro e w16 ⟨uow16, uiw16, rfl, hrw16, hbw16⟩
  obtain ⟨⟨aoH, noH, hsow16⟩, ⟨aiH, niH, hsiw16⟩⟩ := hrw16.slice
  subst hsow16
  subst hsiw16
  clear r15
  have hm := ((HM.out.pushT hbw16 hrw16).pushVarT p (.slice aoH Lo.length noH) (.slice aiH Li.length niH) 39)
  clear fVG0 fVG1 fVG2 fVX00 fVX01 fVW0 fVW1 fVW2 fA00 fA01
  clear HM hbw16 hrw16
  have fVH0 := (hm.vrt 0 rfl).c0
  have fVH1 := (hm.vrt 0 rfl).c1
  have fVH2 := (hm.vrt 0 rfl).c2
  have fVG0 := (hm.vrt 2 rfl).c0
  have fVG1 := (hm.vrt 2 rfl).c1
  have fVG2 := (hm.vrt 2 rfl).c2
  have fVX00 := (hm.var 4 rfl).c0
  have fVX01 := (hm.var 4 rfl).c1
  have fVW0 := (hm.vrt 6 rfl).c0
  have fVW1 := (hm.vrt 6 rfl).c1
  have fVW2 := (hm.vrt 6 rfl).c2
  have fA00 := (hm.var 8 rfl).c0
  have fA01 := (hm.var 8 rfl).c1
  have HM := Lib.hid hm
  clear hm
  go_wp2_with fail
  refine (eqTrade_same p _ _ _ _ Lo Li _ ((HM.out.trd 1 rfl).tb LWFo.out LWFi.out LBD.out) ((HM.out.trd 7 rfl).tb LWFo.out LWFi.out LBD.out)).mono ?_
  rintro e w17 ⟨rfl, hbw17⟩
  have hm := HM.out.step (gb_below hbw17)
  clear fVH0 fVH1 fVH2 fVG0 fVG1 fVG2 fVX00 fVX01 fVW0 fVW1 fVW2 fA00 fA01
  clear HM hbw17
  have fVH0 := (hm.vrt 0 rfl).c0
  have fVH1 := (hm.vrt 0 rfl).c1
  have fVH2 := (hm.vrt 0 rfl).c2
  have fVG0 := (hm.vrt 2 rfl).c0
  have fVG1 := (hm.vrt 2 rfl).c1
  have fVG2 := (hm.vrt 2 rfl).c2
  have fVX00 := (hm.var 4 rfl).c0
  have fVX01 := (hm.var 4 rfl).c1
  have fVW0 := (hm.vrt 6 rfl).c0
  have fVW1 := (hm.vrt 6 rfl).c1
  have fVW2 := (hm.vrt 6 rfl).c2
  have fA00 := (hm.var 8 rfl).c0
  have fA01 := (hm.var 8 rfl).c1
  have HM := Lib.hid hm
  clear hm
  go_wp2_with fail
  refine (HHELD.out _ _ _ (HM.out.trd 3 rfl)).mono ?_
  rintro e w18 ⟨rfl, hbw18⟩
  have hm := HM.out.step (gb_below hbw18)
  clear fVH0 fVH1 fVH2 fVG0 fVG1 fVG2 fVX00 fVX01 fVW0 fVW1 fVW2 fA00 fA01
  clear HM hbw18
  have fVH0 := (hm.vrt 0 rfl).c0
  have fVH1 := (hm.vrt 0 rfl).c1
  have fVH2 := (hm.vrt 0 rfl).c2
  have fVG0 := (hm.vrt 2 rfl).c0
  have fVG1 := (hm.vrt 2 rfl).c1
  have fVG2 := (hm.vrt 2 rfl).c2
  have fVX00 := (hm.var 4 rfl).c0
  have fVX01 := (hm.var 4 rfl).c1
  have fVW0 := (hm.vrt 6 rfl).c0
  have fVW1 := (hm.vrt 6 rfl).c1
  have fVW2 := (hm.vrt 6 rfl).c2
  have fA00 := (hm.var 8 rfl).c0
  have fA01 := (hm.var 8 rfl).c1
  have HM := Lib.hid hm
  clear hm
  go_wp2
  go_ret
  exact RV_of rfl HM.out.below
set_option maxRecDepth 100000 in
theorem FnExactCycleTrade_long0 (v0 : Int) (s0 : Value) (bs0 : List Blk) (p1 : Int) (p2 : Int) (p3 : Int) (w : World) (h0 : InB w s0 bs0) (h1 : WF p1) (h2 : WF p2) (h3 : WF p3)  (hl : ¬ bs0.length ≤ 1048576) : Calls Try.prog 4 #[.agg #[.int .i64 v0, s0], .int .i64 p1, .int .i64 p2, .int .i64 p3] w (RV (.bool true) w) := by
  have hsl0 := h0.slice
  have hbd0 := h0.2.1
  have hsz0 := szSystem_any v0 s0 bs0.length hsl0 (by omega) (1048576) (by omega) (by omega)
  rw [if_pos (by omega)] at hsz0
  have HSZ0 := Lib.hid hsz0
  clear hl h0 h1 h2 h3 hsz0 hbd0
  obtain ⟨a0, c0, rfl⟩ := hsl0
  go_enter Try.func4, Try.ntmps4
  go_wp2_with fail
  refine (HSZ0.out _).mono ?_
  rintro e y0 ⟨rfl, hy0⟩
  go_wp2
  go_ret
  exact RV_of rfl (((Below.refl _ _).alloc (by simp <;> omega) _).trans (hy0.mono (by first | (simp <;> omega) | (have := ((Below.refl _ _).alloc (by simp <;> omega) _).size; omega))))
theorem FnExactCycleTrade_any (v0 : Int) (s0 : Value) (bs0 : List Blk) (p1 : Int) (p2 : Int) (p3 : Int) (w : World) (h0 : InB w s0 bs0) (h1 : WF p1) (h2 : WF p2) (h3 : WF p3) : Calls Try.prog 4 #[.agg #[.int .i64 v0, s0], .int .i64 p1, .int .i64 p2, .int .i64 p3] w (RV (.bool true) w) := by
  by_cases hs0 : bs0.length ≤ 1048576
  case neg => exact FnExactCycleTrade_long0 v0 s0 bs0 p1 p2 p3 w h0 h1 h2 h3   hs0
  exact FnExactCycleTrade_main v0 s0 bs0 p1 p2 p3 w h0 h1 h2 h3 hs0 
end Go.Proofs.Ytmgpmcjbnooklaa

namespace Go.Proofs.Ytmgpmcjbnooklaa
set_option maxRecDepth 100000 in
noncomputable def iniP : { L : List Char // Try.prog.initOrder = String.ofList L } := ⟨_, by unfold Try.prog; rfl⟩
theorem iniL : Try.prog.initOrder.toList = iniP.1 := (congrArg String.toList iniP.2).trans String.toList_ofList
theorem words_cons (c : Char) (r : List Char) (h : c ≠ Char.ofNat 32) : wordsSigns (c :: r) = match wordsSigns r with | w :: ws => (c :: w) :: ws | [] => [[c]] := by
  rw [wordsSigns]
  all_goals first | rfl | exact h | (intro e; exact h e)
theorem words_word : ∀ (a b : List Char), (a.all fun c => c != Char.ofNat 32) = true → wordsSigns (a ++ Char.ofNat 32 :: b) = a :: wordsSigns b
  | [], b, _ => rfl
  | c :: a, b, h => by
    simp only [List.all_cons, Bool.and_eq_true, bne_iff_ne, ne_eq] at h
    rw [List.cons_append, words_cons _ _ h.1, words_word a b (by simpa using h.2)]
set_option maxRecDepth 100000 in
theorem split1 : iniP.1 = iniP.1.take 7 ++ Char.ofNat 32 :: iniP.1.drop 8 := by kernel_rfl
set_option maxRecDepth 100000 in
theorem split2 : iniP.1.drop 8 = (iniP.1.drop 8).take 64 ++ Char.ofNat 32 :: iniP.1.drop 73 := by kernel_rfl
set_option maxRecDepth 100000 in
theorem split3 : iniP.1.drop 73 = (iniP.1.drop 73).take 3 ++ Char.ofNat 32 :: iniP.1.drop 77 := by kernel_rfl
theorem isCut : (iniP.1.drop 73).take 3 = "cut".toList := by kernel_rfl
set_option maxRecDepth 100000 in
theorem isHead : ((iniP.1.take 7 == "harness".toList || iniP.1.take 7 == "ownmain".toList) && isSumSigns ((iniP.1.drop 8).take 64)) = true := by kernel_rfl
theorem wordsL : wordsSigns iniP.1 = iniP.1.take 7 :: (iniP.1.drop 8).take 64 :: "cut".toList :: wordsSigns (iniP.1.drop 77) := by
  rw [← isCut]
  conv => lhs; rw [split1]
  rw [words_word _ _ (by kernel_rfl)]
  conv => lhs; rw [split2]
  rw [words_word _ _ (by kernel_rfl)]
  conv => lhs; rw [split3]
  rw [words_word _ _ (by kernel_rfl)]
theorem behindL : behindMainWord (wordsSigns Try.prog.initOrder.toList) = "cut".toList :: wordsSigns (iniP.1.drop 77) := by
  rw [iniL, wordsL]
  unfold behindMainWord
  simp only [isHead, if_true]
theorem stripL (ws : List (List Char)) : stripLifts liftWords ("cut".toList :: ws) = ([], "cut".toList :: ws) := by kernel_rfl
section
variable (P : Program) (ws : List (List Char)) (h : behindMainWord (wordsSigns P.initOrder.toList) = "cut".toList :: ws)
include h
theorem head_of : P.headLifts = [] := by
  unfold Program.headLifts
  rw [h]
  simp only [stripL]
  kernel_rfl
theorem make_of : P.make = some .cut := by
  unfold Program.make
  rw [h, head_of P ws h]
  kernel_rfl
theorem lifts_of : P.liftsFinal = false := by
  unfold Program.liftsFinal
  rw [h, head_of P ws h]
  kernel_rfl
theorem enter_of (h1 : P.laysLater = false) (h2 : P.bearsReflect = false) (h3 : P.doorFits [] = true) : P.mayEnter = true := by
  unfold Program.mayEnter
  rw [h]
  simp only [stripL]
  rw [h1, h2, h3]
  kernel_rfl
end
theorem mayE : Try.pinned.checked.prog.mayEnter = true := enter_of _ _ behindL (by kernel_rfl) (by kernel_rfl) (by kernel_rfl)
theorem liftsF : Try.pinned.checked.prog.liftsFinal = false := lifts_of _ _ behindL
theorem makeF : Try.pinned.checked.prog.make = some .cut := make_of _ _ behindL
theorem both {a b : Bool} (h : a = true) (k : b = true) : (a && b) = true := by rw [h, k]; rfl
end Go.Proofs.Ytmgpmcjbnooklaa

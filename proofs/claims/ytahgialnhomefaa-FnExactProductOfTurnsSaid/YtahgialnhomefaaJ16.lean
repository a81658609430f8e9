
/- How the laws' arguments are read. How the laws' other arguments are read: slices of integers, slices of blocks, a block, rows. What a law over one system whose result is a system knows of the memory between two of its steps. The law FnExactProductOfTurns returns true. The dump's head word by word, cheaply: what every row asks of it. -/
import Derived.Test.YtahgialnhomefaaJ15
import Derived.Test.YtahgialnhomefaaRows
import Derived.ProofKit
import Derived.OpenShut
import Derived.Deep.Slices
import Derived.Lib.SmallJoins
import Derived.ChangeOld
import Derived.Deep.RegionWith
import Derived.Deep.DeepCutAuto
namespace Go.Proofs.Ytahgialnhomefaa
open Go.ChangeShapes Go.WideShapes Go.ChangeAt Go.RowKit Go.Deep Go.Joins
theorem ownKnobs : ownKnob Try.prog.godebug = none := by kernel_rfl
section
variable {H : Type} {enc : TypeId × Value → H} {W : World} {base : Nat} {held : Bool}
theorem arrCells : Try.prog.cellsOf 83 = 3 := by kernel_rfl
set_option maxRecDepth 100000 in
theorem open_arr3 {fuel : Nat} {cs : List Value} {x : DataW H × List MemPlace} (h : DataW.trod enc Try.prog W base (fun _ => true) held fuel 83 cs = some x) :
    ∃ a b c : Int, cs = [.int .i64 a, .int .i64 b, .int .i64 c] ∧ (Lit.int .i64 a).wf = true ∧ (Lit.int .i64 b).wf = true ∧ (Lit.int .i64 c).wf = true := by
  obtain ⟨xs, m, rfl, rfl, hl, hx, hat⟩ := DataW.trod_array Try.underlying83 h
  rw [arrCells] at hl
  match cs, hl with
  | [c0, c1, c2], _ =>
    match xs, hx with
    | [x0, x1, x2], _ =>
      have h0 := hat 0 (by omega)
      have h1 := hat 1 (by omega)
      have h2 := hat 2 (by omega)
      rw [int64Cells] at h0 h1 h2
      simp at h0 h1 h2
      obtain ⟨a, ha, _, wa⟩ := DataW.trod_int Try.underlying2 h0
      obtain ⟨b, hb, _, wb⟩ := DataW.trod_int Try.underlying2 h1
      obtain ⟨c, hc, _, wc⟩ := DataW.trod_int Try.underlying2 h2
      simp at ha hb hc
      exact ⟨a, b, c, by rw [ha, hb, hc], wa, wb, wc⟩
theorem add_at (b off i : Nat) : (⟨b, off, none⟩ : Addr).add i = ⟨b, off + i, none⟩ := by
  unfold Addr.add
  split
  · subst_vars; rfl
  · rfl
set_option maxRecDepth 100000 in
theorem open_arrs {fuel : Nat} {s : Value} {x : DataW H × List MemPlace} (h : DataW.trod enc Try.prog W base (fun _ => true) held fuel 22 [s] = some x) : ∃ bs, InB W s bs := by
  rcases open_slice Try.underlying22 h with ⟨hcs, _⟩ | ⟨a, len, cap, m, n, D, Pl, hcs, hb, hl, hm, hmm, hx, hi⟩
  · simp at hcs
    exact ⟨[], by simp, by simp, .inl ⟨none, 0, hcs, rfl⟩⟩
  · simp at hcs
    subst hcs
    simp at hmm
    subst hmm
    have hm' : m ≤ 9223372036854775807 := by unfold maxLen at hm; exact hm
    by_cases h0 : len = 0
    · subst h0
      exact ⟨[], by simp, by simp, .inl ⟨_, _, rfl, rfl⟩⟩
    · have cell : ∀ i, i < m → ∃ y : Blk, WFB y ∧ ∀ j (v : Value), [Value.int .i64 y.a, Value.int .i64 y.b, Value.int .i64 y.c][j]? = some v → W.cell? (a.add (i * 3 + j)) = some v := fun i him => by
        obtain ⟨cs', hc, ht⟩ := hi i him
        obtain ⟨p, q, r, rfl, wp, wq, wr⟩ := open_arr3 ht
        rw [arrCells] at hc
        obtain ⟨_, _, hat⟩ := World.cells?_some hc
        refine ⟨⟨p, q, r⟩, ⟨wp, wq, wr⟩, fun j v hv => ?_⟩
        have hj : j < 3 := by
          have := (List.getElem?_eq_some_iff.1 hv).1
          simpa using this
        rw [← Go.Deep.add_add, hat j hj]
        exact hv
      obtain ⟨F, hF⟩ := choose_lt (α := Blk) cell
      obtain ⟨b, off, spot⟩ := a
      have hc0 := (hF 0 (by omega)).2 0 _ rfl
      have hspot : spot = none := by simpa [Addr.add] using World.cell?_spot hc0
      subst hspot
      refine ⟨(List.range len).map F, ?_, by simp; omega, .inr ⟨b, off, m, by simp, ?_, ?_⟩⟩
      · intro y hy
        obtain ⟨i, hi', rfl⟩ := List.mem_map.1 hy
        exact (hF i (by have := List.mem_range.1 hi'; omega)).1
      · exact block_lt_of_cell hc0
      · intro k hk
        simp at hk
        have e : ((List.range len).map F)[k]?.getD default = F k := by simp [hk]
        rw [e]
        have := (hF k (by omega)).2
        refine ⟨?_, ?_, ?_⟩
        · have h0 := this 0 _ rfl
          rw [add_at] at h0
          exact h0
        · have h1 := this 1 _ rfl
          rw [add_at, ← Nat.add_assoc] at h1
          exact h1
        · have h2 := this 2 _ rfl
          rw [add_at, ← Nat.add_assoc] at h2
          exact h2
theorem isSys : ∃ f0 f1 : Field, Try.prog.underlying 24 = some (.struct #[f0, f1]) ∧ f0.type = 2 ∧ f1.type = 22 ∧ oneCellFields Try.prog #[f0, f1] = true :=
  ⟨_, _, Try.underlying24, rfl, rfl, by kernel_rfl⟩
theorem sysCells : Try.prog.cellsOf 24 = 2 := by kernel_rfl
set_option maxRecDepth 100000 in
theorem open_system {r : Reach} {b0 : Nat} {v : Value} {d : DataW H} {p : List MemPlace} (hv : Value.okWide Try.prog W r b0 24 v) (h : DataW.Trod enc Try.prog W base (fun _ => true) held 24 v d p) :
    ∃ (n : Int) (s : Value) (bs : List Blk), v = .agg #[.int .i64 n, s] ∧ WF n ∧ InB W s bs := by
  obtain ⟨f0, f1, hu, e0, e1, hone⟩ := isSys
  obtain ⟨v0, v1, y0, y1, n, rfl, _, _, h0, h1⟩ := open_agg2 hu hone sysCells hv h
  rw [e0] at h0
  rw [e1] at h1
  obtain ⟨k, hk, _, wk⟩ := DataW.trod_int Try.underlying2 h0
  simp at hk
  subst hk
  obtain ⟨bs, hbs⟩ := open_arrs h1
  exact ⟨k, v1, bs, rfl, wk, hbs⟩
end
end Go.Proofs.Ytahgialnhomefaa

namespace Go.Proofs.Ytahgialnhomefaa
open Go.ChangeShapes Go.WideShapes Go.ChangeAt Go.RowKit Go.Deep Go.Joins
/-- The value is a slice of just these integers, however many. -/
def InZ (w : World) (s : Value) (zs : List Int) : Prop :=
  (∀ z ∈ zs, WF z) ∧ zs.length ≤ 9223372036854775807 ∧ ((∃ a c, s = .slice a 0 c ∧ zs = []) ∨ ∃ b off cap, s = .slice (some ⟨b, off, none⟩) zs.length cap ∧ b < w.heap.size ∧ Ints w b off zs)
theorem InZ.slice {w : World} {s : Value} {zs : List Int} (h : InZ w s zs) : ∃ a c, s = .slice a zs.length c := by
  rcases h.2.2 with ⟨a, c, rfl, rfl⟩ | ⟨b, off, cap, rfl, _⟩ <;> exact ⟨_, _, rfl⟩
theorem InZ.ib {w : World} {s : Value} {zs : List Int} (h : InZ w s zs) (hl : zs.length ≤ 1048576) : IB w s zs := ⟨by omega, h.2.2⟩
/-- The value is a slice of just these rows, however many. -/
def InSS (w : World) (s : Value) (n : Nat) (F : Nat → List Int) : Prop :=
  n ≤ 9223372036854775807 ∧ ((n = 0 ∧ ∃ a c, s = .slice a 0 c) ∨ ∃ b off cap, s = .slice (some ⟨b, off, none⟩) n cap ∧ b < w.heap.size ∧ ∀ k, k < n → ∃ u, w.cell? ⟨b, off + k, none⟩ = some u ∧ InZ w u (F k))
theorem okWide_array {P : Program} {w : World} {r : Reach} {base : Nat} {t : TypeId} {v : Value} {n : Nat} {e : TypeId} (ht : P.underlying t = some (.array n e)) (h : Value.okWide P w r base t v) : ∃ cs, v = .agg cs ∧ cs.size = P.cellsOf t := by
  simp only [Value.okWide, ht] at h
  obtain ⟨cs, h1, h2, _⟩ := h
  exact ⟨cs, h1, h2⟩
section
variable {H : Type} {enc : TypeId × Value → H} {W : World} {base : Nat} {held : Bool}
set_option maxRecDepth 100000 in
theorem open_zs {fuel : Nat} {s : Value} {x : DataW H × List MemPlace} (h : DataW.trod enc Try.prog W base (fun _ => true) held fuel 38 [s] = some x) : ∃ zs, InZ W s zs := by
  rcases open_slice1 Try.underlying38 int64Cells h with ⟨hcs, _⟩ | ⟨a, len, cap, m, n, V, D, Pl, hcs, hb, hl, hm, hmm, hx, hi⟩
  · simp at hcs
    exact ⟨[], by simp, by simp, .inl ⟨none, 0, hcs, rfl⟩⟩
  · simp at hcs
    subst hcs
    simp at hmm
    subst hmm
    have hm' : m ≤ 9223372036854775807 := by unfold maxLen at hm; exact hm
    by_cases h0 : len = 0
    · subst h0
      exact ⟨[], by simp, by simp, .inl ⟨_, _, rfl, rfl⟩⟩
    · have cell : ∀ i, i < m → ∃ y : Int, WF y ∧ W.cell? (a.add i) = some (.int .i64 y) := fun i him => by
        obtain ⟨hc, ht⟩ := hi i him
        obtain ⟨k, hk, _, wk⟩ := DataW.trod_int Try.underlying2 ht
        simp at hk
        exact ⟨k, wk, by rw [hc, hk]⟩
      obtain ⟨F, hF⟩ := choose_lt (α := Int) cell
      obtain ⟨b, off, spot⟩ := a
      have hc0 := (hF 0 (by omega)).2
      have hspot : spot = none := by simpa [Addr.add] using World.cell?_spot hc0
      subst hspot
      refine ⟨(List.range len).map F, ?_, by simp; omega, .inr ⟨b, off, m, by simp, ?_, ?_⟩⟩
      · intro y hy
        obtain ⟨i, hi', rfl⟩ := List.mem_map.1 hy
        exact (hF i (by have := List.mem_range.1 hi'; omega)).1
      · exact block_lt_of_cell hc0
      · intro k hk
        simp at hk
        have e : ((List.range len).map F)[k]?.getD 0 = F k := by simp [hk]
        rw [e]
        have h1 := (hF k (by omega)).2
        rw [add_at] at h1
        exact h1
set_option maxRecDepth 100000 in
theorem open_ints64 {r : Reach} {b0 : Nat} {v : Value} {d : DataW H} {p : List MemPlace} (hv : Value.okWide Try.prog W r b0 38 v) (h : DataW.Trod enc Try.prog W base (fun _ => true) held 38 v d p) : ∃ zs, InZ W v zs := by
  obtain ⟨a, len, cap, rfl⟩ := okWide_slice Try.underlying38 hv
  obtain ⟨fuel, hf⟩ := h
  exact open_zs hf
set_option maxRecDepth 100000 in
theorem open_blocks {r : Reach} {b0 : Nat} {v : Value} {d : DataW H} {p : List MemPlace} (hv : Value.okWide Try.prog W r b0 22 v) (h : DataW.Trod enc Try.prog W base (fun _ => true) held 22 v d p) : ∃ bs, InB W v bs := by
  obtain ⟨a, len, cap, rfl⟩ := okWide_slice Try.underlying22 hv
  obtain ⟨fuel, hf⟩ := h
  exact open_arrs hf
theorem sliceCells : Try.prog.cellsOf 38 = 1 := by kernel_rfl
set_option maxRecDepth 100000 in
theorem open_rows {r : Reach} {b0 : Nat} {v : Value} {d : DataW H} {p : List MemPlace} (hv : Value.okWide Try.prog W r b0 57 v) (h : DataW.Trod enc Try.prog W base (fun _ => true) held 57 v d p) : ∃ n F, InSS W v n F := by
  obtain ⟨A0, L0, C0, rfl⟩ := okWide_slice Try.underlying57 hv
  obtain ⟨fuel, hf⟩ := h
  have hf' : DataW.trod enc Try.prog W base (fun _ => true) held fuel 57 [.slice A0 L0 C0] = some (d, p) := hf
  rcases open_slice1 Try.underlying57 sliceCells hf' with ⟨hcs, _⟩ | ⟨a, len, cap, m, n, V, D, Pl, hcs, hb, hl, hm, hmm, hx, hi⟩
  · simp at hcs
    obtain ⟨rfl, rfl, rfl⟩ := hcs
    exact ⟨0, fun _ => [], by omega, .inl ⟨rfl, _, _, rfl⟩⟩
  · simp at hcs
    obtain ⟨e1, e2, e3⟩ := hcs
    subst e1
    subst e2
    subst e3
    simp at hmm
    subst hmm
    have hm' : m ≤ 9223372036854775807 := by unfold maxLen at hm; exact hm
    by_cases h0 : L0 = 0
    · subst h0
      exact ⟨0, fun _ => [], by omega, .inl ⟨rfl, _, _, rfl⟩⟩
    · have cell : ∀ i, i < m → ∃ y : List Int, ∃ u, W.cell? (a.add i) = some u ∧ InZ W u y := fun i him => by
        obtain ⟨hc, ht⟩ := hi i him
        obtain ⟨zs, hz⟩ := open_zs ht
        exact ⟨zs, _, hc, hz⟩
      obtain ⟨F, hF⟩ := choose_lt (α := List Int) cell
      obtain ⟨b, off, spot⟩ := a
      obtain ⟨u0, hc0, _⟩ := hF 0 (by omega)
      have hspot : spot = none := by simpa [Addr.add] using World.cell?_spot hc0
      subst hspot
      refine ⟨L0, F, by omega, .inr ⟨b, off, m, rfl, block_lt_of_cell hc0, fun k hk => ?_⟩⟩
      obtain ⟨u, h1, h2⟩ := hF k (by omega)
      rw [add_at] at h1
      exact ⟨u, h1, h2⟩
set_option maxRecDepth 100000 in
theorem open_blk {r : Reach} {b0 : Nat} {v : Value} {d : DataW H} {p : List MemPlace} (hv : Value.okWide Try.prog W r b0 83 v) (h : DataW.Trod enc Try.prog W base (fun _ => true) held 83 v d p) : ∃ x, v = bv x ∧ WFB x := by
  obtain ⟨cs, rfl, hsz⟩ := okWide_array Try.underlying83 hv
  obtain ⟨fuel, hf⟩ := h
  obtain ⟨a, b, c, e, wa, wb, wc⟩ := open_arr3 hf
  have : cs.toList = [.int .i64 a, .int .i64 b, .int .i64 c] := e
  refine ⟨⟨a, b, c⟩, ?_, wa, wb, wc⟩
  unfold bv
  rw [← this]
end
end Go.Proofs.Ytahgialnhomefaa

namespace Go.Proofs.Ytahgialnhomefaa
open Go.RowKit Go.Maps
structure CS (w : World) (v p : Int) (s sW s8 sG : Value) (XW X XG i0 i1 j1 j2 k1 k2 : Nat) (LW L8 LG : List Blk) (W : World) : Prop where
  st : St1 w v s W
  o0 : w.heap.size < i0
  o1 : i0 ≤ i1
  o2 : i1 ≤ XW
  o3 : XW < j1
  o4 : j1 ≤ j2
  o5 : j2 ≤ X
  o6 : X < k1
  o7 : k1 ≤ k2
  o8 : k2 ≤ XG
  rW : ResR W i0 i1 sW LW
  vW : VarB W XW p sW
  r8 : ResR W j1 j2 s8 L8
  vX : VarB W X v s8
  rG : ResR W k1 k2 sG LG
  vG : VarB W XG p sG
section
variable {w : World} {v p : Int} {s sW s8 sG : Value} {XW X XG i0 i1 j1 j2 k1 k2 : Nat} {LW L8 LG : List Blk} {W W' : World}
theorem CS.step (h : CS w v p s sW s8 sG XW X XG i0 i1 j1 j2 k1 k2 LW L8 LG W) (hg : W.grownBy W' none) : CS w v p s sW s8 sG XW X XG i0 i1 j1 j2 k1 k2 LW L8 LG W' :=
  ⟨h.st.step hg (by simp), h.o0, h.o1, h.o2, h.o3, h.o4, h.o5, h.o6, h.o7, h.o8, h.rW.kept hg (by simp), h.vW.step hg (by simp), h.r8.kept hg (by simp), h.vX.step hg (by simp), h.rG.kept hg (by simp), h.vG.step hg (by simp)⟩
theorem CS.mark8 (h : CS w v p s sW s8 sG XW X XG i0 i1 j1 j2 k1 k2 LW L8 LG W) {row : Option Nat} (hg : W.grownBy W' row) (hr : ∀ r, row = some r → j1 ≤ r ∧ r < j2) {L : List Blk} (hn : ResR W' j1 j2 s8 L) :
    CS w v p s sW s8 sG XW X XG i0 i1 j1 j2 k1 k2 LW L LG W' := by
  obtain ⟨st, o0, o1, o2, o3, o4, o5, o6, o7, o8, rW, vW, r8, vX, rG, vG⟩ := h
  exact ⟨st.step hg (fun r e => by have := hr r e; omega), o0, o1, o2, o3, o4, o5, o6, o7, o8, rW.kept hg (fun r e => by have := hr r e; omega), vW.step hg (fun e => by have := hr _ e; omega), hn, vX.step hg (fun e => by have := hr _ e; omega), rG.kept hg (fun r e => by have := hr r e; omega), vG.step hg (fun e => by have := hr _ e; omega)⟩
theorem CS.markG (h : CS w v p s sW s8 sG XW X XG i0 i1 j1 j2 k1 k2 LW L8 LG W) {row : Option Nat} (hg : W.grownBy W' row) (hr : ∀ r, row = some r → k1 ≤ r ∧ r < k2) {L : List Blk} (hn : ResR W' k1 k2 sG L) :
    CS w v p s sW s8 sG XW X XG i0 i1 j1 j2 k1 k2 LW L8 L W' := by
  obtain ⟨st, o0, o1, o2, o3, o4, o5, o6, o7, o8, rW, vW, r8, vX, rG, vG⟩ := h
  exact ⟨st.step hg (fun r e => by have := hr r e; omega), o0, o1, o2, o3, o4, o5, o6, o7, o8, rW.kept hg (fun r e => by have := hr r e; omega), vW.step hg (fun e => by have := hr _ e; omega), r8.kept hg (fun r e => by have := hr r e; omega), vX.step hg (fun e => by have := hr _ e; omega), hn, vG.step hg (fun e => by have := hr _ e; omega)⟩
end
end Go.Proofs.Ytahgialnhomefaa



namespace Go.Proofs.Ytahgialnhomefaa
open Go.RowKit Go.Maps
set_option maxRecDepth 100000 in
set_option maxHeartbeats 2000000 in
theorem FnExactProductOfTurns_main (v0 : Int) (s0 : Value) (bs0 : List Blk) (p1 : Int) (p2 : Int) (w : World) (h0 : InB w s0 bs0) (h1 : WF p1) (h2 : WF p2) (hl : bs0.length ≤ 1048576) :
    Calls Try.prog 9 #[.agg #[.int .i64 v0, s0], .int .i64 p1, .int .i64 p2] w (RV (.bool true) w) := by
  have hsl0 := h0.slice
  have hbd0 := h0.2.1
  have hsz0 := szSystem_any v0 s0 bs0.length hsl0 (by omega) 1048576 (by omega) (by omega)
  rw [if_neg (by omega)] at hsz0
  obtain ⟨m0, hm0⟩ : ∃ m, m = (1048576 : Int) - (bs0.length : Int) := ⟨_, rfl⟩
  rw [← hm0] at hsz0
  have hmp0 : 0 ≤ m0 := by omega
  have HSZ0 := Lib.hid hsz0
  have HSB0 := Lib.hid (h0.sb (by omega))
  have HBD0 := Lib.hid (show bs0.length ≤ 1100000 by omega)
  have HWF0 := Lib.hid h0.1
  have HWF1 := Lib.hid h1
  have HWF2 := Lib.hid h2
  obtain ⟨L, hL⟩ : ∃ L, L = (potF v0 bs0 p1 p2).1 := ⟨_, rfl⟩
  obtain ⟨κ, hκ⟩ : ∃ κ, κ = (potF v0 bs0 p1 p2).2 := ⟨_, rfl⟩
  have hp : potF v0 bs0 p1 p2 = (L, κ) := by rw [hL, hκ]
  have LBD := Lib.hid (show L.length ≤ 1100000 by rw [hL]; exact Nat.le_trans (potF_len v0 bs0 p1 p2) (by omega))
  have HSP := Lib.hid fun (W : World) (t0 : Value) (r0 : SC W t0 bs0) => specProductOfTurns_any v0 t0 bs0 p1 p2 W r0.1
  have HIM := Lib.hid fun (W : World) (t0 : Value) (r0 : SB W t0 bs0) => ProductOfTurns_any v0 t0 bs0 p1 p2 W r0
  rw [hp] at HSP HIM
  have hnk : (κ != κ) = false := by simp
  clear hsz0 hm0 hbd0 hL hκ hp h0 h1 h2 hl
  obtain ⟨a0, c0, rfl⟩ := hsl0
  go_enter Try.func9, Try.ntmps9
  have hm := ((Mem.start w).pushVar v0 (.slice a0 bs0.length c0) 24)
  have fA00 := (hm.var 0 rfl).c0
  have fA01 := (hm.var 0 rfl).c1
  have HM := Lib.hid hm
  clear hm
  go_wp2_with fail
  refine (HSZ0.out _).mono ?_
  rintro e w1 ⟨rfl, hbw1⟩
  have hm := HM.out.step (gb_below hbw1)
  clear fA00 fA01
  clear HM hbw1
  have fA00 := (hm.var 0 rfl).c0
  have fA01 := (hm.var 0 rfl).c1
  have HM := Lib.hid hm
  clear hm
  go_wp2_with fail
  refine (toSystem_any v0 _ bs0 _ (HSB0.out.below HM.out.below (Nat.le_refl _))).mono ?_
  rintro e w2 ⟨tw2, rfl, how2, hbw2⟩
  have r3 := how2.sc HWF0.out HBD0.out
  obtain ⟨gw2, capw2, hsw2, _⟩ := id how2
  subst hsw2
  have hm := HM.out.step (gb_below hbw2)
  clear fA00 fA01
  clear HM hbw2 how2
  have fA00 := (hm.var 0 rfl).c0
  have fA01 := (hm.var 0 rfl).c1
  have HM := Lib.hid hm
  clear hm
  go_wp2_with fail
  refine (HSP.out _ _ r3).mono ?_
  rintro e w4 ⟨uw4, rfl, hrow4, hbw4⟩
  have hrw4 := hrow4.res LBD.out
  clear hrow4
  obtain ⟨aW, nW, hsw4⟩ := hrw4.slice
  subst hsw4
  clear r3
  have hm := (HM.out.pushI hbw4 hrw4)
  clear fA00 fA01
  clear HM hbw4 hrw4
  have fA00 := (hm.var 1 rfl).c0
  have fA01 := (hm.var 1 rfl).c1
  have HM := Lib.hid hm
  clear hm
  go_wp2_with fail
  refine (toSystem_any v0 _ bs0 _ (HSB0.out.below HM.out.below (Nat.le_refl _))).mono ?_
  rintro e w5 ⟨tw5, rfl, how5, hbw5⟩
  have hrw5 := how5.res
  obtain ⟨gw5, capw5, hsw5, _⟩ := id how5
  subst hsw5
  have hm := (HM.out.pushB hbw5 hrw5).pushVar v0 (.slice (some ⟨gw5, 0, none⟩) bs0.length capw5) 30
  clear fA00 fA01
  clear HM hbw5 hrw5 how5
  have fVX00 := (hm.var 0 rfl).c0
  have fVX01 := (hm.var 0 rfl).c1
  have fA00 := (hm.var 3 rfl).c0
  have fA01 := (hm.var 3 rfl).c1
  have HM := Lib.hid hm
  clear hm
  go_wp2_with fail
  refine (HIM.out _ _ ((HM.out.blks 1 rfl).sb HWF0.out HBD0.out)).mono ?_
  rintro e w6 ⟨uw6, rfl, hrow6, hbw6⟩
  have hrw6 := hrow6.res LBD.out
  clear hrow6
  obtain ⟨aG, nG, hsw6⟩ := hrw6.slice
  subst hsw6
  have hm := (HM.out.pushI hbw6 hrw6)
  clear fVX00 fVX01 fA00 fA01
  clear HM hbw6 hrw6
  have fVX00 := (hm.var 1 rfl).c0
  have fVX01 := (hm.var 1 rfl).c1
  have fA00 := (hm.var 4 rfl).c0
  have fA01 := (hm.var 4 rfl).c1
  have HM := Lib.hid hm
  clear hm
  go_wp2_with fail
  refine (eqInt64S_same _ _ L _ ((HM.out.ints 0 rfl).ib LBD.out) ((HM.out.ints 3 rfl).ib LBD.out)).mono ?_
  rintro e w7 ⟨rfl, hbw7⟩
  have hm := HM.out.step (gb_below hbw7)
  clear fVX00 fVX01 fA00 fA01
  clear HM hbw7
  have fVX00 := (hm.var 1 rfl).c0
  have fVX01 := (hm.var 1 rfl).c1
  have fA00 := (hm.var 4 rfl).c0
  have fA01 := (hm.var 4 rfl).c1
  have HM := Lib.hid hm
  clear hm
  go_upto_region 10 with fail
  go_cut [53] (fun sq wx => sq = .bool false ∧ MemOf HM.out wx)
  case first =>
    go_region_with (first | (go_at_call 16; refine (toSystem_any v0 _ bs0 _ ?_).mono ?_; (exact HSB0.out.below HM.out.below.drew (Nat.le_refl _)); rintro e w8 ⟨tw8, rfl, how8, hbw8⟩; have hmx := (HM.out.step (gb_drew1 _)).step (gb_below hbw8); have ec0 := (hmx.var 1 rfl).c0; have ec1 := (hmx.var 1 rfl).c1; have HMX := Lib.hid hmx; clear hmx; have hsbw8 := how8.sb HWF0.out HBD0.out; obtain ⟨gw8, capw8, hsw8, _⟩ := id how8; subst hsw8) | (go_at_call 18; refine (eqSystem_same v0 _ _ bs0 _ ?_ ?_).mono ?_; (exact ((HMX.out.blks 2 rfl).sb HWF0.out HBD0.out)); (exact hsbw8); rintro e w9 ⟨rfl, hbw9⟩))
    all_goals
      go_wp2_with fail
      go_meet
      exact ⟨rfl, HMX.out.step (gb_below hbw9)⟩
  case rest =>
  obtain ⟨rfl, hm⟩ := hcut
  unfold MemOf at hm
  obtain ⟨yc0, rfl⟩ : ∃ W, W = wc := ⟨_, rfl⟩
  clear fVX00 fVX01 fA00 fA01
  clear HM
  have fVX00 := (hm.var 1 rfl).c0
  have fVX01 := (hm.var 1 rfl).c1
  have fA00 := (hm.var 4 rfl).c0
  have fA01 := (hm.var 4 rfl).c1
  have HM := Lib.hid hm
  clear hm
  go_wp2_with fail
  refine (markSystem_any _ _ v0 _ bs0 1 _ (HM.out.blks 2 rfl) HBD0.out (by omega) (by omega)).mono ?_
  rintro e w10 ⟨rfl, hww10, hrw10⟩
  have hm := HM.out.markB 2 rfl hww10 hrw10
  clear fVX00 fVX01 fA00 fA01
  clear HM hww10 hrw10
  have fVX00 := (hm.var 1 rfl).c0
  have fVX01 := (hm.var 1 rfl).c1
  have fA00 := (hm.var 4 rfl).c0
  have fA01 := (hm.var 4 rfl).c1
  have HM := Lib.hid hm
  clear hm
  obtain ⟨kw10, hkw10⟩ : ∃ m, m = 1 + 3 * (bs0.length : Int) := ⟨_, rfl⟩
  rw [← hkw10]
  have h0kw10 : 0 ≤ kw10 := by have := HBD0.out; omega
  have h1kw10 : kw10 ≤ 3300001 := by have := HBD0.out; omega
  clear hkw10
  go_wp2_with fail
  refine (eqInt64S_same _ _ L _ ((HM.out.ints 0 rfl).ib LBD.out) ((HM.out.ints 3 rfl).ib LBD.out)).mono ?_
  rintro e w11 ⟨rfl, hbw11⟩
  have hm := HM.out.step (gb_below hbw11)
  clear fVX00 fVX01 fA00 fA01
  clear HM hbw11
  have fVX00 := (hm.var 1 rfl).c0
  have fVX01 := (hm.var 1 rfl).c1
  have fA00 := (hm.var 4 rfl).c0
  have fA01 := (hm.var 4 rfl).c1
  have HM := Lib.hid hm
  clear hm
  go_wp2_with fail
  refine (markJ _ _ _ L 1 _ (HM.out.ints 0 rfl) LBD.out (by omega) (by omega)).mono ?_
  rintro e w12 ⟨rfl, hww12, hrw12⟩
  have hm := HM.out.markI 0 rfl hww12 hrw12
  clear fVX00 fVX01 fA00 fA01
  clear HM hww12 hrw12
  have fVX00 := (hm.var 1 rfl).c0
  have fVX01 := (hm.var 1 rfl).c1
  have fA00 := (hm.var 4 rfl).c0
  have fA01 := (hm.var 4 rfl).c1
  have HM := Lib.hid hm
  clear hm
  have hheld := fun lo hi W (h : ResI W lo hi (Value.slice aG L.length nG) (markI 1 L.length)) => heldJ lo hi (.slice aG L.length nG) L.length 1 W h LBD.out (by omega) (by omega)
  obtain ⟨m5, hm5⟩ : ∃ m5, m5 = 1 + (L.length : Int) := ⟨_, rfl⟩
  rw [← hm5] at hheld ⊢
  have HHELD := Lib.hid hheld
  have m50 : 0 ≤ m5 := by omega
  have hn5 : (m5 != m5) = false := by simp
  clear hm5 hheld
  go_wp2_with fail
  refine (HHELD.out _ _ _ (HM.out.ints 0 rfl)).mono ?_
  rintro e w13 ⟨rfl, rfl⟩
  go_wp2_with fail
  refine (toSystem_any v0 _ bs0 _ (HSB0.out.below HM.out.below (Nat.le_refl _))).mono ?_
  rintro e w14 ⟨tw14, rfl, how14, hbw14⟩
  have r15 := how14.sb HWF0.out HBD0.out
  obtain ⟨gw14, capw14, hsw14, _⟩ := id how14
  subst hsw14
  have hm := HM.out.step (gb_below hbw14)
  clear fVX00 fVX01 fA00 fA01
  clear HM hbw14 how14
  have fVX00 := (hm.var 1 rfl).c0
  have fVX01 := (hm.var 1 rfl).c1
  have fA00 := (hm.var 4 rfl).c0
  have fA01 := (hm.var 4 rfl).c1
  have HM := Lib.hid hm
  clear hm
  go_wp2_with fail
  refine (HIM.out _ _ r15).mono ?_
  rintro e w16 ⟨uw16, rfl, hrow16, hbw16⟩
  have hrw16 := hrow16.res LBD.out
  clear hrow16
  obtain ⟨aH, nH, hsw16⟩ := hrw16.slice
  subst hsw16
  clear r15
  have hm := (HM.out.pushI hbw16 hrw16)
  clear fVX00 fVX01 fA00 fA01
  clear HM hbw16 hrw16
  have fVX00 := (hm.var 2 rfl).c0
  have fVX01 := (hm.var 2 rfl).c1
  have fA00 := (hm.var 5 rfl).c0
  have fA01 := (hm.var 5 rfl).c1
  have HM := Lib.hid hm
  clear hm
  go_wp2_with fail
  refine (eqInt64S_same _ _ L _ ((HM.out.ints 0 rfl).ib LBD.out) ((HM.out.ints 4 rfl).ib LBD.out)).mono ?_
  rintro e w17 ⟨rfl, hbw17⟩
  have hm := HM.out.step (gb_below hbw17)
  clear fVX00 fVX01 fA00 fA01
  clear HM hbw17
  have fVX00 := (hm.var 2 rfl).c0
  have fVX01 := (hm.var 2 rfl).c1
  have fA00 := (hm.var 5 rfl).c0
  have fA01 := (hm.var 5 rfl).c1
  have HM := Lib.hid hm
  clear hm
  go_wp2_with fail
  refine (HHELD.out _ _ _ (HM.out.ints 1 rfl)).mono ?_
  rintro e w18 ⟨rfl, rfl⟩
  go_wp2
  go_ret
  exact RV_of rfl HM.out.below
set_option maxRecDepth 100000 in
theorem FnExactProductOfTurns_long0 (v0 : Int) (s0 : Value) (bs0 : List Blk) (p1 : Int) (p2 : Int) (w : World) (h0 : InB w s0 bs0) (h1 : WF p1) (h2 : WF p2)  (hl : ¬ bs0.length ≤ 1048576) : Calls Try.prog 9 #[.agg #[.int .i64 v0, s0], .int .i64 p1, .int .i64 p2] w (RV (.bool true) w) := by
  have hsl0 := h0.slice
  have hbd0 := h0.2.1
  have hsz0 := szSystem_any v0 s0 bs0.length hsl0 (by omega) (1048576) (by omega) (by omega)
  rw [if_pos (by omega)] at hsz0
  have HSZ0 := Lib.hid hsz0
  clear hl h0 h1 h2 hsz0 hbd0
  obtain ⟨a0, c0, rfl⟩ := hsl0
  go_enter Try.func9, Try.ntmps9
  go_wp2_with fail
  refine (HSZ0.out _).mono ?_
  rintro e y0 ⟨rfl, hy0⟩
  go_wp2
  go_ret
  exact RV_of rfl (((Below.refl _ _).alloc (by simp <;> omega) _).trans (hy0.mono (by first | (simp <;> omega) | (have := ((Below.refl _ _).alloc (by simp <;> omega) _).size; omega))))
theorem FnExactProductOfTurns_any (v0 : Int) (s0 : Value) (bs0 : List Blk) (p1 : Int) (p2 : Int) (w : World) (h0 : InB w s0 bs0) (h1 : WF p1) (h2 : WF p2) : Calls Try.prog 9 #[.agg #[.int .i64 v0, s0], .int .i64 p1, .int .i64 p2] w (RV (.bool true) w) := by
  by_cases hs0 : bs0.length ≤ 1048576
  case neg => exact FnExactProductOfTurns_long0 v0 s0 bs0 p1 p2 w h0 h1 h2   hs0
  exact FnExactProductOfTurns_main v0 s0 bs0 p1 p2 w h0 h1 h2 hs0 
end Go.Proofs.Ytahgialnhomefaa

namespace Go.Proofs.Ytahgialnhomefaa
set_option maxRecDepth 100000 in
noncomputable def iniP : { L : List Char // Try.prog.initOrder = String.ofList L } := ⟨_, by unfold Try.prog; rfl⟩
theorem iniL : Try.prog.initOrder.toList = iniP.1 := (congrArg String.toList iniP.2).trans String.toList_ofList
theorem words_cons (c : Char) (r : List Char) (h : c ≠ Char.ofNat 32) : wordsSigns (c :: r) = match wordsSigns r with | w :: ws => (c :: w) :: ws | [] => [[c]] := by
  rw [wordsSigns]
  all_goals first | rfl | exact h | (intro e; exact h e)
theorem words_word : ∀ (a b : List Char), (a.all fun c => c != Char.ofNat 32) = true → wordsSigns (a ++ Char.ofNat 32 :: b) = a :: wordsSigns b
  | [], b, _ => rfl
  | c :: a, b, h => by
    simp only [List.all_cons, Bool.and_eq_true, bne_iff_ne, ne_eq] at h
    rw [List.cons_append, words_cons _ _ h.1, words_word a b (by simpa using h.2)]
set_option maxRecDepth 100000 in
theorem split1 : iniP.1 = iniP.1.take 7 ++ Char.ofNat 32 :: iniP.1.drop 8 := by kernel_rfl
set_option maxRecDepth 100000 in
theorem split2 : iniP.1.drop 8 = (iniP.1.drop 8).take 64 ++ Char.ofNat 32 :: iniP.1.drop 73 := by kernel_rfl
set_option maxRecDepth 100000 in
theorem split3 : iniP.1.drop 73 = (iniP.1.drop 73).take 3 ++ Char.ofNat 32 :: iniP.1.drop 77 := by kernel_rfl
theorem isCut : (iniP.1.drop 73).take 3 = "cut".toList := by kernel_rfl
set_option maxRecDepth 100000 in
theorem isHead : ((iniP.1.take 7 == "harness".toList || iniP.1.take 7 == "ownmain".toList) && isSumSigns ((iniP.1.drop 8).take 64)) = true := by kernel_rfl
theorem wordsL : wordsSigns iniP.1 = iniP.1.take 7 :: (iniP.1.drop 8).take 64 :: "cut".toList :: wordsSigns (iniP.1.drop 77) := by
  rw [← isCut]
  conv => lhs; rw [split1]
  rw [words_word _ _ (by kernel_rfl)]
  conv => lhs; rw [split2]
  rw [words_word _ _ (by kernel_rfl)]
  conv => lhs; rw [split3]
  rw [words_word _ _ (by kernel_rfl)]
theorem behindL : behindMainWord (wordsSigns Try.prog.initOrder.toList) = "cut".toList :: wordsSigns (iniP.1.drop 77) := by
  rw [iniL, wordsL]
  unfold behindMainWord
  simp only [isHead, if_true]
theorem stripL (ws : List (List Char)) : stripLifts liftWords ("cut".toList :: ws) = ([], "cut".toList :: ws) := by kernel_rfl
section
variable (P : Program) (ws : List (List Char)) (h : behindMainWord (wordsSigns P.initOrder.toList) = "cut".toList :: ws)
include h
theorem head_of : P.headLifts = [] := by
  unfold Program.headLifts
  rw [h]
  simp only [stripL]
  kernel_rfl
theorem make_of : P.make = some .cut := by
  unfold Program.make
  rw [h, head_of P ws h]
  kernel_rfl
theorem lifts_of : P.liftsFinal = false := by
  unfold Program.liftsFinal
  rw [h, head_of P ws h]
  kernel_rfl
theorem enter_of (h1 : P.laysLater = false) (h2 : P.bearsReflect = false) (h3 : P.doorFits [] = true) : P.mayEnter = true := by
  unfold Program.mayEnter
  rw [h]
  simp only [stripL]
  rw [h1, h2, h3]
  kernel_rfl
end
theorem mayE : Try.pinned.checked.prog.mayEnter = true := enter_of _ _ behindL (by kernel_rfl) (by kernel_rfl) (by kernel_rfl)
theorem liftsF : Try.pinned.checked.prog.liftsFinal = false := lifts_of _ _ behindL
theorem makeF : Try.pinned.checked.prog.make = some .cut := make_of _ _ behindL
theorem both {a b : Bool} (h : a = true) (k : b = true) : (a && b) = true := by rw [h, k]; rfl
end Go.Proofs.Ytahgialnhomefaa

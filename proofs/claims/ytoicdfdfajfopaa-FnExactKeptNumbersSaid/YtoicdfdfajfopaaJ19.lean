
/- The program's numbers of automorphisms by kept points. How the laws' arguments are read. How the laws' other arguments are read: slices of integers, slices of blocks, a block, rows. What a law over one system whose result is a system knows of the memory between two of its steps. The law FnExactKeptNumbers returns true. The dump's head word by word, cheaply: what every row asks of it. -/
import Derived.Test.YtoicdfdfajfopaaJ18
import Derived.Test.YtoicdfdfajfopaaRows
import Derived.ProofKit
import Derived.OpenShut
import Derived.Deep.Slices
import Derived.Lib.SmallJoins
import Derived.ChangeOld
import Derived.Deep.RegionWith
import Derived.Deep.DeepCutAuto
namespace Go.Proofs.Ytoicdfdfajfopaa
open Go.RowKit Go.Maps Go.Shelf
attribute [local go_sem] Oper.semAt_some
set_option maxRecDepth 100000 in
set_option maxHeartbeats 4000000 in
theorem Kep_main (n : Nat) (s : Value) (bs : List Blk) (w : World) (h : SB w s bs) (hi : isSysImpl (n : Int) bs = true) (hf : fullB (n : Int) bs = true) : Calls Try.prog 43 #[.agg #[.int .i64 (n : Int), s]] w (RJ (kpR (autL n bs) n, 0) w) := by
  have h3 := (sys_size hi).1
  have h15 := (sys_size hi).2.1
  have HA := Lib.hid fun W (hb : Below w.heap.size w W) => automorphisms_any n s bs W (h.below hb (Nat.le_refl _)) hi hf
  have hc0 : fullC (n : Int) bs = 0 := by simp [fullC, hi, hf]
  have hfc := fun W hb B c0 c1 => fullCode_one B (n : Int) s bs W (h.below (w' := W) hb (Nat.le_refl _)) c0 c1
  rw [hc0] at hfc
  have HT := Lib.hid (thdS hi hf)
  obtain ⟨X, hX⟩ : ∃ X, X = renL n (T3 bs) (T3 bs) := ⟨_, rfl⟩
  have hXm : autL n bs = X.map encM := by rw [hX, renL_aut hi hf]
  rw [hXm]
  have hXl : X.length ≤ 50625 := by
    have := isoL_len (T1 := T3 bs) (T2 := T3 bs) (thdS hi hf) (thdS hi hf) (n := n) (by omega) (by omega)
    rw [← renL_enc (thdS hi hf) (thdS hi hf), List.length_map, ← hX] at this
    exact this
  have HX := Lib.hid hX
  have hmk := mkRowD (n + 1) (by omega)
  rw [show ((n + 1 : Nat) : Int) = (n : Int) + 1 by omega] at hmk
  obtain ⟨a0, c0, rfl⟩ := h.slice
  obtain ⟨W1, hW1⟩ : ∃ W1, W1 = (w.alloc (.cells #[.int .i64 (n : Int), .slice a0 bs.length c0] 31)).alloc (.cells #[.int .i64 (n : Int), .slice a0 bs.length c0] 31) := ⟨_, rfl⟩
  have hB1 : Below w.heap.size w W1 := by rw [hW1]; exact ((Below.refl _ _).alloc (Nat.le_refl _) _).alloc (by simp) _
  have hz1 : W1.heap.size = w.heap.size + 1 + 1 := by rw [hW1]; simp
  have q0 : W1.cell? ⟨w.heap.size, 0, none⟩ = some (.int .i64 n) := by rw [hW1]; simp [go_sem]
  have q1 : W1.cell? ⟨w.heap.size, 1, none⟩ = some (.slice a0 bs.length c0) := by rw [hW1]; simp [go_sem]
  have HFI := Lib.hid (hfc W1 hB1 (w.heap.size + 1) (by rw [hW1]; simp [go_sem]) (by rw [hW1]; simp [go_sem]))
  clear h hi hf hfc hc0 hX hXm
  have hro : Fence.wide.round = none := rfl
  refine (callsIn_wide (n := 9)).1 ?_
  refine callsIn_of_wp_marks Try.func43 rfl trivial ?_ hro
  simp only [Try.ntmps43, List.size_toArray, List.length_cons, List.length_nil, Nat.reduceAdd, Nat.reduceSub, Array.replicate_succ, Array.replicate_zero, List.push_toArray, List.append_toArray, List.nil_append, List.cons_append]
  gi_wp2_with (first | fail)
  rw [← hW1]
  refine ⟨trivial, (callsIn_wide.2 HFI.out).mono ?_⟩
  rintro e w2 ⟨rfl, hb2⟩
  have hB2 := hB1.trans (hb2.mono hB1.size)
  have q0 := (hb2.cell (p := ⟨w.heap.size, 0, none⟩) (show w.heap.size < W1.heap.size by omega)).trans q0
  have q1 := (hb2.cell (p := ⟨w.heap.size, 1, none⟩) (show w.heap.size < W1.heap.size by omega)).trans q1
  have hz2 := hb2.size
  have hlt2 : w.heap.size < w2.heap.size := by omega
  clear hb2 hW1 hB1 HFI
  gi_wp2_with (first | fail)
  obtain ⟨w3, hw3⟩ : ∃ w3, w3 = (w2.alloc (.cells (madeCells #[.int .i64 0] (n + 1)) 2)).alloc (.cells #[.slice (some ⟨w2.heap.size, 0, none⟩) (n + 1) (n + 1)] 25) := ⟨_, rfl⟩
  have hO3 : OwnJ w3 w.heap.size (.slice (some ⟨w2.heap.size, 0, none⟩) (n + 1) (n + 1)) (kpR [] n) := by
    rw [hw3, kpR_nil]
    exact OwnJ.baseD ((OwnJ.made0 w2 (n + 1) (by omega) (Nat.le_refl _)).alloc _) hB2.size
  have hx3 : Boxed w3 (w2.heap.size + 1) 25 (.slice (some ⟨w2.heap.size, 0, none⟩) (n + 1) (n + 1)) := by
    have := Boxed.new (w2.alloc (.cells (madeCells #[.int .i64 0] (n + 1)) 2)) 25 (.slice (some ⟨w2.heap.size, 0, none⟩) (n + 1) (n + 1))
    rw [World.size_alloc] at this
    rw [hw3]
    exact this
  have hB3 : Below w.heap.size w w3 := by rw [hw3]; exact (hB2.alloc hB2.size _).alloc (by have := hB2.size; simp; omega) _
  have hz3 : w3.heap.size = w2.heap.size + 1 + 1 := by rw [hw3]; simp
  have hww := hB2.size
  obtain ⟨Gc, hGc⟩ : ∃ Gc, Gc = w2.heap.size := ⟨_, rfl⟩
  obtain ⟨Bc, hBc⟩ : ∃ Bc, Bc = w2.heap.size + 1 := ⟨_, rfl⟩
  rw [← hw3]
  rw [← hBc] at hx3 ⊢
  rw [← hGc] at hO3 hx3 ⊢
  have hg1 : w.heap.size ≤ Gc := by omega
  have hg2 : Gc < w3.heap.size := by omega
  have hb1 : w.heap.size ≤ Bc := by omega
  have hb2 : Bc < w3.heap.size := by omega
  have hgb : Bc ≠ Gc := by omega
  clear hw3 hB2 q0 q1 hGc hBc hz3 hmk hz2 hlt2 hww
  refine ⟨trivial, (callsIn_wide.2 (HA.out w3 hB3)).mono ?_⟩
  rintro e w4 ⟨Bi, Bt, Bf, v, rfl, hD, hb4⟩
  have hx4 : Boxed w4 Bc 25 (.slice (some ⟨Gc, 0, none⟩) (n + 1) (n + 1)) := (hb4.block Bc hb2).trans hx3
  have hO4 := hO3.below hb4 (Nat.le_refl _)
  have hB4 := hB3.trans (hb4.mono hB3.size)
  have hz4 := hb4.size
  have HSQ := Lib.hid (hD.seq (E := fun i => i = Gc) HT.out HT.out (by omega) (by omega) (fun i e => by omega) hz4 (9 - 1))
  rw [← HX.out] at HSQ
  clear hD hb4 HT hx3 hO3 hB3 HA
  gi_wp2
  refine wpIn_rangeFunc_R hro (by omega) (gf := 121) (lb := #[.pointer (some ⟨Bi, 0, none⟩), .pointer (some ⟨Bt, 0, none⟩), .pointer (some ⟨Bf, 0, none⟩)]) rfl trivial (enters_of Try.func121 (by kernel_rfl) rfl) rfl (fun i e => by omega) HSQ.out
    (fun pre _ W => Boxed W Bc 25 (.slice (some ⟨Gc, 0, none⟩) (n + 1) (n + 1)) ∧ OwnJ W w.heap.size (.slice (some ⟨Gc, 0, none⟩) (n + 1) (n + 1)) (kpR (pre.map encM) n) ∧ Below w.heap.size w W)
    (fun _ _ _ _ => False)
    (fun pre k u X Y row hs hg hr => ⟨hs.1.kept hg (fun e => by have := (hr _ e.symm).1; omega), ownJ_own w.heap.size _ _ X Y row hs.2.1 hg (fun r e => (hr r e).2), hs.2.2.grown hg hs.2.2.size (fun r e => by have := (hr r e).1; omega)⟩)
    (fun _ _ _ _ _ _ _ hs _ _ => hs)
    ⟨hx4, hO4, hB4⟩
    (fun x k vx a' W' => (∃ (y0 y1 y2 y3 y4 y7 y8 y9 y10 y11 y12 y13 y14 y15 y16 y17 y18 y19 y20 y21 y22 y23 y24 y25 y26 y27 : Value), a' = { tmps := #[y0, y1, y2, y3, y4, .pointer (some ⟨Bc, 0, none⟩), vx, y7, y8, y9, y10, y11, y12, y13, y14, y15, y16, y17, y18, y19, y20, y21, y22, y23, y24, y25, y26, y27], defers := [] }) ∧ RenR (fun i => i = Gc) n (T3 bs) (T3 bs) x k vx W')
    (fun x k vx a' u X Y row hs hg hr => ⟨hs.1, OwnE.ck hs.2.1 (CK.of_grown hg fun r e => (hr r e).2), hs.2.2⟩) ?assign ?body ?done ?stop
  case assign =>
    intro l' pre x k vx W' K hi hRx hK
    obtain ⟨a9, c9, rfl⟩ := OwnJ.formS hRx.1.1
    simp only [List.zip_toArray, List.zip_cons_cons, List.zip_nil_right, List.size_toArray, List.length_cons, List.length_nil, List.foldl_toArray', List.foldl_cons, List.foldl_nil, List.setIfInBounds_toArray, List.set_cons_succ, List.set_cons_zero]
    gi_wp2
    exact hK _ _ (Kept.refl _ _ _) hi ⟨⟨_, _, _, _, _, _, _, _, _, _, _, _, _, _, _, _, _, _, _, _, _, _, _, _, _, _, rfl⟩, hRx⟩
  case body =>
    rintro l' pre x k vx a' W' hl' hloop ⟨i1, i2, i3⟩ ⟨⟨y0, y1, y2, y3, y4, y7, y8, y9, y10, y11, y12, y13, y14, y15, y16, y17, y18, y19, y20, y21, y22, y23, y24, y25, y26, y27, rfl⟩, hRx⟩ hlen
    obtain ⟨hRo, f, hfi, rfl⟩ := hRx
    rw [encM_lis] at hRo
    have hlx := castN_lisl n f
    obtain ⟨z, hz⟩ : ∃ z, z = castN (lisN n f) := ⟨_, rfl⟩
    rw [← hz] at hRo hlx
    obtain ⟨g9, c9, rfl⟩ := hRo.1.someR (by rw [hlx]; omega)
    obtain ⟨b', off', cap', e1, _, e3⟩ := hRo.1.ia (by rw [hlx]; omega)
    cases e1
    have hck := fun V (hV : V.heap = W'.heap) => countKept_any g9 c9 z V (fun k hk => by unfold World.cell?; rw [hV]; exact e3 k hk) (by omega)
    rw [hlx] at hck
    have hkn : keptN z ≤ n := Nat.le_trans (keptK_le z z.length) (Nat.le_of_eq hlx)
    have hsn := kpR_snoc (pre.map encM) z hkn
    have hat := kpR_at (pre.map encM) hkn
    have hcs : ((pre.map encM).countP fun y => keptN y == keptN z) ≤ 60000 := Nat.le_trans (kpR_small _ _) (by rw [List.length_map]; omega)
    obtain ⟨kk, hkk⟩ : ∃ kk, kk = keptN z := ⟨_, rfl⟩
    obtain ⟨cc, hcc⟩ : ∃ cc, cc = ((pre.map encM).countP fun y => keptN y == keptN z) := ⟨_, rfl⟩
    rw [← hcc] at hsn hcs
    rw [← hkk] at hck hkn hsn hat hcc
    rw [← hcc] at hat
    have x1 := i1.cell
    obtain ⟨y1, y2, y3, y4, y5⟩ := i2.atR (i := kk) (by rw [kpR_len]; omega)
    rw [hat] at y1
    have hset := i2.setR (i := kk) (x := (cc : Int) + 1) (by rw [kpR_len]; omega)
    rw [← hsn] at hset
    have hmap : (pre ++ [lisR n f]).map encM = pre.map encM ++ [z] := by rw [List.map_append, List.map_cons, List.map_nil, encM_lis, hz]
    have hfin : Kept w4.heap.size (fun i => i = Gc) W' (W'.setCell ⟨Gc, kk, none⟩ (.int .i64 ((cc : Int) + 1))) ∧ Boxed (W'.setCell ⟨Gc, kk, none⟩ (.int .i64 ((cc : Int) + 1))) Bc 25 (.slice (some ⟨Gc, 0, none⟩) (n + 1) (n + 1)) ∧ OwnJ (W'.setCell ⟨Gc, kk, none⟩ (.int .i64 ((cc : Int) + 1))) w.heap.size (.slice (some ⟨Gc, 0, none⟩) (n + 1) (n + 1)) (kpR ((pre ++ [lisR n f]).map encM) n) ∧ Below w.heap.size w (W'.setCell ⟨Gc, kk, none⟩ (.int .i64 ((cc : Int) + 1))) := by
      rw [hmap]
      exact ⟨Kept.grown (set_gb W' Gc kk _) (fun r e => by cases e; rfl), i1.kept (set_gb W' Gc kk _) (fun e => hgb (by cases e; rfl)), hset.1, i3.setCell (p := ⟨Gc, kk, none⟩) hg1 _⟩
    have HF1 := Lib.hid hfin
    have HCK := Lib.hid hck
    have hwr : IntKind.i64.wrap ((cc : Int) + 1) = (cc : Int) + 1 := IntWalk.i64_in _ (by omega)
    have hmix : Try.prog.follows .mixedOrders = true := by kernel_rfl
    clear hfin hset hmap hsn hat hck hRo e3 hz hkk hcc i1 i2 i3 hlen HSQ hx4 hO4 hB4 HX y2 y3 y4
    gi_wp2
    gi_region_with_o (refine ⟨trivial, ?_⟩; gi_at_call 79; refine (CallsIn.inRound l' (callsIn_wide.2 (HCK.out _ (by rfl)))).mono ?_; rintro e w' ⟨rfl, rfl⟩)
    all_goals
      gi_wp2
      first | exact HF1.out | exact ⟨HF1.out.1, HF1.out.2.1, HF1.out.2.2.1, HF1.out.2.2.2.drew⟩
  case done =>
    rintro D ys k W' hD hys ⟨i1, i2, i3⟩ hK
    have x1 := i1.cell
    rw [hys] at i2
    have hM5 : Marks w.heap.size W' W'.heap.size [{ target := .collected D, args := #[] }] := ⟨D, rfl, by have := hB4.size; omega, (Array.getElem?_eq_some_iff.1 hK).1, hK, trivial⟩
    clear HSQ hx4 hO4 hB4 i1 hK
    gi_wp2
    refine leaves_marks (n0 := w.heap.size) (fun W => OwnJ W w.heap.size (.slice (some ⟨Gc, 0, none⟩) (n + 1) (n + 1)) (kpR (X.map encM) n) ∧ Below w.heap.size w W) ?_ ?_ _ W'.heap.size W' hM5 ⟨i2, i3⟩
    · rintro W D ⟨h1, h2⟩ hD hK
      exact ⟨(ownJ_own w.heap.size _).putObj _ h1 hK rfl, h2.trans (belowK_b (w := w) (Nat.le_refl _) W D _ _ hD hK rfl rfl)⟩
    · rintro W ⟨h1, h2⟩
      exact ⟨_, by simp [results, Try.f43, go_sem], _, rfl, h1, h2⟩
  case stop =>
    rintro D c pre k W' hD hSp h hK
    exact h.elim
set_option maxRecDepth 100000 in
theorem Kep_any (v : Int) (s : Value) (bs : List Blk) (w : World) (h : SB w s bs) : Calls Try.prog 43 #[.agg #[.int .i64 v, s]] w (RJ (kpF v bs) w) := by
  by_cases hc : fullC v bs = 0
  · obtain ⟨hi, hf⟩ := fullC_ok hc
    obtain ⟨n, rfl⟩ : ∃ n : Nat, v = (n : Int) := ⟨v.toNat, by have := (sys_size hi).1; omega⟩
    have := Kep_main n s bs w h hi hf
    unfold kpF
    rw [if_pos hc, Int.toNat_natCast]
    exact this
  · have HV := Lib.hid (show kpF v bs = ([], fullC v bs) by simp [kpF, hc])
    rw [HV.out]
    have HFC := Lib.hid fun (B : Nat) W (hb : Below w.heap.size w W) c0 c1 => fullCode_one B v s bs W (h.below hb (Nat.le_refl _)) c0 c1
    have hb0 : Below w.heap.size w ((w.alloc (.cells #[.int .i64 v, s] 31)).alloc (.cells #[.int .i64 v, s] 31)) := ((Below.refl _ _).alloc (Nat.le_refl _) _).alloc (by simp) _
    obtain ⟨k, hk⟩ : ∃ k, k = fullC v bs := ⟨_, rfl⟩
    rw [← hk] at HFC hc ⊢
    have hk0 : (k == 0) = false := by simpa using hc
    have hk1 : (k != 0) = true := by simpa using hc
    obtain ⟨a0, c0, rfl⟩ := h.slice
    clear h hk
    have HFI := Lib.hid (HFC.out (w.heap.size + 1) _ hb0 (by simp [go_sem]) (by simp [go_sem]))
    go_enter Try.func43, Try.ntmps43
    go_wp2_with fail
    refine HFI.out.mono ?_
    rintro e w1 ⟨rfl, hb1⟩
    have hbw := hb0.trans (hb1.mono (by simp <;> omega))
    clear hb1 HFI
    go_wp2
    go_ret2
    exact ⟨_, rfl, OwnJ.nil _ _, hbw⟩
end Go.Proofs.Ytoicdfdfajfopaa

namespace Go.Proofs.Ytoicdfdfajfopaa
open Go.ChangeShapes Go.WideShapes Go.ChangeAt Go.RowKit Go.Deep Go.Joins
theorem ownKnobs : ownKnob Try.prog.godebug = none := by kernel_rfl
section
variable {H : Type} {enc : TypeId × Value → H} {W : World} {base : Nat} {held : Bool}
theorem arrCells : Try.prog.cellsOf 70 = 3 := by kernel_rfl
set_option maxRecDepth 100000 in
theorem open_arr3 {fuel : Nat} {cs : List Value} {x : DataW H × List MemPlace} (h : DataW.trod enc Try.prog W base (fun _ => true) held fuel 70 cs = some x) :
    ∃ a b c : Int, cs = [.int .i64 a, .int .i64 b, .int .i64 c] ∧ (Lit.int .i64 a).wf = true ∧ (Lit.int .i64 b).wf = true ∧ (Lit.int .i64 c).wf = true := by
  obtain ⟨xs, m, rfl, rfl, hl, hx, hat⟩ := DataW.trod_array Try.underlying70 h
  rw [arrCells] at hl
  match cs, hl with
  | [c0, c1, c2], _ =>
    match xs, hx with
    | [x0, x1, x2], _ =>
      have h0 := hat 0 (by omega)
      have h1 := hat 1 (by omega)
      have h2 := hat 2 (by omega)
      rw [int64Cells] at h0 h1 h2
      simp at h0 h1 h2
      obtain ⟨a, ha, _, wa⟩ := DataW.trod_int Try.underlying2 h0
      obtain ⟨b, hb, _, wb⟩ := DataW.trod_int Try.underlying2 h1
      obtain ⟨c, hc, _, wc⟩ := DataW.trod_int Try.underlying2 h2
      simp at ha hb hc
      exact ⟨a, b, c, by rw [ha, hb, hc], wa, wb, wc⟩
theorem add_at (b off i : Nat) : (⟨b, off, none⟩ : Addr).add i = ⟨b, off + i, none⟩ := by
  unfold Addr.add
  split
  · subst_vars; rfl
  · rfl
set_option maxRecDepth 100000 in
theorem open_arrs {fuel : Nat} {s : Value} {x : DataW H × List MemPlace} (h : DataW.trod enc Try.prog W base (fun _ => true) held fuel 22 [s] = some x) : ∃ bs, InB W s bs := by
  rcases open_slice Try.underlying22 h with ⟨hcs, _⟩ | ⟨a, len, cap, m, n, D, Pl, hcs, hb, hl, hm, hmm, hx, hi⟩
  · simp at hcs
    exact ⟨[], by simp, by simp, .inl ⟨none, 0, hcs, rfl⟩⟩
  · simp at hcs
    subst hcs
    simp at hmm
    subst hmm
    have hm' : m ≤ 9223372036854775807 := by unfold maxLen at hm; exact hm
    by_cases h0 : len = 0
    · subst h0
      exact ⟨[], by simp, by simp, .inl ⟨_, _, rfl, rfl⟩⟩
    · have cell : ∀ i, i < m → ∃ y : Blk, WFB y ∧ ∀ j (v : Value), [Value.int .i64 y.a, Value.int .i64 y.b, Value.int .i64 y.c][j]? = some v → W.cell? (a.add (i * 3 + j)) = some v := fun i him => by
        obtain ⟨cs', hc, ht⟩ := hi i him
        obtain ⟨p, q, r, rfl, wp, wq, wr⟩ := open_arr3 ht
        rw [arrCells] at hc
        obtain ⟨_, _, hat⟩ := World.cells?_some hc
        refine ⟨⟨p, q, r⟩, ⟨wp, wq, wr⟩, fun j v hv => ?_⟩
        have hj : j < 3 := by
          have := (List.getElem?_eq_some_iff.1 hv).1
          simpa using this
        rw [← Go.Deep.add_add, hat j hj]
        exact hv
      obtain ⟨F, hF⟩ := choose_lt (α := Blk) cell
      obtain ⟨b, off, spot⟩ := a
      have hc0 := (hF 0 (by omega)).2 0 _ rfl
      have hspot : spot = none := by simpa [Addr.add] using World.cell?_spot hc0
      subst hspot
      refine ⟨(List.range len).map F, ?_, by simp; omega, .inr ⟨b, off, m, by simp, ?_, ?_⟩⟩
      · intro y hy
        obtain ⟨i, hi', rfl⟩ := List.mem_map.1 hy
        exact (hF i (by have := List.mem_range.1 hi'; omega)).1
      · exact block_lt_of_cell hc0
      · intro k hk
        simp at hk
        have e : ((List.range len).map F)[k]?.getD default = F k := by simp [hk]
        rw [e]
        have := (hF k (by omega)).2
        refine ⟨?_, ?_, ?_⟩
        · have h0 := this 0 _ rfl
          rw [add_at] at h0
          exact h0
        · have h1 := this 1 _ rfl
          rw [add_at, ← Nat.add_assoc] at h1
          exact h1
        · have h2 := this 2 _ rfl
          rw [add_at, ← Nat.add_assoc] at h2
          exact h2
theorem isSys : ∃ f0 f1 : Field, Try.prog.underlying 24 = some (.struct #[f0, f1]) ∧ f0.type = 2 ∧ f1.type = 22 ∧ oneCellFields Try.prog #[f0, f1] = true :=
  ⟨_, _, Try.underlying24, rfl, rfl, by kernel_rfl⟩
theorem sysCells : Try.prog.cellsOf 24 = 2 := by kernel_rfl
set_option maxRecDepth 100000 in
theorem open_system {r : Reach} {b0 : Nat} {v : Value} {d : DataW H} {p : List MemPlace} (hv : Value.okWide Try.prog W r b0 24 v) (h : DataW.Trod enc Try.prog W base (fun _ => true) held 24 v d p) :
    ∃ (n : Int) (s : Value) (bs : List Blk), v = .agg #[.int .i64 n, s] ∧ WF n ∧ InB W s bs := by
  obtain ⟨f0, f1, hu, e0, e1, hone⟩ := isSys
  obtain ⟨v0, v1, y0, y1, n, rfl, _, _, h0, h1⟩ := open_agg2 hu hone sysCells hv h
  rw [e0] at h0
  rw [e1] at h1
  obtain ⟨k, hk, _, wk⟩ := DataW.trod_int Try.underlying2 h0
  simp at hk
  subst hk
  obtain ⟨bs, hbs⟩ := open_arrs h1
  exact ⟨k, v1, bs, rfl, wk, hbs⟩
end
end Go.Proofs.Ytoicdfdfajfopaa

namespace Go.Proofs.Ytoicdfdfajfopaa
open Go.ChangeShapes Go.WideShapes Go.ChangeAt Go.RowKit Go.Deep Go.Joins
/-- The value is a slice of just these integers, however many. -/
def InZ (w : World) (s : Value) (zs : List Int) : Prop :=
  (∀ z ∈ zs, WF z) ∧ zs.length ≤ 9223372036854775807 ∧ ((∃ a c, s = .slice a 0 c ∧ zs = []) ∨ ∃ b off cap, s = .slice (some ⟨b, off, none⟩) zs.length cap ∧ b < w.heap.size ∧ Ints w b off zs)
theorem InZ.slice {w : World} {s : Value} {zs : List Int} (h : InZ w s zs) : ∃ a c, s = .slice a zs.length c := by
  rcases h.2.2 with ⟨a, c, rfl, rfl⟩ | ⟨b, off, cap, rfl, _⟩ <;> exact ⟨_, _, rfl⟩
theorem InZ.ib {w : World} {s : Value} {zs : List Int} (h : InZ w s zs) (hl : zs.length ≤ 1048576) : IB w s zs := ⟨by omega, h.2.2⟩
/-- The value is a slice of just these rows, however many. -/
def InSS (w : World) (s : Value) (n : Nat) (F : Nat → List Int) : Prop :=
  n ≤ 9223372036854775807 ∧ ((n = 0 ∧ ∃ a c, s = .slice a 0 c) ∨ ∃ b off cap, s = .slice (some ⟨b, off, none⟩) n cap ∧ b < w.heap.size ∧ ∀ k, k < n → ∃ u, w.cell? ⟨b, off + k, none⟩ = some u ∧ InZ w u (F k))
theorem okWide_array {P : Program} {w : World} {r : Reach} {base : Nat} {t : TypeId} {v : Value} {n : Nat} {e : TypeId} (ht : P.underlying t = some (.array n e)) (h : Value.okWide P w r base t v) : ∃ cs, v = .agg cs ∧ cs.size = P.cellsOf t := by
  simp only [Value.okWide, ht] at h
  obtain ⟨cs, h1, h2, _⟩ := h
  exact ⟨cs, h1, h2⟩
section
variable {H : Type} {enc : TypeId × Value → H} {W : World} {base : Nat} {held : Bool}
set_option maxRecDepth 100000 in
theorem open_zs {fuel : Nat} {s : Value} {x : DataW H × List MemPlace} (h : DataW.trod enc Try.prog W base (fun _ => true) held fuel 25 [s] = some x) : ∃ zs, InZ W s zs := by
  rcases open_slice1 Try.underlying25 int64Cells h with ⟨hcs, _⟩ | ⟨a, len, cap, m, n, V, D, Pl, hcs, hb, hl, hm, hmm, hx, hi⟩
  · simp at hcs
    exact ⟨[], by simp, by simp, .inl ⟨none, 0, hcs, rfl⟩⟩
  · simp at hcs
    subst hcs
    simp at hmm
    subst hmm
    have hm' : m ≤ 9223372036854775807 := by unfold maxLen at hm; exact hm
    by_cases h0 : len = 0
    · subst h0
      exact ⟨[], by simp, by simp, .inl ⟨_, _, rfl, rfl⟩⟩
    · have cell : ∀ i, i < m → ∃ y : Int, WF y ∧ W.cell? (a.add i) = some (.int .i64 y) := fun i him => by
        obtain ⟨hc, ht⟩ := hi i him
        obtain ⟨k, hk, _, wk⟩ := DataW.trod_int Try.underlying2 ht
        simp at hk
        exact ⟨k, wk, by rw [hc, hk]⟩
      obtain ⟨F, hF⟩ := choose_lt (α := Int) cell
      obtain ⟨b, off, spot⟩ := a
      have hc0 := (hF 0 (by omega)).2
      have hspot : spot = none := by simpa [Addr.add] using World.cell?_spot hc0
      subst hspot
      refine ⟨(List.range len).map F, ?_, by simp; omega, .inr ⟨b, off, m, by simp, ?_, ?_⟩⟩
      · intro y hy
        obtain ⟨i, hi', rfl⟩ := List.mem_map.1 hy
        exact (hF i (by have := List.mem_range.1 hi'; omega)).1
      · exact block_lt_of_cell hc0
      · intro k hk
        simp at hk
        have e : ((List.range len).map F)[k]?.getD 0 = F k := by simp [hk]
        rw [e]
        have h1 := (hF k (by omega)).2
        rw [add_at] at h1
        exact h1
set_option maxRecDepth 100000 in
theorem open_ints64 {r : Reach} {b0 : Nat} {v : Value} {d : DataW H} {p : List MemPlace} (hv : Value.okWide Try.prog W r b0 25 v) (h : DataW.Trod enc Try.prog W base (fun _ => true) held 25 v d p) : ∃ zs, InZ W v zs := by
  obtain ⟨a, len, cap, rfl⟩ := okWide_slice Try.underlying25 hv
  obtain ⟨fuel, hf⟩ := h
  exact open_zs hf
set_option maxRecDepth 100000 in
theorem open_blocks {r : Reach} {b0 : Nat} {v : Value} {d : DataW H} {p : List MemPlace} (hv : Value.okWide Try.prog W r b0 22 v) (h : DataW.Trod enc Try.prog W base (fun _ => true) held 22 v d p) : ∃ bs, InB W v bs := by
  obtain ⟨a, len, cap, rfl⟩ := okWide_slice Try.underlying22 hv
  obtain ⟨fuel, hf⟩ := h
  exact open_arrs hf
theorem sliceCells : Try.prog.cellsOf 25 = 1 := by kernel_rfl
set_option maxRecDepth 100000 in
theorem open_rows {r : Reach} {b0 : Nat} {v : Value} {d : DataW H} {p : List MemPlace} (hv : Value.okWide Try.prog W r b0 46 v) (h : DataW.Trod enc Try.prog W base (fun _ => true) held 46 v d p) : ∃ n F, InSS W v n F := by
  obtain ⟨A0, L0, C0, rfl⟩ := okWide_slice Try.underlying46 hv
  obtain ⟨fuel, hf⟩ := h
  have hf' : DataW.trod enc Try.prog W base (fun _ => true) held fuel 46 [.slice A0 L0 C0] = some (d, p) := hf
  rcases open_slice1 Try.underlying46 sliceCells hf' with ⟨hcs, _⟩ | ⟨a, len, cap, m, n, V, D, Pl, hcs, hb, hl, hm, hmm, hx, hi⟩
  · simp at hcs
    obtain ⟨rfl, rfl, rfl⟩ := hcs
    exact ⟨0, fun _ => [], by omega, .inl ⟨rfl, _, _, rfl⟩⟩
  · simp at hcs
    obtain ⟨e1, e2, e3⟩ := hcs
    subst e1
    subst e2
    subst e3
    simp at hmm
    subst hmm
    have hm' : m ≤ 9223372036854775807 := by unfold maxLen at hm; exact hm
    by_cases h0 : L0 = 0
    · subst h0
      exact ⟨0, fun _ => [], by omega, .inl ⟨rfl, _, _, rfl⟩⟩
    · have cell : ∀ i, i < m → ∃ y : List Int, ∃ u, W.cell? (a.add i) = some u ∧ InZ W u y := fun i him => by
        obtain ⟨hc, ht⟩ := hi i him
        obtain ⟨zs, hz⟩ := open_zs ht
        exact ⟨zs, _, hc, hz⟩
      obtain ⟨F, hF⟩ := choose_lt (α := List Int) cell
      obtain ⟨b, off, spot⟩ := a
      obtain ⟨u0, hc0, _⟩ := hF 0 (by omega)
      have hspot : spot = none := by simpa [Addr.add] using World.cell?_spot hc0
      subst hspot
      refine ⟨L0, F, by omega, .inr ⟨b, off, m, rfl, block_lt_of_cell hc0, fun k hk => ?_⟩⟩
      obtain ⟨u, h1, h2⟩ := hF k (by omega)
      rw [add_at] at h1
      exact ⟨u, h1, h2⟩
set_option maxRecDepth 100000 in
theorem open_blk {r : Reach} {b0 : Nat} {v : Value} {d : DataW H} {p : List MemPlace} (hv : Value.okWide Try.prog W r b0 70 v) (h : DataW.Trod enc Try.prog W base (fun _ => true) held 70 v d p) : ∃ x, v = bv x ∧ WFB x := by
  obtain ⟨cs, rfl, hsz⟩ := okWide_array Try.underlying70 hv
  obtain ⟨fuel, hf⟩ := h
  obtain ⟨a, b, c, e, wa, wb, wc⟩ := open_arr3 hf
  have : cs.toList = [.int .i64 a, .int .i64 b, .int .i64 c] := e
  refine ⟨⟨a, b, c⟩, ?_, wa, wb, wc⟩
  unfold bv
  rw [← this]
end
end Go.Proofs.Ytoicdfdfajfopaa

namespace Go.Proofs.Ytoicdfdfajfopaa
open Go.RowKit Go.Maps
structure CS (w : World) (v p : Int) (s sW s8 sG : Value) (XW X XG i0 i1 j1 j2 k1 k2 : Nat) (LW L8 LG : List Blk) (W : World) : Prop where
  st : St1 w v s W
  o0 : w.heap.size < i0
  o1 : i0 ≤ i1
  o2 : i1 ≤ XW
  o3 : XW < j1
  o4 : j1 ≤ j2
  o5 : j2 ≤ X
  o6 : X < k1
  o7 : k1 ≤ k2
  o8 : k2 ≤ XG
  rW : ResR W i0 i1 sW LW
  vW : VarB W XW p sW
  r8 : ResR W j1 j2 s8 L8
  vX : VarB W X v s8
  rG : ResR W k1 k2 sG LG
  vG : VarB W XG p sG
section
variable {w : World} {v p : Int} {s sW s8 sG : Value} {XW X XG i0 i1 j1 j2 k1 k2 : Nat} {LW L8 LG : List Blk} {W W' : World}
theorem CS.step (h : CS w v p s sW s8 sG XW X XG i0 i1 j1 j2 k1 k2 LW L8 LG W) (hg : W.grownBy W' none) : CS w v p s sW s8 sG XW X XG i0 i1 j1 j2 k1 k2 LW L8 LG W' :=
  ⟨h.st.step hg (by simp), h.o0, h.o1, h.o2, h.o3, h.o4, h.o5, h.o6, h.o7, h.o8, h.rW.kept hg (by simp), h.vW.step hg (by simp), h.r8.kept hg (by simp), h.vX.step hg (by simp), h.rG.kept hg (by simp), h.vG.step hg (by simp)⟩
theorem CS.mark8 (h : CS w v p s sW s8 sG XW X XG i0 i1 j1 j2 k1 k2 LW L8 LG W) {row : Option Nat} (hg : W.grownBy W' row) (hr : ∀ r, row = some r → j1 ≤ r ∧ r < j2) {L : List Blk} (hn : ResR W' j1 j2 s8 L) :
    CS w v p s sW s8 sG XW X XG i0 i1 j1 j2 k1 k2 LW L LG W' := by
  obtain ⟨st, o0, o1, o2, o3, o4, o5, o6, o7, o8, rW, vW, r8, vX, rG, vG⟩ := h
  exact ⟨st.step hg (fun r e => by have := hr r e; omega), o0, o1, o2, o3, o4, o5, o6, o7, o8, rW.kept hg (fun r e => by have := hr r e; omega), vW.step hg (fun e => by have := hr _ e; omega), hn, vX.step hg (fun e => by have := hr _ e; omega), rG.kept hg (fun r e => by have := hr r e; omega), vG.step hg (fun e => by have := hr _ e; omega)⟩
theorem CS.markG (h : CS w v p s sW s8 sG XW X XG i0 i1 j1 j2 k1 k2 LW L8 LG W) {row : Option Nat} (hg : W.grownBy W' row) (hr : ∀ r, row = some r → k1 ≤ r ∧ r < k2) {L : List Blk} (hn : ResR W' k1 k2 sG L) :
    CS w v p s sW s8 sG XW X XG i0 i1 j1 j2 k1 k2 LW L8 L W' := by
  obtain ⟨st, o0, o1, o2, o3, o4, o5, o6, o7, o8, rW, vW, r8, vX, rG, vG⟩ := h
  exact ⟨st.step hg (fun r e => by have := hr r e; omega), o0, o1, o2, o3, o4, o5, o6, o7, o8, rW.kept hg (fun r e => by have := hr r e; omega), vW.step hg (fun e => by have := hr _ e; omega), r8.kept hg (fun r e => by have := hr r e; omega), vX.step hg (fun e => by have := hr _ e; omega), hn, vG.step hg (fun e => by have := hr _ e; omega)⟩
end
end Go.Proofs.Ytoicdfdfajfopaa



namespace Go.Proofs.Ytoicdfdfajfopaa
open Go.RowKit Go.Maps
set_option maxRecDepth 100000 in
set_option maxHeartbeats 2000000 in
theorem FnExactKeptNumbers_main (v0 : Int) (s0 : Value) (bs0 : List Blk) (w : World) (h0 : InB w s0 bs0) (hl : bs0.length ≤ 1048576) :
    Calls Try.prog 11 #[.agg #[.int .i64 v0, s0]] w (RV (.bool true) w) := by
  have hsl0 := h0.slice
  have hbd0 := h0.2.1
  have hsz0 := szSystem_any v0 s0 bs0.length hsl0 (by omega) 1048576 (by omega) (by omega)
  rw [if_neg (by omega)] at hsz0
  obtain ⟨m0, hm0⟩ : ∃ m, m = (1048576 : Int) - (bs0.length : Int) := ⟨_, rfl⟩
  rw [← hm0] at hsz0
  have hmp0 : 0 ≤ m0 := by omega
  have HSZ0 := Lib.hid hsz0
  have HSB0 := Lib.hid (h0.sb (by omega))
  have HBD0 := Lib.hid (show bs0.length ≤ 1100000 by omega)
  have HWF0 := Lib.hid h0.1
  obtain ⟨L, hL⟩ : ∃ L, L = (kpF v0 bs0).1 := ⟨_, rfl⟩
  obtain ⟨κ, hκ⟩ : ∃ κ, κ = (kpF v0 bs0).2 := ⟨_, rfl⟩
  have hp : kpF v0 bs0 = (L, κ) := by rw [hL, hκ]
  have LBD := Lib.hid (show L.length ≤ 1100000 by rw [hL]; exact Nat.le_trans (kpF_len v0 bs0) (by omega))
  have HSP := Lib.hid fun (W : World) (t0 : Value) (r0 : SC W t0 bs0) => specKep_any v0 t0 bs0 W r0.1
  have HIM := Lib.hid fun (W : World) (t0 : Value) (r0 : SB W t0 bs0) => Kep_any v0 t0 bs0 W r0
  rw [hp] at HSP HIM
  have hnk : (κ != κ) = false := by simp
  clear hsz0 hm0 hbd0 hL hκ hp h0 hl
  obtain ⟨a0, c0, rfl⟩ := hsl0
  go_enter Try.func11, Try.ntmps11
  have hm := ((Mem.start w).pushVar v0 (.slice a0 bs0.length c0) 24)
  have fA00 := (hm.var 0 rfl).c0
  have fA01 := (hm.var 0 rfl).c1
  have HM := Lib.hid hm
  clear hm
  go_wp2_with fail
  refine (HSZ0.out _).mono ?_
  rintro e w1 ⟨rfl, hbw1⟩
  have hm := HM.out.step (gb_below hbw1)
  clear fA00 fA01
  clear HM hbw1
  have fA00 := (hm.var 0 rfl).c0
  have fA01 := (hm.var 0 rfl).c1
  have HM := Lib.hid hm
  clear hm
  go_wp2_with fail
  refine (toSystem_any v0 _ bs0 _ (HSB0.out.below HM.out.below (Nat.le_refl _))).mono ?_
  rintro e w2 ⟨tw2, rfl, how2, hbw2⟩
  have r3 := how2.sc HWF0.out HBD0.out
  obtain ⟨gw2, capw2, hsw2, _⟩ := id how2
  subst hsw2
  have hm := HM.out.step (gb_below hbw2)
  clear fA00 fA01
  clear HM hbw2 how2
  have fA00 := (hm.var 0 rfl).c0
  have fA01 := (hm.var 0 rfl).c1
  have HM := Lib.hid hm
  clear hm
  go_wp2_with fail
  refine (HSP.out _ _ r3).mono ?_
  rintro e w4 ⟨uw4, rfl, hrow4, hbw4⟩
  have hrw4 := hrow4.res LBD.out
  clear hrow4
  obtain ⟨aW, nW, hsw4⟩ := hrw4.slice
  subst hsw4
  clear r3
  have hm := (HM.out.pushI hbw4 hrw4)
  clear fA00 fA01
  clear HM hbw4 hrw4
  have fA00 := (hm.var 1 rfl).c0
  have fA01 := (hm.var 1 rfl).c1
  have HM := Lib.hid hm
  clear hm
  go_wp2_with fail
  refine (toSystem_any v0 _ bs0 _ (HSB0.out.below HM.out.below (Nat.le_refl _))).mono ?_
  rintro e w5 ⟨tw5, rfl, how5, hbw5⟩
  have hrw5 := how5.res
  obtain ⟨gw5, capw5, hsw5, _⟩ := id how5
  subst hsw5
  have hm := (HM.out.pushB hbw5 hrw5).pushVar v0 (.slice (some ⟨gw5, 0, none⟩) bs0.length capw5) 31
  clear fA00 fA01
  clear HM hbw5 hrw5 how5
  have fVX00 := (hm.var 0 rfl).c0
  have fVX01 := (hm.var 0 rfl).c1
  have fA00 := (hm.var 3 rfl).c0
  have fA01 := (hm.var 3 rfl).c1
  have HM := Lib.hid hm
  clear hm
  go_wp2_with fail
  refine (HIM.out _ _ ((HM.out.blks 1 rfl).sb HWF0.out HBD0.out)).mono ?_
  rintro e w6 ⟨uw6, rfl, hrow6, hbw6⟩
  have hrw6 := hrow6.res LBD.out
  clear hrow6
  obtain ⟨aG, nG, hsw6⟩ := hrw6.slice
  subst hsw6
  have hm := (HM.out.pushI hbw6 hrw6)
  clear fVX00 fVX01 fA00 fA01
  clear HM hbw6 hrw6
  have fVX00 := (hm.var 1 rfl).c0
  have fVX01 := (hm.var 1 rfl).c1
  have fA00 := (hm.var 4 rfl).c0
  have fA01 := (hm.var 4 rfl).c1
  have HM := Lib.hid hm
  clear hm
  go_wp2_with fail
  refine (eqInt64S_same _ _ L _ ((HM.out.ints 0 rfl).ib LBD.out) ((HM.out.ints 3 rfl).ib LBD.out)).mono ?_
  rintro e w7 ⟨rfl, hbw7⟩
  have hm := HM.out.step (gb_below hbw7)
  clear fVX00 fVX01 fA00 fA01
  clear HM hbw7
  have fVX00 := (hm.var 1 rfl).c0
  have fVX01 := (hm.var 1 rfl).c1
  have fA00 := (hm.var 4 rfl).c0
  have fA01 := (hm.var 4 rfl).c1
  have HM := Lib.hid hm
  clear hm
  go_upto_region 10 with fail
  go_cut [45] (fun sq wx => sq = .bool false ∧ MemOf HM.out wx)
  case first =>
    go_region_with (first | (go_at_call 17; refine (toSystem_any v0 _ bs0 _ ?_).mono ?_; (exact HSB0.out.below HM.out.below.drew (Nat.le_refl _)); rintro e w8 ⟨tw8, rfl, how8, hbw8⟩; have hmx := (HM.out.step (gb_drew1 _)).step (gb_below hbw8); have ec0 := (hmx.var 1 rfl).c0; have ec1 := (hmx.var 1 rfl).c1; have HMX := Lib.hid hmx; clear hmx; have hsbw8 := how8.sb HWF0.out HBD0.out; obtain ⟨gw8, capw8, hsw8, _⟩ := id how8; subst hsw8) | (go_at_call 20; refine (eqSystem_same v0 _ _ bs0 _ ?_ ?_).mono ?_; (exact ((HMX.out.blks 2 rfl).sb HWF0.out HBD0.out)); (exact hsbw8); rintro e w9 ⟨rfl, hbw9⟩))
    all_goals
      go_wp2_with fail
      go_meet
      exact ⟨rfl, HMX.out.step (gb_below hbw9)⟩
  case rest =>
  obtain ⟨rfl, hm⟩ := hcut
  unfold MemOf at hm
  obtain ⟨yc0, rfl⟩ : ∃ W, W = wc := ⟨_, rfl⟩
  clear fVX00 fVX01 fA00 fA01
  clear HM
  have fVX00 := (hm.var 1 rfl).c0
  have fVX01 := (hm.var 1 rfl).c1
  have fA00 := (hm.var 4 rfl).c0
  have fA01 := (hm.var 4 rfl).c1
  have HM := Lib.hid hm
  clear hm
  go_wp2_with fail
  refine (markSystem_any _ _ v0 _ bs0 1 _ (HM.out.blks 2 rfl) HBD0.out (by omega) (by omega)).mono ?_
  rintro e w10 ⟨rfl, hww10, hrw10⟩
  have hm := HM.out.markB 2 rfl hww10 hrw10
  clear fVX00 fVX01 fA00 fA01
  clear HM hww10 hrw10
  have fVX00 := (hm.var 1 rfl).c0
  have fVX01 := (hm.var 1 rfl).c1
  have fA00 := (hm.var 4 rfl).c0
  have fA01 := (hm.var 4 rfl).c1
  have HM := Lib.hid hm
  clear hm
  obtain ⟨kw10, hkw10⟩ : ∃ m, m = 1 + 3 * (bs0.length : Int) := ⟨_, rfl⟩
  rw [← hkw10]
  have h0kw10 : 0 ≤ kw10 := by have := HBD0.out; omega
  have h1kw10 : kw10 ≤ 3300001 := by have := HBD0.out; omega
  clear hkw10
  go_wp2_with fail
  refine (eqInt64S_same _ _ L _ ((HM.out.ints 0 rfl).ib LBD.out) ((HM.out.ints 3 rfl).ib LBD.out)).mono ?_
  rintro e w11 ⟨rfl, hbw11⟩
  have hm := HM.out.step (gb_below hbw11)
  clear fVX00 fVX01 fA00 fA01
  clear HM hbw11
  have fVX00 := (hm.var 1 rfl).c0
  have fVX01 := (hm.var 1 rfl).c1
  have fA00 := (hm.var 4 rfl).c0
  have fA01 := (hm.var 4 rfl).c1
  have HM := Lib.hid hm
  clear hm
  go_wp2_with fail
  refine (markJ _ _ _ L 1 _ (HM.out.ints 0 rfl) LBD.out (by omega) (by omega)).mono ?_
  rintro e w12 ⟨rfl, hww12, hrw12⟩
  have hm := HM.out.markI 0 rfl hww12 hrw12
  clear fVX00 fVX01 fA00 fA01
  clear HM hww12 hrw12
  have fVX00 := (hm.var 1 rfl).c0
  have fVX01 := (hm.var 1 rfl).c1
  have fA00 := (hm.var 4 rfl).c0
  have fA01 := (hm.var 4 rfl).c1
  have HM := Lib.hid hm
  clear hm
  have hheld := fun lo hi W (h : ResI W lo hi (Value.slice aG L.length nG) (markI 1 L.length)) => heldJ lo hi (.slice aG L.length nG) L.length 1 W h LBD.out (by omega) (by omega)
  obtain ⟨m5, hm5⟩ : ∃ m5, m5 = 1 + (L.length : Int) := ⟨_, rfl⟩
  rw [← hm5] at hheld ⊢
  have HHELD := Lib.hid hheld
  have m50 : 0 ≤ m5 := by omega
  have hn5 : (m5 != m5) = false := by simp
  clear hm5 hheld
  go_wp2_with fail
  refine (HHELD.out _ _ _ (HM.out.ints 0 rfl)).mono ?_
  rintro e w13 ⟨rfl, rfl⟩
  go_wp2_with fail
  refine (toSystem_any v0 _ bs0 _ (HSB0.out.below HM.out.below (Nat.le_refl _))).mono ?_
  rintro e w14 ⟨tw14, rfl, how14, hbw14⟩
  have r15 := how14.sb HWF0.out HBD0.out
  obtain ⟨gw14, capw14, hsw14, _⟩ := id how14
  subst hsw14
  have hm := HM.out.step (gb_below hbw14)
  clear fVX00 fVX01 fA00 fA01
  clear HM hbw14 how14
  have fVX00 := (hm.var 1 rfl).c0
  have fVX01 := (hm.var 1 rfl).c1
  have fA00 := (hm.var 4 rfl).c0
  have fA01 := (hm.var 4 rfl).c1
  have HM := Lib.hid hm
  clear hm
  go_wp2_with fail
  refine (HIM.out _ _ r15).mono ?_
  rintro e w16 ⟨uw16, rfl, hrow16, hbw16⟩
  have hrw16 := hrow16.res LBD.out
  clear hrow16
  obtain ⟨aH, nH, hsw16⟩ := hrw16.slice
  subst hsw16
  clear r15
  have hm := (HM.out.pushI hbw16 hrw16)
  clear fVX00 fVX01 fA00 fA01
  clear HM hbw16 hrw16
  have fVX00 := (hm.var 2 rfl).c0
  have fVX01 := (hm.var 2 rfl).c1
  have fA00 := (hm.var 5 rfl).c0
  have fA01 := (hm.var 5 rfl).c1
  have HM := Lib.hid hm
  clear hm
  go_wp2_with fail
  refine (eqInt64S_same _ _ L _ ((HM.out.ints 0 rfl).ib LBD.out) ((HM.out.ints 4 rfl).ib LBD.out)).mono ?_
  rintro e w17 ⟨rfl, hbw17⟩
  have hm := HM.out.step (gb_below hbw17)
  clear fVX00 fVX01 fA00 fA01
  clear HM hbw17
  have fVX00 := (hm.var 2 rfl).c0
  have fVX01 := (hm.var 2 rfl).c1
  have fA00 := (hm.var 5 rfl).c0
  have fA01 := (hm.var 5 rfl).c1
  have HM := Lib.hid hm
  clear hm
  go_wp2_with fail
  refine (HHELD.out _ _ _ (HM.out.ints 1 rfl)).mono ?_
  rintro e w18 ⟨rfl, rfl⟩
  go_wp2
  go_ret
  exact RV_of rfl HM.out.below
set_option maxRecDepth 100000 in
theorem FnExactKeptNumbers_long0 (v0 : Int) (s0 : Value) (bs0 : List Blk) (w : World) (h0 : InB w s0 bs0)  (hl : ¬ bs0.length ≤ 1048576) : Calls Try.prog 11 #[.agg #[.int .i64 v0, s0]] w (RV (.bool true) w) := by
  have hsl0 := h0.slice
  have hbd0 := h0.2.1
  have hsz0 := szSystem_any v0 s0 bs0.length hsl0 (by omega) (1048576) (by omega) (by omega)
  rw [if_pos (by omega)] at hsz0
  have HSZ0 := Lib.hid hsz0
  clear hl h0 hsz0 hbd0
  obtain ⟨a0, c0, rfl⟩ := hsl0
  go_enter Try.func11, Try.ntmps11
  go_wp2_with fail
  refine (HSZ0.out _).mono ?_
  rintro e y0 ⟨rfl, hy0⟩
  go_wp2
  go_ret
  exact RV_of rfl (((Below.refl _ _).alloc (by simp <;> omega) _).trans (hy0.mono (by first | (simp <;> omega) | (have := ((Below.refl _ _).alloc (by simp <;> omega) _).size; omega))))
theorem FnExactKeptNumbers_any (v0 : Int) (s0 : Value) (bs0 : List Blk) (w : World) (h0 : InB w s0 bs0) : Calls Try.prog 11 #[.agg #[.int .i64 v0, s0]] w (RV (.bool true) w) := by
  by_cases hs0 : bs0.length ≤ 1048576
  case neg => exact FnExactKeptNumbers_long0 v0 s0 bs0 w h0   hs0
  exact FnExactKeptNumbers_main v0 s0 bs0 w h0 hs0 
end Go.Proofs.Ytoicdfdfajfopaa

namespace Go.Proofs.Ytoicdfdfajfopaa
set_option maxRecDepth 100000 in
noncomputable def iniP : { L : List Char // Try.prog.initOrder = String.ofList L } := ⟨_, by unfold Try.prog; rfl⟩
theorem iniL : Try.prog.initOrder.toList = iniP.1 := (congrArg String.toList iniP.2).trans String.toList_ofList
theorem words_cons (c : Char) (r : List Char) (h : c ≠ Char.ofNat 32) : wordsSigns (c :: r) = match wordsSigns r with | w :: ws => (c :: w) :: ws | [] => [[c]] := by
  rw [wordsSigns]
  all_goals first | rfl | exact h | (intro e; exact h e)
theorem words_word : ∀ (a b : List Char), (a.all fun c => c != Char.ofNat 32) = true → wordsSigns (a ++ Char.ofNat 32 :: b) = a :: wordsSigns b
  | [], b, _ => rfl
  | c :: a, b, h => by
    simp only [List.all_cons, Bool.and_eq_true, bne_iff_ne, ne_eq] at h
    rw [List.cons_append, words_cons _ _ h.1, words_word a b (by simpa using h.2)]
set_option maxRecDepth 100000 in
theorem split1 : iniP.1 = iniP.1.take 7 ++ Char.ofNat 32 :: iniP.1.drop 8 := by kernel_rfl
set_option maxRecDepth 100000 in
theorem split2 : iniP.1.drop 8 = (iniP.1.drop 8).take 64 ++ Char.ofNat 32 :: iniP.1.drop 73 := by kernel_rfl
set_option maxRecDepth 100000 in
theorem split3 : iniP.1.drop 73 = (iniP.1.drop 73).take 3 ++ Char.ofNat 32 :: iniP.1.drop 77 := by kernel_rfl
theorem isCut : (iniP.1.drop 73).take 3 = "cut".toList := by kernel_rfl
set_option maxRecDepth 100000 in
theorem isHead : ((iniP.1.take 7 == "harness".toList || iniP.1.take 7 == "ownmain".toList) && isSumSigns ((iniP.1.drop 8).take 64)) = true := by kernel_rfl
theorem wordsL : wordsSigns iniP.1 = iniP.1.take 7 :: (iniP.1.drop 8).take 64 :: "cut".toList :: wordsSigns (iniP.1.drop 77) := by
  rw [← isCut]
  conv => lhs; rw [split1]
  rw [words_word _ _ (by kernel_rfl)]
  conv => lhs; rw [split2]
  rw [words_word _ _ (by kernel_rfl)]
  conv => lhs; rw [split3]
  rw [words_word _ _ (by kernel_rfl)]
theorem behindL : behindMainWord (wordsSigns Try.prog.initOrder.toList) = "cut".toList :: wordsSigns (iniP.1.drop 77) := by
  rw [iniL, wordsL]
  unfold behindMainWord
  simp only [isHead, if_true]
theorem stripL (ws : List (List Char)) : stripLifts liftWords ("cut".toList :: ws) = ([], "cut".toList :: ws) := by kernel_rfl
section
variable (P : Program) (ws : List (List Char)) (h : behindMainWord (wordsSigns P.initOrder.toList) = "cut".toList :: ws)
include h
theorem head_of : P.headLifts = [] := by
  unfold Program.headLifts
  rw [h]
  simp only [stripL]
  kernel_rfl
theorem make_of : P.make = some .cut := by
  unfold Program.make
  rw [h, head_of P ws h]
  kernel_rfl
theorem lifts_of : P.liftsFinal = false := by
  unfold Program.liftsFinal
  rw [h, head_of P ws h]
  kernel_rfl
theorem enter_of (h1 : P.laysLater = false) (h2 : P.bearsReflect = false) (h3 : P.doorFits [] = true) : P.mayEnter = true := by
  unfold Program.mayEnter
  rw [h]
  simp only [stripL]
  rw [h1, h2, h3]
  kernel_rfl
end
theorem mayE : Try.pinned.checked.prog.mayEnter = true := enter_of _ _ behindL (by kernel_rfl) (by kernel_rfl) (by kernel_rfl)
theorem liftsF : Try.pinned.checked.prog.liftsFinal = false := lifts_of _ _ behindL
theorem makeF : Try.pinned.checked.prog.make = some .cut := make_of _ _ behindL
theorem both {a b : Bool} (h : a = true) (k : b = true) : (a && b) = true := by rw [h, k]; rfl
end Go.Proofs.Ytoicdfdfajfopaa


/- The program's ProductOf, LoopProduct and TurnOf. The outline's l03Whole. The model's l09Points, l09Product, ProductOf. The model's common point of two blocks. The model's other points of a block. The model's order of lists of integers. The model's test whether two lists are the same, and its number of a block. A list of rows as a list of headers: what l03Put writes. A list of the call's own of rows of the call's own, which may grow. The model's l09Table. -/
import Derived.Test.YtahgialnhomefaaJ12
import Derived.Deep.RegionHeld3
import Derived.BigQuiet
namespace Go.Proofs.Ytahgialnhomefaa
open Go.RowKit Go.Maps
def prodF (κ : Nat) (v : Int) (bs : List Blk) (a b : Int) : Int × Int := if pcode κ v bs [a, b] = 0 then (prd κ v.toNat bs a.toNat b.toNat, 0) else (0, pcode κ v bs [a, b])
def prodV (κ : Nat) (v : Int) (bs : List Blk) (a b : Int) : Value := .tuple #[.int .i64 (prodF κ v bs a b).1, .int .i64 (prodF κ v bs a b).2]
theorem pcode_zero {κ : Nat} {v : Int} {bs : List Blk} {zs : List Int} (h : pcode κ v bs zs = 0) : isSysImpl v bs = true ∧ fullB v bs = true ∧ ∀ z ∈ zs, 0 ≤ z ∧ z < v + κ := by
  unfold pcode at h
  cases hi : isSysImpl v bs with
  | false => rw [hi] at h; simp at h
  | true =>
    rw [if_pos hi] at h
    cases ha : zs.any (fun z => !(inP (v + κ) z)) with
    | true => rw [ha] at h; simp at h
    | false =>
      rw [ha] at h
      cases hf : fullB v bs with
      | false => rw [hf] at h; simp at h
      | true =>
        refine ⟨rfl, rfl, fun z hz => ?_⟩
        have := List.any_eq_false.1 ha z hz
        simpa [inP] using this
theorem pcode_or (κ : Nat) (v : Int) (bs : List Blk) (zs : List Int) : pcode κ v bs zs = 0 ∨ pcode κ v bs zs = 1 ∨ pcode κ v bs zs = 2 ∨ pcode κ v bs zs = 5 := by
  unfold pcode
  split
  · split
    · simp
    · split <;> simp
  · simp
theorem lit_ib2 (W : World) (a b : Int) : IB (W.alloc (.cells #[.int .i64 a, .int .i64 b] 2)) (.slice (some ⟨W.heap.size, 0, none⟩) 2 2) [a, b] :=
  ⟨by simp, .inr ⟨W.heap.size, 0, 2, rfl, by simp, ints2 (by simp [go_sem]) (by simp [go_sem])⟩⟩
theorem lit_ib1 (W : World) (a : Int) : IB (W.alloc (.cells #[.int .i64 a] 2)) (.slice (some ⟨W.heap.size, 0, none⟩) 1 1) [a] :=
  ⟨by simp, .inr ⟨W.heap.size, 0, 1, rfl, by simp, fun k hk => by
    have : k = 0 := by simp at hk; omega
    subst this
    simp [go_sem]⟩⟩
set_option maxRecDepth 100000 in
set_option maxHeartbeats 1000000 in
theorem productOf_any (κ : Nat) (hκ : κ = 0 ∨ κ = 1) (v : Int) (s : Value) (bs : List Blk) (a b : Int) (w : World) (h : SB w s bs) :
    Calls Try.prog 48 #[.agg #[.int .i64 v, s], .int .i64 (κ : Int), .int .i64 a, .int .i64 b] w (RV (prodV κ v bs a b) w) := by
  have hs := h.slice
  have HPC := Lib.hid fun t W (hb : Below w.heap.size w W) ht => productCode_any κ hκ v s bs t [a, b] W (h.below hb (Nat.le_refl _)) ht
  by_cases hc : pcode κ v bs [a, b] = 0
  · obtain ⟨hi, hf, hz⟩ := pcode_zero hc
    obtain ⟨hv3, hv15, _⟩ := sys_size hi
    obtain ⟨n, rfl⟩ : ∃ n : Nat, v = (n : Int) := ⟨v.toNat, by omega⟩
    have ha := hz a (by simp)
    have hb := hz b (by simp)
    obtain ⟨p, rfl⟩ : ∃ p : Nat, a = (p : Int) := ⟨a.toNat, by omega⟩
    obtain ⟨q, rfl⟩ : ∃ q : Nat, b = (q : Int) := ⟨b.toNat, by omega⟩
    have HV := Lib.hid (show prodV κ (n : Int) bs (p : Int) (q : Int) = .tuple #[.int .i64 (prd κ n bs p q), .int .i64 0] by
      unfold prodV prodF
      rw [if_pos hc]
      rfl)
    rw [HV.out]
    rw [hc] at HPC
    have HPT := Lib.hid fun W (hb : Below w.heap.size w W) => productTable_any κ hκ n s bs W (h.below hb (Nat.le_refl _)) hi
    have hp1 : p < n + κ := by omega
    have hq1 : q < n + κ := by omega
    have g0 : (0 : Int) ≤ (p : Int) := by omega
    have g1 : (p : Int) < ((n + κ : Nat) : Int) := by omega
    have g2 : (0 : Int) ≤ (q : Int) := by omega
    have g3 : (q : Int) < ((n + κ : Nat) : Int) := by omega
    clear h hc hi hf hz ha hb hv3 hv15 HV
    obtain ⟨a0, c0, rfl⟩ := hs
    obtain ⟨N, hN⟩ : ∃ N, N = n + κ := ⟨_, rfl⟩
    rw [← hN] at HPT g1 g3 hp1 hq1
    clear hN hκ
    have HPX := Lib.hid (HPC.out _ ((w.alloc (.cells #[.int .i64 (n : Int), .slice a0 bs.length c0] 30)).alloc (.cells #[.int .i64 (p : Int), .int .i64 (q : Int)] 2)) (((Below.refl _ _).alloc (Nat.le_refl _) _).alloc (by simp) _) (lit_ib2 (w.alloc (.cells #[.int .i64 (n : Int), .slice a0 bs.length c0] 30)) p q))
    rw [show ∀ o, (w.alloc o).heap.size = w.heap.size + 1 from fun o => by simp] at HPX
    clear HPC
    go_enter Try.func48, Try.ntmps48
    go_wp2_with fail
    refine HPX.out.mono ?_
    rintro e w1 ⟨rfl, hb1⟩
    have hB1 : Below w.heap.size w w1 := (((Below.refl _ _).alloc (Nat.le_refl _) _).alloc (by simp) _).trans (hb1.mono (by simp <;> omega))
    have d0 : w1.cell? ⟨w.heap.size, 0, none⟩ = some (.int .i64 (n : Int)) := (hb1.cell (p := ⟨w.heap.size, 0, none⟩) (by simp <;> omega)).trans (by simp [go_sem])
    have d1 : w1.cell? ⟨w.heap.size, 1, none⟩ = some (.slice a0 bs.length c0) := (hb1.cell (p := ⟨w.heap.size, 1, none⟩) (by simp <;> omega)).trans (by simp [go_sem])
    clear hb1
    go_wp2_with fail
    refine (HPT.out _ hB1).mono ?_
    rintro e w2 ⟨G, gs, caps, rfl, _, hb2, hS⟩
    have hB2 := hB1.trans (hb2.mono hB1.size)
    obtain ⟨e1, e2⟩ := hS.get hp1 hq1
    clear hb2 hS hB1
    go_wp2
    go_ret2
    exact RV_of rfl hB2
  · have HV := Lib.hid (show prodV κ v bs a b = .tuple #[.int .i64 0, .int .i64 (pcode κ v bs [a, b])] by
      unfold prodV prodF
      rw [if_neg hc])
    rw [HV.out]
    obtain ⟨μ, hμ⟩ : ∃ μ, μ = pcode κ v bs [a, b] := ⟨_, rfl⟩
    rw [← hμ] at hc HPC ⊢
    have q1 : (μ != 0) = true := by simpa using hc
    clear h hμ hc HV hκ
    obtain ⟨a0, c0, rfl⟩ := hs
    have HPX := Lib.hid (HPC.out _ ((w.alloc (.cells #[.int .i64 v, .slice a0 bs.length c0] 30)).alloc (.cells #[.int .i64 a, .int .i64 b] 2)) (((Below.refl _ _).alloc (Nat.le_refl _) _).alloc (by simp) _) (lit_ib2 (w.alloc (.cells #[.int .i64 v, .slice a0 bs.length c0] 30)) a b))
    rw [show ∀ o, (w.alloc o).heap.size = w.heap.size + 1 from fun o => by simp] at HPX
    clear HPC
    go_enter Try.func48, Try.ntmps48
    go_wp2_with fail
    refine HPX.out.mono ?_
    rintro e w1 ⟨rfl, hb1⟩
    have hB1 : Below w.heap.size w w1 := (((Below.refl _ _).alloc (Nat.le_refl _) _).alloc (by simp) _).trans (hb1.mono (by simp <;> omega))
    clear hb1
    go_wp2
    go_ret2
    exact RV_of rfl hB1
set_option maxRecDepth 100000 in
theorem ProductOf_any (v : Int) (s : Value) (bs : List Blk) (a b : Int) (w : World) (h : SB w s bs) :
    Calls Try.prog 17 #[.agg #[.int .i64 v, s], .int .i64 a, .int .i64 b] w (RV (prodV 0 v bs a b) w) := by
  have hs := h.slice
  have HP := Lib.hid (productOf_any 0 (.inl rfl) v s bs a b _ (h.below ((Below.refl _ _).alloc (Nat.le_refl _) (.cells #[.int .i64 v, s] 30)) (Nat.le_refl _)))
  clear h
  obtain ⟨a0, c0, rfl⟩ := hs
  have HU := Lib.hid (show prodV 0 v bs a b = .tuple #[.int .i64 (prodF 0 v bs a b).1, .int .i64 (prodF 0 v bs a b).2] from rfl)
  obtain ⟨η, hη⟩ : ∃ η, η = (prodF 0 v bs a b).1 := ⟨_, rfl⟩
  obtain ⟨μ, hμ⟩ : ∃ μ, μ = (prodF 0 v bs a b).2 := ⟨_, rfl⟩
  rw [← hη, ← hμ] at HU
  rw [HU.out] at HP ⊢
  clear hη hμ HU
  go_enter Try.func17, Try.ntmps17
  go_wp2_with fail
  refine HP.out.mono ?_
  rintro e w1 ⟨rfl, hb1⟩
  have hb2 := below_new hb1
  clear hb1
  go_wp2
  go_ret2
  exact RV_of rfl hb2
set_option maxRecDepth 100000 in
theorem LoopProduct_any (v : Int) (s : Value) (bs : List Blk) (a b : Int) (w : World) (h : SB w s bs) :
    Calls Try.prog 20 #[.agg #[.int .i64 v, s], .int .i64 a, .int .i64 b] w (RV (prodV 1 v bs a b) w) := by
  have hs := h.slice
  have HP := Lib.hid (productOf_any 1 (.inr rfl) v s bs a b _ (h.below ((Below.refl _ _).alloc (Nat.le_refl _) (.cells #[.int .i64 v, s] 30)) (Nat.le_refl _)))
  clear h
  obtain ⟨a0, c0, rfl⟩ := hs
  have HU := Lib.hid (show prodV 1 v bs a b = .tuple #[.int .i64 (prodF 1 v bs a b).1, .int .i64 (prodF 1 v bs a b).2] from rfl)
  obtain ⟨η, hη⟩ : ∃ η, η = (prodF 1 v bs a b).1 := ⟨_, rfl⟩
  obtain ⟨μ, hμ⟩ : ∃ μ, μ = (prodF 1 v bs a b).2 := ⟨_, rfl⟩
  rw [← hη, ← hμ] at HU
  rw [HU.out] at HP ⊢
  clear hη hμ HU
  go_enter Try.func20, Try.ntmps20
  go_wp2_with fail
  refine HP.out.mono ?_
  rintro e w1 ⟨rfl, hb1⟩
  have hb2 := below_new hb1
  clear hb1
  go_wp2
  go_ret2
  exact RV_of rfl hb2
end Go.Proofs.Ytahgialnhomefaa

namespace Go.Proofs.Ytahgialnhomefaa
open Go.RowKit Go.Maps
set_option maxRecDepth 100000 in
theorem l03Whole_any (v : Int) (s : Value) (bs : List Blk) (w : World) (h : SB w s bs) : Calls Try.prog 51 #[.agg #[.int .i64 v, s]] w (RV (.int .i64 (fullC v bs)) w) := by
  have HC := Lib.hid fun W (hb : Below w.heap.size w W) => l01Is_any v s bs W (h.below hb (Nat.le_refl _))
  have hs := h.slice
  have hlen := h.2.1
  have hb0 := (Below.refl w.heap.size w).alloc (Nat.le_refl _) (.cells #[.int .i64 v, s] 30)
  clear h
  obtain ⟨a0, c0, rfl⟩ := hs
  cases hi : isSysImpl v bs with
  | false =>
    have hv : fullC v bs = 1 := by simp [fullC, hi]
    rw [hv]
    rw [hi] at HC
    clear hv hi
    go_enter Try.func51, Try.ntmps51
    go_wp2_with fail
    refine (HC.out _ hb0).mono ?_
    rintro e w1 ⟨rfl, hb1⟩
    have hbw := below_new hb1
    clear hb1
    go_wp2
    go_ret
    exact RV_of rfl hbw
  | true =>
    obtain ⟨v3, v15, _⟩ := sys_size hi
    have HFL := Lib.hid fun W => l01Full_any v (.slice a0 bs.length c0) bs W ⟨_, _, rfl⟩ v3 v15 hlen
    rw [hi] at HC
    cases hf : fullB v bs with
    | false =>
      have hv : fullC v bs = 5 := by simp [fullC, hi, hf]
      rw [hv]
      rw [hf] at HFL
      clear hv hi hf v3 v15
      go_enter Try.func51, Try.ntmps51
      go_wp2_with fail
      refine (HC.out _ hb0).mono ?_
      rintro e w1 ⟨rfl, hb1⟩
      have q0 := cell_new hb1 0 rfl
      have q1 := cell_new hb1 1 rfl
      have hbw := below_new hb1
      clear hb1
      go_wp2_with fail
      refine (HFL.out _).mono ?_
      rintro e w2 ⟨rfl, hb2⟩
      have hbw2 := hbw.trans (hb2.mono hbw.size)
      clear hb2
      go_wp2
      go_ret
      exact RV_of rfl hbw2
    | true =>
      have hv : fullC v bs = 0 := by simp [fullC, hi, hf]
      rw [hv]
      rw [hf] at HFL
      clear hv hi hf v3 v15
      go_enter Try.func51, Try.ntmps51
      go_wp2_with fail
      refine (HC.out _ hb0).mono ?_
      rintro e w1 ⟨rfl, hb1⟩
      have q0 := cell_new hb1 0 rfl
      have q1 := cell_new hb1 1 rfl
      have hbw := below_new hb1
      clear hb1
      go_wp2_with fail
      refine (HFL.out _).mono ?_
      rintro e w2 ⟨rfl, hb2⟩
      have hbw2 := hbw.trans (hb2.mono hbw.size)
      clear hb2
      go_wp2
      go_ret
      exact RV_of rfl hbw2
end Go.Proofs.Ytahgialnhomefaa

namespace Go.Proofs.Ytahgialnhomefaa
open Go.RowKit Go.Maps
def ptsN (N v : Int) (bs : List Blk) (zs : List Int) : Int := if isSysImpl v bs then (if zs.any (fun z => !(inP N z)) then 2 else if fullB v bs then 0 else 5) else 1
theorem pcode_ptsN (κ : Nat) (v : Int) (bs : List Blk) (zs : List Int) : pcode κ v bs zs = ptsN (v + κ) v bs zs := rfl
set_option maxRecDepth 100000 in
set_option maxHeartbeats 1000000 in
theorem l09Points_any (N v : Int) (s : Value) (bs : List Blk) (t : Value) (zs : List Int) (w : World) (h : SB w s bs) (ht : IB w t zs) (hN : isSysImpl v bs = true → 0 ≤ N ∧ N ≤ 16) :
    Calls Try.prog 45 #[.agg #[.int .i64 v, s], .int .i64 N, t] w (RV (.int .i64 (ptsN N v bs zs)) w) := by
  have hs := h.slice
  have hlen := h.2.1
  have HTB := Lib.hid ht
  have hzl := ht.1
  have hbA : Below w.heap.size w (w.alloc (.cells #[.int .i64 v, s] 30)) := (Below.refl _ _).alloc (Nat.le_refl _) _
  have hc := l01Is_any v s bs (w.alloc (.cells #[.int .i64 v, s] 30)) (h.below hbA (Nat.le_refl _))
  obtain ⟨a0, c0, rfl⟩ := hs
  obtain ⟨a1, c1, rfl⟩ := ht.formG
  clear h ht
  cases hi : isSysImpl v bs with
  | false =>
    have HV := Lib.hid (show ptsN N v bs zs = 1 by simp [ptsN, hi])
    rw [HV.out]
    rw [hi] at hc
    have HC := Lib.hid hc
    clear hi HV HTB hc hN
    go_enter Try.func45, Try.ntmps45
    go_wp2_with fail
    refine HC.out.mono ?_
    rintro e w1 ⟨rfl, hb1⟩
    have hb2 := below_new hb1
    clear hb1 hbA
    go_wp2
    go_ret
    exact RV_of rfl hb2
  | true =>
    obtain ⟨hv3, hv15, _⟩ := sys_size hi
    obtain ⟨hN0, hN16⟩ := hN hi
    rw [hi] at hc
    have HC := Lib.hid hc
    have HFU := Lib.hid fun W => l01Full_any v (.slice a0 bs.length c0) bs W ⟨_, _, rfl⟩ hv3 hv15 hlen
    have HIN := Lib.hid fun z W => l01In_any z 0 (N - 1) W
    have hq : ∀ z : Int, (decide (0 ≤ z) && decide (z ≤ N - 1)) = inP N z := fun z => by rw [Bool.eq_iff_iff]; simp [inP]; omega
    simp only [hq] at HIN
    have HV := Lib.hid (show ptsN N v bs zs = if zs.any (fun z => !(inP N z)) then 2 else if fullB v bs then 0 else 5 by simp [ptsN, hi])
    have hwn : IntKind.i64.wrap (N - 1) = N - 1 := IntWalk.i64_in _ (by omega)
    clear hi hN hc hq hv3 hv15
    go_enter Try.func45, Try.ntmps45
    go_wp2_with fail
    refine HC.out.mono ?_
    rintro e w1 ⟨rfl, hb1⟩
    have hb2 := below_new hb1
    have q0 := cell_new hb1 0 rfl
    have q1 := cell_new hb1 1 rfl
    have HB1 := Lib.hid hb2
    have hl1 := block_lt_of_cell q0
    clear hb1 hbA hb2
    go_wp2
    go_loopw [7] (fun i wr => ∃ k : Nat, k ≤ zs.length ∧ i = .int .i64 k ∧ wr = w1 ∧ Hid ((zs.take k).any (fun z => !(inP N z)) = false)) (fun i _ => zs.length - (intOf i).toNat)
    case atStart => exact ⟨0, Nat.zero_le _, rfl, rfl, Lib.hid (by simp)⟩
    case round =>
      obtain ⟨k, hk, rfl, rfl, hA⟩ := hrel
      by_cases hkl : k < zs.length
      · obtain ⟨b, off, rfl, hblt, hcell⟩ := (HTB.out.below HB1.out (Nat.le_refl _)).get hkl
        have HT := Lib.hid (any_take (P := fun z => !(inP N z)) hkl hA.out)
        obtain ⟨z, hz⟩ : ∃ z, z = zs[k]?.getD 0 := ⟨_, rfl⟩
        rw [← hz] at hcell HT
        have HI := Lib.hid (HIN.out z)
        obtain ⟨β, hβ⟩ : ∃ β, β = inP N z := ⟨_, rfl⟩
        rw [← hβ] at HI HT
        have g0 : (0 : Int) ≤ (k : Int) := by omega
        have g1 : (k : Int) < (zs.length : Int) := by omega
        clear hz hβ hA
        cases β with
        | false =>
          have HE := Lib.hid (show ptsN N v bs zs = 2 by rw [HV.out, HT.out.1 (by simp)]; rfl)
          rw [HE.out]
          clear HT HE
          go_wp2_with fail
          refine (HI.out _).mono ?_
          rintro e w2 ⟨rfl, rfl⟩
          go_wp2
          go_ret
          exact RV_of rfl HB1.out
        | true =>
          have HE := Lib.hid (HT.out.2 (by simp))
          clear HT
          go_wp2_with fail
          refine (HI.out _).mono ?_
          rintro e w2 ⟨rfl, rfl⟩
          go_wp2
          go_roundw
          case rel => exact ⟨k + 1, by omega, by go_num, by first | rfl | trivial, HE⟩
          case measure => simp [intOf]; omega
      · have e : k = zs.length := by omega
        subst e
        rw [List.take_length] at hA
        have HE := Lib.hid (show ptsN N v bs zs = if fullB v bs then 0 else 5 by rw [HV.out, hA.out]; rfl)
        have HF := Lib.hid (HFU.out wr)
        obtain ⟨β, hβ⟩ : ∃ β, β = fullB v bs := ⟨_, rfl⟩
        rw [← hβ] at HF HE
        clear hA HV hβ
        cases β
        all_goals
          go_wp2_with fail
          refine HF.out.mono ?_
          rintro e w2 ⟨rfl, hb2⟩
          go_wp2
          go_ret
          exact RV_of (int_eq (by rw [HE.out]; rfl)) (HB1.out.trans (hb2.mono HB1.out.size))
/-- The two tables agree where the system is full. -/
theorem prd0_third {n : Nat} {bs : List Blk} (h : isSysImpl (n : Int) bs = true) (hf : fullB (n : Int) bs = true) {a b : Nat} (ha : a < n) (hb : b < n) : prd 0 n bs a b = if a = b then (a : Int) else third1 bs (a : Int) (b : Int) := by
  unfold prd
  rw [if_pos rfl]
  by_cases hab : a = b
  · rw [if_pos hab, if_pos hab]
  · rw [if_neg hab, if_neg hab]
    exact tab_third h hf (by omega) (by omega) (by omega)
theorem prd0_range {n : Nat} {bs : List Blk} (h : isSysImpl (n : Int) bs = true) (hf : fullB (n : Int) bs = true) {a b : Nat} (ha : a < n) (hb : b < n) : 0 ≤ prd 0 n bs a b ∧ prd 0 n bs a b < (n : Int) := by
  rw [prd0_third h hf ha hb]
  by_cases hab : a = b
  · rw [if_pos hab]; omega
  · rw [if_neg hab]
    exact (tri_third h hf (a := (a : Int)) (b := (b : Int)) (by omega) (by omega) (by omega)).range h
set_option maxRecDepth 100000 in
theorem l09Product_any (n : Nat) (s : Value) (bs : List Blk) (a b : Nat) (w : World) (h : SB w s bs) (hi : isSysImpl (n : Int) bs = true) (hf : fullB (n : Int) bs = true) (ha : a < n) (hb : b < n) :
    Calls Try.prog 46 #[.agg #[.int .i64 (n : Int), s], .int .i64 (a : Int), .int .i64 (b : Int)] w (RV (.int .i64 (prd 0 n bs a b)) w) := by
  have hs := h.slice
  have hv15 := (sys_size hi).2.1
  have hbA : Below w.heap.size w (w.alloc (.cells #[.int .i64 (n : Int), s] 30)) := (Below.refl _ _).alloc (Nat.le_refl _) _
  have HT := Lib.hid (l01Third_any (n : Int) s bs a b _ (h.below hbA (Nat.le_refl _)) (sys_good hi) (by omega) (by omega) (by omega) (by omega) (by omega))
  rw [prd0_third hi hf ha hb]
  clear h hi hf ha hb hv15
  obtain ⟨a0, c0, rfl⟩ := hs
  by_cases hab : a = b
  · subst hab
    have e : ((a : Int) == (a : Int)) = true := by simp
    rw [if_pos rfl]
    clear HT
    go_enter Try.func46, Try.ntmps46
    go_wp2
    go_ret
    exact RV_of rfl hbA
  · have e : ((a : Int) == (b : Int)) = false := by simp; omega
    rw [if_neg hab]
    clear hab
    go_enter Try.func46, Try.ntmps46
    go_wp2_with fail
    refine HT.out.mono ?_
    rintro e w1 ⟨rfl, hb1⟩
    have hb2 := below_new hb1
    go_wp2
    go_ret
    exact RV_of rfl hb2
end Go.Proofs.Ytahgialnhomefaa

namespace Go.Proofs.Ytahgialnhomefaa
open Go.RowKit Go.Maps
/-- TwoX blocks that came in, in their boxes. -/
structure TwoX (w' : World) (b : Nat) (x y : Blk) : Prop where
  x0 : w'.cell? ⟨b, 0, none⟩ = some (.int .i64 x.a)
  x1 : w'.cell? ⟨b, 1, none⟩ = some (.int .i64 x.b)
  x2 : w'.cell? ⟨b, 2, none⟩ = some (.int .i64 x.c)
  y0 : w'.cell? ⟨b + 1, 0, none⟩ = some (.int .i64 y.a)
  y1 : w'.cell? ⟨b + 1, 1, none⟩ = some (.int .i64 y.b)
  y2 : w'.cell? ⟨b + 1, 2, none⟩ = some (.int .i64 y.c)
theorem TwoX.below {w w' : World} {b B : Nat} {x y : Blk} (h : TwoX w b x y) (hb : Below B w w') (hB : b + 1 < B) : TwoX w' b x y :=
  ⟨(hb.cell (p := ⟨b, 0, none⟩) (by show b < B; omega)).trans h.x0, (hb.cell (p := ⟨b, 1, none⟩) (by show b < B; omega)).trans h.x1, (hb.cell (p := ⟨b, 2, none⟩) (by show b < B; omega)).trans h.x2, (hb.cell (p := ⟨b + 1, 0, none⟩) hB).trans h.y0, (hb.cell (p := ⟨b + 1, 1, none⟩) hB).trans h.y1, (hb.cell (p := ⟨b + 1, 2, none⟩) hB).trans h.y2⟩
def meetK (x y : Blk) : Nat → Bool
  | 0 => true
  | 1 => !hasB y x.a
  | 2 => !hasB y x.a && !hasB y x.b
  | _ => !hasB y x.a && !hasB y x.b && !hasB y x.c
def comI (x y : Blk) : Int := (comP x y).getD (-1)
end Go.Proofs.Ytahgialnhomefaa

namespace Go.Proofs.Ytahgialnhomefaa
open Go.RowKit Go.Maps
def othersP (x : Blk) (a : Int) : Int × Int := if a = x.a then (x.b, x.c) else if a = x.b then (x.a, x.c) else (x.a, x.b)
end Go.Proofs.Ytahgialnhomefaa

namespace Go.Proofs.Ytahgialnhomefaa
open Go.RowKit Go.Maps
/-- Lexicographic, a shorter list first. -/
def lexL : List Int → List Int → Bool
  | [], [] => false
  | [], _ :: _ => true
  | _ :: _, [] => false
  | a :: r, b :: t => if a = b then lexL r t else decide (a < b)
theorem lexL_end (ps qs : List Int) (h : ps = [] ∨ qs = []) : lexL ps qs = decide (ps.length < qs.length) := by
  cases ps <;> cases qs <;> simp_all [lexL]
/-- Returns a value and draws alone. -/
def RD (v : Value) (w : World) (e : Ending) (w' : World) : Prop := e = .returned v ∧ ∃ n, w' = w.drewN n
theorem drewN_add (w : World) (a b : Nat) : (w.drewN a).drewN b = w.drewN (a + b) := by simp [World.drewN, Nat.add_assoc]
theorem RD_of {v u : Value} {w w' : World} {n : Nat} (h : u = v) (hw : w' = w.drewN n) : RD v w (.returned u) w' := ⟨by rw [h], n, hw⟩
theorem RD.rv {P : Program} {f : FuncId} {args : Array Value} {w : World} {v : Value} (h : Calls P f args w (RD v w)) : Calls P f args w (RV v w) :=
  h.mono fun _ _ ⟨he, n, hn⟩ => ⟨he, by rw [hn]; exact below_drewN (Below.refl _ _) _⟩
theorem RD.quiet2 {P : Program} {f : FuncId} {args : Array Value} {w : World} {a n : Nat} {v : Value} (h : Calls P f args (w.drewN (a + n)) (RD v (w.drewN (a + n)))) :
    Calls P f args (w.drewN (a + n)) fun e w'' => e = .returned v ∧ ∃ m, w'' = w.drewN (a + m) :=
  h.mono fun _ _ ⟨he, m, hm⟩ => ⟨he, n + m, by rw [hm, drewN_add, Nat.add_assoc]⟩
theorem RD.quiet {P : Program} {f : FuncId} {args : Array Value} {w : World} {n : Nat} {v : Value} (h : Calls P f args (w.drewN n) (RD v (w.drewN n))) :
    Calls P f args (w.drewN n) fun e w'' => e = .returned v ∧ ∃ m, w'' = w.drewN m :=
  h.mono fun _ _ ⟨he, m, hm⟩ => ⟨he, n + m, by rw [hm, drewN_add]⟩
end Go.Proofs.Ytahgialnhomefaa

namespace Go.Proofs.Ytahgialnhomefaa
open Go.RowKit Go.Maps
theorem lexL_irr : ∀ ps : List Int, lexL ps ps = false
  | [] => rfl
  | a :: r => by rw [lexL, if_pos rfl]; exact lexL_irr r
theorem lexL_eq : ∀ ps qs : List Int, lexL ps qs = false → lexL qs ps = false → ps = qs
  | [], [], _, _ => rfl
  | [], _ :: _, h, _ => by simp [lexL] at h
  | _ :: _, [], _, h => by simp [lexL] at h
  | a :: r, b :: t, h, k => by
    rw [lexL] at h k
    by_cases e : a = b
    · subst e
      rw [if_pos rfl] at h k
      rw [lexL_eq r t h k]
    · rw [if_neg e] at h
      rw [if_neg (fun q => e q.symm)] at k
      simp at h k
      omega
theorem lexL_trans : ∀ {ps qs rs : List Int}, lexL ps qs = true → lexL qs rs = true → lexL ps rs = true
  | [], [], _, h, _ => by simp [lexL] at h
  | [], _ :: _, [], _, h => by simp [lexL] at h
  | [], _ :: _, _ :: _, _, _ => by simp [lexL]
  | _ :: _, [], _, h, _ => by simp [lexL] at h
  | _ :: _, _ :: _, [], _, h => by simp [lexL] at h
  | a :: r, b :: t, c :: u, h, k => by
    rw [lexL] at h k ⊢
    by_cases e : a = b
    · subst e
      rw [if_pos rfl] at h
      by_cases e2 : a = c
      · subst e2
        rw [if_pos rfl] at k ⊢
        exact lexL_trans h k
      · rw [if_neg e2] at k ⊢
        exact k
    · rw [if_neg e] at h
      by_cases e2 : b = c
      · subst e2
        rw [if_neg e]
        exact h
      · rw [if_neg e2] at k
        simp at h k
        rw [if_neg (by omega)]
        simp
        omega
end Go.Proofs.Ytahgialnhomefaa

namespace Go.Proofs.Ytahgialnhomefaa
open Go.RowKit Go.Maps
/-- Where the outline puts a row: behind the rows that it is not before, from the end on. -/
def putAt (L : List (List Int)) (r : List Int) : Nat → Nat
  | 0 => 0
  | k + 1 => if lexL r (L[k]?.getD []) then putAt L r k else k + 1
theorem putAt_le (L : List (List Int)) (r : List Int) : ∀ k, putAt L r k ≤ k
  | 0 => Nat.le_refl _
  | k + 1 => by
    have := putAt_le L r k
    unfold putAt
    split <;> omega
def putHas (L : List (List Int)) (r : List Int) : Bool := decide (0 < putAt L r L.length) && decide (L[putAt L r L.length - 1]?.getD [] = r)
/-- The outline's list with one more row. -/
def putL (L : List (List Int)) (r : List Int) : List (List Int) := if putHas L r then L else L.take (putAt L r L.length) ++ r :: L.drop (putAt L r L.length)
def insV {α : Type} (s : List α) (j : Nat) (y : α) : List α := s.take j ++ y :: s.drop j
theorem insV_len {α : Type} (s : List α) (j : Nat) (y : α) : (insV s j y).length = s.length + 1 := by
  unfold insV
  simp
  omega
theorem insV_end {α : Type} (s : List α) (y : α) : insV s s.length y = s ++ [y] := by simp [insV]
theorem insV_set {α : Type} (s : List α) (j : Nat) (y x : α) (h : j ≤ s.length) : (insV s j y).set j x = insV s j x := by
  have e : (s.take j).length = j := by rw [List.length_take]; omega
  unfold insV
  rw [List.set_append_right _ _ (by omega), e, Nat.sub_self, List.set_cons_zero]
theorem insV_get {α : Type} (s : List α) (j : Nat) (y : α) (h : j < s.length) : (insV s (j + 1) y)[j]? = s[j]? := by
  unfold insV
  rw [List.getElem?_append_left (by rw [List.length_take]; omega), List.getElem?_take_of_lt (by omega)]
theorem insV_shift {α : Type} (s : List α) (j : Nat) (y z : α) (h : j < s.length) (hz : s[j]? = some z) : (insV s (j + 1) y).set (j + 1) z = insV s j z := by
  rw [insV_set s (j + 1) y _ (by omega)]
  rw [List.getElem?_eq_getElem h] at hz
  injection hz with hz
  unfold insV
  rw [List.take_add_one, List.getElem?_eq_getElem h, List.append_assoc]
  conv => rhs; rw [List.drop_eq_getElem_cons h]
  simp [hz]
/-- A list of the call's own of row headers. -/
def RowsV (w : World) (base : Nat) (u : Value) (hs : List Value) : Prop := w.ownsRow base 38 1 u hs.length hs
theorem RowsV.kept {w w' : World} {base : Nat} {u : Value} {hs : List Value} (h : RowsV w base u hs) {row : Option Nat} (hg : w.grownBy w' row) (hr : row = none ∨ u.ownBlock ≠ row) : RowsV w' base u hs := ownsRow_kept h hg hr
theorem RowsV.below {w w' : World} {base : Nat} {u : Value} {hs : List Value} (h : RowsV w base u hs) {B : Nat} (hb : Below B w w') (hB : w.heap.size ≤ B) : RowsV w' base u hs :=
  h.kept (only_of_below (hb.mono hB) none) (.inl rfl)
theorem RowsV.setT {w : World} {base g n cap : Nat} {hs : List Value} (h : RowsV w base (.slice (some ⟨g, 0, none⟩) n cap) hs) {i : Nat} {x : Value} :
    RowsV (w.setCell ⟨g, i, none⟩ x) base (.slice (some ⟨g, 0, none⟩) n cap) (hs.set i x) ∧ w.grownBy (w.setCell ⟨g, i, none⟩ x) (some g) := by
  refine ⟨?_, only_setCell (only_refl w (some g)) rfl _⟩
  obtain ⟨_, h | ⟨g', cap', cur, e, hb, hcur, hn, hc, hsz, hx⟩⟩ := h
  · simp at h
  · simp at e
    obtain ⟨rfl, rfl, rfl⟩ := e
    have hl : (hs.set i x).length = hs.length := List.length_set
    unfold RowsV
    rw [hl]
    refine ⟨by simp, .inr ⟨g, cap, cur.setIfInBounds i x, rfl, hb, heap_setCell_same w g i cur _ _ hcur, hn, hc, by simp [hsz], ?_⟩⟩
    rw [Array.toList_setIfInBounds, List.take_set, hx]
theorem RowsV.at_ {w : World} {base g n cap : Nat} {hs : List Value} (h : RowsV w base (.slice (some ⟨g, 0, none⟩) n cap) hs) {i : Nat} {x : Value} (hi : hs[i]? = some x) : w.cell? ⟨g, i, none⟩ = some x ∧ base ≤ g ∧ g < w.heap.size ∧ n = hs.length ∧ w.frozen? ⟨g, i, none⟩ = false := by
  obtain ⟨_, h | ⟨g', cap', cur, e, hb, hcur, hn, hc, hsz, hx⟩⟩ := h
  · simp at h
  · simp at e
    obtain ⟨rfl, rfl, rfl⟩ := e
    have hil : i < hs.length := (List.getElem?_eq_some_iff.1 hi).1
    refine ⟨?_, hb, (Array.getElem?_eq_some_iff.1 hcur).1, rfl, by simp [World.frozen?, hcur]⟩
    rw [← hx, List.getElem?_take_of_lt (by omega)] at hi
    simp [World.cell?, hcur]
    simpa using hi
theorem RowsV.form {w : World} {base : Nat} {u : Value} {hs : List Value} (h : RowsV w base u hs) (h0 : 0 < hs.length) : ∃ g cap, u = .slice (some ⟨g, 0, none⟩) hs.length cap := by
  rcases h.2 with ⟨_, e⟩ | ⟨g, cap, cur, e, _⟩
  · omega
  · exact ⟨g, cap, e⟩
theorem wpList_append_hdr {w : World} {ops : Array Oper} {rest : List Oper} {o : Oper} {a : Act} {Q : Exit → Act → World → Prop} (hgd : o.guard = none) (s x : Operand)
    (ho : o.op = .call { callee := .builtin .append, args := #[s, x], argTypes := #[57, 57] })
    (base : Nat) (v : Value) (hs : List Value) (hsv : a.eval s = v) (hown : RowsV w base v hs) (b0 c : Nat) (hx : a.eval x = .slice (some ⟨b0, 0, none⟩) 1 c) (p : Option Addr) (n0 c0 : Nat)
    (c1 : w.cell? ⟨b0, 0, none⟩ = some (.slice p n0 c0)) (hl : hs.length ≤ 1100000) (hbase : base ≤ w.heap.size)
    (h : ∀ (G cap : Nat) (w' : World), RowsV w' base (.slice (some ⟨G, 0, none⟩) (hs.length + 1) cap) (hs ++ [.slice p n0 c0]) → w.grownBy w' v.ownBlock → (v.ownBlock = some G ∨ G = w.heap.size) → wpList Try.prog ops Q rest (a.put o.dst (.slice (some ⟨G, 0, none⟩) (hs.length + 1) cap)) w') : wpList Try.prog ops Q (o :: rest) a w := by
  obtain ⟨i0, hi, hz0, hz1, hz2⟩ := info_parts infoRow
  refine wpList_append_own_at w hgd s x 57 ho base 38 i0 _ 1 24 Try.underlying57 hi hz0 hz1 hz2 rfl (by decide) v hs.length _ hsv hown ⟨b0, 0, none⟩ 1 c [.slice p n0 c0] hx rfl ?_ ?_ (by unfold maxLen; omega) (by omega) hbase ?_
  · intro j u hj
    rw [addr_at, Nat.zero_add]
    match j, hj with
    | 0, hj => simp at hj; rw [← hj]; exact c1
    | j + 1, hj => simp at hj
  · intro u hu
    simp at hu
    rw [hu]
    rfl
  · intro v' w' hown' hg _ hob
    obtain ⟨G, cap, rfl⟩ := row_some hown'
    refine h G cap w' ?_ hg ?_
    · unfold RowsV
      rw [List.length_append]
      exact hown'
    · rcases hob with e | e
      · exact .inl (by rw [← e]; rfl)
      · exact .inr (by simpa [Value.ownBlock] using e)
end Go.Proofs.Ytahgialnhomefaa

namespace Go.Proofs.Ytahgialnhomefaa
open Go.RowKit Go.Maps
theorem OwnJ.blkP {w : World} {base : Nat} {v : Value} {zs : List Int} (h : OwnJ w base v zs) : ∀ r, v.ownBlock = some r → base ≤ r ∧ r < w.heap.size := fun r e => by
  rcases h.2 with ⟨hv, _⟩ | ⟨g, cap, cur, hv, hb, hcur, _⟩
  · rw [hv] at e; simp [Value.ownBlock] at e
  · rw [hv] at e
    obtain rfl : g = r := by simpa [Value.ownBlock] using e
    exact ⟨hb, (Array.getElem?_eq_some_iff.1 hcur).1⟩
theorem RowsV.blkP {w : World} {base : Nat} {v : Value} {hs : List Value} (h : RowsV w base v hs) : ∀ r, v.ownBlock = some r → base ≤ r ∧ r < w.heap.size := fun r e => by
  rcases h.2 with ⟨hv, _⟩ | ⟨g, cap, cur, hv, hb, hcur, _⟩
  · rw [hv] at e; simp [Value.ownBlock] at e
  · rw [hv] at e
    obtain rfl : g = r := by simpa [Value.ownBlock] using e
    exact ⟨hb, (Array.getElem?_eq_some_iff.1 hcur).1⟩
theorem RowsV.new0 (W : World) {base : Nat} (hb : base ≤ W.heap.size) : RowsV (W.alloc (.cells #[] 38)) base (.slice (some ⟨W.heap.size, 0, none⟩) 0 0) [] :=
  ⟨rfl, .inr ⟨W.heap.size, 0, #[], rfl, hb, World.alloc_heap_new W _, Nat.le_refl _, by unfold maxLen; omega, rfl, rfl⟩⟩
theorem OwnJ.baseP {w : World} {b b' : Nat} {u : Value} {zs : List Int} (h : OwnJ w b u zs) (hb : b' ≤ b) : OwnJ w b' u zs := ownsRow_base h hb
structure TabL (W : World) (lo : Nat) (u : Value) (us : List Value) (Rs : List (List Int)) : Prop where
  own : RowsV W lo u us
  len : us.length = Rs.length
  row : ∀ (k : Nat) (x : Value), us[k]? = some x → OwnJ W lo x (Rs[k]?.getD [])
  ne : ∀ x ∈ us, ∀ r, u.ownBlock = some r → x.ownBlock ≠ some r
  inc : ∀ (j k : Nat) (x y : Value), j ≠ k → us[j]? = some x → us[k]? = some y → ∀ r, x.ownBlock = some r → y.ownBlock ≠ some r
variable {W W' : World} {lo : Nat} {u : Value} {us : List Value} {Rs : List (List Int)}
theorem TabL.new0 (W : World) (hb : lo ≤ W.heap.size) : TabL (W.alloc (.cells #[] 38)) lo (.slice (some ⟨W.heap.size, 0, none⟩) 0 0) [] [] :=
  ⟨RowsV.new0 W hb, rfl, fun k x h => by simp at h, fun x h => by simp at h, fun j k x y _ h => by simp at h⟩
theorem TabL.kept (h : TabL W lo u us Rs) {row : Option Nat} (hg : W.grownBy W' row) (hu : ∀ r, row = some r → u.ownBlock ≠ some r) (hx : ∀ x ∈ us, ∀ r, row = some r → x.ownBlock ≠ some r) : TabL W' lo u us Rs :=
  ⟨h.own.kept hg (by cases row with
    | none => exact .inl rfl
    | some r => exact .inr (hu r rfl)), h.len, fun k x hk => (h.row k x hk).apartP hg (hx x (List.mem_of_getElem? hk)), h.ne, h.inc⟩
theorem TabL.below (h : TabL W lo u us Rs) (hb : Below W.heap.size W W') : TabL W' lo u us Rs :=
  h.kept (gb_below hb) (fun r e => by cases e) (fun _ _ r e => by cases e)
theorem TabL.snoc (h : TabL W lo u us Rs) {v : Value} {zs : List Int} (hv : OwnJ W lo v zs) (hvu : ∀ r, v.ownBlock = some r → u.ownBlock ≠ some r) (hvx : ∀ x ∈ us, ∀ r, v.ownBlock = some r → x.ownBlock ≠ some r)
    (hg : W.grownBy W' u.ownBlock) {u' : Value} (hV : RowsV W' lo u' (us ++ [v])) (hG : ∀ G, u'.ownBlock = some G → u.ownBlock = some G ∨ W.heap.size ≤ G) : TabL W' lo u' (us ++ [v]) (Rs ++ [zs]) := by
  have hk : ∀ x ∈ us, ∀ r, u.ownBlock = some r → x.ownBlock ≠ some r := h.ne
  have hvk : OwnJ W' lo v zs := hv.apartP hg (fun r e e2 => hvu r e2 e)
  refine ⟨hV, by simp [h.len], fun k x hx => ?_, fun x hx r e => ?_, fun j k x y hjk hx hy r e => ?_⟩
  · by_cases hlt : k < us.length
    · rw [List.getElem?_append_left hlt] at hx
      rw [List.getElem?_append_left (by rw [← h.len]; exact hlt)]
      exact (h.row k x hx).apartP hg (fun r e => h.ne x (List.mem_of_getElem? hx) r e)
    · have hkl : k = us.length := by
        have := (List.getElem?_eq_some_iff.1 hx).1
        simp at this; omega
      subst hkl
      rw [List.getElem?_append_right (Nat.le_refl _), Nat.sub_self] at hx
      rw [h.len, List.getElem?_append_right (Nat.le_refl _), Nat.sub_self]
      simp at hx
      subst hx
      exact hvk
  · have hxb : ∀ r, x.ownBlock = some r → r < W.heap.size := fun r e => by
      rcases List.mem_append.1 hx with hx | hx
      · obtain ⟨k, hk⟩ := List.mem_iff_getElem?.1 hx
        exact ((h.row k x hk).blkP r e).2
      · rw [List.mem_singleton] at hx; subst hx; exact (hv.blkP r e).2
    intro e2
    rcases hG r e with e3 | e3
    · rcases List.mem_append.1 hx with hx | hx
      · exact h.ne x hx r e3 e2
      · rw [List.mem_singleton] at hx; subst hx; exact hvu r e2 e3
    · have := hxb r e2; omega
  · have at_ : ∀ m z, (us ++ [v])[m]? = some z → (m < us.length ∧ us[m]? = some z) ∨ (m = us.length ∧ z = v) := fun m z hz => by
      by_cases hlt : m < us.length
      · rw [List.getElem?_append_left hlt] at hz; exact .inl ⟨hlt, hz⟩
      · have hl := (List.getElem?_eq_some_iff.1 hz).1
        simp at hl
        have hm : m = us.length := by omega
        subst hm
        rw [List.getElem?_append_right (Nat.le_refl _), Nat.sub_self] at hz
        simp at hz
        exact .inr ⟨rfl, hz.symm⟩
    rcases at_ j x hx with ⟨hj, hx2⟩ | ⟨hj, hx2⟩
    · rcases at_ k y hy with ⟨hk2, hy2⟩ | ⟨hk2, hy2⟩
      · exact h.inc j k x y hjk hx2 hy2 r e
      · intro e2; rw [hy2] at e2; exact hvx x (List.mem_of_getElem? hx2) r e2 e
    · rcases at_ k y hy with ⟨hk2, hy2⟩ | ⟨hk2, hy2⟩
      · rw [hx2] at e; exact hvx y (List.mem_of_getElem? hy2) r e
      · omega
/-- A row that was made behind the list is put at its end. -/
theorem TabL.snocB {V : World} (h : TabL V lo u us Rs) (hb : Below V.heap.size V W) {v : Value} {zs : List Int} (hv : OwnJ W V.heap.size v zs) (hlo : lo ≤ V.heap.size) (hg : W.grownBy W' u.ownBlock) {u' : Value} (hV : RowsV W' lo u' (us ++ [v])) (hG : ∀ G, u'.ownBlock = some G → u.ownBlock = some G ∨ W.heap.size ≤ G) : TabL W' lo u' (us ++ [v]) (Rs ++ [zs]) := by
  refine (h.below hb).snoc (hv.baseP hlo) (fun r e e2 => ?_) (fun x hx r e e2 => ?_) hg hV hG
  · have := (hv.blkP r e).1; have := (h.own.blkP r e2).2; omega
  · obtain ⟨k, hk⟩ := List.mem_iff_getElem?.1 hx
    have := (hv.blkP r e).1; have := ((h.row k x hk).blkP r e2).2; omega
/-- A number of a row is written. -/
theorem TabL.sst {k g n cap j : Nat} (h : TabL W lo u us Rs) (hx : us[k]? = some (.slice (some ⟨g, 0, none⟩) n cap)) (hj : j < (Rs[k]?.getD []).length) (y : Int) :
    TabL (W.setCell ⟨g, j, none⟩ (.int .i64 y)) lo u us (Rs.set k ((Rs[k]?.getD []).set j y)) ∧ W.grownBy (W.setCell ⟨g, j, none⟩ (.int .i64 y)) (some g) := by
  have ho := h.row k _ hx
  obtain ⟨s1, s2⟩ := ho.setT (i := j) (x := y) hj
  have hkl : k < us.length := (List.getElem?_eq_some_iff.1 hx).1
  refine ⟨⟨h.own.kept s2 (.inr fun e => h.ne _ (List.mem_of_getElem? hx) g e rfl), by rw [List.length_set]; exact h.len, fun m z hz => ?_, h.ne, h.inc⟩, s2⟩
  by_cases e : m = k
  · subst e
    rw [hx] at hz
    cases hz
    rw [List.getElem?_set_self (by rw [← h.len]; exact hkl)]
    exact s1
  · rw [List.getElem?_set_ne (fun e2 => e e2.symm)]
    exact (h.row m z hz).apartP s2 (fun r hr => by cases hr; exact h.inc k m _ z (fun e2 => e e2.symm) hx hz g rfl)
/-- A row is put in the place of another one that grew into it. -/
theorem TabL.put {k G m c g : Nat} {x : Value} {n cap : Nat} {zs : List Int} (h : TabL W lo (.slice (some ⟨G, 0, none⟩) m c) us Rs) (hx : us[k]? = some x) (hg : W.grownBy W' x.ownBlock) (ho : OwnJ W' lo (.slice (some ⟨g, 0, none⟩) n cap) zs) (hG : x.ownBlock = some g ∨ W.heap.size ≤ g) :
    TabL (W'.setCell ⟨G, k, none⟩ (.slice (some ⟨g, 0, none⟩) n cap)) lo (.slice (some ⟨G, 0, none⟩) m c) (us.set k (.slice (some ⟨g, 0, none⟩) n cap)) (Rs.set k zs) ∧ W'.grownBy (W'.setCell ⟨G, k, none⟩ (.slice (some ⟨g, 0, none⟩) n cap)) (some G) := by
  have hxm := List.mem_of_getElem? hx
  have hkl : k < us.length := (List.getElem?_eq_some_iff.1 hx).1
  have hGb := h.own.blkP G rfl
  have hV : RowsV W' lo (.slice (some ⟨G, 0, none⟩) m c) us := h.own.kept hg (by
    cases hxo : x.ownBlock with
    | none => exact .inl rfl
    | some r => exact .inr fun e => h.ne x hxm G rfl (by rw [hxo, ← e]; rfl))
  obtain ⟨s1, s2⟩ := hV.setT (i := k) (x := .slice (some ⟨g, 0, none⟩) n cap)
  have hne : g ≠ G := by
    rcases hG with e | e
    · intro h0; exact h.ne x hxm G rfl (h0 ▸ e)
    · omega
  have hap : ∀ j z, j ≠ k → us[j]? = some z → z.ownBlock ≠ some g := fun j z hjk hz => by
    rcases hG with e | e
    · exact h.inc k j x z (Ne.symm hjk) hx hz g e
    · intro e2; have := ((h.row j z hz).blkP g e2).2; omega
  have at_ : ∀ j z, (us.set k (.slice (some ⟨g, 0, none⟩) n cap))[j]? = some z → (j = k ∧ z = .slice (some ⟨g, 0, none⟩) n cap) ∨ (j ≠ k ∧ us[j]? = some z) := fun j z hz => by
    by_cases e : j = k
    · subst e
      rw [List.getElem?_set_self hkl] at hz
      exact .inl ⟨rfl, (Option.some.inj hz).symm⟩
    · rw [List.getElem?_set_ne (fun e2 => e e2.symm)] at hz
      exact .inr ⟨e, hz⟩
  refine ⟨⟨s1, by rw [List.length_set, List.length_set]; exact h.len, fun j z hz => ?_, fun z hz r e => ?_, fun j q y z hjq hy hz r e => ?_⟩, s2⟩
  · rcases at_ j z hz with ⟨rfl, rfl⟩ | ⟨hjk, hz⟩
    · rw [List.getElem?_set_self (by rw [← h.len]; exact hkl)]
      exact ho.apartP s2 (fun r hr => by cases hr; simp [Value.ownBlock]; exact hne)
    · rw [List.getElem?_set_ne (fun e2 => hjk e2.symm)]
      refine ((h.row j z hz).apartP hg (fun r hr => ?_)).apartP s2 (fun r hr => ?_)
      · exact h.inc k j x z (Ne.symm hjk) hx hz r hr
      · cases hr; exact h.ne z (List.mem_of_getElem? hz) G rfl
  · obtain ⟨j, hj⟩ := List.mem_iff_getElem?.1 hz
    have e : G = r := by simpa [Value.ownBlock] using e
    subst e
    rcases at_ j z hj with ⟨rfl, rfl⟩ | ⟨_, hz⟩
    · simp [Value.ownBlock]; exact hne
    · exact h.ne z (List.mem_of_getElem? hz) G rfl
  · rcases at_ j y hy with ⟨hj2, hy2⟩ | ⟨hjk, hy2⟩
    · rcases at_ q z hz with ⟨hq2, _⟩ | ⟨hqk, hz2⟩
      · omega
      · have e : g = r := by rw [hy2] at e; simpa [Value.ownBlock] using e
        subst e
        exact hap q z hqk hz2
    · rcases at_ q z hz with ⟨hq2, hz2⟩ | ⟨hqk, hz2⟩
      · intro e2
        have e2 : g = r := by rw [hz2] at e2; simpa [Value.ownBlock] using e2
        subst e2
        exact hap j y hjk hy2 e
      · exact h.inc j q y z hjq hy2 hz2 r e
/-- A header of the list, and the row behind it. -/
theorem TabL.at_ (h : TabL W lo u us Rs) {k : Nat} (hk : k < Rs.length) (h0 : 0 < (Rs[k]?.getD []).length) (hl : (Rs[k]?.getD []).length ≤ 1100000) : ∃ G c g cap, u = .slice (some ⟨G, 0, none⟩) Rs.length c ∧ lo ≤ G ∧ W.cell? ⟨G, k, none⟩ = some (.slice (some ⟨g, 0, none⟩) (Rs[k]?.getD []).length cap) ∧ W.frozen? ⟨G, k, none⟩ = false ∧ us[k]? = some (.slice (some ⟨g, 0, none⟩) (Rs[k]?.getD []).length cap) ∧ OwnAtI W g (Rs[k]?.getD []) ∧ lo ≤ g := by
  have hku : k < us.length := by rw [h.len]; exact hk
  obtain ⟨x, hx⟩ : ∃ x, us[k]? = some x := ⟨_, List.getElem?_eq_getElem hku⟩
  obtain ⟨G, c, hu⟩ := h.own.form (by omega)
  obtain ⟨g, cap, rfl, h1, h2⟩ := (h.row k x hx).at0 h0 hl
  have hV := h.own
  rw [hu] at hV
  obtain ⟨a1, a2, a3, a4, a5⟩ := hV.at_ hx
  exact ⟨G, c, g, cap, by rw [hu, h.len], a2, a1, a5, hx, h1, h2⟩
theorem TabL.ssr (h : TabL W lo u us Rs) (h0 : 0 < Rs.length) (hr : ∀ k, k < Rs.length → 0 < (Rs[k]?.getD []).length ∧ (Rs[k]?.getD []).length ≤ 1100000) : ∃ G c gs caps, u = .slice (some ⟨G, 0, none⟩) Rs.length c ∧ lo ≤ G ∧ SSR W lo G gs caps Rs.length (fun k => Rs[k]?.getD []) := by
  obtain ⟨G, c, hu⟩ := h.own.form (by rw [h.len]; exact h0)
  have hG := h.own.blkP G (by rw [hu]; rfl)
  have H : ∀ k, ∃ g cap, k < Rs.length → W.cell? ⟨G, k, none⟩ = some (.slice (some ⟨g, 0, none⟩) (Rs[k]?.getD []).length cap) ∧ us[k]? = some (.slice (some ⟨g, 0, none⟩) (Rs[k]?.getD []).length cap) ∧ OwnAtI W g (Rs[k]?.getD []) ∧ lo ≤ g := fun k => by
    by_cases hk : k < Rs.length
    · obtain ⟨G', c', g, cap, e, _, a1, _, a2, a3, a4⟩ := h.at_ hk (hr k hk).1 (hr k hk).2
      rw [hu] at e
      simp at e
      obtain ⟨rfl, _⟩ := e
      exact ⟨g, cap, fun _ => ⟨a1, a2, a3, a4⟩⟩
    · exact ⟨0, 0, fun h => absurd h hk⟩
  refine ⟨G, c, fun k => (H k).choose, fun k => (H k).choose_spec.choose, by rw [hu, h.len], hG.1, fun k hk => ?_, fun k hk => ?_, fun k hk e => ?_, fun j k hjk hk e => ?_, fun k hk => ?_, hG.2⟩
  · exact ((H k).choose_spec.choose_spec hk).1
  · exact ((H k).choose_spec.choose_spec hk).2.2.1
  · exact h.ne _ (List.mem_of_getElem? ((H k).choose_spec.choose_spec hk).2.1) G (by rw [hu]; rfl) (by simp [Value.ownBlock]; exact e)
  · exact h.inc j k _ _ (by omega) ((H j).choose_spec.choose_spec (by omega)).2.1 ((H k).choose_spec.choose_spec hk).2.1 _ rfl (by simp [Value.ownBlock]; exact e.symm)
  · exact ((H k).choose_spec.choose_spec hk).2.2.2
end Go.Proofs.Ytahgialnhomefaa

namespace Go.Proofs.Ytahgialnhomefaa
open Go.RowKit Go.Maps
def rowsTo (n : Nat) (P : Nat → Nat → Int) (a : Nat) : List (List Int) := (List.range a).map (rowT n P)
theorem rowsTo_succ (n : Nat) (P : Nat → Nat → Int) (a : Nat) : rowsTo n P (a + 1) = rowsTo n P a ++ [rowT n P a] := by simp [rowsTo, List.range_succ]
theorem rowsTo_len (n : Nat) (P : Nat → Nat → Int) (a : Nat) : (rowsTo n P a).length = a := by simp [rowsTo]
theorem rowsTo_at (n : Nat) (P : Nat → Nat → Int) {a k : Nat} (h : k < a) : (rowsTo n P a)[k]?.getD [] = rowT n P k := by simp [rowsTo, h]
theorem rowT_take {n : Nat} (P : Nat → Nat → Int) (a : Nat) {b : Nat} (hb : b < n) : (rowT n P a).take (b + 1) = (rowT n P a).take b ++ [P a b] := by
  rw [List.take_add_one, List.getElem?_eq_getElem (by rw [rowT_len]; exact hb)]
  have := rowT_at P a hb
  rw [List.getElem?_eq_getElem (by rw [rowT_len]; exact hb)] at this
  simp only [Option.getD_some] at this
  rw [this]; rfl
set_option maxRecDepth 100000 in
set_option maxHeartbeats 2000000 in
theorem l09Table_any (n : Nat) (s : Value) (bs : List Blk) (w : World) (h : SB w s bs) (hi : isSysImpl (n : Int) bs = true) (hf : fullB (n : Int) bs = true) :
    Calls Try.prog 54 #[.agg #[.int .i64 (n : Int), s]] w (fun e w' => ∃ u us, e = .returned u ∧ TabL w' w.heap.size u us (rowsTo n (prd 0 n bs) n) ∧ Below w.heap.size w w') := by
  have hs := h.slice
  obtain ⟨hv3, hv15, hb35⟩ := sys_size hi
  have HP := Lib.hid fun (a b : Nat) (ha : a < n) (hb : b < n) W (hW : Below w.heap.size w W) => l09Product_any n s bs a b W (h.below hW (Nat.le_refl _)) hi hf ha hb
  obtain ⟨R, hR⟩ : ∃ R, R = prd 0 n bs := ⟨_, rfl⟩
  rw [← hR] at HP ⊢
  clear h hi hf hR hb35
  obtain ⟨a0, c0, rfl⟩ := hs
  go_enter Try.func54, Try.ntmps54
  go_wp2
  have hbA : Below w.heap.size w (w.alloc (.cells #[.int .i64 (n : Int), .slice a0 bs.length c0] 30)) := (Below.refl _ _).alloc (Nat.le_refl _) _
  obtain ⟨w1, hw1⟩ : ∃ w1, w1 = w.alloc (.cells #[.int .i64 (n : Int), .slice a0 bs.length c0] 30) := ⟨_, rfl⟩
  have x0 : w1.cell? ⟨w.heap.size, 0, none⟩ = some (.int .i64 (n : Int)) := by rw [hw1]; simp [go_sem]
  have x1 : w1.cell? ⟨w.heap.size, 1, none⟩ = some (.slice a0 bs.length c0) := by rw [hw1]; simp [go_sem]
  have hz1 : w1.heap.size = w.heap.size + 1 := by rw [hw1]; simp
  rw [← hw1] at hbA ⊢
  have HT0 := Lib.hid (TabL.new0 (lo := w1.heap.size) w1 (Nat.le_refl _))
  have HBA := Lib.hid hbA
  clear hw1 hbA
  rw [← hz1]
  have hz1' : w.heap.size < w1.heap.size := by omega
  clear hz1
  go_loopw [3, 4] (fun o i wr => ∃ (a : Nat) (us : List Value), a ≤ n ∧ i = .int .i64 (a : Int) ∧ Below w1.heap.size w1 wr ∧ TabL wr w1.heap.size o us (rowsTo n R a) ∧ ∃ p m c, o = .slice p m c) (fun _ i _ => n - (intOf i).toNat)
  case atStart => exact ⟨0, [], Nat.zero_le _, rfl, (Below.refl _ _).alloc (Nat.le_refl _) _, HT0.out, _, _, _, rfl⟩
  case round =>
    obtain ⟨a, us, ha, rfl, hB, hT, p3, m3, c3, rfl⟩ := hrel
    have HB := Lib.hid hB
    have HT := Lib.hid hT
    have hz := hB.size
    have r0 := (hB.cell (p := ⟨w.heap.size, 0, none⟩) (by show w.heap.size < _; omega)).trans x0
    clear hB hT
    by_cases hal : a < n
    · have g0 : decide ((a : Int) < (n : Int)) = true := by simp; omega
      have HO0 := Lib.hid (OwnJ.new0 wr (base := wr.heap.size) (Nat.le_refl _))
      go_wp2
      obtain ⟨V, rfl⟩ : ∃ V, V = wr := ⟨_, rfl⟩
      go_loopw [5, 6] (fun o i wq => ∃ (b : Nat), b ≤ n ∧ i = .int .i64 (b : Int) ∧ Below V.heap.size V wq ∧ OwnJ wq V.heap.size o ((rowT n R a).take b) ∧ ∃ p m c, o = .slice p m c) (fun _ i _ => n - (intOf i).toNat)
      case atStart => exact ⟨0, Nat.zero_le _, rfl, (Below.refl _ _).alloc (Nat.le_refl _) _, by rw [List.take_zero]; exact HO0.out, _, _, _, rfl⟩
      case round =>
        obtain ⟨b, hb, rfl, hBq, hO, p5, m5, c5, rfl⟩ := hrel
        have HBQ := Lib.hid hBq
        have HO := Lib.hid hO
        have hzq := hBq.size
        have q0 := (hBq.cell (p := ⟨w.heap.size, 0, none⟩) (by show w.heap.size < _; omega)).trans r0
        have q1 := (hBq.cell (p := ⟨w.heap.size, 1, none⟩) (by show w.heap.size < _; omega)).trans ((HB.out.cell (p := ⟨w.heap.size, 1, none⟩) (by show w.heap.size < _; omega)).trans x1)
        clear hBq hO
        by_cases hbl : b < n
        · have g1 : decide ((b : Int) < (n : Int)) = true := by simp; omega
          have HPC := Lib.hid (HP.out a b hal hbl wr (HBA.out.trans ((HB.out.trans (HBQ.out.mono hz)).mono (by omega))))
          have HTK := Lib.hid (rowT_take R a hbl)
          obtain ⟨y, hy⟩ : ∃ y, y = R a b := ⟨_, rfl⟩
          rw [← hy] at HPC HTK
          have hll : ((rowT n R a).take b).length ≤ 1100000 := by rw [List.length_take, rowT_len]; omega
          clear hy
          obtain ⟨L, hL⟩ : ∃ L, L = (rowT n R a).take b := ⟨_, rfl⟩
          rw [← hL] at HTK hll HO
          clear hL
          go_wp2_with fail
          refine HPC.out.mono ?_
          rintro e w3 ⟨rfl, hb3⟩
          have HO3 := Lib.hid (HO.out.below hb3 (Nat.le_refl _))
          have hz3 := hb3.size
          have HB3 := Lib.hid (HBQ.out.trans (hb3.mono hzq))
          clear hb3
          go_wp2_with (at_builtin; refine wpList_append_int rfl _ _ rfl V.heap.size _ L rfl (HO3.out.below ((Below.refl _ _).alloc (Nat.le_refl _) _) (Nat.le_refl _)) _ _ y rfl (by simp [go_sem]) hll (by simp; omega) ?_; intro g' cap' w4 hO4 hg4)
          have hrow := HO3.out.row
          have hgo := gb_trans (World.grownBy_alloc _ _ none) hg4
          clear hg4
          go_roundw
          case rel => first
            | exact ⟨b + 1, by omega, by go_num, HB3.out.grown hgo HB3.out.size (fun j e => hrow j e), by rw [HTK.out]; exact hO4, _, _, _, rfl⟩
            | ((repeat apply Exists.intro); exact ⟨⟨b + 1, by omega, by go_num, HB3.out.grown hgo HB3.out.size (fun j e => hrow j e), by rw [HTK.out]; exact hO4, _, _, _, rfl⟩, rfl⟩)
          case measure => simp [intOf]; omega
        · have g1 : decide ((b : Int) < (n : Int)) = false := by simp; omega
          have e : b = n := by omega
          have HO2 := Lib.hid (show OwnJ wr V.heap.size (.slice p5 m5 c5) (rowT n R a) by
            have := HO.out
            rw [e, List.take_of_length_le (by rw [rowT_len]; exact Nat.le_refl n)] at this
            exact this)
          have hll : us.length ≤ 1100000 := by rw [HT.out.len, rowsTo_len]; omega
          have HTO := Lib.hid (HT.out.own.below HBQ.out (Nat.le_refl _))
          have hm3 : m3 = us.length := by
            rcases HT.out.own.2 with ⟨hv, h0⟩ | ⟨_, _, _, hv, _⟩
            · cases hv; exact h0.symm
            · cases hv; rfl
          subst hm3
          clear HO e
          go_wp2_with (at_builtin; refine wpList_append_hdr rfl _ _ rfl w1.heap.size _ us rfl (HTO.out.below ((Below.refl _ _).alloc (Nat.le_refl _) _) (Nat.le_refl _)) _ _ rfl p5 m5 c5 (by simp [go_sem]) hll (by simp; omega) ?_; intro G' cap' w4 hV4 hg4 hG4)
          have hb6 := (Below.refl wr.heap.size wr).alloc (Nat.le_refl _) (.cells #[.slice p5 m5 c5] 38)
          have hbl := (HT.out.own.blkP)
          have hsn := HT.out.snocB (HBQ.out.trans (hb6.mono hzq)) (HO2.out.below hb6 (Nat.le_refl _)) hz hg4 hV4 (fun G e => by have e : G' = G := (by simpa [Value.ownBlock] using e); subst e; rcases hG4 with h | h; exact .inl h; exact .inr (by omega))
          rw [← rowsTo_succ] at hsn
          have HSN := Lib.hid hsn
          have hgo := gb_trans (World.grownBy_alloc _ _ none) hg4
          have HB4 := Lib.hid ((HB.out.trans (HBQ.out.mono hz)).grown hgo (by omega) (fun r e => (hbl r e).1))
          clear hsn hg4 hV4 hgo hbl
          go_wp2
          go_roundw
          case rel => first
            | exact ⟨a + 1, _, by omega, by go_num, HB4.out, HSN.out, _, _, _, rfl⟩
            | ((repeat apply Exists.intro); exact ⟨⟨a + 1, _, by omega, by go_num, HB4.out, HSN.out, _, _, _, rfl⟩, rfl⟩)
          case measure => simp [intOf]; omega
    · have g0 : decide ((a : Int) < (n : Int)) = false := by simp; omega
      have e : a = n := by omega
      subst e
      go_wp2
      go_ret
      refine ⟨_, us, rfl, ?_, HBA.out.trans (HB.out.mono (by omega))⟩
      exact ⟨ownsRow_base HT.out.own (by omega), HT.out.len, fun k x hk => (HT.out.row k x hk).baseP (by omega), HT.out.ne, HT.out.inc⟩
end Go.Proofs.Ytahgialnhomefaa

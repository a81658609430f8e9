
/- CommonNeighbours of the program. CommonNeighbours of the model. The law FnExactCommonNeighbours returns true. How the laws' arguments are read. The dump's head word by word, cheaply: what every row asks of it. -/
import Derived.Test.YtahgialnhomefaaJ7
import Derived.Deep.RegionWith
import Derived.Test.YtahgialnhomefaaRows
import Derived.ProofKit
import Derived.OpenShut
import Derived.Deep.Slices
import Derived.Lib.SmallJoins
import Derived.ChangeOld
namespace Go.Proofs.Ytahgialnhomefaa
open Go.RowKit Go.Maps
set_option maxRecDepth 100000 in
set_option maxHeartbeats 2000000 in
theorem CommonNeighbours_any (v : Int) (s : Value) (bs : List Blk) (i k : Int) (w : World) (h : SB w s bs) :
    Calls Try.prog 43 #[.agg #[.int .i64 v, s], .int .i64 i, .int .i64 k] w (RV (comV v bs i k) w) := by
  have hs := h.slice
  have HI := Lib.hid fun W (hb : Below w.heap.size w W) => IsSystem_any v s bs W (h.below hb (Nat.le_refl _))
  have HSB := Lib.hid h
  have hlen := h.2.1
  clear h
  obtain ⟨a0, c0, rfl⟩ := hs
  cases hi : isSysImpl v bs with
  | false =>
    have HV := Lib.hid (show comV v bs i k = .tuple #[.int .i64 0, .int .i64 1] by simp [comV, comC, hi])
    rw [HV.out]
    rw [hi] at HI
    clear hi HSB HV
    go_enter Try.func43, Try.ntmps43
    go_wp2_with fail
    refine (HI.out _ ((Below.refl _ _).alloc (Nat.le_refl _) _)).mono ?_
    rintro e w1 ⟨rfl, hb1⟩
    have hb2 := below_new hb1
    clear hb1
    go_wp2
    go_ret2
    exact RV_of rfl hb2
  | true =>
    rw [hi] at HI
    have HN := Lib.hid fun p W => isBlockNumber_any v a0 bs.length c0 p W
    by_cases hc : inP (bs.length : Int) i = true ∧ inP (bs.length : Int) k = true ∧ i ≠ k
    case neg =>
      have HV := Lib.hid (show comV v bs i k = .tuple #[.int .i64 0, .int .i64 2] by simp [comV, comC, hi, if_neg hc])
      rw [HV.out]
      have HNi := Lib.hid (HN.out i)
      have HNk := Lib.hid (HN.out k)
      clear hi HSB HV HN
      cases h1 : inP (bs.length : Int) i with
      | false =>
        rw [h1] at HNi
        clear hc h1
        go_enter Try.func43, Try.ntmps43
        go_wp2_with fail
        refine (HI.out _ ((Below.refl _ _).alloc (Nat.le_refl _) _)).mono ?_
        rintro e w1 ⟨rfl, hb1⟩
        have hb2 := below_new hb1
        have q0 := cell_new hb1 0 rfl
        have q1 := cell_new hb1 1 rfl
        have hz := hb2.size
        clear hb1
        go_wp2_with fail
        refine (HNi.out _).mono ?_
        rintro e w2 ⟨rfl, hb3⟩
        have hb4 := hb2.trans (hb3.mono hz)
        go_wp2
        go_ret2
        exact RV_of rfl hb4
      | true =>
        rw [h1] at HNi
        cases h2 : inP (bs.length : Int) k with
        | false =>
          rw [h2] at HNk
          clear hc h1 h2
          go_enter Try.func43, Try.ntmps43
          go_wp2_with fail
          refine (HI.out _ ((Below.refl _ _).alloc (Nat.le_refl _) _)).mono ?_
          rintro e w1 ⟨rfl, hb1⟩
          have hb2 := below_new hb1
          have q0 := cell_new hb1 0 rfl
          have q1 := cell_new hb1 1 rfl
          have hz := hb2.size
          have hl1 := block_lt_of_cell q0
          clear hb1
          go_wp2_with fail
          refine (HNi.out _).mono ?_
          rintro e w2 ⟨rfl, hb3⟩
          have p0 := (hb3.cell (p := ⟨w.heap.size, 0, none⟩) hl1).trans q0
          have p1 := (hb3.cell (p := ⟨w.heap.size, 1, none⟩) hl1).trans q1
          have hb4 := hb2.trans (hb3.mono hz)
          have hz4 := hb4.size
          clear hb3 q0 q1
          go_wp2_with fail
          refine (HNk.out _).mono ?_
          rintro e w3 ⟨rfl, hb5⟩
          have hb6 := hb4.trans (hb5.mono hz4)
          go_wp2
          go_ret2
          exact RV_of rfl hb6
        | true =>
          rw [h2] at HNk
          have hik : i = k := Decidable.byContradiction fun h => hc ⟨h1, h2, h⟩
          subst hik
          clear hc h1 h2 HNk
          go_enter Try.func43, Try.ntmps43
          go_wp2_with fail
          refine (HI.out _ ((Below.refl _ _).alloc (Nat.le_refl _) _)).mono ?_
          rintro e w1 ⟨rfl, hb1⟩
          have hb2 := below_new hb1
          have q0 := cell_new hb1 0 rfl
          have q1 := cell_new hb1 1 rfl
          have hz := hb2.size
          have hl1 := block_lt_of_cell q0
          clear hb1
          go_wp2_with fail
          refine (HNi.out _).mono ?_
          rintro e w2 ⟨rfl, hb3⟩
          have p0 := (hb3.cell (p := ⟨w.heap.size, 0, none⟩) hl1).trans q0
          have p1 := (hb3.cell (p := ⟨w.heap.size, 1, none⟩) hl1).trans q1
          have hb4 := hb2.trans (hb3.mono hz)
          have hz4 := hb4.size
          clear hb3 q0 q1
          go_wp2_with fail
          refine (HNi.out _).mono ?_
          rintro e w3 ⟨rfl, hb5⟩
          have hb6 := hb4.trans (hb5.mono hz4)
          have ee : (i == i) = true := by simp
          go_wp2
          go_ret2
          exact RV_of rfl hb6
    have hcc := hc
    obtain ⟨h1, h2, h3⟩ := hc
    have hi1 : 0 ≤ i ∧ i < (bs.length : Int) := by simpa [inP] using h1
    have hk1 : 0 ≤ k ∧ k < (bs.length : Int) := by simpa [inP] using h2
    obtain ⟨p, rfl⟩ : ∃ p : Nat, i = (p : Int) := ⟨i.toNat, by omega⟩
    obtain ⟨q, rfl⟩ : ∃ q : Nat, k = (q : Int) := ⟨k.toNat, by omega⟩
    have HV := Lib.hid (show comV v bs (p : Int) (q : Int) = .tuple #[.int .i64 (comN bs p q bs.length : Int), .int .i64 0] by
      unfold comV comC
      rw [if_pos hi, if_pos hcc]
      rfl)
    rw [HV.out]
    have HM := Lib.hid fun (k : Nat) (hk : k < bs.length) W (hb : Below w.heap.size w W) => (show Calls Try.prog 75 #[.agg #[.int .i64 v, .slice a0 bs.length c0], .int .i64 (k : Int)] W (RJ (meetI (bs[k]?.getD default) k bs bs.length, 0) W) by
      have := MeetingBlocks_any v _ bs (k : Int) W (HSB.out.below hb (Nat.le_refl _))
      rw [show meetF v bs (k : Int) = (meetI (bs[k]?.getD default) k bs bs.length, 0) by simp [meetF, hi, inP, hk]] at this
      exact this)
    have HMp := Lib.hid (HM.out p (by omega))
    have HMq := Lib.hid (HM.out q (by omega))
    have HNi := Lib.hid (HN.out (p : Int))
    have HNk := Lib.hid (HN.out (q : Int))
    rw [h1] at HNi
    rw [h2] at HNk
    have hne : ((p : Int) == (q : Int)) = false := by simpa using h3
    have HSU := Lib.hid fun t => comN_succ (bs := bs) (i := p) (k := q) (t := t)
    have HEN := Lib.hid fun t => comN_end (bs := bs) (i := p) (k := q) (t := t)
    have HLE := Lib.hid (comN_le bs p q)
    have hmp := meetI_len (bs[p]?.getD default) p bs bs.length
    have hmq := meetI_len (bs[q]?.getD default) q bs bs.length
    clear hcc h1 h2 hi1 hk1 hi HV HM HN
    obtain ⟨F, hF⟩ : ∃ F, F = meetI (bs[p]?.getD default) p bs bs.length := ⟨_, rfl⟩
    obtain ⟨G, hG⟩ : ∃ G, G = meetI (bs[q]?.getD default) q bs bs.length := ⟨_, rfl⟩
    rw [← hF] at HMp HSU HEN hmp
    rw [← hG] at HMq HSU hmq
    clear hF hG
    go_enter Try.func43, Try.ntmps43
    go_wp2_with fail
    refine (HI.out _ ((Below.refl _ _).alloc (Nat.le_refl _) _)).mono ?_
    rintro e w1 ⟨rfl, hb1⟩
    have hb2 := below_new hb1
    have q0 := cell_new hb1 0 rfl
    have q1 := cell_new hb1 1 rfl
    have hz := hb2.size
    have hl1 := block_lt_of_cell q0
    clear hb1
    go_wp2_with fail
    refine (HNi.out _).mono ?_
    rintro e w2 ⟨rfl, hb3⟩
    have p0 := (hb3.cell (p := ⟨w.heap.size, 0, none⟩) hl1).trans q0
    have p1 := (hb3.cell (p := ⟨w.heap.size, 1, none⟩) hl1).trans q1
    have hb4 := hb2.trans (hb3.mono hz)
    have hz4 := hb4.size
    have hl2 := block_lt_of_cell p0
    clear hb3 q0 q1
    go_wp2_with fail
    refine (HNk.out _).mono ?_
    rintro e w3 ⟨rfl, hb5⟩
    have r0 := (hb5.cell (p := ⟨w.heap.size, 0, none⟩) hl2).trans p0
    have r1 := (hb5.cell (p := ⟨w.heap.size, 1, none⟩) hl2).trans p1
    have hb6 := hb4.trans (hb5.mono hz4)
    have hz6 := hb6.size
    have hl3 := block_lt_of_cell r0
    clear hb5 p0 p1 hb4
    go_wp2_with fail
    refine (HMp.out _ hb6).mono ?_
    rintro e w4 ⟨u4, rfl, hO4, hb7⟩
    have s0 := (hb7.cell (p := ⟨w.heap.size, 0, none⟩) hl3).trans r0
    have s1 := (hb7.cell (p := ⟨w.heap.size, 1, none⟩) hl3).trans r1
    have hb8 := hb6.trans (hb7.mono hz6)
    have hz8 := hb8.size
    have HIF := Lib.hid (OwnJ.ib (zs := F) hO4 (by omega))
    obtain ⟨a4, c4, rfl⟩ := hO4.slice
    clear hb7 r0 r1 hb6 hO4 hb2
    dsimp only at HIF ⊢
    go_wp2_with fail
    refine (HMq.out _ hb8).mono ?_
    rintro e w5 ⟨u5, rfl, hO5, hb9⟩
    have HB := Lib.hid (hb8.trans (hb9.mono hz8))
    have HIF5 := Lib.hid (HIF.out.below hb9 (Nat.le_refl _))
    have HIG := Lib.hid (OwnJ.ib (zs := G) hO5 (by omega))
    obtain ⟨a5, c5, rfl⟩ := hO5.slice
    clear hb9 hO5 hb8 s0 s1 HIF
    dsimp only at HIG
    go_wp2_with fail
    go_loop [12, 47] (fun o i => ∃ t : Nat, t ≤ F.length ∧ i = .int .i64 t ∧ o = .int .i64 (comN bs p q t : Int)) (fun _ i => F.length - (intOf i).toNat)
    case atStart => exact ⟨0, Nat.zero_le _, rfl, by simp [comN]⟩
    case round =>
      obtain ⟨t, ht, rfl, rfl⟩ := hrel
      by_cases htl : t < F.length
      · obtain ⟨b, off, rfl, hblt, hcell⟩ := HIF5.out.get htl
        have HS := Lib.hid (HSU.out t htl)
        have hle := HLE.out t
        obtain ⟨z, hz⟩ : ∃ z, z = F[t]?.getD 0 := ⟨_, rfl⟩
        rw [← hz] at hcell HS
        have HC := Lib.hid fun W (hb : W = w5) => ContainsI_any _ G z W (hb ▸ HIG.out)
        obtain ⟨β, hβ⟩ : ∃ β, β = inL z G := ⟨_, rfl⟩
        have HO := Lib.hid fun W => oneIf_any β W
        rw [← hβ] at HC HS
        obtain ⟨n, hn⟩ : ∃ n, n = comN bs p q t := ⟨_, rfl⟩
        rw [← hn] at HS hle ⊢
        have g0 : (0 : Int) ≤ (t : Int) := by omega
        have g1 : (t : Int) < (F.length : Int) := by omega
        clear hz hβ hn
        cases β with
        | false =>
          go_wp2_with fail
          refine (HC.out _ rfl).mono ?_
          rintro e w6 ⟨rfl, rfl⟩
          go_wp2_with fail
          refine (HO.out _).mono ?_
          rintro e w6 ⟨rfl, rfl⟩
          go_wp2
          go_round
          case rel => exact ⟨t + 1, by omega, by go_num, int_eq (by rw [HS.out]; first | simp | go_num)⟩
          case measure => simp [intOf]; omega
        | true =>
          go_wp2_with fail
          refine (HC.out _ rfl).mono ?_
          rintro e w6 ⟨rfl, rfl⟩
          go_wp2_with fail
          refine (HO.out _).mono ?_
          rintro e w6 ⟨rfl, rfl⟩
          go_wp2
          go_round
          case rel => exact ⟨t + 1, by omega, by go_num, int_eq (by rw [HS.out]; first | go_num | (simp; omega))⟩
          case measure => simp [intOf]; omega
      · have HE := Lib.hid (HEN.out t (by omega))
        have e : t = F.length := by omega
        clear htl
        subst e
        go_wp2
        go_ret2
        exact RV_of (by rw [HE.out]; rfl) HB.out
end Go.Proofs.Ytahgialnhomefaa

namespace Go.Proofs.Ytahgialnhomefaa
open Go.RowKit Go.Maps
/-- The model's count. -/
def comM (bs : List Blk) (p q t : Nat) : Nat := ((List.range t).filter fun j => (decide (j ≠ p) && decide (j ≠ q)) && (decide (0 < commonN (bs[p]?.getD default) (bs[j]?.getD default)) && decide (0 < commonN (bs[q]?.getD default) (bs[j]?.getD default)))).length
theorem comM_succ (bs : List Blk) (p q t : Nat) : comM bs p q (t + 1) = comM bs p q t + if (decide (t ≠ p) && decide (t ≠ q)) && (decide (0 < commonN (bs[p]?.getD default) (bs[t]?.getD default)) && decide (0 < commonN (bs[q]?.getD default) (bs[t]?.getD default))) then 1 else 0 := by
  unfold comM
  rw [List.range_succ, List.filter_append, List.length_append, List.filter_cons, List.filter_nil]
  split <;> rfl
theorem comM_le (bs : List Blk) (p q t : Nat) : comM bs p q t ≤ t := by
  unfold comM
  exact Nat.le_trans (List.length_filter_le _ _) (by simp)
theorem inL_meet {x : Blk} {q : Nat} {bs : List Blk} {j : Nat} (hj : j < bs.length) : inL (j : Int) (meetI x q bs bs.length) = (decide (j ≠ q) && touch (bs[j]?.getD default) x) := by
  unfold inL meetI meetN
  rw [Bool.eq_iff_iff, List.any_eq_true]
  constructor
  · rintro ⟨z, hz, he⟩
    obtain ⟨m, hm, rfl⟩ := List.mem_map.1 hz
    have : j = m := by have := beq_iff_eq.1 he; omega
    subst this
    exact (List.mem_filter.1 hm).2
  · intro h
    exact ⟨(j : Int), List.mem_map.2 ⟨j, List.mem_filter.2 ⟨List.mem_range.2 hj, h⟩, rfl⟩, by simp⟩
theorem comM_eq (bs : List Blk) (p q : Nat) : comM bs p q bs.length = comN bs p q bs.length := by
  unfold comM comN
  rw [List.take_of_length_le (meetI_len _ _ _ _)]
  have e : (meetI (bs[p]?.getD default) p bs bs.length).filter (fun z => inL z (meetI (bs[q]?.getD default) q bs bs.length)) = ((meetN (bs[p]?.getD default) p bs bs.length).filter fun (j : Nat) => inL (j : Int) (meetI (bs[q]?.getD default) q bs bs.length)).map fun (j : Nat) => (j : Int) := by
    unfold meetI
    rw [List.filter_map]
    rfl
  rw [e, List.length_map]
  unfold meetN
  rw [List.filter_filter]
  congr 1
  apply List.filter_congr
  intro j hj
  rw [inL_meet (List.mem_range.1 hj), touch_common, touch_common]
  cases decide (j ≠ p) <;> cases decide (j ≠ q) <;> simp [Bool.and_comm]
theorem numCode_cases (v : Int) (bs : List Blk) (i : Int) : (isSysImpl v bs = false ∧ numCode v bs i = 1) ∨ (isSysImpl v bs = true ∧ inP (bs.length : Int) i = false ∧ numCode v bs i = 2) ∨ (isSysImpl v bs = true ∧ inP (bs.length : Int) i = true ∧ numCode v bs i = 0) := by
  unfold numCode
  cases isSysImpl v bs <;> cases inP (bs.length : Int) i <;> simp
theorem comV_err {v : Int} {bs : List Blk} {i k : Int} {c : Int} (h : comC v bs i k = c) (hc : c ≠ 0) : comV v bs i k = .tuple #[.int .i64 0, .int .i64 c] := by
  unfold comV
  rw [h, if_neg hc]
set_option maxRecDepth 100000 in
set_option maxHeartbeats 2000000 in
theorem specCommonNeighbours_any (v : Int) (s : Value) (bs : List Blk) (i k : Int) (w : World) (h : SB w s bs) :
    Calls Try.prog 42 #[.agg #[.int .i64 v, s], .int .i64 i, .int .i64 k] w (RV (comV v bs i k) w) := by
  have hs := h.slice
  have HNi := Lib.hid fun W (hb : Below w.heap.size w W) => l05Number_any v s bs i W (h.below hb (Nat.le_refl _))
  have HNk := Lib.hid fun W (hb : Below w.heap.size w W) => l05Number_any v s bs k W (h.below hb (Nat.le_refl _))
  have HSB := Lib.hid h
  have hlen := h.2.1
  clear h
  obtain ⟨a0, c0, rfl⟩ := hs
  have hbA : Below w.heap.size w (w.alloc (.cells #[.int .i64 v, .slice a0 bs.length c0] 30)) := (Below.refl _ _).alloc (Nat.le_refl _) _
  rcases numCode_cases v bs i with ⟨hi, hn⟩ | ⟨hi, hp, hn⟩ | ⟨hi, hp, hn⟩
  · have HV := Lib.hid (comV_err (v := v) (bs := bs) (i := i) (k := k) (c := 1) (by simp [comC, hi]) (by decide))
    rw [HV.out]
    rw [hn] at HNi
    clear hi hn HSB HV HNk
    go_enter Try.func42, Try.ntmps42
    go_wp2_with fail
    refine (HNi.out _ hbA).mono ?_
    rintro e w1 ⟨rfl, hb1⟩
    have hb2 := below_new hb1
    clear hb1 hbA
    go_wp2
    go_ret2
    exact RV_of rfl hb2
  · have HV := Lib.hid (comV_err (v := v) (bs := bs) (i := i) (k := k) (c := 2) (by simp [comC, hi, hp]) (by decide))
    rw [HV.out]
    rw [hn] at HNi
    clear hi hn HSB HV HNk hp
    go_enter Try.func42, Try.ntmps42
    go_wp2_with fail
    refine (HNi.out _ hbA).mono ?_
    rintro e w1 ⟨rfl, hb1⟩
    have hb2 := below_new hb1
    clear hb1 hbA
    go_wp2
    go_ret2
    exact RV_of rfl hb2
  · rw [hn] at HNi
    clear hn
    rcases numCode_cases v bs k with ⟨hi', _⟩ | ⟨_, hq, hn⟩ | ⟨_, hq, hn⟩
    · rw [hi] at hi'; cases hi'
    · have HV := Lib.hid (comV_err (v := v) (bs := bs) (i := i) (k := k) (c := 2) (by simp [comC, hi, hp, hq]) (by decide))
      rw [HV.out]
      rw [hn] at HNk
      clear hi hn HSB HV hp hq
      go_enter Try.func42, Try.ntmps42
      go_wp2_with fail
      refine (HNi.out _ hbA).mono ?_
      rintro e w1 ⟨rfl, hb1⟩
      have hb2 := below_new hb1
      have q0 := cell_new hb1 0 rfl
      have q1 := cell_new hb1 1 rfl
      have hz := hb2.size
      clear hb1 hbA
      go_wp2_with fail
      refine (HNk.out _ hb2).mono ?_
      rintro e w2 ⟨rfl, hb3⟩
      have hb4 := hb2.trans (hb3.mono hz)
      clear hb3
      go_wp2
      go_ret2
      exact RV_of rfl hb4
    · rw [hn] at HNk
      clear hn
      by_cases hik : i = k
      · subst hik
        have HV := Lib.hid (comV_err (v := v) (bs := bs) (i := i) (k := i) (c := 2) (by simp [comC, hi]) (by decide))
        rw [HV.out]
        have ee : (i == i) = true := by simp
        clear hi HSB HV hp hq
        go_enter Try.func42, Try.ntmps42
        go_wp2_with fail
        refine (HNi.out _ hbA).mono ?_
        rintro e w1 ⟨rfl, hb1⟩
        have hb2 := below_new hb1
        have q0 := cell_new hb1 0 rfl
        have q1 := cell_new hb1 1 rfl
        have hz := hb2.size
        clear hb1 hbA
        go_wp2_with fail
        refine (HNk.out _ hb2).mono ?_
        rintro e w2 ⟨rfl, hb3⟩
        have hb4 := hb2.trans (hb3.mono hz)
        clear hb3
        go_wp2
        go_ret2
        exact RV_of rfl hb4
      have hi1 : 0 ≤ i ∧ i < (bs.length : Int) := by simpa [inP] using hp
      have hk1 : 0 ≤ k ∧ k < (bs.length : Int) := by simpa [inP] using hq
      have hcc : inP (bs.length : Int) i = true ∧ inP (bs.length : Int) k = true ∧ i ≠ k := ⟨hp, hq, hik⟩
      obtain ⟨p, rfl⟩ : ∃ p : Nat, i = (p : Int) := ⟨i.toNat, by omega⟩
      obtain ⟨q, rfl⟩ : ∃ q : Nat, k = (q : Int) := ⟨k.toNat, by omega⟩
      have HV := Lib.hid (show comV v bs (p : Int) (q : Int) = .tuple #[.int .i64 (comM bs p q bs.length : Int), .int .i64 0] by
        rw [comM_eq]
        unfold comV comC
        rw [if_pos hi, if_pos hcc]
        rfl)
      rw [HV.out]
      have hne : ((p : Int) == (q : Int)) = false := by simpa using hik
      have hpl : p < bs.length := by omega
      have hql : q < bs.length := by omega
      have p0 : (0 : Int) ≤ (p : Int) := by omega
      have p1 : (p : Int) < (bs.length : Int) := by omega
      have q0 : (0 : Int) ≤ (q : Int) := by omega
      have q1 : (q : Int) < (bs.length : Int) := by omega
      have HSU := Lib.hid (comM_succ bs p q)
      have HLE := Lib.hid (comM_le bs p q)
      clear hi hp hq hik hi1 hk1 hcc HV
      have HC6 := Lib.hid fun (a b c d e f : Int) W => (show Calls Try.prog 73 #[.agg #[.int .i64 a, .int .i64 b, .int .i64 c], .agg #[.int .i64 d, .int .i64 e, .int .i64 f]] W _ from l01Common_any ⟨a, b, c⟩ ⟨d, e, f⟩ W)
      go_enter Try.func42, Try.ntmps42
      go_wp2_with fail
      refine (HNi.out _ hbA).mono ?_
      rintro e w1 ⟨rfl, hb1⟩
      have hb2 := below_new hb1
      have t0 := cell_new hb1 0 rfl
      have t1 := cell_new hb1 1 rfl
      have hz := hb2.size
      have hl1 := block_lt_of_cell t0
      clear hb1 hbA
      go_wp2_with fail
      refine (HNk.out _ hb2).mono ?_
      rintro e w2 ⟨rfl, hb3⟩
      have s1 := (hb3.cell (p := ⟨w.heap.size, 1, none⟩) hl1).trans t1
      have hb4 := hb2.trans (hb3.mono hz)
      have hl2 := block_lt_of_cell s1
      have HB2 := Lib.hid hb4
      clear hb3 t0 t1 hb2 hb4
      rcases HSB.out.2.2 with ⟨_, _, _, hnil⟩ | ⟨b, off, cap, hv, hblt, hbl⟩
      · exfalso; rw [hnil] at hpl; simp at hpl
      simp at hv
      obtain ⟨rfl, rfl⟩ := hv
      have HBL := Lib.hid (hbl.below HB2.out hblt)
      have hb1lt : b < w2.heap.size := by have := HB2.out.size; omega
      clear hbl
      go_wp2_with fail
      go_loopw [9, 10] (fun o i wr => ∃ t : Nat, t ≤ bs.length ∧ i = .int .i64 t ∧ o = .int .i64 (comM bs p q t : Int) ∧ Below w2.heap.size w2 wr) (fun _ i _ => bs.length - (intOf i).toNat)
      case atStart => exact ⟨0, Nat.zero_le _, rfl, by simp [comM], Below.refl _ _⟩
      case round =>
        obtain ⟨t, ht, rfl, rfl, hB⟩ := hrel
        have r1 := (hB.cell (p := ⟨w.heap.size, 1, none⟩) hl2).trans s1
        have HB := Lib.hid hB
        by_cases htl : t < bs.length
        · obtain ⟨y1, y2, y3⟩ := (HBL.out.below hB hb1lt) t htl
          obtain ⟨x1, x2, x3⟩ := (HBL.out.below hB hb1lt) p hpl
          obtain ⟨z1, z2, z3⟩ := (HBL.out.below hB hb1lt) q hql
          have hsu := HSU.out t
          have hle := HLE.out t
          obtain ⟨x, hx⟩ : ∃ x, x = bs[p]?.getD default := ⟨_, rfl⟩
          obtain ⟨y, hy⟩ : ∃ y, y = bs[t]?.getD default := ⟨_, rfl⟩
          obtain ⟨z, hz⟩ : ∃ z, z = bs[q]?.getD default := ⟨_, rfl⟩
          rw [← hy] at y1 y2 y3 hsu
          rw [← hx] at x1 x2 x3 hsu
          rw [← hz] at z1 z2 z3 hsu
          obtain ⟨c, hcm⟩ : ∃ c, c = comM bs p q t := ⟨_, rfl⟩
          rw [← hcm] at hsu hle ⊢
          have HSUC := Lib.hid hsu
          have g0 : (0 : Int) ≤ (t : Int) := by omega
          have g1 : (t : Int) < (bs.length : Int) := by omega
          clear hx hy hz hcm hsu hB
          obtain ⟨xa, xb, xc⟩ := x
          obtain ⟨ya, yb, yc⟩ := y
          obtain ⟨za, zb, zc⟩ := z
          dsimp only at y1 y2 y3 x1 x2 x3 z1 z2 z3
          have y1 := cell_regrown y1
          have y2 := cell_regrown y2
          have y3 := cell_regrown y3
          have x1 := cell_regrown x1
          have x2 := cell_regrown x2
          have x3 := cell_regrown x3
          have z1 := cell_regrown z1
          have z2 := cell_regrown z2
          have z3 := cell_regrown z3
          have rr := r1
          have r1 := cell_regrown r1
          by_cases hkp : t = p
          · have e1 : ((t : Int) != (p : Int)) = false := by simp; omega
            have HS := Lib.hid (show comM bs p q (t + 1) = c by rw [HSUC.out]; simp [hkp])
            clear hkp
            go_wp2
            refine wp_region_quiet_below (by kernel_rfl) (by kernel_rfl) ?_
            repeat (go_big_quiet_step (fail))
            refine wpQuiet_nil ?_
            intro _ hw'
            obtain ⟨⟨dq, osq⟩, hw''⟩ := hw'
            subst hw''
            have hbq := below_regrown wr dq osq
            go_wp2
            go_roundw
            case rel => exact ⟨t + 1, by omega, by go_num, by rw [HS.out], HB.out.trans (hbq.mono HB.out.size)⟩
            case measure => simp [intOf]; omega
          have e1 : ((t : Int) != (p : Int)) = true := by simp; omega
          by_cases hkq : t = q
          · have e2 : ((t : Int) != (q : Int)) = false := by simp; omega
            have HS := Lib.hid (show comM bs p q (t + 1) = c by rw [HSUC.out]; simp [hkq])
            clear hkp hkq
            go_wp2
            refine wp_region_quiet_below (by kernel_rfl) (by kernel_rfl) ?_
            repeat (go_big_quiet_step (fail))
            refine wpQuiet_nil ?_
            intro _ hw'
            obtain ⟨⟨dq, osq⟩, hw''⟩ := hw'
            subst hw''
            have hbq := below_regrown wr dq osq
            go_wp2
            go_roundw
            case rel => exact ⟨t + 1, by omega, by go_num, by rw [HS.out], HB.out.trans (hbq.mono HB.out.size)⟩
            case measure => simp [intOf]; omega
          have e2 : ((t : Int) != (q : Int)) = true := by simp; omega
          by_cases hn0 : 0 < commonN ⟨xa, xb, xc⟩ ⟨ya, yb, yc⟩
          · have d1 : decide ((0 : Int) < (commonN ⟨xa, xb, xc⟩ ⟨ya, yb, yc⟩ : Int)) = true := by simp; omega
            by_cases hm0 : 0 < commonN ⟨za, zb, zc⟩ ⟨ya, yb, yc⟩
            · have d2 : decide ((0 : Int) < (commonN ⟨za, zb, zc⟩ ⟨ya, yb, yc⟩ : Int)) = true := by simp; omega
              have HS := Lib.hid (show comM bs p q (t + 1) = c + 1 by rw [HSUC.out]; simp [hkp, hkq, hn0, hm0])
              clear hkp hkq
              go_wp2
              refine wp_region_quiet_below (by kernel_rfl) (by kernel_rfl) ?_
              repeat (go_big_quiet_step (exact Calls.regrown_of (HC6.out _ _ _ _ _ _ _)))
              refine wpQuiet_nil ?_
              intro _ hw'
              obtain ⟨⟨dq, osq⟩, hw''⟩ := hw'
              subst hw''
              have hbq := below_regrown wr dq osq
              go_wp2
              go_roundw
              case rel => exact ⟨t + 1, by omega, by go_num, by rw [HS.out]; go_num, HB.out.trans (hbq.mono HB.out.size)⟩
              case measure => simp [intOf]; omega
            · have d2 : decide ((0 : Int) < (commonN ⟨za, zb, zc⟩ ⟨ya, yb, yc⟩ : Int)) = false := by simp; omega
              have HS := Lib.hid (show comM bs p q (t + 1) = c by rw [HSUC.out]; simp [hm0])
              clear hkp hkq
              go_wp2
              refine wp_region_quiet_below (by kernel_rfl) (by kernel_rfl) ?_
              repeat (go_big_quiet_step (exact Calls.regrown_of (HC6.out _ _ _ _ _ _ _)))
              refine wpQuiet_nil ?_
              intro _ hw'
              obtain ⟨⟨dq, osq⟩, hw''⟩ := hw'
              subst hw''
              have hbq := below_regrown wr dq osq
              go_wp2
              go_roundw
              case rel => exact ⟨t + 1, by omega, by go_num, by rw [HS.out], HB.out.trans (hbq.mono HB.out.size)⟩
              case measure => simp [intOf]; omega
          · have d1 : decide ((0 : Int) < (commonN ⟨xa, xb, xc⟩ ⟨ya, yb, yc⟩ : Int)) = false := by simp; omega
            have HS := Lib.hid (show comM bs p q (t + 1) = c by rw [HSUC.out]; simp [hn0])
            clear hkp hkq
            go_wp2
            refine wp_region_quiet_below (by kernel_rfl) (by kernel_rfl) ?_
            repeat (go_big_quiet_step (exact Calls.regrown_of (HC6.out _ _ _ _ _ _ _)))
            refine wpQuiet_nil ?_
            intro _ hw'
            obtain ⟨⟨dq, osq⟩, hw''⟩ := hw'
            subst hw''
            have hbq := below_regrown wr dq osq
            go_wp2
            go_roundw
            case rel => exact ⟨t + 1, by omega, by go_num, by rw [HS.out], HB.out.trans (hbq.mono HB.out.size)⟩
            case measure => simp [intOf]; omega
        · have e : t = bs.length := by omega
          subst e
          go_wp2
          go_ret2
          exact RV_of rfl (HB2.out.trans (hB.mono HB2.out.size))
end Go.Proofs.Ytahgialnhomefaa

namespace Go.Proofs.Ytahgialnhomefaa
open Go.RowKit Go.Maps
set_option maxRecDepth 100000 in
theorem FnExactCommonNeighbours_long (v : Int) (s : Value) (bs : List Blk) (pa pb : Int)  (w : World) (h : InB w s bs) (hl : ¬ bs.length ≤ 1048576) : Calls Try.prog 13 #[.agg #[.int .i64 v, s], .int .i64 pa, .int .i64 pb] w (RV (.bool true) w) := by
  have hsl := h.slice
  have hbd := h.2.1
  have hsz := szSystem_any v s bs.length hsl (by omega) 1048576 (by omega) (by omega)
  rw [if_pos (by omega)] at hsz
  have HSZ := Lib.hid hsz
  clear hsz h
  obtain ⟨a, c, rfl⟩ := hsl
  go_enter Try.func13, Try.ntmps13
  go_wp2_with (go_at_call 14; refine (HSZ.out _).mono ?_; rintro e w1 ⟨rfl, hb1⟩)
  go_ret
  exact RV_of rfl (((Below.refl _ _).alloc (Nat.le_refl _) _).trans (hb1.mono (by simp)))

set_option maxRecDepth 100000 in
set_option maxHeartbeats 1000000 in
theorem FnExactCommonNeighbours_main (v : Int) (s : Value) (bs : List Blk) (pa pb : Int)  (_h1 : WF pa) (_h2 : WF pb) (w : World) (h : InB w s bs) (hl : bs.length ≤ 1048576) : Calls Try.prog 13 #[.agg #[.int .i64 v, s], .int .i64 pa, .int .i64 pb] w (RV (.bool true) w) := by
  have hsl := h.slice
  have hbd := h.2.1
  have hsz := szSystem_any v s bs.length hsl (by omega) 1048576 (by omega) (by omega)
  have hsb := h.sb hl
  rw [if_neg (by omega)] at hsz
  obtain ⟨m, hm⟩ : ∃ m, m = (1048576 : Int) - (bs.length : Int) := ⟨_, rfl⟩
  rw [← hm] at hsz
  have hm0 : 0 ≤ m := by omega
  have HSZ := Lib.hid hsz
  have HSB := Lib.hid hsb
  have hwf := h.1
  have HWF := Lib.hid hwf
  have HBD := Lib.hid (show bs.length ≤ 1100000 by omega)
  clear hsz hsb hm h hl hbd hwf
  have hsp : ∀ (W : World) (t : Value), SB W t bs → Calls Try.prog 42 #[.agg #[.int .i64 v, t], .int .i64 pa, .int .i64 pb] W (RV (comV v bs pa pb) W) := fun W t ht => specCommonNeighbours_any v t bs pa pb W ht
  have him : ∀ (W : World) (t : Value), SB W t bs → Calls Try.prog 43 #[.agg #[.int .i64 v, t], .int .i64 pa, .int .i64 pb] W (RV (comV v bs pa pb) W) := fun W t ht => CommonNeighbours_any v t bs pa pb W ht
  obtain ⟨η, κ, hval⟩ : ∃ η κ, comV v bs pa pb = .tuple #[.int .i64 η, .int .i64 κ] := by
    unfold comV
    repeat (first | exact ⟨_, _, rfl⟩ | split)
  rw [hval] at hsp him
  have HSP := Lib.hid hsp
  have HIM := Lib.hid him
  clear hval hsp him
  have hne1 : (η != η) = false := by simp
  have hne2 : (κ != κ) = false := by simp
  obtain ⟨a, c, rfl⟩ := hsl
  go_enter Try.func13, Try.ntmps13
  go_wp2_with fail
  refine (HSZ.out _).mono ?_
  rintro e w1 ⟨rfl, hb1⟩
  have p0 := cell_new hb1 0 rfl
  have p1 := cell_new hb1 1 rfl
  have hz1 := hb1.size
  simp at hz1
  have hbw : Below w.heap.size w w1 := ((Below.refl _ _).alloc (Nat.le_refl _) _).trans (hb1.mono (by simp))
  clear hb1
  go_wp2_with fail
  refine (toSystem_any v _ bs _ (HSB.out.below hbw (Nat.le_refl _))).mono ?_
  rintro e w2 ⟨s2, rfl, ho2, hb2⟩
  have hsb2 := ho2.sb HWF.out HBD.out
  go_wp2_with fail
  refine (HSP.out _ _ hsb2).mono ?_
  rintro e w3 ⟨rfl, hb3⟩
  have hb13 := hb2.trans (hb3.mono hb2.size)
  have p0' := (hb13.cell (p := ⟨w.heap.size, 0, none⟩) (by show w.heap.size < _; omega)).trans p0
  have p1' := (hb13.cell (p := ⟨w.heap.size, 1, none⟩) (by show w.heap.size < _; omega)).trans p1
  have hz3 := hb13.size
  have hbw3 := hbw.trans (hb13.mono (by omega))
  clear p0 p1 hb2 hb3 hb13 ho2 hsb2 hbw
  go_wp2_with fail
  refine (toSystem_any v _ bs _ (HSB.out.below hbw3 (Nat.le_refl _))).mono ?_
  rintro e w4 ⟨s4, rfl, ho4, hb4⟩
  obtain ⟨g, cap, hs4, h41, h42, h43, h44⟩ := id ho4
  subst hs4
  have p0 := (hb4.cell (p := ⟨w.heap.size, 0, none⟩) (by show w.heap.size < _; omega)).trans p0'
  have p1 := (hb4.cell (p := ⟨w.heap.size, 1, none⟩) (by show w.heap.size < _; omega)).trans p1'
  have hz4 := hb4.size
  have hbw4 := hbw3.trans (hb4.mono (by omega))
  have hsb4 := ho4.sb HWF.out HBD.out
  clear p0' p1' hb4 hbw3 h41 h43 h44 ho4
  go_wp2_with fail
  refine (HIM.out _ _ (hsb4.below ((Below.refl _ _).alloc (Nat.le_refl _) _) (Nat.le_refl _))).mono ?_
  rintro e w5 ⟨rfl, hb5⟩
  have q0 := cell_new hb5 0 rfl
  have q1 := cell_new hb5 1 rfl
  have p0' := (hb5.cell (p := ⟨w.heap.size, 0, none⟩) (by simp; omega)).trans (cell_past p0 (by omega))
  have p1' := (hb5.cell (p := ⟨w.heap.size, 1, none⟩) (by simp; omega)).trans (cell_past p1 (by omega))
  have hz5 := hb5.size
  simp at hz5
  have hbw5 := (hbw4.alloc hbw4.size _).trans (hb5.mono (by simp; omega))
  have hsb5 := hsb4.below (((Below.refl _ _).alloc (Nat.le_refl _) _).trans (hb5.mono (by simp))) (Nat.le_refl _)
  clear p0 p1 hb5 hbw4 hsb4
  go_wp2
  go_region_with (first | (go_at_call 16; refine (toSystem_any v _ bs _ ?_).mono ?_; (exact HSB.out.below hbw5.drew (Nat.le_refl _)); rintro e w6 ⟨s6, rfl, ho6, hb6⟩; obtain ⟨g6, cap6, hs6, h61, h62, h63, h64⟩ := id ho6; subst hs6; have hsb6 := ho6.sb HWF.out HBD.out; have hsb56 := hsb5.below (Below.trans (Below.refl _ _).drew hb6) (Nat.le_refl _); have r0 := (hb6.cell (p := ⟨w4.heap.size, 0, none⟩) (by show w4.heap.size < _; simp; omega)).trans q0; have r1 := (hb6.cell (p := ⟨w4.heap.size, 1, none⟩) (by show w4.heap.size < _; simp; omega)).trans q1) | (go_at_call 18; refine (eqSystem_same v _ _ bs _ ?_ ?_).mono ?_; (exact hsb56); (exact hsb6); rintro e w7 ⟨rfl, hb7⟩))
  all_goals go_wp2
  all_goals go_ret
  all_goals exact RV_of rfl (hbw5.drew.trans ((hb6.mono (by simp; omega)).trans (hb7.mono (by have := hb6.size; simp at this; omega))))

theorem FnExactCommonNeighbours_any (v : Int) (s : Value) (bs : List Blk) (pa pb : Int)  (_h1 : WF pa) (_h2 : WF pb) (w : World) (h : InB w s bs) : Calls Try.prog 13 #[.agg #[.int .i64 v, s], .int .i64 pa, .int .i64 pb] w (RV (.bool true) w) := by
  by_cases hl : bs.length ≤ 1048576
  · exact FnExactCommonNeighbours_main v s bs pa pb  _h1 _h2 w h hl
  · exact FnExactCommonNeighbours_long v s bs pa pb  w h hl
end Go.Proofs.Ytahgialnhomefaa

namespace Go.Proofs.Ytahgialnhomefaa
open Go.ChangeShapes Go.WideShapes Go.ChangeAt Go.RowKit Go.Deep Go.Joins
theorem ownKnobs : ownKnob Try.prog.godebug = none := by kernel_rfl
section
variable {H : Type} {enc : TypeId × Value → H} {W : World} {base : Nat} {held : Bool}
theorem arrCells : Try.prog.cellsOf 83 = 3 := by kernel_rfl
set_option maxRecDepth 100000 in
theorem open_arr3 {fuel : Nat} {cs : List Value} {x : DataW H × List MemPlace} (h : DataW.trod enc Try.prog W base (fun _ => true) held fuel 83 cs = some x) :
    ∃ a b c : Int, cs = [.int .i64 a, .int .i64 b, .int .i64 c] ∧ (Lit.int .i64 a).wf = true ∧ (Lit.int .i64 b).wf = true ∧ (Lit.int .i64 c).wf = true := by
  obtain ⟨xs, m, rfl, rfl, hl, hx, hat⟩ := DataW.trod_array Try.underlying83 h
  rw [arrCells] at hl
  match cs, hl with
  | [c0, c1, c2], _ =>
    match xs, hx with
    | [x0, x1, x2], _ =>
      have h0 := hat 0 (by omega)
      have h1 := hat 1 (by omega)
      have h2 := hat 2 (by omega)
      rw [int64Cells] at h0 h1 h2
      simp at h0 h1 h2
      obtain ⟨a, ha, _, wa⟩ := DataW.trod_int Try.underlying2 h0
      obtain ⟨b, hb, _, wb⟩ := DataW.trod_int Try.underlying2 h1
      obtain ⟨c, hc, _, wc⟩ := DataW.trod_int Try.underlying2 h2
      simp at ha hb hc
      exact ⟨a, b, c, by rw [ha, hb, hc], wa, wb, wc⟩
theorem add_at (b off i : Nat) : (⟨b, off, none⟩ : Addr).add i = ⟨b, off + i, none⟩ := by
  unfold Addr.add
  split
  · subst_vars; rfl
  · rfl
set_option maxRecDepth 100000 in
theorem open_arrs {fuel : Nat} {s : Value} {x : DataW H × List MemPlace} (h : DataW.trod enc Try.prog W base (fun _ => true) held fuel 22 [s] = some x) : ∃ bs, InB W s bs := by
  rcases open_slice Try.underlying22 h with ⟨hcs, _⟩ | ⟨a, len, cap, m, n, D, Pl, hcs, hb, hl, hm, hmm, hx, hi⟩
  · simp at hcs
    exact ⟨[], by simp, by simp, .inl ⟨none, 0, hcs, rfl⟩⟩
  · simp at hcs
    subst hcs
    simp at hmm
    subst hmm
    have hm' : m ≤ 9223372036854775807 := by unfold maxLen at hm; exact hm
    by_cases h0 : len = 0
    · subst h0
      exact ⟨[], by simp, by simp, .inl ⟨_, _, rfl, rfl⟩⟩
    · have cell : ∀ i, i < m → ∃ y : Blk, WFB y ∧ ∀ j (v : Value), [Value.int .i64 y.a, Value.int .i64 y.b, Value.int .i64 y.c][j]? = some v → W.cell? (a.add (i * 3 + j)) = some v := fun i him => by
        obtain ⟨cs', hc, ht⟩ := hi i him
        obtain ⟨p, q, r, rfl, wp, wq, wr⟩ := open_arr3 ht
        rw [arrCells] at hc
        obtain ⟨_, _, hat⟩ := World.cells?_some hc
        refine ⟨⟨p, q, r⟩, ⟨wp, wq, wr⟩, fun j v hv => ?_⟩
        have hj : j < 3 := by
          have := (List.getElem?_eq_some_iff.1 hv).1
          simpa using this
        rw [← Go.Deep.add_add, hat j hj]
        exact hv
      obtain ⟨F, hF⟩ := choose_lt (α := Blk) cell
      obtain ⟨b, off, spot⟩ := a
      have hc0 := (hF 0 (by omega)).2 0 _ rfl
      have hspot : spot = none := by simpa [Addr.add] using World.cell?_spot hc0
      subst hspot
      refine ⟨(List.range len).map F, ?_, by simp; omega, .inr ⟨b, off, m, by simp, ?_, ?_⟩⟩
      · intro y hy
        obtain ⟨i, hi', rfl⟩ := List.mem_map.1 hy
        exact (hF i (by have := List.mem_range.1 hi'; omega)).1
      · exact block_lt_of_cell hc0
      · intro k hk
        simp at hk
        have e : ((List.range len).map F)[k]?.getD default = F k := by simp [hk]
        rw [e]
        have := (hF k (by omega)).2
        refine ⟨?_, ?_, ?_⟩
        · have h0 := this 0 _ rfl
          rw [add_at] at h0
          exact h0
        · have h1 := this 1 _ rfl
          rw [add_at, ← Nat.add_assoc] at h1
          exact h1
        · have h2 := this 2 _ rfl
          rw [add_at, ← Nat.add_assoc] at h2
          exact h2
theorem isSys : ∃ f0 f1 : Field, Try.prog.underlying 24 = some (.struct #[f0, f1]) ∧ f0.type = 2 ∧ f1.type = 22 ∧ oneCellFields Try.prog #[f0, f1] = true :=
  ⟨_, _, Try.underlying24, rfl, rfl, by kernel_rfl⟩
theorem sysCells : Try.prog.cellsOf 24 = 2 := by kernel_rfl
set_option maxRecDepth 100000 in
theorem open_system {r : Reach} {b0 : Nat} {v : Value} {d : DataW H} {p : List MemPlace} (hv : Value.okWide Try.prog W r b0 24 v) (h : DataW.Trod enc Try.prog W base (fun _ => true) held 24 v d p) :
    ∃ (n : Int) (s : Value) (bs : List Blk), v = .agg #[.int .i64 n, s] ∧ WF n ∧ InB W s bs := by
  obtain ⟨f0, f1, hu, e0, e1, hone⟩ := isSys
  obtain ⟨v0, v1, y0, y1, n, rfl, _, _, h0, h1⟩ := open_agg2 hu hone sysCells hv h
  rw [e0] at h0
  rw [e1] at h1
  obtain ⟨k, hk, _, wk⟩ := DataW.trod_int Try.underlying2 h0
  simp at hk
  subst hk
  obtain ⟨bs, hbs⟩ := open_arrs h1
  exact ⟨k, v1, bs, rfl, wk, hbs⟩
end
end Go.Proofs.Ytahgialnhomefaa

namespace Go.Proofs.Ytahgialnhomefaa
set_option maxRecDepth 100000 in
noncomputable def iniP : { L : List Char // Try.prog.initOrder = String.ofList L } := ⟨_, by unfold Try.prog; rfl⟩
theorem iniL : Try.prog.initOrder.toList = iniP.1 := (congrArg String.toList iniP.2).trans String.toList_ofList
theorem words_cons (c : Char) (r : List Char) (h : c ≠ Char.ofNat 32) : wordsSigns (c :: r) = match wordsSigns r with | w :: ws => (c :: w) :: ws | [] => [[c]] := by
  rw [wordsSigns]
  all_goals first | rfl | exact h | (intro e; exact h e)
theorem words_word : ∀ (a b : List Char), (a.all fun c => c != Char.ofNat 32) = true → wordsSigns (a ++ Char.ofNat 32 :: b) = a :: wordsSigns b
  | [], b, _ => rfl
  | c :: a, b, h => by
    simp only [List.all_cons, Bool.and_eq_true, bne_iff_ne, ne_eq] at h
    rw [List.cons_append, words_cons _ _ h.1, words_word a b (by simpa using h.2)]
set_option maxRecDepth 100000 in
theorem split1 : iniP.1 = iniP.1.take 7 ++ Char.ofNat 32 :: iniP.1.drop 8 := by kernel_rfl
set_option maxRecDepth 100000 in
theorem split2 : iniP.1.drop 8 = (iniP.1.drop 8).take 64 ++ Char.ofNat 32 :: iniP.1.drop 73 := by kernel_rfl
set_option maxRecDepth 100000 in
theorem split3 : iniP.1.drop 73 = (iniP.1.drop 73).take 3 ++ Char.ofNat 32 :: iniP.1.drop 77 := by kernel_rfl
theorem isCut : (iniP.1.drop 73).take 3 = "cut".toList := by kernel_rfl
set_option maxRecDepth 100000 in
theorem isHead : ((iniP.1.take 7 == "harness".toList || iniP.1.take 7 == "ownmain".toList) && isSumSigns ((iniP.1.drop 8).take 64)) = true := by kernel_rfl
theorem wordsL : wordsSigns iniP.1 = iniP.1.take 7 :: (iniP.1.drop 8).take 64 :: "cut".toList :: wordsSigns (iniP.1.drop 77) := by
  rw [← isCut]
  conv => lhs; rw [split1]
  rw [words_word _ _ (by kernel_rfl)]
  conv => lhs; rw [split2]
  rw [words_word _ _ (by kernel_rfl)]
  conv => lhs; rw [split3]
  rw [words_word _ _ (by kernel_rfl)]
theorem behindL : behindMainWord (wordsSigns Try.prog.initOrder.toList) = "cut".toList :: wordsSigns (iniP.1.drop 77) := by
  rw [iniL, wordsL]
  unfold behindMainWord
  simp only [isHead, if_true]
theorem stripL (ws : List (List Char)) : stripLifts liftWords ("cut".toList :: ws) = ([], "cut".toList :: ws) := by kernel_rfl
section
variable (P : Program) (ws : List (List Char)) (h : behindMainWord (wordsSigns P.initOrder.toList) = "cut".toList :: ws)
include h
theorem head_of : P.headLifts = [] := by
  unfold Program.headLifts
  rw [h]
  simp only [stripL]
  kernel_rfl
theorem make_of : P.make = some .cut := by
  unfold Program.make
  rw [h, head_of P ws h]
  kernel_rfl
theorem lifts_of : P.liftsFinal = false := by
  unfold Program.liftsFinal
  rw [h, head_of P ws h]
  kernel_rfl
theorem enter_of (h1 : P.laysLater = false) (h2 : P.bearsReflect = false) (h3 : P.doorFits [] = true) : P.mayEnter = true := by
  unfold Program.mayEnter
  rw [h]
  simp only [stripL]
  rw [h1, h2, h3]
  kernel_rfl
end
theorem mayE : Try.pinned.checked.prog.mayEnter = true := enter_of _ _ behindL (by kernel_rfl) (by kernel_rfl) (by kernel_rfl)
theorem liftsF : Try.pinned.checked.prog.liftsFinal = false := lifts_of _ _ behindL
theorem makeF : Try.pinned.checked.prog.make = some .cut := make_of _ _ behindL
theorem both {a b : Bool} (h : a = true) (k : b = true) : (a && b) = true := by rw [h, k]; rfl
end Go.Proofs.Ytahgialnhomefaa

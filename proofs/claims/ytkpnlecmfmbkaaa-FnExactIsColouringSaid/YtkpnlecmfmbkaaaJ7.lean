
/- IsColouring and IsStrict of the model. BlocksAt: the program and the model answer alike. Marking and holding rows of integers. What a law over two systems knows of the memory between two of its steps. What a law over one system whose result is a list of integers knows of the memory between two of its steps. Rows of rows of integers: equality, marks, and that they are still there. -/
import Derived.Test.YtkpnlecmfmbkaaaJ6
import Derived.Deep.RegionWith
namespace Go.Proofs.Ytkpnlecmfmbkaaa
open Go.RowKit Go.Maps Go.Shelf
/-- Do the blocks whose points are all less than n keep the rule? -/
def goodN (strict : Bool) (n : Int) (zs : List Int) (bs : List Blk) : Bool := bs.all fun x => decide (n ≤ x.c) || blkOk strict zs x
theorem goodN_drop {strict : Bool} {n : Int} {zs : List Int} {bs : List Blk} {k : Nat} (hk : k < bs.length) : goodN strict n zs (bs.drop k) = ((decide (n ≤ (bs[k]?.getD default).c) || blkOk strict zs (bs[k]?.getD default)) && goodN strict n zs (bs.drop (k + 1))) := by
  unfold goodN
  rw [List.drop_eq_getElem_cons hk, List.all_cons]
  simp [hk]
set_option maxRecDepth 100000 in
set_option maxHeartbeats 4000000 in
theorem l07Good_any (strict : Bool) (v : Int) (s : Value) (bs : List Blk) (t : Value) (zs : List Int) (n : Int) (w : World) (h : SB w s bs) (ht : IB w t zs) (hx : ∀ x ∈ bs, x.c < n → inB3 zs.length x) :
    Calls Try.prog 131 #[.agg #[.int .i64 v, s], t, .int .i64 n, .bool strict] w (RV (.bool (goodN strict n zs bs)) w) := by
  have hs := h.slice
  have hts := ht.form
  have hl := h.2.1
  have H := Lib.hid h
  have HT := Lib.hid ht
  have HX := Lib.hid hx
  clear h ht hx
  obtain ⟨a0, c0, rfl⟩ := hs
  obtain ⟨a1, c1, rfl⟩ := hts
  go_enter Try.func131, Try.ntmps131
  go_wp2
  obtain ⟨w2, hw2⟩ : ∃ w2, w2 = w.alloc (.cells #[.int .i64 v, .slice a0 bs.length c0] 32) := ⟨_, rfl⟩
  have hB0 : Below w.heap.size w w2 := by rw [hw2]; exact (Below.refl _ _).alloc (Nat.le_refl _) _
  have hz2 : w2.heap.size = w.heap.size + 1 := by rw [hw2]; simp
  have hc2 : w2.cell? ⟨w.heap.size, 1, none⟩ = some (.slice a0 bs.length c0) := by rw [hw2]; simp
  rw [← hw2]
  clear hw2
  go_loopw [9] (fun i wr => ∃ k : Nat, k ≤ bs.length ∧ i = .int .i64 k ∧ Below (w.heap.size + 1) w2 wr ∧ Hid (goodN strict n zs bs = goodN strict n zs (bs.drop k))) (fun i _ => bs.length - (intOf i).toNat)
  case atStart => exact ⟨0, Nat.zero_le _, rfl, Below.refl _ _, Lib.hid rfl⟩
  case round =>
    obtain ⟨k, hk, rfl, hB, HR⟩ := hrel
    have hz := hB.size
    have p1 : wr.cell? ⟨w.heap.size, 1, none⟩ = some (.slice a0 bs.length c0) := by rw [hB.cell (by simp)]; exact hc2
    have hBw : Below w.heap.size w wr := hB0.trans (hB.mono (by omega))
    by_cases hkl : k < bs.length
    · rcases H.out.2.2 with ⟨_, _, _, hnil⟩ | ⟨bb, off, cap, hval, hblt, hbl⟩
      · rw [hnil] at hkl; simp at hkl
      simp at hval
      obtain ⟨rfl, rfl⟩ := hval
      obtain ⟨x1, x2, x3⟩ := (hbl.below hBw hblt) k hkl
      have HD := Lib.hid (goodN_drop (strict := strict) (n := n) (zs := zs) hkl)
      have hxm := HX.out (bs[k]?.getD default) (by simp [hkl])
      obtain ⟨x, hx⟩ : ∃ x, x = bs[k]?.getD default := ⟨_, rfl⟩
      rw [← hx] at x1 x2 x3 HD hxm
      have g0 : (0 : Int) ≤ (k : Int) := by omega
      have g1 : (k : Int) < (bs.length : Int) := by omega
      obtain ⟨xa, xb, xc⟩ := x
      dsimp only at x1 x2 x3 hxm
      clear hbl hx
      have hwb : Below wr.heap.size wr (wr.alloc (.cells #[.int .i64 xa, .int .i64 xb, .int .i64 xc] 78)) := (Below.refl _ _).alloc (Nat.le_refl _) _
      by_cases hcn : n ≤ xc
      · have ed : decide (n ≤ xc) = true := by simpa using hcn
        have HV := Lib.hid (show goodN strict n zs bs = goodN strict n zs (bs.drop (k + 1)) by rw [HR.out, HD.out]; simp [hcn])
        clear HD hxm hcn
        go_wp2
        go_roundw
        case rel => exact ⟨k + 1, by omega, by go_num, hB.trans (hwb.mono (by omega)), HV⟩
        case measure => simp [intOf]; omega
      · have ed : decide (n ≤ xc) = false := by simpa using hcn
        obtain ⟨⟨ha0, ha1⟩, ⟨hb0, hb1⟩, ⟨hc0, hc1⟩⟩ := hxm (by omega)
        dsimp only at ha0 ha1 hb0 hb1 hc0 hc1
        obtain ⟨i1, rfl⟩ : ∃ i : Nat, xa = (i : Int) := ⟨xa.toNat, by omega⟩
        obtain ⟨i2, rfl⟩ : ∃ i : Nat, xb = (i : Int) := ⟨xb.toNat, by omega⟩
        obtain ⟨i3, rfl⟩ : ∃ i : Nat, xc = (i : Int) := ⟨xc.toNat, by omega⟩
        rcases HT.out.2 with ⟨_, _, _, hnil⟩ | ⟨tb, toff, tcap, tval, tlt, hI⟩
        · exfalso; rw [hnil] at ha1; simp at ha1; omega
        simp at tval
        obtain ⟨rfl, rfl⟩ := tval
        have d1 := (hBw.cell (p := ⟨tb, toff + i1, none⟩) tlt).trans (hI i1 (by omega))
        have d2 := (hBw.cell (p := ⟨tb, toff + i2, none⟩) tlt).trans (hI i2 (by omega))
        have d3 := (hBw.cell (p := ⟨tb, toff + i3, none⟩) tlt).trans (hI i3 (by omega))
        have HQ := Lib.hid (show blkOk strict zs ⟨i1, i2, i3⟩ = ruleB strict (zs[i1]?.getD 0) (zs[i2]?.getD 0) (zs[i3]?.getD 0) by simp [blkOk, clr])
        obtain ⟨p, hp⟩ : ∃ z, z = zs[i1]?.getD 0 := ⟨_, rfl⟩
        obtain ⟨q, hq⟩ : ∃ z, z = zs[i2]?.getD 0 := ⟨_, rfl⟩
        obtain ⟨r, hr⟩ : ∃ z, z = zs[i3]?.getD 0 := ⟨_, rfl⟩
        rw [← hp] at d1 HQ
        rw [← hq] at d2 HQ
        rw [← hr] at d3 HQ
        have hlt2 : tb < wr.heap.size := Nat.lt_of_lt_of_le tlt hBw.size
        have d1 := (hwb.cell (p := ⟨tb, toff + i1, none⟩) hlt2).trans d1
        have d2 := (hwb.cell (p := ⟨tb, toff + i2, none⟩) hlt2).trans d2
        have d3 := (hwb.cell (p := ⟨tb, toff + i3, none⟩) hlt2).trans d3
        have b1 : (wr.alloc (.cells #[.int .i64 (i1 : Int), .int .i64 (i2 : Int), .int .i64 (i3 : Int)] 78)).cell? ⟨wr.heap.size, 0, none⟩ = some (.int .i64 (i1 : Int)) := by simp
        have b2 : (wr.alloc (.cells #[.int .i64 (i1 : Int), .int .i64 (i2 : Int), .int .i64 (i3 : Int)] 78)).cell? ⟨wr.heap.size, 1, none⟩ = some (.int .i64 (i2 : Int)) := by simp
        have b3 : (wr.alloc (.cells #[.int .i64 (i1 : Int), .int .i64 (i2 : Int), .int .i64 (i3 : Int)] 78)).cell? ⟨wr.heap.size, 2, none⟩ = some (.int .i64 (i3 : Int)) := by simp
        have HWB := Lib.hid hwb
        clear hI hp hq hr hxm hwb
        go_wp2_with fail
        obtain ⟨wa, hwa⟩ : ∃ wa, wa = wr.alloc (.cells #[.int .i64 (i1 : Int), .int .i64 (i2 : Int), .int .i64 (i3 : Int)] 78) := ⟨_, rfl⟩
        rw [← hwa] at d1 d2 d3 b1 b2 b3 HWB ⊢
        clear hwa
        go_quiet (fail)
        have HB2 := Lib.hid (below_drewN (hB.trans (HWB.out.mono (by omega))) nq)
        have HB3 := Lib.hid (below_drewN (hBw.trans (HWB.out.mono hBw.size)) nq)
        obtain ⟨wd, hwd⟩ : ∃ wd, wd = wa.drewN nq := ⟨_, rfl⟩
        rw [← hwd] at HB2 HB3 ⊢
        clear hwd d1 d2 d3 b1 b2 b3 HWB
        by_cases h1 : p = q
        · subst h1
          by_cases h2 : p = r
          · subst h2
            cases strict with
            | false =>
              have HV := Lib.hid (show goodN false n zs bs = false by rw [HR.out, HD.out, HQ.out]; simp_all [ruleB] <;> (intro _; omega))
              clear HD HQ
              go_wp2
              go_ret
              exact RV_of (bool_eq (by rw [HV.out])) HB3.out
            | true =>
              have HV := Lib.hid (show goodN true n zs bs = false by rw [HR.out, HD.out, HQ.out]; simp_all [ruleB] <;> (intro _; omega))
              clear HD HQ
              go_wp2
              go_ret
              exact RV_of (bool_eq (by rw [HV.out])) HB3.out
          · have e2 : (p == r) = false := by simp; omega
            have d2 : decide (p = r) = false := by simp; omega
            have n2 : (p != r) = true := by simp; omega
            cases strict with
            | false =>
              have HV := Lib.hid (show goodN false n zs bs = goodN false n zs (bs.drop (k + 1)) by rw [HR.out, HD.out, HQ.out]; simp_all [ruleB])
              clear HD HQ
              go_wp2
              go_roundw
              case rel => exact ⟨k + 1, by omega, by go_num, HB2.out, HV⟩
              case measure => simp [intOf]; omega
            | true =>
              have HV := Lib.hid (show goodN true n zs bs = goodN true n zs (bs.drop (k + 1)) by rw [HR.out, HD.out, HQ.out]; simp_all [ruleB])
              clear HD HQ
              go_wp2
              go_roundw
              case rel => exact ⟨k + 1, by omega, by go_num, HB2.out, HV⟩
              case measure => simp [intOf]; omega
        · have e1 : (p == q) = false := by simp; omega
          have d1 : decide (p = q) = false := by simp; omega
          have n1 : (p != q) = true := by simp; omega
          by_cases h2 : p = r
          · subst h2
            have e3 : (q == p) = false := by simp; omega
            have d3 : decide (q = p) = false := by simp; omega
            have n3 : (q != p) = true := by simp; omega
            cases strict with
            | false =>
              have HV := Lib.hid (show goodN false n zs bs = goodN false n zs (bs.drop (k + 1)) by rw [HR.out, HD.out, HQ.out]; simp_all [ruleB])
              clear HD HQ
              go_wp2
              go_roundw
              case rel => exact ⟨k + 1, by omega, by go_num, HB2.out, HV⟩
              case measure => simp [intOf]; omega
            | true =>
              have HV := Lib.hid (show goodN true n zs bs = goodN true n zs (bs.drop (k + 1)) by rw [HR.out, HD.out, HQ.out]; simp_all [ruleB])
              clear HD HQ
              go_wp2
              go_roundw
              case rel => exact ⟨k + 1, by omega, by go_num, HB2.out, HV⟩
              case measure => simp [intOf]; omega
          · have e2 : (p == r) = false := by simp; omega
            have d2 : decide (p = r) = false := by simp; omega
            have n2 : (p != r) = true := by simp; omega
            by_cases h3 : q = r
            · subst h3
              cases strict with
              | false =>
                have HV := Lib.hid (show goodN false n zs bs = goodN false n zs (bs.drop (k + 1)) by rw [HR.out, HD.out, HQ.out]; simp_all [ruleB])
                clear HD HQ
                go_wp2
                go_roundw
                case rel => exact ⟨k + 1, by omega, by go_num, HB2.out, HV⟩
                case measure => simp [intOf]; omega
              | true =>
                have HV := Lib.hid (show goodN true n zs bs = goodN true n zs (bs.drop (k + 1)) by rw [HR.out, HD.out, HQ.out]; simp_all [ruleB])
                clear HD HQ
                go_wp2
                go_roundw
                case rel => exact ⟨k + 1, by omega, by go_num, HB2.out, HV⟩
                case measure => simp [intOf]; omega
            · have e3 : (q == r) = false := by simp; omega
              have d3 : decide (q = r) = false := by simp; omega
              have n3 : (q != r) = true := by simp; omega
              cases strict with
              | false =>
                have HV := Lib.hid (show goodN false n zs bs = goodN false n zs (bs.drop (k + 1)) by rw [HR.out, HD.out, HQ.out]; simp_all [ruleB])
                clear HD HQ
                go_wp2
                go_roundw
                case rel => exact ⟨k + 1, by omega, by go_num, HB2.out, HV⟩
                case measure => simp [intOf]; omega
              | true =>
                have HV := Lib.hid (show goodN true n zs bs = false by rw [HR.out, HD.out, HQ.out]; simp_all [ruleB] <;> (intro _; omega))
                clear HD HQ
                go_wp2
                go_ret
                exact RV_of (bool_eq (by rw [HV.out])) HB3.out
    · have e : k = bs.length := by omega
      have HE := Lib.hid (show goodN strict n zs bs = true by rw [HR.out, e, List.drop_length]; rfl)
      clear e HR
      go_wp2
      go_ret
      exact RV_of (bool_eq (by rw [HE.out])) hBw
theorem inK_drop {k : Int} {zs : List Int} {j : Nat} (hj : j < zs.length) : inK k (zs.drop j) = ((decide (0 ≤ zs[j]?.getD 0) && decide (zs[j]?.getD 0 < k)) && inK k (zs.drop (j + 1))) := by
  unfold inK
  rw [List.drop_eq_getElem_cons hj, List.all_cons]
  simp [hj]
theorem lt_pred (z k : Int) : decide (z ≤ k - 1) = decide (z < k) := by rw [decide_eq_decide]; omega
set_option maxRecDepth 100000 in
set_option maxHeartbeats 1000000 in
theorem l07Colours_any (v : Int) (s : Value) (bs : List Blk) (k : Int) (t : Value) (zs : List Int) (w : World) (h : SB w s bs) (ht : IB w t zs) :
    Calls Try.prog 130 #[.agg #[.int .i64 v, s], .int .i64 k, t] w (RV (.int .i64 (colCode v bs k zs)) w) := by
  have hs := h.slice
  have hts := ht.form
  have HI := Lib.hid fun W (hb : Below w.heap.size w W) => l01Is_any v s bs W (h.below hb (Nat.le_refl _))
  have HN := Lib.hid fun W => l01In_any k 1 6 W
  have HC := Lib.hid (show colCode v bs k zs = if isSysImpl v bs then (if (decide (1 ≤ k) && decide (k ≤ 6)) = true ∧ (zs.length : Int) = v ∧ inK k zs = true then 0 else 2) else 1 from rfl)
  have HT := Lib.hid ht
  have hb0 := (Below.refl w.heap.size w).alloc (Nat.le_refl _) (.cells #[.int .i64 v, s] 32)
  clear h ht
  obtain ⟨κ, hκ⟩ : ∃ κ, κ = colCode v bs k zs := ⟨_, rfl⟩
  rw [← hκ] at HC ⊢
  clear hκ
  obtain ⟨a0, c0, rfl⟩ := hs
  obtain ⟨a1, c1, rfl⟩ := hts
  cases hi : isSysImpl v bs with
  | false =>
    rw [hi] at HI HC
    clear hi
    go_enter Try.func130, Try.ntmps130
    go_wp2_with fail
    refine (HI.out _ hb0).mono ?_
    rintro e w1 ⟨rfl, hb1⟩
    have hbw := below_new hb1
    clear hb1
    go_wp2
    go_ret
    exact RV_of (int_eq (by rw [HC.out]; rfl)) hbw
  | true =>
    rw [hi] at HI HC
    clear hi
    cases hk : (decide (1 ≤ k) && decide (k ≤ 6)) with
    | false =>
      rw [hk] at HN
      have HV := Lib.hid (show κ = 2 by rw [HC.out, hk]; simp)
      clear hk HC
      go_enter Try.func130, Try.ntmps130
      go_wp2_with fail
      refine (HI.out _ hb0).mono ?_
      rintro e w1 ⟨rfl, hb1⟩
      have q0 := cell_new hb1 0 rfl
      have hbw := below_new hb1
      clear hb1
      go_wp2_with fail
      refine (HN.out _).mono ?_
      rintro e w2 ⟨rfl, rfl⟩
      go_wp2
      go_ret
      exact RV_of (int_eq (by rw [HV.out])) hbw
    | true =>
      rw [hk] at HN
      by_cases hn : (zs.length : Int) = v
      · have HV := Lib.hid (show κ = if inK k zs = true then 0 else 2 by rw [HC.out, hk, if_pos rfl]; simp [hn])
        have e1 : ((zs.length : Int) != v) = false := by simpa using hn
        have hk1 : 1 ≤ k ∧ k ≤ 6 := by simpa using hk
        obtain ⟨k1, k6⟩ := hk1
        have htl := HT.out.1
        clear hk HC
        go_enter Try.func130, Try.ntmps130
        go_wp2_with fail
        refine (HI.out _ hb0).mono ?_
        rintro e w1 ⟨rfl, hb1⟩
        have q0 := cell_new hb1 0 rfl
        have hbw := below_new hb1
        clear hb1
        go_wp2_with fail
        refine (HN.out _).mono ?_
        rintro e w2 ⟨rfl, rfl⟩
        clear HI HN
        go_wp2
        go_loop [7] (fun i => ∃ j : Nat, j ≤ zs.length ∧ i = .int .i64 j ∧ Hid (inK k zs = inK k (zs.drop j))) (fun i => zs.length - (intOf i).toNat)
        case atStart => exact ⟨0, Nat.zero_le _, rfl, Lib.hid rfl⟩
        case round =>
          obtain ⟨j, hj, rfl, HR⟩ := hrel
          by_cases hjl : j < zs.length
          · rcases HT.out.2 with ⟨_, _, _, hnil⟩ | ⟨b, off, cap, hval, hlt, hI⟩
            · rw [hnil] at hjl; simp at hjl
            simp at hval
            obtain ⟨rfl, rfl⟩ := hval
            have c0 := (hbw.cell (p := ⟨b, off + j, none⟩) hlt).trans (hI j hjl)
            have HD := Lib.hid (inK_drop (k := k) hjl)
            obtain ⟨z, hz⟩ : ∃ z, z = zs[j]?.getD 0 := ⟨_, rfl⟩
            rw [← hz] at c0 HD
            have HK1 := Lib.hid fun W => l01In_any z 0 (k - 1) W
            rw [lt_pred] at HK1
            obtain ⟨β, hβ⟩ : ∃ β, β = (decide (0 ≤ z) && decide (z < k)) := ⟨_, rfl⟩
            rw [← hβ] at HD HK1
            have g0 : (0 : Int) ≤ (j : Int) := by omega
            have g1 : (j : Int) < (zs.length : Int) := by omega
            clear hI hz hβ
            cases β with
            | true =>
              have HN := Lib.hid (show inK k zs = inK k (zs.drop (j + 1)) by rw [HR.out, HD.out]; rfl)
              clear HD
              go_wp2_with fail
              refine (HK1.out _).mono ?_
              rintro e w2 ⟨rfl, rfl⟩
              go_wp2
              go_round
              case rel => exact ⟨j + 1, by omega, by go_num, HN⟩
              case measure => simp [intOf]; omega
            | false =>
              have HN := Lib.hid (show inK k zs = false by rw [HR.out, HD.out]; rfl)
              clear HD
              go_wp2_with fail
              refine (HK1.out _).mono ?_
              rintro e w2 ⟨rfl, rfl⟩
              go_wp2
              go_ret
              exact RV_of (int_eq (by rw [HV.out, HN.out]; rfl)) hbw
          · have HN := Lib.hid (show inK k zs = true by rw [HR.out, show j = zs.length by omega, List.drop_length]; rfl)
            go_wp2
            go_ret
            exact RV_of (int_eq (by rw [HV.out, HN.out]; rfl)) hbw
      · have e1 : ((zs.length : Int) != v) = true := by simpa using hn
        have HV := Lib.hid (show κ = 2 by rw [HC.out, hk]; simp [hn])
        clear hk HC hn
        go_enter Try.func130, Try.ntmps130
        go_wp2_with fail
        refine (HI.out _ hb0).mono ?_
        rintro e w1 ⟨rfl, hb1⟩
        have q0 := cell_new hb1 0 rfl
        have hbw := below_new hb1
        clear hb1
        go_wp2_with fail
        refine (HN.out _).mono ?_
        rintro e w2 ⟨rfl, rfl⟩
        go_wp2
        go_ret
        exact RV_of (int_eq (by rw [HV.out])) hbw
theorem colCode_zero {v : Int} {bs : List Blk} {k : Int} {zs : List Int} (h : colCode v bs k zs = 0) : isSysImpl v bs = true ∧ (zs.length : Int) = v := by
  unfold colCode at h
  cases hi : isSysImpl v bs with
  | false => rw [hi] at h; simp at h
  | true =>
    rw [hi, if_pos rfl] at h
    by_cases hc : (decide (1 ≤ k) && decide (k ≤ 6)) = true ∧ (zs.length : Int) = v ∧ inK k zs = true
    · exact ⟨rfl, hc.2.1⟩
    · rw [if_neg hc] at h; simp at h
theorem goodN_all {strict : Bool} {v : Int} {bs : List Blk} {zs : List Int} (h : isSysImpl v bs = true) : goodN strict v zs bs = allOk strict zs bs := by
  unfold goodN allOk
  rw [Bool.eq_iff_iff, List.all_eq_true, List.all_eq_true]
  have hg : ∀ x ∈ bs, decide (v ≤ x.c) = false := fun x hx => by have := goodB_iff.1 (sys_good h x hx); simp; omega
  constructor
  · intro ha x hx
    have := ha x hx
    rwa [hg x hx, Bool.false_or] at this
  · intro ha x hx
    rw [ha x hx, Bool.or_true]
set_option maxRecDepth 100000 in
set_option maxHeartbeats 1000000 in
theorem specIsColouring_any (v : Int) (s : Value) (bs : List Blk) (k : Int) (t : Value) (zs : List Int) (w : World) (h : SB w s bs) (ht : IB w t zs) :
    Calls Try.prog 68 #[.agg #[.int .i64 v, s], .int .i64 k, t] w (RV (boolCode (keepF false v bs k zs).1 (keepF false v bs k zs).2) w) := by
  have hs := h.slice
  have hts := ht.form
  have HPC := Lib.hid fun W (hb : Below w.heap.size w W) => l07Colours_any v s bs k t zs W (h.below hb (Nat.le_refl _)) (ht.below hb (Nat.le_refl _))
  have HG := Lib.hid fun (hc : colCode v bs k zs = 0) W (hb : Below w.heap.size w W) => l07Good_any false v s bs t zs v W (h.below hb (Nat.le_refl _)) (ht.below hb (Nat.le_refl _)) (fun x hx _ => sys_inB3 (colCode_zero hc).1 (colCode_zero hc).2 x hx)
  have hb0 := (Below.refl w.heap.size w).alloc (Nat.le_refl _) (.cells #[.int .i64 v, s] 32)
  clear h ht
  obtain ⟨a0, c0, rfl⟩ := hs
  obtain ⟨a1, c1, rfl⟩ := hts
  by_cases hc : colCode v bs k zs = 0
  · have HV := Lib.hid (show keepF false v bs k zs = (allOk false zs bs, 0) by simp [keepF, hc])
    have HG2 := Lib.hid (HG.out hc)
    rw [goodN_all (colCode_zero hc).1] at HG2
    rw [hc] at HPC
    rw [HV.out]
    obtain ⟨β, hβ⟩ : ∃ β, β = allOk false zs bs := ⟨_, rfl⟩
    rw [← hβ] at HG2 ⊢
    clear hc HV hβ HG
    go_enter Try.func68, Try.ntmps68
    go_wp2_with fail
    refine (HPC.out _ hb0).mono ?_
    rintro e w1 ⟨rfl, hb1⟩
    have q0 := cell_new hb1 0 rfl
    have q1 := cell_new hb1 1 rfl
    have hbw := below_new hb1
    clear hb1
    go_wp2_with fail
    refine (HG2.out _ hbw).mono ?_
    rintro e w2 ⟨rfl, hb2⟩
    have hbw2 := hbw.trans (hb2.mono hbw.size)
    go_wp2
    exact bodyPost_ret (v := boolCode β 0) (by simp [results, Try.results68, boolCode, go_sem, *]) rfl (RV_of rfl hbw2)
  · have HV := Lib.hid (show keepF false v bs k zs = (false, colCode v bs k zs) by simp [keepF, hc])
    obtain ⟨κ, hκ⟩ : ∃ κ, κ = colCode v bs k zs := ⟨_, rfl⟩
    rw [← hκ] at HPC HV hc
    have hne : (κ != 0) = true := by simpa using hc
    clear hc hκ HG
    rw [HV.out]
    go_enter Try.func68, Try.ntmps68
    go_wp2_with fail
    refine (HPC.out _ hb0).mono ?_
    rintro e w1 ⟨rfl, hb1⟩
    have hbw := below_new hb1
    clear hb1 HV
    go_wp2
    exact bodyPost_ret (v := boolCode false κ) (by simp [results, Try.results68, boolCode, go_sem, *]) rfl (RV_of rfl hbw)
set_option maxRecDepth 100000 in
set_option maxHeartbeats 1000000 in
theorem specIsStrict_any (v : Int) (s : Value) (bs : List Blk) (k : Int) (t : Value) (zs : List Int) (w : World) (h : SB w s bs) (ht : IB w t zs) :
    Calls Try.prog 70 #[.agg #[.int .i64 v, s], .int .i64 k, t] w (RV (boolCode (keepF true v bs k zs).1 (keepF true v bs k zs).2) w) := by
  have hs := h.slice
  have hts := ht.form
  have HPC := Lib.hid fun W (hb : Below w.heap.size w W) => l07Colours_any v s bs k t zs W (h.below hb (Nat.le_refl _)) (ht.below hb (Nat.le_refl _))
  have HG := Lib.hid fun (hc : colCode v bs k zs = 0) W (hb : Below w.heap.size w W) => l07Good_any true v s bs t zs v W (h.below hb (Nat.le_refl _)) (ht.below hb (Nat.le_refl _)) (fun x hx _ => sys_inB3 (colCode_zero hc).1 (colCode_zero hc).2 x hx)
  have hb0 := (Below.refl w.heap.size w).alloc (Nat.le_refl _) (.cells #[.int .i64 v, s] 32)
  clear h ht
  obtain ⟨a0, c0, rfl⟩ := hs
  obtain ⟨a1, c1, rfl⟩ := hts
  by_cases hc : colCode v bs k zs = 0
  · have HV := Lib.hid (show keepF true v bs k zs = (allOk true zs bs, 0) by simp [keepF, hc])
    have HG2 := Lib.hid (HG.out hc)
    rw [goodN_all (colCode_zero hc).1] at HG2
    rw [hc] at HPC
    rw [HV.out]
    obtain ⟨β, hβ⟩ : ∃ β, β = allOk true zs bs := ⟨_, rfl⟩
    rw [← hβ] at HG2 ⊢
    clear hc HV hβ HG
    go_enter Try.func70, Try.ntmps70
    go_wp2_with fail
    refine (HPC.out _ hb0).mono ?_
    rintro e w1 ⟨rfl, hb1⟩
    have q0 := cell_new hb1 0 rfl
    have q1 := cell_new hb1 1 rfl
    have hbw := below_new hb1
    clear hb1
    go_wp2_with fail
    refine (HG2.out _ hbw).mono ?_
    rintro e w2 ⟨rfl, hb2⟩
    have hbw2 := hbw.trans (hb2.mono hbw.size)
    go_wp2
    exact bodyPost_ret (v := boolCode β 0) (by simp [results, Try.results70, boolCode, go_sem, *]) rfl (RV_of rfl hbw2)
  · have HV := Lib.hid (show keepF true v bs k zs = (false, colCode v bs k zs) by simp [keepF, hc])
    obtain ⟨κ, hκ⟩ : ∃ κ, κ = colCode v bs k zs := ⟨_, rfl⟩
    rw [← hκ] at HPC HV hc
    have hne : (κ != 0) = true := by simpa using hc
    clear hc hκ HG
    rw [HV.out]
    go_enter Try.func70, Try.ntmps70
    go_wp2_with fail
    refine (HPC.out _ hb0).mono ?_
    rintro e w1 ⟨rfl, hb1⟩
    have hbw := below_new hb1
    clear hb1 HV
    go_wp2
    exact bodyPost_ret (v := boolCode false κ) (by simp [results, Try.results70, boolCode, go_sem, *]) rfl (RV_of rfl hbw)
end Go.Proofs.Ytkpnlecmfmbkaaa

namespace Go.Proofs.Ytkpnlecmfmbkaaa
open Go.RowKit Go.Maps
/-- The indices of the blocks through p, and the code. -/
def atF (v : Int) (bs : List Blk) (p : Int) : List Int × Int := if isSysImpl v bs then (if inP v p then (idxI p bs bs.length, 0) else ([], 2)) else ([], 1)
def RJ (r : List Int × Int) (w : World) (e : Ending) (w' : World) : Prop := ∃ u, e = .returned (.tuple #[u, .int .i64 r.2]) ∧ OwnJ w' w.heap.size u r.1 ∧ Below w.heap.size w w'
theorem OwnJ.nil (w : World) (base : Nat) : OwnJ w base (.slice none 0 0) [] := ⟨rfl, .inl ⟨rfl, rfl⟩⟩
theorem idxs_eq (p : Int) (bs : List Blk) : idxs (upTo p bs bs.length) = (idxI p bs bs.length).map (Value.int .i64) := by
  unfold idxs idxI
  rw [List.map_map]
  rfl
theorem ints1 {w : World} {b : Nat} {x : Int} (h0 : w.cell? ⟨b, 0, none⟩ = some (.int .i64 x)) : Ints w b 0 [x] := by
  intro k hk
  match k, hk with
  | 0, _ => simpa using h0
end Go.Proofs.Ytkpnlecmfmbkaaa

namespace Go.Proofs.Ytkpnlecmfmbkaaa
open Go.RowKit Go.Maps
/-- The row at the head of block g holds just these integers and may be written. -/
structure OwnAtI (w : World) (g : Nat) (zs : List Int) : Prop where
  lt : g < w.heap.size
  at_ : Ints w g 0 zs
  free : ∀ o, w.frozen? ⟨g, o, none⟩ = false
theorem OwnAtI.kept {w w' : World} {g : Nat} {zs : List Int} {row : Option Nat} (h : OwnAtI w g zs) (hg : w.grownBy w' row) (hne : some g ≠ row) : OwnAtI w' g zs := by
  have hb := hg.block g h.lt hne
  exact ⟨Nat.lt_of_lt_of_le h.lt hg.size, fun k hk => (World.cell?_of_block (w := w) (a := ⟨g, _, none⟩) hb).trans (h.at_ k hk), fun o => (World.frozen?_of_block (w := w) (a := ⟨g, o, none⟩) hb).trans (h.free o)⟩
theorem Ints.set {w : World} {g : Nat} {l : List Int} (h : Ints w g 0 l) {i : Nat} (hi : i < l.length) (x : Int) : Ints (w.setCell ⟨g, i, none⟩ (.int .i64 x)) g 0 (l.set i x) := by
  intro k hk
  rw [List.length_set] at hk
  have hk' := h k hk
  have hi' := h i hi
  rw [Nat.zero_add] at hk' hi' ⊢
  by_cases e : k = i
  · subst e
    rw [World.cell?_setCell_same' _ _ _ (by rw [hi']; rfl)]
    simp [hk]
  · rw [World.cell?_setCell_other _ _ _ _ (by simp <;> omega), hk', List.getElem?_set_ne (Ne.symm e)]
def markI (k : Int) (n : Nat) : List Int := (List.range n).map fun (t : Nat) => k + (t : Int)
theorem markI_length (k : Int) (n : Nat) : (markI k n).length = n := by simp [markI]
theorem markI_next {k : Int} {i : Nat} {zs : List Int} (h : i < zs.length) : (markI k i ++ zs.drop i).set i (k + i) = markI k (i + 1) ++ zs.drop (i + 1) := by
  rw [List.drop_eq_getElem_cons h, List.set_append_right _ _ (by rw [markI_length]; omega), markI_length, Nat.sub_self, List.set_cons_zero]
  simp [markI, List.range_succ]
theorem markI_at {k : Int} {n j : Nat} (h : j < n) : (markI k n)[j]?.getD 0 = k + j := by
  simp [markI, h]
set_option maxRecDepth 100000 in
theorem markInt64S_nil (a : Option Addr) (c : Nat) (k : Int) (w : World) : Calls Try.prog 33 #[.slice a 0 c, .int .i64 k] w (RS (.int .i64 k) w) := by
  go_enter Try.func33, Try.ntmps33
  go_wp2
  refine wp_loop_rounds 1 ?_
  rw [rounds_succ]
  go_wp2
  go_ret
  exact RS_of rfl
set_option maxRecDepth 100000 in
theorem heldInt64S_nil (a : Option Addr) (c : Nat) (k : Int) (w : World) : Calls Try.prog 35 #[.slice a 0 c, .int .i64 k] w (RS (.int .i64 k) w) := by
  go_enter Try.func35, Try.ntmps35
  go_wp2
  refine wp_loop_rounds 1 ?_
  rw [rounds_succ]
  go_wp2
  go_ret
  exact RS_of rfl
set_option maxRecDepth 100000 in
theorem markInt64S_any (g cap : Nat) (zs : List Int) (k : Int) (w : World) (h : OwnAtI w g zs) (hl : zs.length ≤ 1100000) (h0 : 0 ≤ k) (h1 : k ≤ 9000000) :
    Calls Try.prog 33 #[.slice (some ⟨g, 0, none⟩) zs.length cap, .int .i64 k] w (fun e w' => e = .returned (.int .i64 (k + zs.length)) ∧ w.grownBy w' (some g) ∧ OwnAtI w' g (markI k zs.length)) := by
  have H := Lib.hid h
  clear h
  go_enter Try.func33, Try.ntmps33
  go_wp2
  go_loopw [1, 5] (fun t i wr => ∃ j : Nat, j ≤ zs.length ∧ i = .int .i64 j ∧ t = .int .i64 (k + j) ∧ w.grownBy wr (some g) ∧ OwnAtI wr g (markI k j ++ zs.drop j)) (fun _ i _ => zs.length - (intOf i).toNat)
  case atStart => exact ⟨0, Nat.zero_le _, rfl, by simp, only_refl _ _, by simpa [markI] using H.out⟩
  case round =>
    obtain ⟨j, hj, rfl, rfl, hg, ho⟩ := hrel
    by_cases hjl : j < zs.length
    · have hlj : j < (markI k j ++ zs.drop j).length := by simp [markI_length]; omega
      have c1 := ho.at_ j hlj
      rw [Nat.zero_add] at c1
      have f1 := ho.free
      have hs := Ints.set ho.at_ hlj (k + j)
      rw [markI_next hjl] at hs
      have HS := Lib.hid hs
      have hlt := ho.lt
      clear hs ho
      have g0 : (0 : Int) ≤ (j : Int) := by omega
      have g1 : (j : Int) < (zs.length : Int) := by omega
      obtain ⟨m, hm⟩ : ∃ m, m = k + (j : Int) := ⟨_, rfl⟩
      rw [← hm] at HS ⊢
      have m0 : 0 ≤ m := by omega
      have m1 : m ≤ 90000000 := by omega
      have HM := Lib.hid hm
      clear hm
      go_wp2
      go_roundw
      case rel => exact ⟨j + 1, by omega, by go_num, int_eq (by rw [HM.out]; omega), only_setCell hg rfl _, ⟨by simpa [World.setCell] using hlt, HS.out, fun o => by rw [World.frozen?_setCell]; exact f1 o⟩⟩
      case measure => simp [intOf]; omega
    · go_wp2
      go_ret
      have e : j = zs.length := by omega
      subst e
      rw [List.drop_length, List.append_nil] at ho
      exact ⟨rfl, hg, ho⟩
set_option maxRecDepth 100000 in
theorem heldInt64S_any (g cap n : Nat) (k : Int) (w : World) (h : Ints w g 0 (markI k n)) (hl : n ≤ 1100000) (h0 : 0 ≤ k) (h1 : k ≤ 9000000) :
    Calls Try.prog 35 #[.slice (some ⟨g, 0, none⟩) n cap, .int .i64 k] w (RS (.int .i64 (k + n)) w) := by
  have H := Lib.hid h
  clear h
  go_enter Try.func35, Try.ntmps35
  go_wp2
  go_loop [1, 5] (fun t i => ∃ j : Nat, j ≤ n ∧ i = .int .i64 j ∧ t = .int .i64 (k + j)) (fun _ i => n - (intOf i).toNat)
  case atStart => exact ⟨0, Nat.zero_le _, rfl, by simp⟩
  case round =>
    obtain ⟨j, hj, rfl, rfl⟩ := hrel
    by_cases hjl : j < n
    · have hc := H.out j (by rw [markI_length]; exact hjl)
      rw [markI_at hjl, Nat.zero_add] at hc
      obtain ⟨m, hm⟩ : ∃ m, m = k + (j : Int) := ⟨_, rfl⟩
      rw [← hm] at hc ⊢
      have m0 : 0 ≤ m := by omega
      have m1 : m ≤ 90000000 := by omega
      have HM := Lib.hid hm
      clear hm
      have g0 : (0 : Int) ≤ (j : Int) := by omega
      have g1 : (j : Int) < (n : Int) := by omega
      have n1 : (m != m) = false := by simp
      go_wp2
      go_round
      case rel => exact ⟨j + 1, by omega, by go_num, int_eq (by rw [HM.out]; omega)⟩
      case measure => simp [intOf]; omega
    · go_wp2
      go_ret
      have e : j = n := by omega
      subst e
      exact RS_of rfl
/-- A result that is a list of integers: empty anywhere, or memory of its own between lo and hi. -/
def ResI (w : World) (lo hi : Nat) (s : Value) (zs : List Int) : Prop := (zs = [] ∧ ∃ a c, s = .slice a 0 c) ∨ ∃ g cap, s = .slice (some ⟨g, 0, none⟩) zs.length cap ∧ lo ≤ g ∧ g < hi ∧ OwnAtI w g zs
theorem OwnJ.res {w : World} {base : Nat} {v : Value} {zs : List Int} (h : OwnJ w base v zs) (hl : zs.length ≤ 1100000) : ResI w base w.heap.size v zs := by
  have hib := h.ib hl
  obtain ⟨hl, h | ⟨g, cap, cur, rfl, hb, hcur, hn, hc, hsz, hx⟩⟩ := h
  · obtain ⟨rfl, h0⟩ := h
    exact .inl ⟨List.length_eq_zero_iff.1 h0, _, _, rfl⟩
  · have hg : g < w.heap.size := (Array.getElem?_eq_some_iff.1 hcur).1
    rcases hib.2 with ⟨a, c, e1, rfl⟩ | ⟨b, off, cap', e1, _, hI⟩
    · exact .inl ⟨rfl, _, _, rfl⟩
    · simp at e1
      obtain ⟨⟨rfl, rfl⟩, _⟩ := e1
      exact .inr ⟨g, cap, rfl, hb, hg, hg, hI, fun o => by simp [World.frozen?, hcur]⟩
theorem ResI.ib {w : World} {lo hi : Nat} {s : Value} {zs : List Int} (h : ResI w lo hi s zs) (hl : zs.length ≤ 1100000) : IB w s zs := by
  rcases h with ⟨rfl, a, c, rfl⟩ | ⟨g, cap, rfl, _, _, ho⟩
  · exact ⟨hl, .inl ⟨a, c, rfl, rfl⟩⟩
  · exact ⟨hl, .inr ⟨g, 0, cap, rfl, ho.lt, ho.at_⟩⟩
theorem ResI.kept {w w' : World} {lo hi : Nat} {s : Value} {zs : List Int} {row : Option Nat} (h : ResI w lo hi s zs) (hg : w.grownBy w' row) (hr : ∀ r, row = some r → r < lo ∨ hi ≤ r) : ResI w' lo hi s zs := by
  rcases h with h | ⟨g, cap, rfl, h1, h2, ho⟩
  · exact .inl h
  · exact .inr ⟨g, cap, rfl, h1, h2, ho.kept hg (fun e => by have := hr g e.symm; omega)⟩
theorem ResI.below {w w' : World} {lo hi : Nat} {s : Value} {zs : List Int} (h : ResI w lo hi s zs) {B : Nat} (hb : Below B w w') (hB : w.heap.size ≤ B) : ResI w' lo hi s zs :=
  h.kept (only_of_below (hb.mono hB) none) (by simp)
theorem markJ (lo hi : Nat) (s : Value) (zs : List Int) (k : Int) (w : World) (h : ResI w lo hi s zs) (hl : zs.length ≤ 1100000) (h0 : 0 ≤ k) (h1 : k ≤ 9000000) :
    Calls Try.prog 33 #[s, .int .i64 k] w (fun e w' => e = .returned (.int .i64 (k + zs.length)) ∧ (∃ row, w.grownBy w' row ∧ ∀ r, row = some r → lo ≤ r ∧ r < hi) ∧ ResI w' lo hi s (markI k zs.length)) := by
  rcases h with ⟨rfl, a, c, rfl⟩ | ⟨g, cap, rfl, h3, h4, ho⟩
  · refine (markInt64S_nil a c k w).mono ?_
    rintro e w' ⟨rfl, rfl⟩
    exact ⟨by simp, ⟨none, only_refl _ _, by simp⟩, .inl ⟨rfl, a, c, rfl⟩⟩
  · refine (markInt64S_any g cap zs k w ho hl h0 h1).mono ?_
    rintro e w' ⟨rfl, hg, ho'⟩
    exact ⟨rfl, ⟨some g, hg, fun r hr => by cases hr; exact ⟨h3, h4⟩⟩, .inr ⟨g, cap, by rw [markI_length], h3, h4, ho'⟩⟩
theorem heldJ (lo hi : Nat) (s : Value) (n : Nat) (k : Int) (w : World) (h : ResI w lo hi s (markI k n)) (hl : n ≤ 1100000) (h0 : 0 ≤ k) (h1 : k ≤ 9000000) :
    Calls Try.prog 35 #[s, .int .i64 k] w (RS (.int .i64 (k + n)) w) := by
  rcases h with ⟨hn, a, c, rfl⟩ | ⟨g, cap, rfl, h3, h4, ho⟩
  · have : n = 0 := by have := congrArg List.length hn; simpa [markI_length] using this
    subst this
    simpa using heldInt64S_nil a c k w
  · rw [markI_length]
    exact heldInt64S_any g cap n k w ho.at_ hl h0 h1
end Go.Proofs.Ytkpnlecmfmbkaaa

namespace Go.Proofs.Ytkpnlecmfmbkaaa
open Go.RowKit Go.Maps
/-- The two boxes of the arguments; what was there before the call is as it was. -/
structure St2 (w : World) (v u : Int) (s t : Value) (W : World) : Prop where
  below : Below w.heap.size w W
  big : w.heap.size + 1 < W.heap.size
  x0 : W.cell? ⟨w.heap.size, 0, none⟩ = some (.int .i64 v)
  x1 : W.cell? ⟨w.heap.size, 1, none⟩ = some s
  y0 : W.cell? ⟨w.heap.size + 1, 0, none⟩ = some (.int .i64 u)
  y1 : W.cell? ⟨w.heap.size + 1, 1, none⟩ = some t
theorem St2.step {w : World} {v u : Int} {s t : Value} {W W' : World} {row : Option Nat} (h : St2 w v u s t W) (hg : W.grownBy W' row) (hr : ∀ r, row = some r → w.heap.size + 1 < r) : St2 w v u s t W' :=
  ⟨h.below.grown hg h.below.size (fun r e => by have := hr r e; omega), Nat.lt_of_lt_of_le h.big hg.size,
    hg.cell h.x0 (fun e => by have := hr _ e.symm; simp at this; omega), hg.cell h.x1 (fun e => by have := hr _ e.symm; simp at this; omega),
    hg.cell h.y0 (fun e => by have := hr _ e.symm; simp at this), hg.cell h.y1 (fun e => by have := hr _ e.symm; simp at this)⟩
theorem St2.start (w : World) (v u : Int) (s t : Value) : St2 w v u s t ((w.alloc (.cells #[.int .i64 v, s] 24)).alloc (.cells #[.int .i64 u, t] 24)) :=
  ⟨((Below.refl _ _).alloc (Nat.le_refl _) _).alloc (by simp) _, by simp, by simp [go_sem], by simp [go_sem], by simp [go_sem], by simp [go_sem]⟩
/-- A variable that holds a system. -/
structure VarB (W : World) (X : Nat) (v : Int) (s : Value) : Prop where
  lt : X < W.heap.size
  c0 : W.cell? ⟨X, 0, none⟩ = some (.int .i64 v)
  c1 : W.cell? ⟨X, 1, none⟩ = some s
theorem VarB.step {W W' : World} {X : Nat} {v : Int} {s : Value} {row : Option Nat} (h : VarB W X v s) (hg : W.grownBy W' row) (hr : row ≠ some X) : VarB W' X v s :=
  ⟨Nat.lt_of_lt_of_le h.lt hg.size, hg.cell h.c0 (fun e => hr e.symm), hg.cell h.c1 (fun e => hr e.symm)⟩
theorem VarB.new (W : World) (v : Int) (s : Value) (T : TypeId) : VarB (W.alloc (.cells #[.int .i64 v, s] T)) W.heap.size v s := ⟨by simp, by simp, by simp⟩

/-- The state of a law whose results are lists of blocks: the model's result (from i0 on, before i1), the two copies and their variables, the program's result. -/
structure CB (w : World) (v u : Int) (s t sW s8 s9 sG : Value) (X Y i0 i1 i2 i3 i4 i5 i6 : Nat) (LW L8 L9 LG : List Blk) (W : World) : Prop where
  st : St2 w v u s t W
  o0 : w.heap.size + 1 < i0
  o1 : i0 ≤ i1
  o2 : i1 ≤ i2
  oX : i2 ≤ X
  oX' : X < i3
  o4 : i3 ≤ i4
  oY : i4 ≤ Y
  oY' : Y < i5
  o6 : i5 ≤ i6
  rW : ResR W i0 i1 sW LW
  r8 : ResR W i1 i2 s8 L8
  vX : VarB W X v s8
  r9 : ResR W i3 i4 s9 L9
  vY : VarB W Y u s9
  rG : ResR W i5 i6 sG LG
section
variable {w : World} {v u : Int} {s t sW s8 s9 sG : Value} {X Y i0 i1 i2 i3 i4 i5 i6 : Nat} {LW L8 L9 LG : List Blk} {W W' : World}
theorem CB.step (h : CB w v u s t sW s8 s9 sG X Y i0 i1 i2 i3 i4 i5 i6 LW L8 L9 LG W) (hg : W.grownBy W' none) : CB w v u s t sW s8 s9 sG X Y i0 i1 i2 i3 i4 i5 i6 LW L8 L9 LG W' :=
  ⟨h.st.step hg (by simp), h.o0, h.o1, h.o2, h.oX, h.oX', h.o4, h.oY, h.oY', h.o6, h.rW.kept hg (by simp), h.r8.kept hg (by simp), h.vX.step hg (by simp), h.r9.kept hg (by simp), h.vY.step hg (by simp), h.rG.kept hg (by simp)⟩
theorem CB.mark8 (h : CB w v u s t sW s8 s9 sG X Y i0 i1 i2 i3 i4 i5 i6 LW L8 L9 LG W) {row : Option Nat} (hg : W.grownBy W' row) (hr : ∀ r, row = some r → i1 ≤ r ∧ r < i2) {L : List Blk} (hn : ResR W' i1 i2 s8 L) :
    CB w v u s t sW s8 s9 sG X Y i0 i1 i2 i3 i4 i5 i6 LW L L9 LG W' := by
  obtain ⟨st, o0, o1, o2, oX, oX', o4, oY, oY', o6, rW, r8, vX, r9, vY, rG⟩ := h
  exact ⟨st.step hg (fun r e => by have := hr r e; omega), o0, o1, o2, oX, oX', o4, oY, oY', o6, rW.kept hg (fun r e => by have := hr r e; omega), hn, vX.step hg (fun e => by have := hr _ e; omega), r9.kept hg (fun r e => by have := hr r e; omega), vY.step hg (fun e => by have := hr _ e; omega), rG.kept hg (fun r e => by have := hr r e; omega)⟩
theorem CB.mark9 (h : CB w v u s t sW s8 s9 sG X Y i0 i1 i2 i3 i4 i5 i6 LW L8 L9 LG W) {row : Option Nat} (hg : W.grownBy W' row) (hr : ∀ r, row = some r → i3 ≤ r ∧ r < i4) {L : List Blk} (hn : ResR W' i3 i4 s9 L) :
    CB w v u s t sW s8 s9 sG X Y i0 i1 i2 i3 i4 i5 i6 LW L8 L LG W' := by
  obtain ⟨st, o0, o1, o2, oX, oX', o4, oY, oY', o6, rW, r8, vX, r9, vY, rG⟩ := h
  exact ⟨st.step hg (fun r e => by have := hr r e; omega), o0, o1, o2, oX, oX', o4, oY, oY', o6, rW.kept hg (fun r e => by have := hr r e; omega), r8.kept hg (fun r e => by have := hr r e; omega), vX.step hg (fun e => by have := hr _ e; omega), hn, vY.step hg (fun e => by have := hr _ e; omega), rG.kept hg (fun r e => by have := hr r e; omega)⟩
theorem CB.markG (h : CB w v u s t sW s8 s9 sG X Y i0 i1 i2 i3 i4 i5 i6 LW L8 L9 LG W) {row : Option Nat} (hg : W.grownBy W' row) (hr : ∀ r, row = some r → i5 ≤ r ∧ r < i6) {L : List Blk} (hn : ResR W' i5 i6 sG L) :
    CB w v u s t sW s8 s9 sG X Y i0 i1 i2 i3 i4 i5 i6 LW L8 L9 L W' := by
  obtain ⟨st, o0, o1, o2, oX, oX', o4, oY, oY', o6, rW, r8, vX, r9, vY, rG⟩ := h
  exact ⟨st.step hg (fun r e => by have := hr r e; omega), o0, o1, o2, oX, oX', o4, oY, oY', o6, rW.kept hg (fun r e => by have := hr r e; omega), r8.kept hg (fun r e => by have := hr r e; omega), vX.step hg (fun e => by have := hr _ e; omega), r9.kept hg (fun r e => by have := hr r e; omega), vY.step hg (fun e => by have := hr _ e; omega), hn⟩
end
end Go.Proofs.Ytkpnlecmfmbkaaa

namespace Go.Proofs.Ytkpnlecmfmbkaaa
open Go.RowKit Go.Maps
theorem ResI.slice {w : World} {lo hi : Nat} {s : Value} {zs : List Int} (h : ResI w lo hi s zs) : ∃ a c, s = .slice a zs.length c := by
  rcases h with ⟨rfl, a, c, rfl⟩ | ⟨g, cap, rfl, _⟩ <;> exact ⟨_, _, rfl⟩
theorem ResI.wide {w : World} {lo hi lo' hi' : Nat} {s : Value} {zs : List Int} (h : ResI w lo hi s zs) (h1 : lo' ≤ lo) (h2 : hi ≤ hi') : ResI w lo' hi' s zs := by
  rcases h with h | ⟨g, cap, rfl, h3, h4, ho⟩
  · exact .inl h
  · exact .inr ⟨g, cap, rfl, by omega, by omega, ho⟩
structure St1 (w : World) (v : Int) (s : Value) (W : World) : Prop where
  below : Below w.heap.size w W
  big : w.heap.size < W.heap.size
  x0 : W.cell? ⟨w.heap.size, 0, none⟩ = some (.int .i64 v)
  x1 : W.cell? ⟨w.heap.size, 1, none⟩ = some s
theorem St1.step {w : World} {v : Int} {s : Value} {W W' : World} {row : Option Nat} (h : St1 w v s W) (hg : W.grownBy W' row) (hr : ∀ r, row = some r → w.heap.size < r) : St1 w v s W' :=
  ⟨h.below.grown hg h.below.size (fun r e => by have := hr r e; omega), Nat.lt_of_lt_of_le h.big hg.size,
    hg.cell h.x0 (fun e => by have := hr _ e.symm; simp at this), hg.cell h.x1 (fun e => by have := hr _ e.symm; simp at this)⟩
theorem St1.start (w : World) (v : Int) (s : Value) : St1 w v s (w.alloc (.cells #[.int .i64 v, s] 24)) :=
  ⟨(Below.refl _ _).alloc (Nat.le_refl _) _, by simp, by simp [go_sem], by simp [go_sem]⟩
structure CI (w : World) (v : Int) (s sW s8 sG : Value) (X i0 i1 i2 i5 i6 : Nat) (LW : List Int) (L8 : List Blk) (LG : List Int) (W : World) : Prop where
  st : St1 w v s W
  o0 : w.heap.size < i0
  o1 : i0 ≤ i1
  o2 : i1 ≤ i2
  oX : i2 ≤ X
  oX' : X < i5
  o6 : i5 ≤ i6
  rW : ResI W i0 i1 sW LW
  r8 : ResR W i1 i2 s8 L8
  vX : VarB W X v s8
  rG : ResI W i5 i6 sG LG
section
variable {w : World} {v : Int} {s sW s8 sG : Value} {X i0 i1 i2 i5 i6 : Nat} {LW LG : List Int} {L8 : List Blk} {W W' : World}
theorem CI.step (h : CI w v s sW s8 sG X i0 i1 i2 i5 i6 LW L8 LG W) (hg : W.grownBy W' none) : CI w v s sW s8 sG X i0 i1 i2 i5 i6 LW L8 LG W' :=
  ⟨h.st.step hg (by simp), h.o0, h.o1, h.o2, h.oX, h.oX', h.o6, h.rW.kept hg (by simp), h.r8.kept hg (by simp), h.vX.step hg (by simp), h.rG.kept hg (by simp)⟩
theorem CI.mark8 (h : CI w v s sW s8 sG X i0 i1 i2 i5 i6 LW L8 LG W) {row : Option Nat} (hg : W.grownBy W' row) (hr : ∀ r, row = some r → i1 ≤ r ∧ r < i2) {L : List Blk} (hn : ResR W' i1 i2 s8 L) :
    CI w v s sW s8 sG X i0 i1 i2 i5 i6 LW L LG W' := by
  obtain ⟨st, o0, o1, o2, oX, oX', o6, rW, r8, vX, rG⟩ := h
  exact ⟨st.step hg (fun r e => by have := hr r e; omega), o0, o1, o2, oX, oX', o6, rW.kept hg (fun r e => by have := hr r e; omega), hn, vX.step hg (fun e => by have := hr _ e; omega), rG.kept hg (fun r e => by have := hr r e; omega)⟩
theorem CI.markG (h : CI w v s sW s8 sG X i0 i1 i2 i5 i6 LW L8 LG W) {row : Option Nat} (hg : W.grownBy W' row) (hr : ∀ r, row = some r → i5 ≤ r ∧ r < i6) {L : List Int} (hn : ResI W' i5 i6 sG L) :
    CI w v s sW s8 sG X i0 i1 i2 i5 i6 LW L8 L W' := by
  obtain ⟨st, o0, o1, o2, oX, oX', o6, rW, r8, vX, rG⟩ := h
  exact ⟨st.step hg (fun r e => by have := hr r e; omega), o0, o1, o2, oX, oX', o6, rW.kept hg (fun r e => by have := hr r e; omega), r8.kept hg (fun r e => by have := hr r e; omega), vX.step hg (fun e => by have := hr _ e; omega), hn⟩
end
theorem gb_drew1 (w : World) : w.grownBy w.drew none := ⟨rfl, rfl, rfl, Nat.le_refl _, fun _ _ _ => rfl⟩
theorem gb_alloc1 (w : World) (o : Obj) : w.grownBy (w.alloc o) none := World.grownBy_alloc w o none
end Go.Proofs.Ytkpnlecmfmbkaaa

namespace Go.Proofs.Ytkpnlecmfmbkaaa
open Go.RowKit Go.Maps
/-- The value is a slice of just these n rows. -/
def SSB (w : World) (s : Value) (n : Nat) (F : Nat → List Int) : Prop :=
  n ≤ 1100000 ∧ ((n = 0 ∧ ∃ a c, s = .slice a 0 c) ∨ ∃ b off cap, s = .slice (some ⟨b, off, none⟩) n cap ∧ b < w.heap.size ∧ ∀ k, k < n → ∃ a c, w.cell? ⟨b, off + k, none⟩ = some (.slice a (F k).length c) ∧ IB w (.slice a (F k).length c) (F k))
theorem SSB.below {w w' : World} {s : Value} {n : Nat} {F : Nat → List Int} (h : SSB w s n F) {B : Nat} (hb : Below B w w') (hB : w.heap.size ≤ B) : SSB w' s n F := by
  obtain ⟨h1, h2⟩ := h
  refine ⟨h1, ?_⟩
  rcases h2 with h2 | ⟨b, off, cap, rfl, hl, hr⟩
  · exact .inl h2
  · refine .inr ⟨b, off, cap, rfl, by have := hb.size; omega, fun k hk => ?_⟩
    obtain ⟨a, c, hc, hi⟩ := hr k hk
    exact ⟨a, c, (hb.cell (by simp; omega)).trans hc, hi.below hb hB⟩
theorem SSB.slice {w : World} {s : Value} {n : Nat} {F : Nat → List Int} (h : SSB w s n F) : ∃ a c, s = .slice a n c := by
  rcases h.2 with ⟨rfl, a, c, rfl⟩ | ⟨b, off, cap, rfl, _⟩ <;> exact ⟨_, _, rfl⟩
set_option maxRecDepth 100000 in
theorem eqInt64SS_same (s t : Value) (n : Nat) (F : Nat → List Int) (w : World) (h : SSB w s n F) (k : SSB w t n F) : Calls Try.prog 28 #[s, t] w (RV (.bool true) w) := by
  have hn := h.1
  by_cases h0 : n = 0
  · obtain ⟨a, c, rfl⟩ := h.slice
    obtain ⟨a', c', rfl⟩ := k.slice
    subst h0
    clear h k hn
    go_enter Try.func28, Try.ntmps28
    go_wp2
    refine wp_loop_rounds 1 ?_
    rw [rounds_succ]
    go_wp2
    go_ret
    exact RV_of rfl (Below.refl _ _)
  · rcases h.2 with ⟨e, _⟩ | ⟨b, off, cap, rfl, hb, hB⟩
    · exact absurd e h0
    · rcases k.2 with ⟨e, _⟩ | ⟨b', off', cap', rfl, hb', hB'⟩
      · exact absurd e h0
      · have HB := Lib.hid hB
        have HB' := Lib.hid hB'
        clear hB hB' h k h0
        have hne : (((n : Nat) : Int) != (n : Nat)) = false := by simp
        go_enter Try.func28, Try.ntmps28
        go_wp2
        go_loopw [5] (fun i wr => ∃ k : Nat, k ≤ n ∧ i = .int .i64 k ∧ Below w.heap.size w wr) (fun i _ => n - (intOf i).toNat)
        case atStart => exact ⟨0, Nat.zero_le _, rfl, Below.refl _ _⟩
        case round =>
          obtain ⟨k, hk, rfl, hBw⟩ := hrel
          by_cases hkl : k < n
          · obtain ⟨a1, c1, q1, i1⟩ := HB.out k hkl
            obtain ⟨a2, c2, q2, i2⟩ := HB'.out k hkl
            have q1 := (hBw.cell (p := ⟨b, off + k, none⟩) hb).trans q1
            have q2 := (hBw.cell (p := ⟨b', off' + k, none⟩) hb').trans q2
            have I1 := Lib.hid (i1.below hBw (Nat.le_refl _))
            have I2 := Lib.hid (i2.below hBw (Nat.le_refl _))
            clear i1 i2
            have g0 : (0 : Int) ≤ (k : Int) := by omega
            have g1 : (k : Int) < (n : Int) := by omega
            go_wp2_with fail
            go_region_with (go_at_call 29; refine (eqInt64S_same _ _ (F k) _ (I1.out.below ((Below.refl _ _).drew) (Nat.le_refl _)) (I2.out.below ((Below.refl _ _).drew) (Nat.le_refl _))).mono ?_; rintro e w1 ⟨rfl, hb1⟩)
            all_goals
              go_wp2_with fail
              go_roundw
              case rel => exact ⟨k + 1, by omega, by go_num, (hBw.drew).trans (hb1.mono (by have := hBw.size; simp; omega))⟩
              case measure => simp [intOf]; omega
          · go_wp2
            go_ret
            exact RV_of rfl hBw
/-- Rows of its own: the head at block G, the k-th row at block gs k. -/
structure SSR (w : World) (lo G : Nat) (gs caps : Nat → Nat) (n : Nat) (F : Nat → List Int) : Prop where
  cell : ∀ k, k < n → w.cell? ⟨G, k, none⟩ = some (.slice (some ⟨gs k, 0, none⟩) (F k).length (caps k))
  row : ∀ k, k < n → OwnAtI w (gs k) (F k)
  ne : ∀ k, k < n → gs k ≠ G
  inc : ∀ j k, j < k → k < n → gs j ≠ gs k
  low : ∀ k, k < n → lo ≤ gs k
  lt : G < w.heap.size
theorem SSR.kept {w w' : World} {lo G : Nat} {gs caps : Nat → Nat} {n : Nat} {F : Nat → List Int} (h : SSR w lo G gs caps n F) {row : Option Nat} (hg : w.grownBy w' row) (hG : some G ≠ row) (hr : ∀ k, k < n → some (gs k) ≠ row) : SSR w' lo G gs caps n F :=
  ⟨fun k hk => hg.cell (h.cell k hk) (by simpa using hG), fun k hk => (h.row k hk).kept hg (hr k hk), h.ne, h.inc, h.low, Nat.lt_of_lt_of_le h.lt hg.size⟩
theorem SSR.below {w w' : World} {lo G : Nat} {gs caps : Nat → Nat} {n : Nat} {F : Nat → List Int} (h : SSR w lo G gs caps n F) {B : Nat} (hb : Below B w w') (hB : w.heap.size ≤ B) : SSR w' lo G gs caps n F :=
  h.kept (only_of_below (hb.mono hB) none) (by simp) (by simp)
theorem SSR.sb {w : World} {lo G cap : Nat} {gs caps : Nat → Nat} {n : Nat} {F : Nat → List Int} (h : SSR w lo G gs caps n F) (hn : n ≤ 1100000) (hF : ∀ k, k < n → (F k).length ≤ 1100000) : SSB w (.slice (some ⟨G, 0, none⟩) n cap) n F :=
  ⟨hn, .inr ⟨G, 0, cap, rfl, h.lt, fun k hk => ⟨_, _, by rw [Nat.zero_add]; exact h.cell k hk, ⟨hF k hk, .inr ⟨gs k, 0, caps k, rfl, (h.row k hk).lt, (h.row k hk).at_⟩⟩⟩⟩⟩
/-- How many integers the first k rows hold. -/
def tot (F : Nat → List Int) : Nat → Nat
  | 0 => 0
  | k + 1 => tot F k + (F k).length
theorem tot_le (F : Nat → List Int) {j n : Nat} (h : j ≤ n) : tot F j ≤ tot F n := by
  induction h with
  | refl => exact Nat.le_refl _
  | step _ ih => exact Nat.le_trans ih (by simp [tot])
/-- The rows after marking. -/
def markSS (k0 : Int) (F : Nat → List Int) (j : Nat) : List Int := markI (k0 + tot F j) (F j).length
theorem SSR.mark1 {w w' : World} {lo G : Nat} {gs caps : Nat → Nat} {n : Nat} {F : Nat → List Int} (h : SSR w lo G gs caps n F) {j : Nat} (hj : j < n) (L : List Int) (hL : L.length = (F j).length) (hg : w.grownBy w' (some (gs j))) (ho : OwnAtI w' (gs j) L) :
    SSR w' lo G gs caps n (fun k => if k = j then L else F k) := by
  refine ⟨fun k hk => ?_, fun k hk => ?_, h.ne, h.inc, h.low, Nat.lt_of_lt_of_le h.lt hg.size⟩
  · have hc := hg.cell (h.cell k hk) (by simpa using Ne.symm (h.ne j hj))
    split
    · subst k
      rw [hL]; exact hc
    · exact hc
  · split
    · subst k; exact ho
    · refine (h.row k hk).kept hg (fun e => ?_)
      have e : gs k = gs j := by simpa using e
      rcases Nat.lt_trichotomy k j with hlt | rfl | hlt
      · have := h.inc k j hlt hj; omega
      · contradiction
      · have := h.inc j k hlt hk; omega
def partSS (k0 : Int) (F : Nat → List Int) (j : Nat) : Nat → List Int := fun k => if k < j then markSS k0 F k else F k
theorem partSS_len (k0 : Int) (F : Nat → List Int) (j k : Nat) : (partSS k0 F j k).length = (F k).length := by
  unfold partSS markSS
  split
  · rw [markI_length]
  · rfl
theorem partSS_succ (k0 : Int) (F : Nat → List Int) (j : Nat) : (fun k => if k = j then markSS k0 F j else partSS k0 F j k) = partSS k0 F (j + 1) := by
  funext k
  unfold partSS
  by_cases h : k = j
  · subst h; simp
  · rw [if_neg h]
    by_cases h2 : k < j
    · rw [if_pos h2, if_pos (by omega)]
    · rw [if_neg h2, if_neg (by omega)]
theorem SSR.congr {w : World} {lo G : Nat} {gs caps : Nat → Nat} {n : Nat} {F F' : Nat → List Int} (h : SSR w lo G gs caps n F) (e : ∀ k, k < n → F k = F' k) : SSR w lo G gs caps n F' :=
  ⟨fun k hk => by rw [← e k hk]; exact h.cell k hk, fun k hk => by rw [← e k hk]; exact h.row k hk, h.ne, h.inc, h.low, h.lt⟩
set_option maxRecDepth 100000 in
theorem markInt64SS_any (lo G cap : Nat) (gs caps : Nat → Nat) (n : Nat) (F : Nat → List Int) (k0 : Int) (w : World) (h : SSR w lo G gs caps n F) (hl : n ≤ 1100000) (hlo : lo ≤ w.heap.size) (hT : tot F n ≤ 1100000) (h0 : 0 ≤ k0) (h1 : k0 ≤ 5000000) :
    Calls Try.prog 32 #[.slice (some ⟨G, 0, none⟩) n cap, .int .i64 k0] w (fun e w' => e = .returned (.int .i64 (k0 + tot F n)) ∧ Below lo w w' ∧ SSR w' lo G gs caps n (markSS k0 F)) := by
  have H := Lib.hid h
  clear h
  go_enter Try.func32, Try.ntmps32
  go_wp2
  go_loopw [1, 5] (fun t i wr => ∃ j : Nat, j ≤ n ∧ i = .int .i64 j ∧ t = .int .i64 (k0 + tot F j) ∧ Below lo w wr ∧ SSR wr lo G gs caps n (partSS k0 F j)) (fun _ i _ => n - (intOf i).toNat)
  case atStart => exact ⟨0, Nat.zero_le _, rfl, by simp [tot], Below.refl _ _, H.out.congr (fun k _ => by simp [partSS])⟩
  case round =>
    obtain ⟨j, hj, rfl, rfl, hB, hS⟩ := hrel
    have hSz := hB.size
    by_cases hjl : j < n
    · have c1 := hS.cell j hjl
      have hrow := hS.row j hjl
      have hlow := hS.low j hjl
      have hlen := partSS_len k0 F j j
      have hFj : partSS k0 F j j = F j := by simp [partSS]
      rw [hFj] at c1 hrow
      have htj : tot F (j + 1) ≤ tot F n := tot_le F hjl
      have htj' : tot F (j + 1) = tot F j + (F j).length := rfl
      have HS := Lib.hid hS
      have HM := Lib.hid (markInt64S_any (gs j) (caps j) (F j) (k0 + tot F j) wr hrow (by omega) (by omega) (by omega))
      clear hlen hFj hrow hS
      have g0 : (0 : Int) ≤ (j : Int) := by omega
      have g1 : (j : Int) < (n : Int) := by omega
      go_wp2_with (go_at_call 33; refine HM.out.mono ?_; rintro e w1 ⟨rfl, hg1, ho1⟩)
      go_roundw
      case rel => exact ⟨j + 1, by omega, by go_num, int_eq (by rw [htj']; omega), hB.grown hg1 (by omega) (fun r e => by simp at e; omega), by
        have := HS.out.mark1 hjl (markSS k0 F j) (by unfold markSS; rw [markI_length, partSS_len]) hg1 ho1
        rw [partSS_succ] at this
        exact this⟩
      case measure => simp [intOf]; omega
    · go_wp2
      go_ret
      have e : j = n := by omega
      subst e
      exact ⟨rfl, hB, hS.congr (fun k hk => by simp [partSS, hk])⟩
set_option maxRecDepth 100000 in
theorem heldInt64SS_any (lo G cap : Nat) (gs caps : Nat → Nat) (n : Nat) (F : Nat → List Int) (k0 : Int) (w : World) (h : SSR w lo G gs caps n (markSS k0 F)) (hl : n ≤ 1100000) (hT : tot F n ≤ 1100000) (h0 : 0 ≤ k0) (h1 : k0 ≤ 5000000) :
    Calls Try.prog 34 #[.slice (some ⟨G, 0, none⟩) n cap, .int .i64 k0] w (RS (.int .i64 (k0 + tot F n)) w) := by
  have H := Lib.hid h
  clear h
  go_enter Try.func34, Try.ntmps34
  go_wp2
  go_loop [1, 5] (fun t i => ∃ j : Nat, j ≤ n ∧ i = .int .i64 j ∧ t = .int .i64 (k0 + tot F j)) (fun _ i => n - (intOf i).toNat)
  case atStart => exact ⟨0, Nat.zero_le _, rfl, by simp [tot]⟩
  case round =>
    obtain ⟨j, hj, rfl, rfl⟩ := hrel
    by_cases hjl : j < n
    · have c1 := H.out.cell j hjl
      have hrow := (H.out.row j hjl).at_
      have htj : tot F (j + 1) ≤ tot F n := tot_le F hjl
      have htj' : tot F (j + 1) = tot F j + (F j).length := rfl
      have hmm : (markSS k0 F j).length = (F j).length := by unfold markSS; rw [markI_length]
      rw [hmm] at c1
      have HM := Lib.hid (heldInt64S_any (gs j) (caps j) (F j).length (k0 + tot F j) w hrow (by omega) (by omega) (by omega))
      clear hmm hrow
      obtain ⟨m, hm⟩ : ∃ m, m = k0 + (tot F j : Int) + ((F j).length : Int) := ⟨_, rfl⟩
      rw [← hm] at HM
      have hm0 : 0 ≤ m := by omega
      have HME := Lib.hid hm
      clear hm
      have g0 : (0 : Int) ≤ (j : Int) := by omega
      have g1 : (j : Int) < (n : Int) := by omega
      go_wp2_with (go_at_call 35; refine HM.out.mono ?_; rintro e w1 ⟨rfl, rfl⟩)
      go_round
      case rel => exact ⟨j + 1, by omega, by go_num, int_eq (by rw [htj', HME.out]; omega)⟩
      case measure => simp [intOf]; omega
    · go_wp2
      go_ret
      have e : j = n := by omega
      subst e
      exact RS_of rfl
end Go.Proofs.Ytkpnlecmfmbkaaa

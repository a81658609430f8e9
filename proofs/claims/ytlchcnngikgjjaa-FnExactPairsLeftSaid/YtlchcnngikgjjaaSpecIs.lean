
/- The model's test of a system answers as the plain function isSysSpec, which is isSysImpl. -/
import Derived.Test.YtlchcnngikgjjaaSpecFits
namespace Go.Proofs.Ytlchcnngikgjjaa
open Go.RowKit Go.Maps
set_option maxRecDepth 100000 in
theorem l01Is_size (v : Int) (s : Value) (hs : ∃ a n c, s = .slice a n c) (w : World) (h : (decide (3 ≤ v) && decide (v ≤ 15)) = false) : Calls Try.prog 89 #[.agg #[.int .i64 v, s]] w (RV (.bool false) w) := by
  obtain ⟨a, n, c, rfl⟩ := hs
  have hc1 := l01In_any v 3 15
  rw [h] at hc1
  have HC1 := Lib.hid hc1
  clear hc1 h
  go_enter Try.func89, Try.ntmps89
  go_wp2_with (go_at_call 102; refine (HC1.out _).mono ?_; rintro e w1 ⟨rfl, rfl⟩)
  go_ret
  exact RV_of rfl ((Below.refl _ _).alloc (Nat.le_refl _) _)
set_option maxRecDepth 100000 in
theorem l01Is_nil (v : Int) (a0 : Option Addr) (c0 : Nat) (w : World) (h : (decide (3 ≤ v) && decide (v ≤ 15)) = true) : Calls Try.prog 89 #[.agg #[.int .i64 v, .slice a0 0 c0]] w (RV (.bool true) w) := by
  have hsb : ∀ w, SB w (.slice a0 0 c0) [] := fun w => ⟨by simp, by simp, .inl ⟨a0, c0, rfl, rfl⟩⟩
  have hc1 := l01In_any v 3 15
  rw [h] at hc1
  have HC1 := Lib.hid hc1
  clear hc1 h
  go_enter Try.func89, Try.ntmps89
  go_wp2_with (go_at_call 102; refine (HC1.out _).mono ?_; rintro e w1 ⟨rfl, rfl⟩)
  refine wp_loop_rounds 1 ?_
  rw [rounds_succ]
  go_wp2_with (go_at_call 103; refine (l01Fits_any _ [] _ (hsb _)).mono ?_; rintro e w1 ⟨rfl, hb1⟩)
  go_ret
  exact RV_of rfl (((Below.refl _ _).alloc (Nat.le_refl _) _).trans (hb1.mono (by simp)))
set_option maxRecDepth 100000 in
theorem l01Is_long (v : Int) (a : Option Addr) (n c : Nat) (w : World) (hn : ¬ n ≤ 35) (h : (decide (3 ≤ v) && decide (v ≤ 15)) = true) : Calls Try.prog 89 #[.agg #[.int .i64 v, .slice a n c]] w (RV (.bool false) w) := by
  have hc1 := l01In_any v 3 15
  rw [h] at hc1
  have HC1 := Lib.hid hc1
  clear hc1 h
  have hd : (35 : Int) < (n : Int) := by omega
  go_enter Try.func89, Try.ntmps89
  go_wp2_with (go_at_call 102; refine (HC1.out _).mono ?_; rintro e w1 ⟨rfl, rfl⟩)
  go_ret
  exact RV_of rfl ((Below.refl _ _).alloc (Nat.le_refl _) _)

set_option maxRecDepth 100000 in
theorem l01Is_main (v : Int) (b off cap : Nat) (bs : List Blk) (w : World) (hwf : ∀ x ∈ bs, WFB x) (hlen : bs.length ≤ 35) (hlt : b < w.heap.size) (hbl : Blks w b off bs) (hsz : (decide (3 ≤ v) && decide (v ≤ 15)) = true) :
    Calls Try.prog 89 #[.agg #[.int .i64 v, .slice (some ⟨b, off, none⟩) bs.length cap]] w (RV (.bool (isSysSpec v bs)) w) := by
  have hc1 := l01In_any v 3 15
  rw [hsz] at hc1
  have HC1 := Lib.hid hc1
  have hfin : isSysSpec v bs = (orderGo v none bs && fitsGo [] bs) := by
    rw [isSysSpec, hsz]
    simp [hlen]
  have HFIN := Lib.hid hfin
  clear hc1 hsz hfin
  have hSB : SB w (.slice (some ⟨b, off, none⟩) bs.length cap) bs := ⟨hwf, by omega, .inr ⟨b, off, cap, rfl, hlt, hbl⟩⟩
  have HSB := Lib.hid hSB
  have HBL := Lib.hid hbl
  clear hSB hbl hwf
  go_enter Try.func89, Try.ntmps89
  go_wp2_with (go_at_call 102; refine (HC1.out _).mono ?_; rintro e w1 ⟨rfl, rfl⟩)
  go_loopw [3] (fun i wr => ∃ k : Nat, k ≤ bs.length ∧ i = .int .i64 k ∧ Below (w.heap.size + 1) (w.alloc (.cells #[.int .i64 v, .slice (some ⟨b, off, none⟩) bs.length cap] 26)) wr ∧
      Hid (orderGo v none bs = orderGo v (prevB bs k) (bs.drop k))) (fun i _ => bs.length - (intOf i).toNat)
  case atStart => exact ⟨0, Nat.zero_le _, rfl, Below.refl _ _, Lib.hid (by simp [prevB])⟩
  case round =>
    obtain ⟨k, hk, rfl, hB, HE⟩ := hrel
    have hz := hB.size
    simp at hz
    have p0 : wr.cell? ⟨w.heap.size, 0, none⟩ = some (.int .i64 v) := by rw [hB.cell (by simp)]; simp
    have p1 : wr.cell? ⟨w.heap.size, 1, none⟩ = some (.slice (some ⟨b, off, none⟩) bs.length cap) := by rw [hB.cell (by simp)]; simp
    have hBw : Below w.heap.size w wr := ((Below.refl _ _).alloc (Nat.le_refl _) _).trans (hB.mono (by omega))
    have hblr := HBL.out.below hBw hlt
    by_cases hkl : k < bs.length
    · obtain ⟨x, r, hx, e1, e2, e3, c1, c2, c3⟩ := blks_next hblr hkl
      rw [e1] at HE
      have E2 := Lib.hid e2
      have hxk : bs[k]? = some x := by
        have := congrArg List.head? e1
        simpa using this
      have EX := Lib.hid hxk
      clear e1 e2 e3 hxk hx
      have hc := l01Good_any v x
      obtain ⟨x1, x2, x3⟩ := x
      dsimp only at c1 c2 c3
      have q0 := cell_regrown p0
      have q1 := cell_regrown c1
      have q2 := cell_regrown c2
      have q3 := cell_regrown c3
      have s0 := cell_regrown p1
      have g0 : (0 : Int) ≤ (k : Int) := by omega
      have g1 : (k : Int) < (bs.length : Int) := by omega
      cases hg : goodB v ⟨x1, x2, x3⟩ with
      | false =>
        rw [hg] at hc
        have HC := Lib.hid hc
        have HG := Lib.hid hg
        clear hc hg hblr
        go_wp2
        refine wp_region_quiet_below (by kernel_rfl) (by kernel_rfl) ?_
        repeat (go_big_quiet_step (exact Calls.regrown_of (HC.out _)))
        refine wpQuiet_nil ?_
        intro _ hw'
        obtain ⟨⟨dq, osq⟩, hw''⟩ := hw'
        subst hw''
        go_wp2
        go_ret
        exact RV_of (bool_eq (by rw [HFIN.out, HE.out, orderGo_bad HG.out]; simp)) (hBw.trans ((below_regrown _ dq osq).mono hBw.size))
      | true =>
        rw [hg] at hc
        have HC := Lib.hid hc
        have HG := Lib.hid hg
        clear hc hg
        rcases k with _ | j
        · clear hblr
          simp only [Nat.zero_mul, Nat.add_zero] at c1 c2 c3 q1 q2 q3
          go_wp2
          refine wp_region_quiet_below (by kernel_rfl) (by kernel_rfl) ?_
          repeat (go_big_quiet_step (exact Calls.regrown_of (HC.out _)))
          refine wpQuiet_nil ?_
          intro _ hw'
          obtain ⟨⟨dq, osq⟩, hw''⟩ := hw'
          subst hw''
          go_wp2
          go_roundw
          case rel => exact ⟨1, by omega, by go_num, hB.trans ((below_regrown _ dq osq).mono (by omega)), Lib.hid (by rw [HE.out, E2.out]; simp only [prevB, EX.out]; exact orderGo_first HG.out)⟩
          case measure => simp [intOf]; omega
        · obtain ⟨y, hy, ey, d1, d2, d3⟩ := blks_at hblr (show j < bs.length by omega)
          have EY := Lib.hid ey
          clear hy ey hblr
          have hcc := l01Before_any y ⟨x1, x2, x3⟩
          obtain ⟨y1, y2, y3⟩ := y
          dsimp only at d1 d2 d3
          have r1 := cell_regrown d1
          have r2 := cell_regrown d2
          have r3 := cell_regrown d3
          have g2 : (0 : Int) ≤ (j : Int) := by omega
          have g3 : (j : Int) < (bs.length : Int) := by omega
          cases hb : befB ⟨y1, y2, y3⟩ ⟨x1, x2, x3⟩ with
          | false =>
            rw [hb] at hcc
            have HCC := Lib.hid hcc
            have HBF := Lib.hid hb
            clear hcc hb
            go_wp2
            refine wp_region_quiet_below (by kernel_rfl) (by kernel_rfl) ?_
            repeat (go_big_quiet_step (first | exact Calls.regrown_of (HC.out _) | exact Calls.regrown_of (HCC.out _)))
            refine wpQuiet_nil ?_
            intro _ hw'
            obtain ⟨⟨dq, osq⟩, hw''⟩ := hw'
            subst hw''
            go_wp2
            go_ret
            exact RV_of (bool_eq (by rw [HFIN.out, HE.out]; simp only [prevB, EY.out]; rw [orderGo_stop HBF.out]; simp)) (hBw.trans ((below_regrown _ dq osq).mono hBw.size))
          | true =>
            rw [hb] at hcc
            have HCC := Lib.hid hcc
            have HBF := Lib.hid hb
            clear hcc hb
            go_wp2
            refine wp_region_quiet_below (by kernel_rfl) (by kernel_rfl) ?_
            repeat (go_big_quiet_step (first | exact Calls.regrown_of (HC.out _) | exact Calls.regrown_of (HCC.out _)))
            refine wpQuiet_nil ?_
            intro _ hw'
            obtain ⟨⟨dq, osq⟩, hw''⟩ := hw'
            subst hw''
            go_wp2
            go_roundw
            case rel => exact ⟨j + 1 + 1, by omega, by go_num, hB.trans ((below_regrown _ dq osq).mono (by omega)), Lib.hid (by rw [HE.out, E2.out]; simp only [prevB, EY.out, EX.out]; exact orderGo_next HG.out HBF.out)⟩
            case measure => simp [intOf]; omega
    · have hsb := HSB.out.below hBw (Nat.le_refl _)
      have HSB2 := Lib.hid hsb
      clear hsb hblr
      go_wp2_with (go_at_call 103; refine (l01Fits_any _ bs _ HSB2.out).mono ?_; rintro e w1 ⟨rfl, hb1⟩)
      go_ret
      refine RV_of (bool_eq ?_) (hBw.trans (hb1.mono (by omega)))
      rw [HFIN.out, HE.out, List.drop_eq_nil_of_le (by omega)]
      simp [orderGo]

theorem l01Is_any (v : Int) (s : Value) (bs : List Blk) (w : World) (h : SB w s bs) : Calls Try.prog 89 #[.agg #[.int .i64 v, s]] w (RV (.bool (isSysImpl v bs)) w) := by
  rw [isSys_same]
  obtain ⟨hwf, hlen, h3⟩ := h
  cases hsz : decide (3 ≤ v) && decide (v ≤ 15) with
  | false =>
    have := l01Is_size v s (by rcases h3 with ⟨a0, c0, rfl, _⟩ | ⟨b, off, cap, rfl, _⟩ <;> exact ⟨_, _, _, rfl⟩) w hsz
    rw [isSysSpec, hsz]
    simpa using this
  | true =>
    rcases h3 with ⟨a0, c0, rfl, rfl⟩ | ⟨b, off, cap, rfl, hlt, hbl⟩
    · have := l01Is_nil v a0 c0 w hsz
      rw [isSysSpec, hsz]
      simpa [orderGo, fitsGo] using this
    · by_cases hl : bs.length ≤ 35
      · exact l01Is_main v b off cap bs w hwf hl hlt hbl hsz
      · have := l01Is_long v (some ⟨b, off, none⟩) bs.length cap w hl hsz
        rw [isSysSpec, hsz]
        simpa [hl] using this

end Go.Proofs.Ytlchcnngikgjjaa

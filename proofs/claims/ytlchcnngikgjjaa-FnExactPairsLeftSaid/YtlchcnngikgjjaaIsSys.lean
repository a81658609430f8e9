
/- impl.IsSystem answers as the plain function isSysImpl. -/
import Derived.Test.YtlchcnngikgjjaaShare
import Derived.Lib.QuietBelow
namespace Go.Proofs.Ytlchcnngikgjjaa
open Go.RowKit Go.Maps
theorem isSize_any (v : Int) (w : World) : Calls Try.prog 104 #[.int .i64 v] w (RS (.bool (decide (3 ≤ v) && decide (v ≤ 15))) w) := by
  go_enter Try.func104, Try.ntmps104
  go_wp2
  all_goals go_ret
  all_goals refine RS_of (bool_eq ?_)
  all_goals (simp; omega)

theorem isBlock_any (v : Int) (x : Blk) (w : World) : Calls Try.prog 106 #[.int .i64 v, bv x] w (RV (.bool (goodB v x)) w) := by
  obtain ⟨a, b, c⟩ := x
  unfold bv
  dsimp only
  go_enter Try.func106, Try.ntmps106
  go_wp2
  all_goals go_ret
  all_goals refine RV_of (bool_eq ?_) ((Below.refl _ _).alloc (Nat.le_refl _) _)
  all_goals (simp [goodB]; omega)

def prevB (bs : List Blk) : Nat → Option Blk
  | 0 => none
  | j + 1 => bs[j]?

theorem blks_at {w : World} {b off : Nat} {bs : List Blk} (h : Blks w b off bs) {k : Nat} (hk : k < bs.length) :
    ∃ x, x ∈ bs ∧ bs[k]? = some x ∧ w.cell? ⟨b, off + k * 3, none⟩ = some (.int .i64 x.a) ∧ w.cell? ⟨b, off + k * 3 + 1, none⟩ = some (.int .i64 x.b) ∧ w.cell? ⟨b, off + k * 3 + 2, none⟩ = some (.int .i64 x.c) := by
  refine ⟨bs[k], List.getElem_mem hk, List.getElem?_eq_getElem hk, ?_⟩
  have := h k hk
  simpa [hk] using this
/-- A cell of an old block, behind a new one. -/
theorem cell_past {w : World} {b o : Nat} {u : Value} {ob : Obj} (h : w.cell? ⟨b, o, none⟩ = some u) (hb : b < w.heap.size) : (w.alloc ob).cell? ⟨b, o, none⟩ = some u := by
  rw [World.cell?_alloc_past _ _ _ hb]
  exact h
theorem new_at {w : World} {cs : Array Value} {T : TypeId} (j : Nat) {v : Value} (hv : cs[j]? = some v) : (w.alloc (.cells cs T)).cell? ⟨w.heap.size, j, none⟩ = some v :=
  cell_new (Below.refl _ _) j hv

set_option maxRecDepth 100000 in
theorem IsSystem_nil (v : Int) (a0 : Option Addr) (c0 : Nat) (w : World) : Calls Try.prog 99 #[.agg #[.int .i64 v, .slice a0 0 c0]] w (RV (.bool (isSysImpl v [])) w) := by
  have hsb : ∀ w, SB w (.slice a0 0 c0) [] := fun w => ⟨by simp, by simp, .inl ⟨a0, c0, rfl, rfl⟩⟩
  cases hsz : decide (3 ≤ v) && decide (v ≤ 15) with
  | false =>
    have hc1 := isSize_any v
    rw [hsz] at hc1
    have HC1 := Lib.hid hc1
    have HSZ := Lib.hid hsz
    clear hc1 hsz
    go_enter Try.func99, Try.ntmps99
    go_wp2_with (go_at_call 104; refine (HC1.out _).mono ?_; rintro e w1 ⟨rfl, rfl⟩)
    go_ret
    exact RV_of (bool_eq (by rw [isSysImpl, HSZ.out]; simp)) ((Below.refl _ _).alloc (Nat.le_refl _) _)
  | true =>
    have hc1 := isSize_any v
    rw [hsz] at hc1
    have HC1 := Lib.hid hc1
    have HSZ := Lib.hid hsz
    clear hc1 hsz
    go_enter Try.func99, Try.ntmps99
    go_wp2_with (go_at_call 104; refine (HC1.out _).mono ?_; rintro e w1 ⟨rfl, rfl⟩)
    refine wp_loop_rounds 1 ?_
    rw [rounds_succ]
    go_wp2_with (go_at_call 107; refine (sharePair_any _ [] _ (hsb _)).mono ?_; rintro e w1 ⟨rfl, hb1⟩)
    go_ret
    exact RV_of (bool_eq (by rw [isSysImpl, HSZ.out]; simp [orderGo, shareGo])) (((Below.refl _ _).alloc (Nat.le_refl _) _).trans (hb1.mono (by simp)))

set_option maxRecDepth 100000 in
theorem IsSystem_size (v : Int) (s : Value) (hs : ∃ a n c, s = .slice a n c) (w : World) (h : (decide (3 ≤ v) && decide (v ≤ 15)) = false) : Calls Try.prog 99 #[.agg #[.int .i64 v, s]] w (RV (.bool false) w) := by
  obtain ⟨a, n, c, rfl⟩ := hs
  have hc1 := isSize_any v
  rw [h] at hc1
  have HC1 := Lib.hid hc1
  clear hc1 h
  go_enter Try.func99, Try.ntmps99
  go_wp2_with (go_at_call 104; refine (HC1.out _).mono ?_; rintro e w1 ⟨rfl, rfl⟩)
  go_ret
  exact RV_of rfl ((Below.refl _ _).alloc (Nat.le_refl _) _)

set_option maxRecDepth 100000 in
theorem IsSystem_main (v : Int) (b off cap : Nat) (bs : List Blk) (w : World) (hwf : ∀ x ∈ bs, WFB x) (hlen : bs.length ≤ 1100000) (hlt : b < w.heap.size) (hbl : Blks w b off bs) (hsz : (decide (3 ≤ v) && decide (v ≤ 15)) = true) :
    Calls Try.prog 99 #[.agg #[.int .i64 v, .slice (some ⟨b, off, none⟩) bs.length cap]] w (RV (.bool (isSysImpl v bs)) w) := by
  have hc1 := isSize_any v
  rw [hsz] at hc1
  have HC1 := Lib.hid hc1
  have HSZ := Lib.hid hsz
  clear hc1 hsz
  have hSB : SB w (.slice (some ⟨b, off, none⟩) bs.length cap) bs := ⟨hwf, hlen, .inr ⟨b, off, cap, rfl, hlt, hbl⟩⟩
  have HSB := Lib.hid hSB
  have HBL := Lib.hid hbl
  clear hSB hbl hwf
  go_enter Try.func99, Try.ntmps99
  go_wp2_with (go_at_call 104; refine (HC1.out _).mono ?_; rintro e w1 ⟨rfl, rfl⟩)
  go_loopw [12] (fun i wr => ∃ k : Nat, k ≤ bs.length ∧ i = .int .i64 k ∧ Below (w.heap.size + 1) (w.alloc (.cells #[.int .i64 v, .slice (some ⟨b, off, none⟩) bs.length cap] 26)) wr ∧
      Hid (orderGo v none bs = orderGo v (prevB bs k) (bs.drop k))) (fun i _ => bs.length - (intOf i).toNat)
  case atStart => exact ⟨0, Nat.zero_le _, rfl, Below.refl _ _, Lib.hid (by simp [prevB])⟩
  case round =>
    obtain ⟨k, hk, rfl, hB, HE⟩ := hrel
    have hz := hB.size
    simp at hz
    have p0 : wr.cell? ⟨w.heap.size, 0, none⟩ = some (.int .i64 v) := by rw [hB.cell (by simp)]; simp
    have p1 : wr.cell? ⟨w.heap.size, 1, none⟩ = some (.slice (some ⟨b, off, none⟩) bs.length cap) := by rw [hB.cell (by simp)]; simp
    have hBw : Below w.heap.size w wr := ((Below.refl _ _).alloc (Nat.le_refl _) _).trans (hB.mono (by omega))
    have hblr := HBL.out.below hBw hlt
    by_cases hkl : k < bs.length
    · obtain ⟨x, r, hx, e1, e2, e3, c1, c2, c3⟩ := blks_next hblr hkl
      rw [e1] at HE
      have E2 := Lib.hid e2
      have hxk : bs[k]? = some x := by
        have := congrArg List.head? e1
        simpa using this
      have EX := Lib.hid hxk
      clear e1 e2 e3 hxk hx
      have hc := isBlock_any v x
      obtain ⟨x1, x2, x3⟩ := x
      dsimp only at c1 c2 c3
      have q0 := cell_regrown (cell_past (ob := .cells #[.int .i64 x1, .int .i64 x2, .int .i64 x3] 62) p0 (by omega))
      have q1 := cell_regrown (new_at (w := wr) (cs := #[.int .i64 x1, .int .i64 x2, .int .i64 x3]) (T := 62) 0 rfl)
      have q2 := cell_regrown (new_at (w := wr) (cs := #[.int .i64 x1, .int .i64 x2, .int .i64 x3]) (T := 62) 1 rfl)
      have q3 := cell_regrown (new_at (w := wr) (cs := #[.int .i64 x1, .int .i64 x2, .int .i64 x3]) (T := 62) 2 rfl)
      cases hg : goodB v ⟨x1, x2, x3⟩ with
      | false =>
        rw [hg] at hc
        have HC := Lib.hid hc
        have HG := Lib.hid hg
        clear hc hg hblr
        go_wp2
        refine wp_region_quiet_below (by kernel_rfl) (by kernel_rfl) ?_
        repeat (go_big_quiet_step (exact Calls.regrown_of (HC.out _)))
        refine wpQuiet_nil ?_
        intro _ hw'
        obtain ⟨⟨dq, osq⟩, hw''⟩ := hw'
        subst hw''
        go_wp2
        go_ret
        exact RV_of (bool_eq (by rw [isSysImpl, HE.out, orderGo_bad HG.out]; simp)) ((hBw.alloc (by omega) _).trans ((below_regrown _ dq osq).mono (by simp; omega)))
      | true =>
        rw [hg] at hc
        have HC := Lib.hid hc
        have HG := Lib.hid hg
        clear hc hg
        rcases k with _ | j
        · clear hblr
          simp only [Nat.zero_mul, Nat.add_zero] at c1 c2 c3
          go_wp2
          refine wp_region_quiet_below (by kernel_rfl) (by kernel_rfl) ?_
          repeat (go_big_quiet_step (exact Calls.regrown_of (HC.out _)))
          refine wpQuiet_nil ?_
          intro _ hw'
          obtain ⟨⟨dq, osq⟩, hw''⟩ := hw'
          subst hw''
          go_wp2
          go_roundw
          case rel => exact ⟨1, by omega, by go_num, (hB.alloc (by omega) _).trans ((below_regrown _ dq osq).mono (by simp; omega)), Lib.hid (by rw [HE.out, E2.out]; simp only [prevB, EX.out]; exact orderGo_first HG.out)⟩
          case measure => simp [intOf]; omega
        · obtain ⟨y, hy, ey, d1, d2, d3⟩ := blks_at hblr (show j < bs.length by omega)
          have EY := Lib.hid ey
          clear hy ey hblr
          have hcc := compareBlocks_any y ⟨x1, x2, x3⟩
          have hneg := cmpB_neg y ⟨x1, x2, x3⟩
          generalize cmpB y ⟨x1, x2, x3⟩ = c at hcc hneg
          obtain ⟨y1, y2, y3⟩ := y
          dsimp only at d1 d2 d3
          have HN := Lib.hid hneg
          have HCC := Lib.hid hcc
          clear hneg hcc
          have s0 := cell_regrown (cell_past (ob := .cells #[.int .i64 x1, .int .i64 x2, .int .i64 x3] 62) p1 (by omega))
          have s1 := cell_regrown (cell_past (ob := .cells #[.int .i64 x1, .int .i64 x2, .int .i64 x3] 62) d1 (by omega))
          have s2 := cell_regrown (cell_past (ob := .cells #[.int .i64 x1, .int .i64 x2, .int .i64 x3] 62) d2 (by omega))
          have s3 := cell_regrown (cell_past (ob := .cells #[.int .i64 x1, .int .i64 x2, .int .i64 x3] 62) d3 (by omega))
          go_wp2
          refine wp_region_quiet_below (by kernel_rfl) (by kernel_rfl) ?_
          repeat (go_big_quiet_step (first | exact Calls.regrown_of (HC.out _) | exact Calls.regrown_of (HCC.out _)))
          refine wpQuiet_nil ?_
          intro _ hw'
          obtain ⟨⟨dq, osq⟩, hw''⟩ := hw'
          subst hw''
          go_wp2
          · have hc0 : 0 ≤ c := by assumption
            go_ret
            exact RV_of (bool_eq (by
              have hb : befB ⟨y1, y2, y3⟩ ⟨x1, x2, x3⟩ = false := by
                cases hb : befB ⟨y1, y2, y3⟩ ⟨x1, x2, x3⟩
                · rfl
                · have := HN.out.2 hb; omega
              rw [isSysImpl, HE.out]; simp only [prevB, EY.out]; rw [orderGo_stop hb]; simp)) ((hBw.alloc (by omega) _).trans ((below_regrown _ dq osq).mono (by simp; omega)))
          · have hc0 : c < 0 := by assumption
            go_roundw
            case rel => exact ⟨j + 1 + 1, by omega, by go_num, (hB.alloc (by omega) _).trans ((below_regrown _ dq osq).mono (by simp; omega)), Lib.hid (by rw [HE.out, E2.out]; simp only [prevB, EY.out, EX.out]; exact orderGo_next HG.out (HN.out.1 hc0))⟩
            case measure => simp [intOf]; omega
    · have hsb := HSB.out.below hBw (Nat.le_refl _)
      have HSB2 := Lib.hid hsb
      clear hsb hblr
      go_wp2_with (go_at_call 107; refine (sharePair_any _ bs _ HSB2.out).mono ?_; rintro e w1 ⟨rfl, hb1⟩)
      go_ret
      refine RV_of (bool_eq ?_) (hBw.trans (hb1.mono (by omega)))
      rw [isSysImpl, HE.out, List.drop_eq_nil_of_le (by omega), HSZ.out]
      simp [orderGo]

theorem IsSystem_any (v : Int) (s : Value) (bs : List Blk) (w : World) (h : SB w s bs) : Calls Try.prog 99 #[.agg #[.int .i64 v, s]] w (RV (.bool (isSysImpl v bs)) w) := by
  obtain ⟨hwf, hlen, ⟨a0, c0, rfl, rfl⟩ | ⟨b, off, cap, rfl, hlt, hbl⟩⟩ := h
  · exact IsSystem_nil v a0 c0 w
  · cases hsz : decide (3 ≤ v) && decide (v ≤ 15) with
    | true => exact IsSystem_main v b off cap bs w hwf hlen hlt hbl hsz
    | false =>
      have := IsSystem_size v (.slice (some ⟨b, off, none⟩) bs.length cap) ⟨_, _, _, rfl⟩ w hsz
      rw [isSysImpl, hsz]
      simpa using this
end Go.Proofs.Ytlchcnngikgjjaa

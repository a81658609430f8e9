
/- The model's test of a system answers as the plain function isSysSpec, which is isSysImpl. The laws' own helpers: copies of blocks and systems. The laws' own helpers: copies of systems, and equality. The laws' marks: what is written into blocks, and that it is still there. Lists of blocks that a call makes by append. The law FnExactIsSystem returns true. Whether a system is full: the program and the model. The blocks that two systems have in common: the program and the model. -/
import Derived.Test.YtoicdfdfajfopaaJ1
import Derived.Laws.MakeOwn
import Derived.OwnWalk
import Derived.Maps.AppendAt
import Derived.Deep.RegionWith
namespace Go.Proofs.Ytoicdfdfajfopaa
open Go.RowKit Go.Maps
set_option maxRecDepth 100000 in
theorem l01Is_size (v : Int) (s : Value) (hs : ∃ a n c, s = .slice a n c) (w : World) (h : (decide (3 ≤ v) && decide (v ≤ 15)) = false) : Calls Try.prog 56 #[.agg #[.int .i64 v, s]] w (RV (.bool false) w) := by
  obtain ⟨a, n, c, rfl⟩ := hs
  have hc1 := l01In_any v 3 15
  rw [h] at hc1
  have HC1 := Lib.hid hc1
  clear hc1 h
  go_enter Try.func56, Try.ntmps56
  go_wp2_with (go_at_call 75; refine (HC1.out _).mono ?_; rintro e w1 ⟨rfl, rfl⟩)
  go_ret
  exact RV_of rfl ((Below.refl _ _).alloc (Nat.le_refl _) _)
set_option maxRecDepth 100000 in
theorem l01Is_nil (v : Int) (a0 : Option Addr) (c0 : Nat) (w : World) (h : (decide (3 ≤ v) && decide (v ≤ 15)) = true) : Calls Try.prog 56 #[.agg #[.int .i64 v, .slice a0 0 c0]] w (RV (.bool true) w) := by
  have hsb : ∀ w, SB w (.slice a0 0 c0) [] := fun w => ⟨by simp, by simp, .inl ⟨a0, c0, rfl, rfl⟩⟩
  have hc1 := l01In_any v 3 15
  rw [h] at hc1
  have HC1 := Lib.hid hc1
  clear hc1 h
  go_enter Try.func56, Try.ntmps56
  go_wp2_with (go_at_call 75; refine (HC1.out _).mono ?_; rintro e w1 ⟨rfl, rfl⟩)
  refine wp_loop_rounds 1 ?_
  rw [rounds_succ]
  go_wp2_with (go_at_call 86; refine (l01Fits_any _ [] _ (hsb _)).mono ?_; rintro e w1 ⟨rfl, hb1⟩)
  go_ret
  exact RV_of rfl (((Below.refl _ _).alloc (Nat.le_refl _) _).trans (hb1.mono (by simp)))
set_option maxRecDepth 100000 in
theorem l01Is_long (v : Int) (a : Option Addr) (n c : Nat) (w : World) (hn : ¬ n ≤ 35) (h : (decide (3 ≤ v) && decide (v ≤ 15)) = true) : Calls Try.prog 56 #[.agg #[.int .i64 v, .slice a n c]] w (RV (.bool false) w) := by
  have hc1 := l01In_any v 3 15
  rw [h] at hc1
  have HC1 := Lib.hid hc1
  clear hc1 h
  have hd : (35 : Int) < (n : Int) := by omega
  go_enter Try.func56, Try.ntmps56
  go_wp2_with (go_at_call 75; refine (HC1.out _).mono ?_; rintro e w1 ⟨rfl, rfl⟩)
  go_ret
  exact RV_of rfl ((Below.refl _ _).alloc (Nat.le_refl _) _)

set_option maxRecDepth 100000 in
theorem l01Is_main (v : Int) (b off cap : Nat) (bs : List Blk) (w : World) (hwf : ∀ x ∈ bs, WFB x) (hlen : bs.length ≤ 35) (hlt : b < w.heap.size) (hbl : Blks w b off bs) (hsz : (decide (3 ≤ v) && decide (v ≤ 15)) = true) :
    Calls Try.prog 56 #[.agg #[.int .i64 v, .slice (some ⟨b, off, none⟩) bs.length cap]] w (RV (.bool (isSysSpec v bs)) w) := by
  have hc1 := l01In_any v 3 15
  rw [hsz] at hc1
  have HC1 := Lib.hid hc1
  have hfin : isSysSpec v bs = (orderGo v none bs && fitsGo [] bs) := by
    rw [isSysSpec, hsz]
    simp [hlen]
  have HFIN := Lib.hid hfin
  clear hc1 hsz hfin
  have hSB : SB w (.slice (some ⟨b, off, none⟩) bs.length cap) bs := ⟨hwf, by omega, .inr ⟨b, off, cap, rfl, hlt, hbl⟩⟩
  have HSB := Lib.hid hSB
  have HBL := Lib.hid hbl
  clear hSB hbl hwf
  go_enter Try.func56, Try.ntmps56
  go_wp2_with (go_at_call 75; refine (HC1.out _).mono ?_; rintro e w1 ⟨rfl, rfl⟩)
  go_loopw [3] (fun i wr => ∃ k : Nat, k ≤ bs.length ∧ i = .int .i64 k ∧ Below (w.heap.size + 1) (w.alloc (.cells #[.int .i64 v, .slice (some ⟨b, off, none⟩) bs.length cap] 31)) wr ∧
      Hid (orderGo v none bs = orderGo v (prevB bs k) (bs.drop k))) (fun i _ => bs.length - (intOf i).toNat)
  case atStart => exact ⟨0, Nat.zero_le _, rfl, Below.refl _ _, Lib.hid (by simp [prevB])⟩
  case round =>
    obtain ⟨k, hk, rfl, hB, HE⟩ := hrel
    have hz := hB.size
    simp at hz
    have p0 : wr.cell? ⟨w.heap.size, 0, none⟩ = some (.int .i64 v) := by rw [hB.cell (by simp)]; simp
    have p1 : wr.cell? ⟨w.heap.size, 1, none⟩ = some (.slice (some ⟨b, off, none⟩) bs.length cap) := by rw [hB.cell (by simp)]; simp
    have hBw : Below w.heap.size w wr := ((Below.refl _ _).alloc (Nat.le_refl _) _).trans (hB.mono (by omega))
    have hblr := HBL.out.below hBw hlt
    by_cases hkl : k < bs.length
    · obtain ⟨x, r, hx, e1, e2, e3, c1, c2, c3⟩ := blks_next hblr hkl
      rw [e1] at HE
      have E2 := Lib.hid e2
      have hxk : bs[k]? = some x := by
        have := congrArg List.head? e1
        simpa using this
      have EX := Lib.hid hxk
      clear e1 e2 e3 hxk hx
      have hc := l01Good_any v x
      obtain ⟨x1, x2, x3⟩ := x
      dsimp only at c1 c2 c3
      have q0 := cell_regrown p0
      have q1 := cell_regrown c1
      have q2 := cell_regrown c2
      have q3 := cell_regrown c3
      have s0 := cell_regrown p1
      have g0 : (0 : Int) ≤ (k : Int) := by omega
      have g1 : (k : Int) < (bs.length : Int) := by omega
      cases hg : goodB v ⟨x1, x2, x3⟩ with
      | false =>
        rw [hg] at hc
        have HC := Lib.hid hc
        have HG := Lib.hid hg
        clear hc hg hblr
        go_wp2
        refine wp_region_quiet_below (by kernel_rfl) (by kernel_rfl) ?_
        repeat (go_big_quiet_step (exact Calls.regrown_of (HC.out _)))
        refine wpQuiet_nil ?_
        intro _ hw'
        obtain ⟨⟨dq, osq⟩, hw''⟩ := hw'
        subst hw''
        go_wp2
        go_ret
        exact RV_of (bool_eq (by rw [HFIN.out, HE.out, orderGo_bad HG.out]; simp)) (hBw.trans ((below_regrown _ dq osq).mono hBw.size))
      | true =>
        rw [hg] at hc
        have HC := Lib.hid hc
        have HG := Lib.hid hg
        clear hc hg
        rcases k with _ | j
        · clear hblr
          simp only [Nat.zero_mul, Nat.add_zero] at c1 c2 c3 q1 q2 q3
          go_wp2
          refine wp_region_quiet_below (by kernel_rfl) (by kernel_rfl) ?_
          repeat (go_big_quiet_step (exact Calls.regrown_of (HC.out _)))
          refine wpQuiet_nil ?_
          intro _ hw'
          obtain ⟨⟨dq, osq⟩, hw''⟩ := hw'
          subst hw''
          go_wp2
          go_roundw
          case rel => exact ⟨1, by omega, by go_num, hB.trans ((below_regrown _ dq osq).mono (by omega)), Lib.hid (by rw [HE.out, E2.out]; simp only [prevB, EX.out]; exact orderGo_first HG.out)⟩
          case measure => simp [intOf]; omega
        · obtain ⟨y, hy, ey, d1, d2, d3⟩ := blks_at hblr (show j < bs.length by omega)
          have EY := Lib.hid ey
          clear hy ey hblr
          have hcc := l01Before_any y ⟨x1, x2, x3⟩
          obtain ⟨y1, y2, y3⟩ := y
          dsimp only at d1 d2 d3
          have r1 := cell_regrown d1
          have r2 := cell_regrown d2
          have r3 := cell_regrown d3
          have g2 : (0 : Int) ≤ (j : Int) := by omega
          have g3 : (j : Int) < (bs.length : Int) := by omega
          cases hb : befB ⟨y1, y2, y3⟩ ⟨x1, x2, x3⟩ with
          | false =>
            rw [hb] at hcc
            have HCC := Lib.hid hcc
            have HBF := Lib.hid hb
            clear hcc hb
            go_wp2
            refine wp_region_quiet_below (by kernel_rfl) (by kernel_rfl) ?_
            repeat (go_big_quiet_step (first | exact Calls.regrown_of (HC.out _) | exact Calls.regrown_of (HCC.out _)))
            refine wpQuiet_nil ?_
            intro _ hw'
            obtain ⟨⟨dq, osq⟩, hw''⟩ := hw'
            subst hw''
            go_wp2
            go_ret
            exact RV_of (bool_eq (by rw [HFIN.out, HE.out]; simp only [prevB, EY.out]; rw [orderGo_stop HBF.out]; simp)) (hBw.trans ((below_regrown _ dq osq).mono hBw.size))
          | true =>
            rw [hb] at hcc
            have HCC := Lib.hid hcc
            have HBF := Lib.hid hb
            clear hcc hb
            go_wp2
            refine wp_region_quiet_below (by kernel_rfl) (by kernel_rfl) ?_
            repeat (go_big_quiet_step (first | exact Calls.regrown_of (HC.out _) | exact Calls.regrown_of (HCC.out _)))
            refine wpQuiet_nil ?_
            intro _ hw'
            obtain ⟨⟨dq, osq⟩, hw''⟩ := hw'
            subst hw''
            go_wp2
            go_roundw
            case rel => exact ⟨j + 1 + 1, by omega, by go_num, hB.trans ((below_regrown _ dq osq).mono (by omega)), Lib.hid (by rw [HE.out, E2.out]; simp only [prevB, EY.out, EX.out]; exact orderGo_next HG.out HBF.out)⟩
            case measure => simp [intOf]; omega
    · have hsb := HSB.out.below hBw (Nat.le_refl _)
      have HSB2 := Lib.hid hsb
      clear hsb hblr
      go_wp2_with (go_at_call 86; refine (l01Fits_any _ bs _ HSB2.out).mono ?_; rintro e w1 ⟨rfl, hb1⟩)
      go_ret
      refine RV_of (bool_eq ?_) (hBw.trans (hb1.mono (by omega)))
      rw [HFIN.out, HE.out, List.drop_eq_nil_of_le (by omega)]
      simp [orderGo]

theorem l01Is_any (v : Int) (s : Value) (bs : List Blk) (w : World) (h : SB w s bs) : Calls Try.prog 56 #[.agg #[.int .i64 v, s]] w (RV (.bool (isSysImpl v bs)) w) := by
  rw [isSys_same]
  obtain ⟨hwf, hlen, h3⟩ := h
  cases hsz : decide (3 ≤ v) && decide (v ≤ 15) with
  | false =>
    have := l01Is_size v s (by rcases h3 with ⟨a0, c0, rfl, _⟩ | ⟨b, off, cap, rfl, _⟩ <;> exact ⟨_, _, _, rfl⟩) w hsz
    rw [isSysSpec, hsz]
    simpa using this
  | true =>
    rcases h3 with ⟨a0, c0, rfl, rfl⟩ | ⟨b, off, cap, rfl, hlt, hbl⟩
    · have := l01Is_nil v a0 c0 w hsz
      rw [isSysSpec, hsz]
      simpa [orderGo, fitsGo] using this
    · by_cases hl : bs.length ≤ 35
      · exact l01Is_main v b off cap bs w hwf hl hlt hbl hsz
      · have := l01Is_long v (some ⟨b, off, none⟩) bs.length cap w hl hsz
        rw [isSysSpec, hsz]
        simpa [hl] using this

end Go.Proofs.Ytoicdfdfajfopaa

namespace Go.Proofs.Ytoicdfdfajfopaa
open Go.RowKit Go.Maps
set_option maxRecDepth 100000 in
theorem toBlock_any (x : Blk) (w : World) : Calls Try.prog 88 #[bv x] w (RV (bv x) w) := by
  obtain ⟨a, b, c⟩ := x
  unfold bv
  dsimp only
  go_enter Try.func88, Try.ntmps88
  go_wp2
  refine wp_loop_rounds 4 ?_
  rw [rounds_succ]
  go_wp2
  rw [rounds_succ]
  go_wp2
  rw [rounds_succ]
  go_wp2
  rw [rounds_succ]
  go_wp2
  exact bodyPost_ret (v := .agg #[.int .i64 a, .int .i64 b, .int .i64 c]) (by simp [results, Try.results88, go_sem]) rfl ⟨rfl, by repeat (first | exact Below.refl _ _ | refine below_drewN ?_ _ | refine Below.alloc ?_ (by first | exact Nat.le_refl _ | simp; try omega) _)⟩

/-- A slice that begins at the head of a block from 'lo' on, of just these blocks, that may be written. -/
def OwnB (w : World) (lo : Nat) (s : Value) (bs : List Blk) : Prop :=
  ∃ g cap, s = .slice (some ⟨g, 0, none⟩) bs.length cap ∧ lo ≤ g ∧ g < w.heap.size ∧ Blks w g 0 bs ∧ (∀ o, w.frozen? ⟨g, o, none⟩ = false) ∧ bs.length ≤ cap
theorem OwnB.sb {w : World} {lo : Nat} {s : Value} {bs : List Blk} (h : OwnB w lo s bs) (hwf : ∀ x ∈ bs, WFB x) (hl : bs.length ≤ 1100000) : SB w s bs := by
  obtain ⟨g, cap, rfl, _, hg, hb, _⟩ := h
  exact ⟨hwf, hl, .inr ⟨g, 0, cap, rfl, hg, hb⟩⟩
theorem OwnB.below {w w' : World} {lo B : Nat} {s : Value} {bs : List Blk} (h : OwnB w lo s bs) (hb : Below B w w') (hB : w.heap.size ≤ B) : OwnB w' lo s bs := by
  obtain ⟨g, cap, rfl, h1, hg, h2, h3, h4⟩ := h
  exact ⟨g, cap, rfl, h1, by have := hb.size; omega, h2.below hb (by omega), fun o => (hb.frozen (p := ⟨g, o, none⟩) (by show g < B; omega)).trans (h3 o), h4⟩
theorem OwnB.mono {w : World} {lo lo' : Nat} {s : Value} {bs : List Blk} (h : OwnB w lo s bs) (hl : lo' ≤ lo) : OwnB w lo' s bs := by
  obtain ⟨g, cap, rfl, h1, h2⟩ := h
  exact ⟨g, cap, rfl, by omega, h2⟩
/-- Returns a slice of new memory with these blocks. -/
def ROwn (bs : List Blk) (w : World) (e : Ending) (w' : World) : Prop := ∃ s, e = .returned s ∧ OwnB w' w.heap.size s bs ∧ Below w.heap.size w w'

theorem Blks.set {w : World} {g : Nat} {l : List Blk} (h : Blks w g 0 l) {i : Nat} (hi : i < l.length) (x : Blk) :
    Blks (((w.setCell ⟨g, i * 3, none⟩ (.int .i64 x.a)).setCell ⟨g, i * 3 + 1, none⟩ (.int .i64 x.b)).setCell ⟨g, i * 3 + 2, none⟩ (.int .i64 x.c)) g 0 (l.set i x) := by
  intro k hk
  rw [List.length_set] at hk
  obtain ⟨h1, h2, h3⟩ := h k hk
  obtain ⟨i1, i2, i3⟩ := h i hi
  simp only [Nat.zero_add] at *
  by_cases hki : k = i
  · subst hki
    simp only [List.getElem?_set_self hk, Option.getD_some]
    refine ⟨?_, ?_, ?_⟩
    · refine (World.cell?_setCell_other _ _ _ _ (by simp)).trans ((World.cell?_setCell_other _ _ _ _ (by simp)).trans ?_)
      exact World.cell?_setCell_same _ _ _ h1
    · refine (World.cell?_setCell_other _ _ _ _ (by simp)).trans ?_
      refine World.cell?_setCell_same _ _ _ ((World.cell?_setCell_other _ _ _ _ (by simp)).trans h2)
    · refine World.cell?_setCell_same _ _ _ ((World.cell?_setCell_other _ _ _ _ (by simp)).trans ((World.cell?_setCell_other _ _ _ _ (by simp)).trans h3))
  · rw [List.getElem?_set_ne (Ne.symm hki)]
    refine ⟨?_, ?_, ?_⟩
    all_goals refine (World.cell?_setCell_other _ _ _ _ (by simp <;> omega)).trans ((World.cell?_setCell_other _ _ _ _ (by simp <;> omega)).trans ((World.cell?_setCell_other _ _ _ _ (by simp <;> omega)).trans ?_))
    · exact h1
    · exact h2
    · exact h3

theorem infoBlock : (Try.prog.info? 71).map (fun i => (i.zero, i.size, i.bytes)) = some (some (.agg #[.int .i64 0, .int .i64 0, .int .i64 0]), 3, 24) := by kernel_rfl
def zeroBlk : Blk := ⟨0, 0, 0⟩
theorem made_blks (w : World) (n : Nat) (T : TypeId) : Blks (w.alloc (.cells (madeCells #[.int .i64 0, .int .i64 0, .int .i64 0] (n * 3)) T)) w.heap.size 0 (List.replicate n zeroBlk) := by
  intro k hk
  rw [List.length_replicate] at hk
  have e : (List.replicate n zeroBlk)[k]?.getD default = zeroBlk := by simp [hk]
  have at' : ∀ j, j < n * 3 → (madeCells #[.int .i64 0, .int .i64 0, .int .i64 0] (n * 3))[j]? = some (.int .i64 0) := fun j hj => by
    have h3 : j % 3 = 0 ∨ j % 3 = 1 ∨ j % 3 = 2 := by omega
    rcases h3 with h | h | h <;> simp [madeCells, hj, h]
  rw [e]
  simp only [Nat.zero_add, zeroBlk]
  refine ⟨?_, ?_, ?_⟩
  all_goals rw [World.cell?_alloc_at _ _ _ _ rfl]
  all_goals exact at' _ (by omega)

theorem set_next {bs : List Blk} {k : Nat} {x : Blk} (hk : k < bs.length) (hx : bs[k]? = some x) :
    (bs.take k ++ List.replicate (bs.length - k) zeroBlk).set k x = bs.take (k + 1) ++ List.replicate (bs.length - (k + 1)) zeroBlk := by
  have e : bs[k] = x := by
    rw [List.getElem?_eq_getElem hk] at hx
    simpa using hx
  rw [take_next hk, e, show bs.length - k = (bs.length - (k + 1)) + 1 by omega, List.replicate_succ]
  have hl : (bs.take k).length = k := by simp; omega
  rw [List.set_append_right _ _ (by omega), hl, Nat.sub_self, List.set_cons_zero, List.append_assoc]
  rfl
set_option maxRecDepth 100000 in
theorem toBlockS_any (s : Value) (bs : List Blk) (w : World) (h : SB w s bs) : Calls Try.prog 59 #[s] w (ROwn bs w) := by
  obtain ⟨hwf, hlen, h3⟩ := h
  clear hwf
  obtain ⟨i0, hi, hz0, hz1, hz2⟩ := info_parts infoBlock
  have hmk : ∀ (n : Nat), n ≤ 1100000 → ∀ W : World, (Instr.makeSlice 29 (.int .i64 (n : Int)) (.int .i64 (n : Int))).run Try.prog W = .ok (.slice (some ⟨W.heap.size, 0, none⟩) n n) (W.alloc (.cells (madeCells #[.int .i64 0, .int .i64 0, .int .i64 0] (n * 3)) 71)) := fun n hn W => by
    have hr := run_make (P := Try.prog) W 29 71 i0 (.agg #[.int .i64 0, .int .i64 0, .int .i64 0]) Try.underlying29 hi hz0 .i64 .i64 n n (by omega) (by omega) (by rw [hz2]; omega) (by omega)
    simp only [Int.toNat_natCast, hz1] at hr
    exact hr
  clear hi hz0 hz1 hz2
  rcases h3 with ⟨a0, c0, rfl, rfl⟩ | ⟨b, off, cap, rfl, hlt, hbl⟩
  · have hm : ∀ W : World, (Instr.makeSlice 29 (.int .i64 0) (.int .i64 0)).run Try.prog W = .ok (.slice (some ⟨W.heap.size, 0, none⟩) 0 0) (W.alloc (.cells #[] 71)) := fun W => by
      have := hmk 0 (by omega) W
      rw [show madeCells #[.int .i64 0, .int .i64 0, .int .i64 0] (0 * 3) = #[] from Array.size_eq_zero_iff.1 (size_madeCells _ _)] at this
      simpa using this
    clear hmk
    go_enter Try.func59, Try.ntmps59
    go_wp2
    refine wp_loop_rounds 1 ?_
    rw [rounds_succ]
    go_wp2
    go_ret
    exact ⟨_, rfl, ⟨w.heap.size, 0, rfl, Nat.le_refl _, by simp, fun k hk => by simp at hk, fun o => by simp, Nat.le_refl _⟩, (Below.refl _ _).alloc (Nat.le_refl _) _⟩
  · have hm := hmk bs.length hlen
    clear hmk
    have HBL := Lib.hid hbl
    clear hbl
    go_enter Try.func59, Try.ntmps59
    go_wp2
    go_loopw [4] (fun i wr => ∃ k : Nat, k ≤ bs.length ∧ i = .int .i64 k ∧ Below w.heap.size w wr ∧ w.heap.size < wr.heap.size ∧ Blks wr w.heap.size 0 (bs.take k ++ List.replicate (bs.length - k) zeroBlk) ∧ (∀ o, wr.frozen? ⟨w.heap.size, o, none⟩ = false)) (fun i _ => bs.length - (intOf i).toNat)
    case atStart => exact ⟨0, Nat.zero_le _, rfl, (Below.refl _ _).alloc (Nat.le_refl _) _, by simp, by simpa using made_blks w bs.length _, fun o => by simp⟩
    case round =>
      obtain ⟨k, hk, rfl, hB, hz, hl, hf⟩ := hrel
      by_cases hkl : k < bs.length
      · obtain ⟨x, hx, ex, c1, c2, c3⟩ := blks_at HBL.out hkl
        have d1 := (hB.cell (p := ⟨b, off + k * 3, none⟩) hlt).trans c1
        have d2 := (hB.cell (p := ⟨b, off + k * 3 + 1, none⟩) hlt).trans c2
        have d3 := (hB.cell (p := ⟨b, off + k * 3 + 2, none⟩) hlt).trans c3
        have EX := Lib.hid ex
        have HL := Lib.hid hl
        clear hx ex c1 c2 c3 hl
        obtain ⟨x1, x2, x3⟩ := x
        dsimp only at d1 d2 d3
        have hlk : k < (bs.take k ++ List.replicate (bs.length - k) zeroBlk).length := by simp; omega
        have g0 : (0 : Int) ≤ (k : Int) := by omega
        have g1 : (k : Int) < (bs.length : Int) := by omega
        go_wp2_with (go_at_call 88; refine (toBlock_any ⟨x1, x2, x3⟩ _).mono ?_; rintro e w1 ⟨rfl, hb1⟩; unfold bv; dsimp only; obtain ⟨f1, f2, f3⟩ := HL.out k hlk; rw [Nat.zero_add] at f1 f2 f3; have m1 := (hb1.cell (p := ⟨w.heap.size, k * 3, none⟩) hz).trans f1; have m2 := (hb1.cell (p := ⟨w.heap.size, k * 3 + 1, none⟩) hz).trans f2; have m3 := (hb1.cell (p := ⟨w.heap.size, k * 3 + 2, none⟩) hz).trans f3; have n1 := fun o => (hb1.frozen (p := ⟨w.heap.size, o, none⟩) hz).trans (hf o); clear f1 f2 f3)
        have hs := (HL.out.below hb1 hz).set hlk ⟨x1, x2, x3⟩
        rw [set_next hkl EX.out] at hs
        have hs1 := hb1.size
        go_roundw
        case rel => exact ⟨k + 1, by omega, by go_num, (((hB.trans (hb1.mono (by omega))).setCell (p := ⟨w.heap.size, k * 3, none⟩) (Nat.le_refl _) _).setCell (p := ⟨w.heap.size, k * 3 + 1, none⟩) (Nat.le_refl _) _).setCell (p := ⟨w.heap.size, k * 3 + 2, none⟩) (Nat.le_refl _) _, by simp [World.setCell]; omega, hs, fun o => by rw [World.frozen?_setCell, World.frozen?_setCell, World.frozen?_setCell]; exact n1 o⟩
        case measure => simp [intOf]; omega
      · go_wp2
        go_ret
        have hkn : k = bs.length := by omega
        subst hkn
        simp at hl
        exact ⟨_, rfl, ⟨w.heap.size, bs.length, rfl, Nat.le_refl _, hz, hl, hf, Nat.le_refl _⟩, hB⟩

end Go.Proofs.Ytoicdfdfajfopaa

namespace Go.Proofs.Ytoicdfdfajfopaa
open Go.RowKit Go.Maps
theorem Blks.setCell {w : World} {b off : Nat} {bs : List Blk} (h : Blks w b off bs) {a : Addr} (ha : b ≠ a.block) (u : Value) : Blks (w.setCell a u) b off bs := fun k hk => by
  obtain ⟨h1, h2, h3⟩ := h k hk
  have e : ∀ o, (w.setCell a u).cell? ⟨b, o, none⟩ = w.cell? ⟨b, o, none⟩ := fun o => World.cell?_setCell_other _ _ _ _ (fun e => ha (by rw [e]))
  rw [e, e, e]
  exact ⟨h1, h2, h3⟩
set_option maxRecDepth 100000 in
theorem toSystem_any (v : Int) (s : Value) (bs : List Blk) (w : World) (h : SB w s bs) : Calls Try.prog 17 #[.agg #[.int .i64 v, s]] w
    (fun e w' => ∃ s', e = .returned (.agg #[.int .i64 v, s']) ∧ OwnB w' w.heap.size s' bs ∧ Below w.heap.size w w') := by
  have hs : ∃ a n c, s = .slice a n c := by rcases h.2.2 with ⟨a0, c0, rfl, _⟩ | ⟨b, off, cap, rfl, _⟩ <;> exact ⟨_, _, _, rfl⟩
  have H := Lib.hid h
  clear h
  obtain ⟨a, n, c, rfl⟩ := hs
  go_enter Try.func17, Try.ntmps17
  go_wp2_with fail
  refine (toBlockS_any _ bs _ (H.out.below (B := w.heap.size) (by repeat (first | exact Below.refl _ _ | refine Below.setCell ?_ (by simp) _ | refine Below.alloc ?_ (by first | exact Nat.le_refl _ | simp; try omega) _)) (Nat.le_refl _))).mono ?_
  rintro e w1 ⟨s', rfl, ho, hb1⟩
  obtain ⟨g, cap, rfl, ho1, ho2, ho3, ho4, ho5⟩ := ho
  simp only [World.size_alloc] at ho1
  have c10 : w1.cell? ⟨w.heap.size + 1, 0, none⟩ = some (.int .i64 0) := (hb1.cell (p := ⟨w.heap.size + 1, 0, none⟩) (by simp <;> omega)).trans (by simp [go_sem])
  have c11 : w1.cell? ⟨w.heap.size + 1, 1, none⟩ = some (.slice none 0 0) := (hb1.cell (p := ⟨w.heap.size + 1, 1, none⟩) (by simp <;> omega)).trans (by simp [go_sem])
  have c20 : w1.cell? ⟨w.heap.size + 1 + 1, 0, none⟩ = some (.int .i64 v) := (hb1.cell (p := ⟨w.heap.size + 1 + 1, 0, none⟩) (by simp)).trans (by simp [go_sem])
  have c21 : w1.cell? ⟨w.heap.size + 1 + 1, 1, none⟩ = some (.slice none 0 0) := (hb1.cell (p := ⟨w.heap.size + 1 + 1, 1, none⟩) (by simp)).trans (by simp [go_sem])
  have f10 : w1.frozen? ⟨w.heap.size + 1, 0, none⟩ = false := (hb1.frozen (p := ⟨w.heap.size + 1, 0, none⟩) (by simp <;> omega)).trans (by simp [go_sem])
  have f11 : w1.frozen? ⟨w.heap.size + 1, 1, none⟩ = false := (hb1.frozen (p := ⟨w.heap.size + 1, 1, none⟩) (by simp <;> omega)).trans (by simp [go_sem])
  have f21 : w1.frozen? ⟨w.heap.size + 1 + 1, 1, none⟩ = false := (hb1.frozen (p := ⟨w.heap.size + 1 + 1, 1, none⟩) (by simp)).trans (by simp [go_sem])
  have hbw : Below w.heap.size w w1 := Below.trans (by repeat (first | exact Below.refl _ _ | refine Below.alloc ?_ (by first | exact Nat.le_refl _ | simp; try omega) _)) (hb1.mono (by simp; omega))
  clear hb1
  go_wp2
  refine bodyPost_ret (v := .agg #[.int .i64 v, .slice (some ⟨g, 0, none⟩) bs.length cap]) (by simp [results, Try.results17, go_sem, *]) rfl ⟨_, rfl, ⟨g, cap, rfl, by omega, ?_, ?_, ?_, ho5⟩, ?_⟩
  · simpa [World.setCell] using ho2
  · exact ((ho3.setCell (by simp; omega) _).setCell (by simp; omega) _).setCell (by simp; omega) _
  · intro o
    rw [World.frozen?_setCell, World.frozen?_setCell, World.frozen?_setCell]
    exact ho4 o
  · exact ((hbw.setCell (by simp; omega) _).setCell (by simp) _).setCell (by simp) _

theorem szBlockS_any (s : Value) (n : Nat) (hs : ∃ a c, s = .slice a n c) (hn : (n : Int) ≤ 9223372036854775807) (left : Int) (h0 : 0 ≤ left) (h1 : left ≤ 1048576) (w : World) : Calls Try.prog 55 #[s, .int .i64 left] w
    (RS (.int .i64 (if left - n < 0 then -1 else left - n)) w) := by
  obtain ⟨a, c, rfl⟩ := hs
  by_cases h : left - n < 0
  · rw [if_pos h]
    have h' : left < n := by omega
    clear h
    go_enter Try.func55, Try.ntmps55
    go_wp2
    go_ret
    exact RS_of rfl
  · rw [if_neg h]
    have h' : (n : Int) ≤ left := by omega
    clear h
    go_enter Try.func55, Try.ntmps55
    go_wp2
    go_ret
    exact RS_of rfl

theorem szSystem_any (v : Int) (s : Value) (n : Nat) (hs : ∃ a c, s = .slice a n c) (hn : (n : Int) ≤ 9223372036854775807) (left : Int) (h0 : 0 ≤ left) (h1 : left ≤ 1048576) (w : World) : Calls Try.prog 15 #[.agg #[.int .i64 v, s], .int .i64 left] w
    (RV (.int .i64 (if left - n < 0 then -1 else left - n)) w) := by
  obtain ⟨a, c, rfl⟩ := hs
  have hc := szBlockS_any (.slice a n c) n ⟨a, c, rfl⟩ hn left h0 h1
  by_cases h : left - n < 0
  · rw [if_pos h] at hc ⊢
    clear h
    have HC := Lib.hid hc
    clear hc
    go_enter Try.func15, Try.ntmps15
    go_wp2_with (go_at_call 55; refine (HC.out _).mono ?_; rintro e w1 ⟨rfl, rfl⟩)
    go_ret
    exact RV_of rfl ((Below.refl _ _).alloc (Nat.le_refl _) _)
  · rw [if_neg h] at hc ⊢
    obtain ⟨m, hm⟩ : ∃ m, m = left - (n : Int) := ⟨_, rfl⟩
    rw [← hm] at hc ⊢
    have hm0 : 0 ≤ m := by omega
    clear h hm
    have HC := Lib.hid hc
    clear hc
    go_enter Try.func15, Try.ntmps15
    go_wp2_with (go_at_call 55; refine (HC.out _).mono ?_; rintro e w1 ⟨rfl, rfl⟩)
    go_ret
    exact RV_of rfl ((Below.refl _ _).alloc (Nat.le_refl _) _)

set_option maxRecDepth 100000 in
theorem eqBlock_same (x : Blk) (w : World) : Calls Try.prog 96 #[bv x, bv x] w (RV (.bool true) w) := by
  obtain ⟨a, b, c⟩ := x
  unfold bv
  dsimp only
  go_enter Try.func96, Try.ntmps96
  go_wp2
  refine wp_loop_rounds 4 ?_
  rw [rounds_succ]
  go_wp2
  go_quiet (fail)
  go_wp2
  rw [rounds_succ]
  go_wp2
  go_quiet (fail)
  go_wp2
  rw [rounds_succ]
  go_wp2
  go_quiet (fail)
  go_wp2
  rw [rounds_succ]
  go_wp2
  go_ret
  exact RV_of rfl (by repeat (first | exact Below.refl _ _ | refine below_drewN ?_ _ | refine Below.alloc ?_ (by first | exact Nat.le_refl _ | simp) _))

set_option maxRecDepth 100000 in
theorem eqBlockS_same (s t : Value) (bs : List Blk) (w : World) (h : SB w s bs) (k : SB w t bs) : Calls Try.prog 63 #[s, t] w (RV (.bool true) w) := by
  have hs : ∃ a c, s = .slice a bs.length c := by rcases h.2.2 with ⟨a0, c0, rfl, rfl⟩ | ⟨b, off, cap, rfl, _⟩ <;> exact ⟨_, _, rfl⟩
  have ht : ∃ a c, t = .slice a bs.length c := by rcases k.2.2 with ⟨a0, c0, rfl, rfl⟩ | ⟨b, off, cap, rfl, _⟩ <;> exact ⟨_, _, rfl⟩
  have hlen := h.2.1
  have hat : ∀ i, i < bs.length → ∃ b off cap b' off' cap', s = .slice (some ⟨b, off, none⟩) bs.length cap ∧ t = .slice (some ⟨b', off', none⟩) bs.length cap' ∧ b < w.heap.size ∧ b' < w.heap.size ∧ Blks w b off bs ∧ Blks w b' off' bs := fun i hi => by
    rcases h.2.2 with ⟨_, _, _, rfl⟩ | ⟨b, off, cap, rfl, hb, hB⟩
    · simp at hi
    · rcases k.2.2 with ⟨_, _, _, rfl⟩ | ⟨b', off', cap', rfl, hb', hB'⟩
      · simp at hi
      · exact ⟨b, off, cap, b', off', cap', rfl, rfl, hb, hb', hB, hB'⟩
  have HAT := Lib.hid hat
  clear hat h k
  by_cases h0 : bs.length = 0
  · obtain ⟨a, c, rfl⟩ := hs
    obtain ⟨a', c', rfl⟩ := ht
    rw [h0]
    clear hlen h0 HAT
    go_enter Try.func63, Try.ntmps63
    go_wp2
    refine wp_loop_rounds 1 ?_
    rw [rounds_succ]
    go_wp2
    go_ret
    exact RV_of rfl (Below.refl _ _)
  · obtain ⟨b, off, cap, b', off', cap', rfl, rfl, hb, hb', hB, hB'⟩ := HAT.out 0 (by omega)
    clear HAT hs ht h0
    have HB := Lib.hid hB
    have HB' := Lib.hid hB'
    clear hB hB'
    have hne : (((bs.length : Nat) : Int) != (bs.length : Nat)) = false := by simp
    go_enter Try.func63, Try.ntmps63
    go_wp2
    go_loopw [5] (fun i wr => ∃ k : Nat, k ≤ bs.length ∧ i = .int .i64 k ∧ Below w.heap.size w wr) (fun i _ => bs.length - (intOf i).toNat)
    case atStart => exact ⟨0, Nat.zero_le _, rfl, Below.refl _ _⟩
    case round =>
      obtain ⟨k, hk, rfl, hBw⟩ := hrel
      by_cases hkl : k < bs.length
      · obtain ⟨x, _, ex, c1, c2, c3⟩ := blks_at HB.out hkl
        obtain ⟨y, _, ey, d1, d2, d3⟩ := blks_at HB'.out hkl
        obtain rfl : x = y := by rw [ex] at ey; exact Option.some.inj ey
        clear ex ey
        obtain ⟨x1, x2, x3⟩ := x
        dsimp only at c1 c2 c3 d1 d2 d3
        have q1 := cell_regrown ((hBw.cell (p := ⟨b, off + k * 3, none⟩) hb).trans c1)
        have q2 := cell_regrown ((hBw.cell (p := ⟨b, off + k * 3 + 1, none⟩) hb).trans c2)
        have q3 := cell_regrown ((hBw.cell (p := ⟨b, off + k * 3 + 2, none⟩) hb).trans c3)
        have r1 := cell_regrown ((hBw.cell (p := ⟨b', off' + k * 3, none⟩) hb').trans d1)
        have r2 := cell_regrown ((hBw.cell (p := ⟨b', off' + k * 3 + 1, none⟩) hb').trans d2)
        have r3 := cell_regrown ((hBw.cell (p := ⟨b', off' + k * 3 + 2, none⟩) hb').trans d3)
        clear c1 c2 c3 d1 d2 d3
        have g0 : (0 : Int) ≤ (k : Int) := by omega
        have g1 : (k : Int) < (bs.length : Int) := by omega
        have HC := Lib.hid (eqBlock_same ⟨x1, x2, x3⟩)
        go_wp2
        refine wp_region_quiet_below (by kernel_rfl) (by kernel_rfl) ?_
        repeat (go_big_quiet_step (exact Calls.regrown_of (HC.out _)))
        refine wpQuiet_nil ?_
        intro _ hw'
        obtain ⟨⟨dq, osq⟩, hw''⟩ := hw'
        subst hw''
        go_wp2
        go_roundw
        case rel => exact ⟨k + 1, by omega, by go_num, hBw.trans ((below_regrown _ dq osq).mono hBw.size)⟩
        case measure => simp [intOf]; omega
      · go_wp2
        go_ret
        exact RV_of rfl hBw

set_option maxRecDepth 100000 in
theorem eqSystem_same (v : Int) (s t : Value) (bs : List Blk) (w : World) (h : SB w s bs) (k : SB w t bs) : Calls Try.prog 20 #[.agg #[.int .i64 v, s], .agg #[.int .i64 v, t]] w (RV (.bool true) w) := by
  have hs : ∃ a n c, s = .slice a n c := by rcases h.2.2 with ⟨a0, c0, rfl, rfl⟩ | ⟨b, off, cap, rfl, _⟩ <;> exact ⟨_, _, _, rfl⟩
  have ht : ∃ a n c, t = .slice a n c := by rcases k.2.2 with ⟨a0, c0, rfl, rfl⟩ | ⟨b, off, cap, rfl, _⟩ <;> exact ⟨_, _, _, rfl⟩
  have HC := Lib.hid fun W (hb : Below w.heap.size w W) => eqBlockS_same s t bs W (h.below hb (Nat.le_refl _)) (k.below hb (Nat.le_refl _))
  clear h k
  obtain ⟨a, n, c, rfl⟩ := hs
  obtain ⟨a', n', c', rfl⟩ := ht
  go_enter Try.func20, Try.ntmps20
  go_wp2_with (go_at_call 63; refine (HC.out _ (((Below.refl _ _).alloc (Nat.le_refl _) _).alloc (by simp) _)).mono ?_; rintro e w1 ⟨rfl, hb1⟩)
  go_ret
  exact RV_of rfl ((((Below.refl _ _).alloc (Nat.le_refl _) _).alloc (by simp) _).trans (hb1.mono (by simp; omega)))
end Go.Proofs.Ytoicdfdfajfopaa

namespace Go.Proofs.Ytoicdfdfajfopaa
open Go.RowKit Go.Maps
/-- Only block g, and what is new, has changed. -/
theorem only_setCell {a w : World} {g : Nat} (h : a.grownBy w (some g)) {p : Addr} (hp : p.block = g) (u : Value) : a.grownBy (w.setCell p u) (some g) :=
  ⟨h.os, h.tape, h.output, by simpa [World.setCell] using h.size, fun i hi hne => (Below.heap_setCell w p u i (by
    rintro rfl
    exact hne (by rw [hp]))).trans (h.block i hi hne)⟩
theorem only_alloc {a w : World} {row : Option Nat} (h : a.grownBy w row) (o : Obj) : a.grownBy (w.alloc o) row :=
  ⟨h.os, h.tape, h.output, Nat.le_trans h.size (by simp), fun i hi hne => (Below.heap_alloc w o i (Nat.lt_of_lt_of_le hi h.size)).trans (h.block i hi hne)⟩
theorem only_of_below {a w : World} (h : Below a.heap.size a w) (row : Option Nat) : a.grownBy w row := ⟨h.os, h.tape, h.output, h.size, fun i hi _ => h.block i hi⟩
theorem only_refl (a : World) (row : Option Nat) : a.grownBy a row := ⟨rfl, rfl, rfl, Nat.le_refl _, fun _ _ _ => rfl⟩
/-- The row at the head of block g holds just these blocks and may be written. -/
structure OwnAt (w : World) (g : Nat) (bs : List Blk) : Prop where
  lt : g < w.heap.size
  at_ : Blks w g 0 bs
  free : ∀ o, w.frozen? ⟨g, o, none⟩ = false
theorem OwnAt.kept {w w' : World} {g : Nat} {bs : List Blk} {row : Option Nat} (h : OwnAt w g bs) (hg : w.grownBy w' row) (hne : some g ≠ row) : OwnAt w' g bs := by
  have hb := hg.block g h.lt hne
  refine ⟨Nat.lt_of_lt_of_le h.lt hg.size, fun k hk => ?_, fun o => ?_⟩
  · obtain ⟨h1, h2, h3⟩ := h.at_ k hk
    exact ⟨(World.cell?_of_block (w := w) (a := ⟨g, _, none⟩) hb).trans h1, (World.cell?_of_block (w := w) (a := ⟨g, _, none⟩) hb).trans h2, (World.cell?_of_block (w := w) (a := ⟨g, _, none⟩) hb).trans h3⟩
  · exact (World.frozen?_of_block (w := w) (a := ⟨g, o, none⟩) hb).trans (h.free o)
theorem OwnAt.below {w w' : World} {g : Nat} {bs : List Blk} (h : OwnAt w g bs) {B : Nat} (hb : Below B w w') (hB : w.heap.size ≤ B) : OwnAt w' g bs :=
  h.kept (only_of_below (hb.mono hB) none) (by simp)
theorem OwnAt.sb {w : World} {g cap : Nat} {bs : List Blk} (h : OwnAt w g bs) (hwf : ∀ x ∈ bs, WFB x) (hl : bs.length ≤ 1100000) : SB w (.slice (some ⟨g, 0, none⟩) bs.length cap) bs :=
  ⟨hwf, hl, .inr ⟨g, 0, cap, rfl, h.lt, h.at_⟩⟩

def markL (k : Int) (n : Nat) : List Blk := (List.range n).map fun (t : Nat) => ⟨k + 3 * (t : Int), k + 3 * (t : Int) + 1, k + 3 * (t : Int) + 2⟩
theorem markL_length (k : Int) (n : Nat) : (markL k n).length = n := by simp [markL]
theorem mark_next {k : Int} {i : Nat} {bs : List Blk} (h : i < bs.length) :
    (markL k i ++ bs.drop i).set i ⟨k + 3 * i, k + 3 * i + 1, k + 3 * i + 2⟩ = markL k (i + 1) ++ bs.drop (i + 1) := by
  rw [List.drop_eq_getElem_cons h, List.set_append_right _ _ (by rw [markL_length]; omega), markL_length, Nat.sub_self, List.set_cons_zero]
  simp [markL, List.range_succ]

set_option maxRecDepth 100000 in
theorem markBlockS_nil (a : Option Addr) (c : Nat) (k : Int) (w : World) : Calls Try.prog 68 #[.slice a 0 c, .int .i64 k] w (RS (.int .i64 k) w) := by
  go_enter Try.func68, Try.ntmps68
  go_wp2
  refine wp_loop_rounds 1 ?_
  rw [rounds_succ]
  go_wp2
  go_ret
  exact RS_of rfl
set_option maxRecDepth 100000 in
theorem heldBlockS_nil (a : Option Addr) (c : Nat) (k : Int) (w : World) : Calls Try.prog 110 #[.slice a 0 c, .int .i64 k] w (RS (.int .i64 k) w) := by
  go_enter Try.func110, Try.ntmps110
  go_wp2
  refine wp_loop_rounds 1 ?_
  rw [rounds_succ]
  go_wp2
  go_ret
  exact RS_of rfl

set_option maxRecDepth 100000 in
theorem markBlockS_any (g cap : Nat) (bs : List Blk) (k : Int) (w : World) (h : OwnAt w g bs) (hl : bs.length ≤ 1100000) (h0 : 0 ≤ k) (h1 : k ≤ 9000000) :
    Calls Try.prog 68 #[.slice (some ⟨g, 0, none⟩) bs.length cap, .int .i64 k] w (fun e w' => e = .returned (.int .i64 (k + 3 * bs.length)) ∧ w.grownBy w' (some g) ∧ OwnAt w' g (markL k bs.length)) := by
  have H := Lib.hid h
  clear h
  go_enter Try.func68, Try.ntmps68
  go_wp2
  go_loopw [1, 5] (fun t i wr => ∃ j : Nat, j ≤ bs.length ∧ i = .int .i64 j ∧ t = .int .i64 (k + 3 * j) ∧ w.grownBy wr (some g) ∧ OwnAt wr g (markL k j ++ bs.drop j)) (fun _ i _ => bs.length - (intOf i).toNat)
  case atStart => exact ⟨0, Nat.zero_le _, rfl, by simp, only_refl _ _, by simpa [markL] using H.out⟩
  case round =>
    obtain ⟨j, hj, rfl, rfl, hg, ho⟩ := hrel
    by_cases hjl : j < bs.length
    · have hlj : j < (markL k j ++ bs.drop j).length := by simp [markL_length]; omega
      obtain ⟨c1, c2, c3⟩ := ho.at_ j hlj
      rw [Nat.zero_add] at c1 c2 c3
      have f1 := fun o => ho.free o
      have hs := ho.at_.set hlj ⟨k + 3 * j, k + 3 * j + 1, k + 3 * j + 2⟩
      rw [mark_next hjl] at hs
      have HS := Lib.hid hs
      have hlt := ho.lt
      clear hs ho
      have g0 : (0 : Int) ≤ (j : Int) := by omega
      have g1 : (j : Int) < (bs.length : Int) := by omega
      obtain ⟨m, hm⟩ : ∃ m, m = k + 3 * (j : Int) := ⟨_, rfl⟩
      have hs' : Blks (((wr.setCell ⟨g, j * 3, none⟩ (.int .i64 m)).setCell ⟨g, j * 3 + 1, none⟩ (.int .i64 (m + 1))).setCell ⟨g, j * 3 + 2, none⟩ (.int .i64 (m + 1 + 1))) g 0 (markL k (j + 1) ++ bs.drop (j + 1)) := by
        have := HS.out
        rw [← hm] at this
        rw [show m + 1 + 1 = m + 2 by omega]
        exact this
      have HS' := Lib.hid hs'
      clear hs' HS
      rw [← hm]
      have m0 : 0 ≤ m := by omega
      have m1 : m ≤ 90000000 := by omega
      have HM := Lib.hid hm
      clear hm
      go_wp2
      refine wp_loop_rounds 4 ?_
      rw [rounds_succ]
      go_wp2
      rw [rounds_succ]
      go_wp2
      rw [rounds_succ]
      go_wp2
      rw [rounds_succ]
      go_wp2
      go_roundw
      case rel => exact ⟨j + 1, by omega, by go_num, int_eq (by rw [HM.out]; omega), only_setCell (only_setCell (only_setCell hg rfl _) rfl _) rfl _, ⟨by simpa [World.setCell] using hlt, HS'.out, fun o => by rw [World.frozen?_setCell, World.frozen?_setCell, World.frozen?_setCell]; exact f1 o⟩⟩
      case measure => simp [intOf]; omega
    · go_wp2
      go_ret
      have e : j = bs.length := by omega
      subst e
      rw [List.drop_length, List.append_nil] at ho
      exact ⟨rfl, hg, ho⟩

theorem mark_at {k : Int} {n j : Nat} (h : j < n) : (markL k n)[j]?.getD default = ⟨k + 3 * j, k + 3 * j + 1, k + 3 * j + 2⟩ := by
  simp [markL, h]
set_option maxRecDepth 100000 in
theorem heldBlockS_any (g cap n : Nat) (k : Int) (w : World) (h : Blks w g 0 (markL k n)) (hl : n ≤ 1100000) (h0 : 0 ≤ k) (h1 : k ≤ 9000000) :
    Calls Try.prog 110 #[.slice (some ⟨g, 0, none⟩) n cap, .int .i64 k] w (RS (.int .i64 (k + 3 * n)) w) := by
  have H := Lib.hid h
  clear h
  go_enter Try.func110, Try.ntmps110
  go_wp2
  go_loop [1, 5] (fun t i => ∃ j : Nat, j ≤ n ∧ i = .int .i64 j ∧ t = .int .i64 (k + 3 * j)) (fun _ i => n - (intOf i).toNat)
  case atStart => exact ⟨0, Nat.zero_le _, rfl, by simp⟩
  case round =>
    obtain ⟨j, hj, rfl, rfl⟩ := hrel
    by_cases hjl : j < n
    · have hc := H.out j (by rw [markL_length]; exact hjl)
      rw [mark_at hjl, Nat.zero_add] at hc
      obtain ⟨m, hm⟩ : ∃ m, m = k + 3 * (j : Int) := ⟨_, rfl⟩
      rw [← hm] at hc ⊢
      obtain ⟨c1, c2, c3⟩ := hc
      rw [show m + 2 = m + 1 + 1 by omega] at c3
      have m0 : 0 ≤ m := by omega
      have m1 : m ≤ 90000000 := by omega
      have HM := Lib.hid hm
      clear hm
      have g0 : (0 : Int) ≤ (j : Int) := by omega
      have g1 : (j : Int) < (n : Int) := by omega
      have n1 : ∀ x : Int, (x != x) = false := fun x => by simp
      go_wp2
      refine wp_loop_rounds 4 ?_
      rw [rounds_succ]
      go_wp2
      rw [rounds_succ]
      go_wp2
      rw [rounds_succ]
      go_wp2
      rw [rounds_succ]
      go_wp2
      go_round
      case rel => exact ⟨j + 1, by omega, by go_num, int_eq (by rw [HM.out]; omega)⟩
      case measure => simp [intOf]; omega
    · go_wp2
      go_ret
      have e : j = n := by omega
      subst e
      exact RS_of rfl

/-- A result that is a list of blocks: nil, or new memory of its own. -/
def ResB (w : World) (lo : Nat) (s : Value) (bs : List Blk) : Prop := (bs = [] ∧ ∃ a c, s = .slice a 0 c) ∨ ∃ g cap, s = .slice (some ⟨g, 0, none⟩) bs.length cap ∧ lo ≤ g ∧ OwnAt w g bs
end Go.Proofs.Ytoicdfdfajfopaa

namespace Go.Proofs.Ytoicdfdfajfopaa
open Go.RowKit Go.Maps
theorem addr_at (b off i : Nat) : (⟨b, off, none⟩ : Addr).add i = ⟨b, off + i, none⟩ := by
  unfold Addr.add
  split
  · subst_vars; rfl
  · rfl
theorem row_some {W : World} {base : Nat} {e : TypeId} {size : Nat} {v : Value} {k : Nat} {xs : List Value} (h : W.ownsRow base e size v (k + 1) xs) : ∃ g cap, v = .slice (some ⟨g, 0, none⟩) (k + 1) cap := by
  rcases h.2 with ⟨_, h0⟩ | ⟨g, cap, _, rfl, _⟩
  · omega
  · exact ⟨g, cap, rfl⟩
def cells3 (x : Blk) : List Value := [.int .i64 x.a, .int .i64 x.b, .int .i64 x.c]
def OwnR (w : World) (base : Nat) (v : Value) (bs : List Blk) : Prop := w.ownsRow base 71 3 v bs.length (bs.flatMap cells3)
theorem flat_at : ∀ (bs : List Blk) (k : Nat), k < bs.length → (bs.flatMap cells3)[k * 3]? = some (.int .i64 (bs[k]?.getD default).a) ∧ (bs.flatMap cells3)[k * 3 + 1]? = some (.int .i64 (bs[k]?.getD default).b) ∧ (bs.flatMap cells3)[k * 3 + 2]? = some (.int .i64 (bs[k]?.getD default).c)
  | [], k, h => by simp at h
  | x :: r, 0, _ => by simp [cells3]
  | x :: r, k + 1, h => by
    have ih := flat_at r k (by simpa using h)
    have e : ∀ j, ((x :: r).flatMap cells3)[(k + 1) * 3 + j]? = (r.flatMap cells3)[k * 3 + j]? := fun j => by
      rw [List.flatMap_cons, List.getElem?_append_right (by simp [cells3]; omega)]
      congr 1
      simp [cells3]
      omega
    have e0 := e 0
    simp only [Nat.add_zero] at e0
    rw [e0, e 1, e 2]
    simpa using ih
theorem flat_length (bs : List Blk) : (bs.flatMap cells3).length = bs.length * 3 := by
  induction bs with
  | nil => rfl
  | cons x r ih => simp [cells3, ih]; omega
/-- A result that is a list of blocks: empty; or at the head of a block of its own, from lo on and before hi. -/
def ResR (w : World) (lo hi : Nat) (s : Value) (bs : List Blk) : Prop := (bs = [] ∧ ∃ a c, s = .slice a 0 c) ∨ ∃ g cap, s = .slice (some ⟨g, 0, none⟩) bs.length cap ∧ lo ≤ g ∧ g < hi ∧ OwnAt w g bs
theorem OwnR.res {w : World} {base : Nat} {v : Value} {bs : List Blk} (h : OwnR w base v bs) : ResR w base w.heap.size v bs := by
  obtain ⟨hl, h | ⟨g, cap, cur, rfl, hb, hcur, hn, hc, hsz, hx⟩⟩ := h
  · obtain ⟨rfl, h0⟩ := h
    exact .inl ⟨List.length_eq_zero_iff.1 h0, _, _, rfl⟩
  · have hg : g < w.heap.size := (Array.getElem?_eq_some_iff.1 hcur).1
    refine .inr ⟨g, cap, rfl, hb, hg, hg, fun k hk => ?_, fun o => ?_⟩
    · have at' : ∀ j v, j < bs.length * 3 → (bs.flatMap cells3)[j]? = some v → w.cell? ⟨g, 0 + j, none⟩ = some v := fun j v hj hv => by
        rw [← hx, List.getElem?_take_of_lt hj] at hv
        rw [Nat.zero_add]
        simp [World.cell?, hcur]
        simpa using hv
      obtain ⟨h1, h2, h3⟩ := flat_at bs k hk
      exact ⟨at' _ _ (by omega) h1, at' _ _ (by omega) h2, at' _ _ (by omega) h3⟩
    · simp [World.frozen?, hcur]
theorem OwnR.nil (w : World) (base : Nat) : OwnR w base (.slice none 0 0) [] := ⟨rfl, .inl ⟨rfl, rfl⟩⟩
theorem OwnR.kept {w w' : World} {base : Nat} {v : Value} {bs : List Blk} {row : Option Nat} (h : OwnR w base v bs) (hg : w.grownBy w' row) (hr : ∀ r, row = some r → r < base) : OwnR w' base v bs := by
  obtain ⟨hl, h | ⟨g, cap, cur, rfl, hb, hcur, hrest⟩⟩ := h
  · exact ⟨hl, .inl h⟩
  · exact ⟨hl, .inr ⟨g, cap, cur, rfl, hb, (hg.block g (Array.getElem?_eq_some_iff.1 hcur).1 (fun e => by have := hr g e.symm; omega)).trans hcur, hrest⟩⟩
theorem OwnR.below {w w' : World} {base : Nat} {v : Value} {bs : List Blk} (h : OwnR w base v bs) {B : Nat} (hb : Below B w w') (hB : w.heap.size ≤ B) : OwnR w' base v bs :=
  h.kept (only_of_below (hb.mono hB) none) (by simp)
theorem ResR.sb {w : World} {lo hi : Nat} {s : Value} {bs : List Blk} (h : ResR w lo hi s bs) (hwf : ∀ x ∈ bs, WFB x) (hl : bs.length ≤ 1100000) : SB w s bs := by
  rcases h with ⟨rfl, a, c, rfl⟩ | ⟨g, cap, rfl, _, _, ho⟩
  · exact ⟨hwf, hl, .inl ⟨a, c, rfl, rfl⟩⟩
  · exact ho.sb hwf hl
theorem ResR.kept {w w' : World} {lo hi : Nat} {s : Value} {bs : List Blk} {row : Option Nat} (h : ResR w lo hi s bs) (hg : w.grownBy w' row) (hr : ∀ r, row = some r → r < lo ∨ hi ≤ r) : ResR w' lo hi s bs := by
  rcases h with h | ⟨g, cap, rfl, h1, h2, ho⟩
  · exact .inl h
  · exact .inr ⟨g, cap, rfl, h1, h2, ho.kept hg (fun e => by have := hr g e.symm; omega)⟩
theorem ResR.below {w w' : World} {lo hi : Nat} {s : Value} {bs : List Blk} (h : ResR w lo hi s bs) {B : Nat} (hb : Below B w w') (hB : w.heap.size ≤ B) : ResR w' lo hi s bs :=
  h.kept (only_of_below (hb.mono hB) none) (by simp)
theorem ResR.wide {w : World} {lo hi lo' hi' : Nat} {s : Value} {bs : List Blk} (h : ResR w lo hi s bs) (h1 : lo' ≤ lo) (h2 : hi ≤ hi') : ResR w lo' hi' s bs := by
  rcases h with h | ⟨g, cap, rfl, h3, h4, ho⟩
  · exact .inl h
  · exact .inr ⟨g, cap, rfl, by omega, by omega, ho⟩
theorem OwnB.res {w : World} {lo : Nat} {s : Value} {bs : List Blk} (h : OwnB w lo s bs) : ResR w lo w.heap.size s bs := by
  obtain ⟨g, cap, rfl, h1, h2, h3, h4, _⟩ := h
  exact .inr ⟨g, cap, rfl, h1, h2, h2, h3, h4⟩

theorem markR (lo hi : Nat) (s : Value) (bs : List Blk) (k : Int) (w : World) (h : ResR w lo hi s bs) (hl : bs.length ≤ 1100000) (h0 : 0 ≤ k) (h1 : k ≤ 9000000) :
    Calls Try.prog 68 #[s, .int .i64 k] w (fun e w' => e = .returned (.int .i64 (k + 3 * bs.length)) ∧ (∃ row, w.grownBy w' row ∧ ∀ r, row = some r → lo ≤ r ∧ r < hi) ∧ ResR w' lo hi s (markL k bs.length)) := by
  rcases h with ⟨rfl, a, c, rfl⟩ | ⟨g, cap, rfl, h3, h4, ho⟩
  · refine (markBlockS_nil a c k w).mono ?_
    rintro e w' ⟨rfl, rfl⟩
    exact ⟨by simp, ⟨none, only_refl _ _, by simp⟩, .inl ⟨rfl, a, c, rfl⟩⟩
  · refine (markBlockS_any g cap bs k w ho hl h0 h1).mono ?_
    rintro e w' ⟨rfl, hg, ho'⟩
    exact ⟨rfl, ⟨some g, hg, fun r hr => by cases hr; exact ⟨h3, h4⟩⟩, .inr ⟨g, cap, by rw [markL_length], h3, h4, ho'⟩⟩
theorem heldR (lo hi : Nat) (s : Value) (n : Nat) (k : Int) (w : World) (h : ResR w lo hi s (markL k n)) (hl : n ≤ 1100000) (h0 : 0 ≤ k) (h1 : k ≤ 9000000) :
    Calls Try.prog 110 #[s, .int .i64 k] w (RS (.int .i64 (k + 3 * n)) w) := by
  rcases h with ⟨hn, a, c, rfl⟩ | ⟨g, cap, rfl, h3, h4, ho⟩
  · have : n = 0 := by have := congrArg List.length hn; simpa [markL_length] using this
    subst this
    simpa using heldBlockS_nil a c k w
  · rw [markL_length]
    exact heldBlockS_any g cap n k w ho.at_ hl h0 h1

/-- append of one block to a list of the call's own. -/
theorem wpList_append_blk {w : World} {ops : Array Oper} {rest : List Oper} {o : Oper} {a : Act} {Q : Exit → Act → World → Prop} (hgd : o.guard = none) (s x : Operand)
    (ho : o.op = .call { callee := .builtin .append, args := #[s, x], argTypes := #[29, 29] })
    (base : Nat) (v : Value) (bs : List Blk) (hs : a.eval s = v) (hown : OwnR w base v bs) (b0 c : Nat) (y : Blk) (hx : a.eval x = .slice (some ⟨b0, 0, none⟩) 1 c)
    (c1 : w.cell? ⟨b0, 0, none⟩ = some (.int .i64 y.a)) (c2 : w.cell? ⟨b0, 1, none⟩ = some (.int .i64 y.b)) (c3 : w.cell? ⟨b0, 2, none⟩ = some (.int .i64 y.c))
    (hl : bs.length ≤ 1100000) (hbase : base ≤ w.heap.size)
    (h : ∀ (g cap : Nat) (w' : World), OwnR w' base (.slice (some ⟨g, 0, none⟩) (bs.length + 1) cap) (bs ++ [y]) → w.grownBy w' v.ownBlock → wpList Try.prog ops Q rest (a.put o.dst (.slice (some ⟨g, 0, none⟩) (bs.length + 1) cap)) w') : wpList Try.prog ops Q (o :: rest) a w := by
  obtain ⟨i0, hi, hz0, hz1, hz2⟩ := info_parts infoBlock
  refine wpList_append_own w hgd s x 29 ho base 71 i0 _ 3 24 Try.underlying29 hi hz0 hz1 hz2 rfl (by decide) v bs.length (bs.flatMap cells3) hs hown ⟨b0, 0, none⟩ 1 c (cells3 y) hx rfl ?_ ?_ (by unfold maxLen; omega) (by omega) hbase ?_
  · intro j u hj
    rw [addr_at, Nat.zero_add]
    match j, hj with
    | 0, hj => simp [cells3] at hj; rw [← hj]; exact c1
    | 1, hj => simp [cells3] at hj; rw [← hj]; exact c2
    | 2, hj => simp [cells3] at hj; rw [← hj]; exact c3
    | j + 3, hj => simp [cells3] at hj
  · intro u hu
    simp [cells3] at hu
    rcases hu with rfl | rfl | rfl <;> rfl
  · intro v' w' hown' hg _
    obtain ⟨g, cap, rfl⟩ := row_some hown'
    refine h g cap w' ?_ hg
    unfold OwnR
    rw [List.length_append, List.length_singleton, List.flatMap_append, List.flatMap_singleton]
    exact hown'
end Go.Proofs.Ytoicdfdfajfopaa

namespace Go.Proofs.Ytoicdfdfajfopaa
open Go.RowKit Go.Maps
/-- What is known of a slice of blocks that came in. -/
def InB (w : World) (s : Value) (bs : List Blk) : Prop :=
  (∀ x ∈ bs, WFB x) ∧ bs.length ≤ 9223372036854775807 ∧ ((∃ a c, s = .slice a 0 c ∧ bs = []) ∨ ∃ b off cap, s = .slice (some ⟨b, off, none⟩) bs.length cap ∧ b < w.heap.size ∧ Blks w b off bs)
theorem InB.slice {w : World} {s : Value} {bs : List Blk} (h : InB w s bs) : ∃ a c, s = .slice a bs.length c := by
  rcases h.2.2 with ⟨a0, c0, rfl, rfl⟩ | ⟨b, off, cap, rfl, _⟩ <;> exact ⟨_, _, rfl⟩
theorem InB.sb {w : World} {s : Value} {bs : List Blk} (h : InB w s bs) (hl : bs.length ≤ 1048576) : SB w s bs := ⟨h.1, by omega, h.2.2⟩

end Go.Proofs.Ytoicdfdfajfopaa

namespace Go.Proofs.Ytoicdfdfajfopaa
open Go.RowKit Go.Maps
def fullB (v : Int) (bs : List Blk) : Bool := decide (6 * (bs.length : Int) = v * (v - 1))
/-- Two results: a bool and a code. -/
def boolCode (b : Bool) (c : Int) : Value := .tuple #[.bool b, .int .i64 c]
theorem sys_size {v : Int} {bs : List Blk} (h : isSysImpl v bs = true) : 3 ≤ v ∧ v ≤ 15 ∧ bs.length ≤ 35 := by
  have h2 := h
  rw [isSys_same] at h2
  simp [isSysSpec] at h2
  exact ⟨h2.1.1.1.1, h2.1.1.1.2, h2.1.1.2⟩
theorem sq_bounds {v : Int} (h0 : 3 ≤ v) (h1 : v ≤ 15) : 6 ≤ v * (v - 1) ∧ v * (v - 1) ≤ 210 := by
  have : v = 3 ∨ v = 4 ∨ v = 5 ∨ v = 6 ∨ v = 7 ∨ v = 8 ∨ v = 9 ∨ v = 10 ∨ v = 11 ∨ v = 12 ∨ v = 13 ∨ v = 14 ∨ v = 15 := by omega
  rcases this with rfl | rfl | rfl | rfl | rfl | rfl | rfl | rfl | rfl | rfl | rfl | rfl | rfl <;> decide
theorem sq_even {v : Int} (h0 : 3 ≤ v) (h1 : v ≤ 15) : ∃ k, v * (v - 1) = 2 * k := by
  have : v = 3 ∨ v = 4 ∨ v = 5 ∨ v = 6 ∨ v = 7 ∨ v = 8 ∨ v = 9 ∨ v = 10 ∨ v = 11 ∨ v = 12 ∨ v = 13 ∨ v = 14 ∨ v = 15 := by omega
  rcases this with rfl | rfl | rfl | rfl | rfl | rfl | rfl | rfl | rfl | rfl | rfl | rfl | rfl
  · exact ⟨3, by decide⟩
  · exact ⟨6, by decide⟩
  · exact ⟨10, by decide⟩
  · exact ⟨15, by decide⟩
  · exact ⟨21, by decide⟩
  · exact ⟨28, by decide⟩
  · exact ⟨36, by decide⟩
  · exact ⟨45, by decide⟩
  · exact ⟨55, by decide⟩
  · exact ⟨66, by decide⟩
  · exact ⟨78, by decide⟩
  · exact ⟨91, by decide⟩
  · exact ⟨105, by decide⟩
/-- What IsFull answers. -/
def fullV (v : Int) (bs : List Blk) : Value := if isSysImpl v bs then boolCode (fullB v bs) 0 else boolCode false 1

theorem RV2_of {v u : Value} {w w' : World} (h : u = v) (hb : Below w.heap.size w w') : RV v w (.returned u) w' := ⟨by rw [h], hb⟩
set_option maxRecDepth 100000 in
theorem IsFull_any (v : Int) (s : Value) (bs : List Blk) (w : World) (h : SB w s bs) : Calls Try.prog 99 #[.agg #[.int .i64 v, s]] w (RV (fullV v bs) w) := by
  have hs : ∃ a c, s = .slice a bs.length c := by rcases h.2.2 with ⟨a0, c0, rfl, rfl⟩ | ⟨b, off, cap, rfl, _⟩ <;> exact ⟨_, _, rfl⟩
  have hc := IsSystem_any v s bs (w.alloc (.cells #[.int .i64 v, s] 31)) (h.below ((Below.refl _ _).alloc (Nat.le_refl _) _) (Nat.le_refl _))
  obtain ⟨a, c, rfl⟩ := hs
  cases hi : isSysImpl v bs with
  | false =>
    rw [hi] at hc
    have hf : fullV v bs = boolCode false 1 := by simp [fullV, hi]
    rw [hf]
    have HC := Lib.hid hc
    clear hc hi h hf
    go_enter Try.func99, Try.ntmps99
    go_wp2_with (go_at_call 60; refine HC.out.mono ?_; rintro e w1 ⟨rfl, hb1⟩)
    go_ret2
    exact RV_of rfl (((Below.refl _ _).alloc (Nat.le_refl _) _).trans (hb1.mono (by simp)))
  | true =>
    rw [hi] at hc
    obtain ⟨h3, h15, hl⟩ := sys_size hi
    obtain ⟨q0, q1⟩ := sq_bounds h3 h15
    obtain ⟨k, hk⟩ := sq_even h3 h15
    have hf : fullV v bs = boolCode (fullB v bs) 0 := by simp [fullV, hi]
    rw [hf]
    have hfb : fullB v bs = decide (3 * (bs.length : Int) = v * (v - 1) / 2) := by
      unfold fullB
      rw [hk]
      rw [show 2 * k / 2 = k by omega]
      by_cases e : 3 * (bs.length : Int) = k
      · simp [e]; omega
      · simp [e]; omega
    rw [hfb]
    have hb0 : (0 : Int) ≤ (bs.length : Int) := by omega
    have hb35 : (bs.length : Int) ≤ 35 := by omega
    have q0' : 0 ≤ v * (v - 1) := by omega
    have HC := Lib.hid hc
    clear hc hi h hf hfb hk
    go_enter Try.func99, Try.ntmps99
    go_wp2_with (go_at_call 60; refine HC.out.mono ?_; rintro e w1 ⟨rfl, hb1⟩; have c0 := cell_new hb1 0 rfl; have c1 := cell_new hb1 1 rfl)
    all_goals go_ret2
    exact RV_of (congrArg (fun b => boolCode b 0) (by rw [Bool.eq_iff_iff]; simp)) (((Below.refl _ _).alloc (Nat.le_refl _) _).trans (hb1.mono (by simp)))

set_option maxRecDepth 100000 in
theorem l01Full_any (v : Int) (s : Value) (bs : List Blk) (w : World) (hs : ∃ a c, s = .slice a bs.length c) (h3 : 3 ≤ v) (h15 : v ≤ 15) (hl : bs.length ≤ 1100000) : Calls Try.prog 76 #[.agg #[.int .i64 v, s]] w (RV (.bool (fullB v bs)) w) := by
  obtain ⟨a, c, rfl⟩ := hs
  obtain ⟨q0, q1⟩ := sq_bounds h3 h15
  have hb0 : (0 : Int) ≤ (bs.length : Int) := by omega
  have hb35 : (bs.length : Int) ≤ 1100000 := by omega
  go_enter Try.func76, Try.ntmps76
  go_wp2
  go_ret
  exact RV_of (bool_eq (by rw [Bool.eq_iff_iff]; simp [fullB])) ((Below.refl _ _).alloc (Nat.le_refl _) _)

end Go.Proofs.Ytoicdfdfajfopaa

namespace Go.Proofs.Ytoicdfdfajfopaa
open Go.RowKit Go.Maps
def commonL (bs cs : List Blk) : List Blk := bs.filter fun x => decide (x ∈ cs)
def commonF (v : Int) (bs : List Blk) (u : Int) (cs : List Blk) : List Blk × Int :=
  if isSysImpl v bs && isSysImpl u cs then (if v = u then (commonL bs cs, 0) else ([], 2)) else ([], 1)
/-- Two results: a list of blocks in new memory, and a code. -/
def RLC (p : List Blk × Int) (w : World) (e : Ending) (w' : World) : Prop := ∃ s, e = .returned (.tuple #[s, .int .i64 p.2]) ∧ ResR w' w.heap.size w'.heap.size s p.1 ∧ Below w.heap.size w w'
theorem run_makeMap_hint {P : Program} (t k e : TypeId) (kd : IntKind) (n : Int) (ht : P.underlying t = some (.map k e)) (w : World) :
    (Instr.makeMap t (some (.int kd n))).run P w = .ok (.map (some w.heap.size)) (w.alloc (.map #[] 0)) := by
  simp [Instr.makeMap, run_underlying ht]; rfl
theorem SB.slice {w : World} {s : Value} {bs : List Blk} (h : SB w s bs) : ∃ a c, s = .slice a bs.length c := by
  rcases h.2.2 with ⟨a0, c0, rfl, rfl⟩ | ⟨b, off, cap, rfl, _⟩ <;> exact ⟨_, _, rfl⟩

theorem filter_take_next {p : Blk → Bool} {bs : List Blk} {k : Nat} {x : Blk} (hk : k < bs.length) (hx : bs[k]? = some x) : (bs.take (k + 1)).filter p = (bs.take k).filter p ++ if p x then [x] else [] := by
  have e : bs[k] = x := by
    rw [List.getElem?_eq_getElem hk] at hx
    simpa using hx
  rw [take_next hk, e, List.filter_append]
  cases h : p x <;> simp [h]
theorem commonL_length (bs cs : List Blk) : (commonL bs cs).length ≤ bs.length := List.length_filter_le _ _
theorem commonL_wf {bs cs : List Blk} (h : ∀ x ∈ bs, WFB x) : ∀ x ∈ commonL bs cs, WFB x := fun x hx => h x ((List.mem_filter.1 hx).1)
theorem OwnR.row {w : World} {base : Nat} {v : Value} {bs : List Blk} (h : OwnR w base v bs) : ∀ r, v.ownBlock = some r → base ≤ r := fun r hr => by
  rcases h.2 with ⟨rfl, _⟩ | ⟨g, cap, cur, rfl, hb, _⟩
  · cases hr
  · cases hr; exact hb
end Go.Proofs.Ytoicdfdfajfopaa

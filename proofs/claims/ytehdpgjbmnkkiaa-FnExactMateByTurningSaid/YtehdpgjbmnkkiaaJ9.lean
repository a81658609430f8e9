
/- The model's turned systems; TurnSystem on both sides. Plain facts on trades, without the program. The model's pairs of blocks: l04Pair, l04Pairs, l04Same, l04Member. Sets of blocks as maps: setOf, blocksIn, blocksWithout. impl.CommonBlocks answers as the plain function commonF. The model's CommonBlocks answers as the plain function commonF. What a law over one system whose result is a list of integers knows of the memory between two of its steps. -/
import Derived.Test.YtehdpgjbmnkkiaaJ8
import Derived.Deep.RegionWith
import Derived.Deep.DeepCutAuto
import Derived.Deep.OwnRows
namespace Go.Proofs.Ytehdpgjbmnkkiaa
open Go.RowKit Go.Maps
set_option maxRecDepth 100000 in
set_option maxHeartbeats 1000000 in
theorem l10Turned_any (n k : Nat) (s : Value) (bs : List Blk) (w : World) (h : SB w s bs) (hi : isSysImpl (n : Int) bs = true) (hk : k < n) :
    Calls Try.prog 63 #[.agg #[.int .i64 (n : Int), s], .int .i64 (k : Int)] w (fun e w' => ∃ u, e = .returned (.agg #[.int .i64 (n : Int), u]) ∧ ResR w' w.heap.size w'.heap.size u (turnS n k bs) ∧ Below w.heap.size w w') := by
  obtain ⟨hv3, hv15, hb35⟩ := sys_size hi
  have hs := h.slice
  have HR := Lib.hid fun (t : Value) W (hb : Below w.heap.size w W) (ht : IB W t (turnU n k n)) => l01Renamed_any (n : Int) s bs t (turnU n k n) W (h.below hb (Nat.le_refl _)) ht (sys_good hi) hv3 hv15 hb35 turnU_ren
  clear h hi
  obtain ⟨a0, c0, rfl⟩ := hs
  go_enter Try.func63, Try.ntmps63
  go_wp2_with fail
  obtain ⟨w2, hw2⟩ : ∃ w2, ((w.alloc (.cells #[.int .i64 n, .slice a0 bs.length c0] 31)).alloc (.cells #[.int .i64 0, .slice none 0 0] 31)) = w2 := ⟨_, rfl⟩
  have six : Six w2 w.heap.size n (.slice a0 bs.length c0) := by rw [← hw2]; exact ⟨by simp [go_sem], by simp [go_sem], by simp [go_sem], by simp [go_sem], by simp [go_sem], by simp [go_sem]⟩
  have hz2 : w2.heap.size = w.heap.size + 1 + 1 := by rw [← hw2]; simp
  have hbw2 : Below w.heap.size w w2 := by rw [← hw2]; exact below2 _ _ _ _
  have HO0 := Lib.hid (OwnJ.new0 w2 (base := w2.heap.size) (Nat.le_refl _))
  have HB0 := Lib.hid (show Below w2.heap.size w2 (w2.alloc (.cells #[] 2)) from (Below.refl _ _).alloc (Nat.le_refl _) _)
  rw [hw2]
  rw [hz2] at HO0 HB0
  clear hw2
  obtain ⟨q0, q1, _⟩ := id six
  have HSIX := Lib.hid six
  have hlt3 : w.heap.size < w2.heap.size := by omega
  have hlt4 : w.heap.size + 1 < w2.heap.size := by omega
  clear six
  go_loopw [5, 6] (fun o t wr => ∃ m : Nat, m ≤ n ∧ t = .int .i64 m ∧ Below w2.heap.size w2 wr ∧ OwnJ wr w2.heap.size o (turnU n k m)) (fun _ t _ => n - (intOf t).toNat)
  case atStart => exact ⟨0, Nat.zero_le _, rfl, by rw [hz2]; exact HB0.out, by rw [hz2]; exact HO0.out⟩
  case round =>
    obtain ⟨m, hm, rfl, hB, hO⟩ := hrel
    have hz := hB.size
    obtain ⟨a3, c3, rfl⟩ := hO.slice
    have HO := Lib.hid hO
    have hl := turnU_len n k m
    rw [hl] at HO ⊢
    have r0 := (hB.cell (p := ⟨w.heap.size, 0, none⟩) hlt3).trans q0
    have r1 := (hB.cell (p := ⟨w.heap.size, 1, none⟩) hlt3).trans q1
    clear hO
    by_cases hmn : m < n
    · have hmod : wrap64 (Int.tmod ((m : Int) + (k : Int)) (n : Int)) = (((m + k) % n : Nat) : Int) := by
        rw [Int.tmod_eq_emod_of_nonneg (by omega)]
        have := Nat.mod_lt (m + k) (show 0 < n by omega)
        rw [show ((m : Int) + (k : Int)) % (n : Int) = (((m + k) % n : Nat) : Int) by simp]
        unfold wrap64; omega
      have HSU := Lib.hid (turnU_succ n k m)
      have hn0 : (n : Int) ≠ 0 := by omega
      go_wp2_with (at_builtin; refine wpList_append_int rfl _ _ rfl w2.heap.size _ (turnU n k m) rfl (HO.out.below ((Below.refl _ _).alloc (Nat.le_refl _) _) (Nat.le_refl _)) _ _ (((m + k) % n : Nat) : Int) rfl (by simp [go_sem]) (by omega) (by simp; omega) ?_; intro g' cap' w4 hO4 hg4; rw [hl] at hO4 ⊢)
      have hrow := HO.out.row
      have hgo := gb_trans (World.grownBy_alloc _ _ none) hg4
      clear hg4
      go_roundw
      case rel => exact ⟨m + 1, by omega, by go_num, hB.grown hgo hz (fun j e => hrow j e), by rw [HSU.out]; exact hO4⟩
      case measure => simp [intOf]; omega
    · have e : m = n := by omega
      subst e
      have hbw3 := hbw2.trans (hB.mono (by omega))
      obtain ⟨_, _, e0, e1, k0, k1⟩ := HSIX.out
      have f0 := (hB.cell (p := ⟨w.heap.size + 1, 0, none⟩) hlt4).trans e0
      have f1 := (hB.cell (p := ⟨w.heap.size + 1, 1, none⟩) hlt4).trans e1
      have f2 := (hB.frozen (p := ⟨w.heap.size + 1, 0, none⟩) hlt4).trans k0
      have f3 := (hB.frozen (p := ⟨w.heap.size + 1, 1, none⟩) hlt4).trans k1
      have HC := Lib.hid (HR.out _ wr hbw3 (HO.out.ib (by omega)))
      have hzr : w.heap.size + 1 < wr.heap.size := by omega
      clear e0 e1 k0 k1
      go_wp2_with fail
      refine HC.out.mono ?_
      rintro e w3 ⟨u, rfl, hres, hb3⟩
      have g0 := (hb3.cell (p := ⟨w.heap.size + 1, 0, none⟩) hzr).trans f0
      have g1 := (hb3.cell (p := ⟨w.heap.size + 1, 1, none⟩) hzr).trans f1
      have g2 := (hb3.frozen (p := ⟨w.heap.size + 1, 0, none⟩) hzr).trans f2
      have g3 := (hb3.frozen (p := ⟨w.heap.size + 1, 1, none⟩) hzr).trans f3
      have hz3 := hb3.size
      have HB3 := Lib.hid (hbw3.trans (hb3.mono (by omega)))
      have HRES := Lib.hid hres
      obtain ⟨a9, c9, hu⟩ := hres.slice
      obtain ⟨n9, hn9⟩ : ∃ n, n = (turnS m k bs).length := ⟨_, rfl⟩
      unfold turnS at hn9
      rw [← hn9] at hu
      subst hu
      clear hres hb3 HC r0 r1 f0 f1 f2 f3 hn9
      go_wp2
      have hfin := (HRES.out.kept (gb_set2 w3 (w.heap.size + 1) (.int .i64 m) (.slice a9 n9 c9)) (fun r e => by cases e; exact .inl (by omega))).wide (lo' := w.heap.size) (by omega) (gb_set2 w3 (w.heap.size + 1) (.int .i64 m) (.slice a9 n9 c9)).size
      exact bodyPost_ret (v := .agg #[.int .i64 m, .slice a9 n9 c9]) (by simp [results, Try.results63, go_sem, *]) rfl ⟨_, rfl, hfin, below_set2 HB3.out (by omega) _ _⟩
theorem l01InP_any (v k : Int) (w : World) : Calls Try.prog 62 #[.int .i64 k, .int .i64 0, .int .i64 (v - 1)] w (RS (.bool (inP v k)) w) := by
  have h := l01In_any k 0 (v - 1) w
  have e : (decide (0 ≤ k) && decide (k ≤ v - 1)) = inP v k := by
    unfold inP
    rw [Bool.eq_iff_iff]
    simp
    omega
  rw [← e]
  exact h
theorem turnS_wf {n k : Nat} {bs : List Blk} (hi : isSysImpl (n : Int) bs = true) : ∀ x ∈ turnS n k bs, WFB x := by
  have := renF_wf (n : Int) bs (turnU n k n)
  rw [turnS_ren hi] at this
  exact this
theorem turnF_wf (v : Int) (bs : List Blk) (k : Int) : ∀ x ∈ (turnF v bs k).2.1, WFB x := by
  unfold turnF
  split
  · rename_i hi
    split
    · have hv := (sys_size hi).1
      exact turnS_wf (by rw [show ((v.toNat : Nat) : Int) = v by omega]; exact hi)
    · simp
  · simp
set_option maxRecDepth 100000 in
set_option maxHeartbeats 1000000 in
theorem TurnSystem_any (v : Int) (s : Value) (bs : List Blk) (k : Int) (w : World) (h : SB w s bs) :
    Calls Try.prog 32 #[.agg #[.int .i64 v, s], .int .i64 k] w (RSys (turnF v bs k) w) := by
  have hs := h.slice
  have HI := Lib.hid fun W (hb : Below w.heap.size w W) => IsSystem_any v s bs W (h.below hb (Nat.le_refl _))
  have HSB := Lib.hid h
  clear h
  obtain ⟨a0, c0, rfl⟩ := hs
  cases hi : isSysImpl v bs with
  | false =>
    have hval : turnF v bs k = (0, [], 1) := by simp [turnF, hi]
    rw [hval]
    rw [hi] at HI
    clear hval hi HSB
    go_enter Try.func32, Try.ntmps32
    go_wp2_with fail
    refine (HI.out _ (below2 _ _ _ _)).mono ?_
    rintro e w1 ⟨rfl, hb1⟩
    obtain ⟨_, _, d0, d1, f0, f1, hbw, hlt⟩ := boxes2 hb1
    clear hb1
    go_wp2
    exact bodyPost_ret (v := .tuple #[.agg #[.int .i64 0, .slice none 0 0], .int .i64 1]) (by simp [results, Try.results32, go_sem, *]) rfl ⟨_, rfl, .inl ⟨rfl, _, _, rfl⟩, below_set2 hbw (by omega) _ _⟩
  | true =>
    rw [hi] at HI
    obtain ⟨hv3, hv15, hb35⟩ := sys_size hi
    have HP := Lib.hid fun W => isPointI_any v k W
    cases hp : inP v k with
    | false =>
      have hval : turnF v bs k = (0, [], 2) := by unfold turnF; rw [if_pos hi, ← show inP v k = (decide (0 ≤ k) && decide (k < v)) from by simp [inP], hp]; rfl
      rw [hval]
      rw [hp] at HP
      clear hval hi hp HSB
      go_enter Try.func32, Try.ntmps32
      go_wp2_with fail
      refine (HI.out _ (below2 _ _ _ _)).mono ?_
      rintro e w1 ⟨rfl, hb1⟩
      obtain ⟨p0, p1, d0, d1, f0, f1, hbw, hlt⟩ := boxes2 hb1
      clear hb1
      go_wp2_with fail
      refine (HP.out _).mono ?_
      rintro e w2 ⟨rfl, rfl⟩
      go_wp2
      exact bodyPost_ret (v := .tuple #[.agg #[.int .i64 0, .slice none 0 0], .int .i64 2]) (by simp [results, Try.results32, go_sem, *]) rfl ⟨_, rfl, .inl ⟨rfl, _, _, rfl⟩, below_set2 hbw (by omega) _ _⟩
    | true =>
      have hval : turnF v bs k = (v, turnS v.toNat k.toNat bs, 0) := by unfold turnF; rw [if_pos hi, ← show inP v k = (decide (0 ≤ k) && decide (k < v)) from by simp [inP], hp]; rfl
      rw [hval]
      rw [hp] at HP
      have hk2 : 0 ≤ k ∧ k < v := by simpa [inP] using hp
      obtain ⟨n, rfl⟩ : ∃ n : Nat, v = n := ⟨v.toNat, by omega⟩
      obtain ⟨q, rfl⟩ : ∃ q : Nat, k = q := ⟨k.toNat, by omega⟩
      have HT := Lib.hid fun W (hb : Below w.heap.size w W) => turned_any n q _ bs W (HSB.out.below hb (Nat.le_refl _)) hi (by omega)
      simp only [Int.toNat_natCast]
      clear hval hi hp HSB
      go_enter Try.func32, Try.ntmps32
      go_wp2_with fail
      refine (HI.out _ (below2 _ _ _ _)).mono ?_
      rintro e w1 ⟨rfl, hb1⟩
      obtain ⟨p0, p1, d0, d1, f0, f1, hbw, hlt⟩ := boxes2 hb1
      clear hb1
      go_wp2_with fail
      refine (HP.out _).mono ?_
      rintro e w2 ⟨rfl, rfl⟩
      go_wp2_with fail
      refine (HT.out _ hbw).mono ?_
      rintro e w3 ⟨u, rfl, hres, hb3⟩
      have g0 := (hb3.cell (p := ⟨w.heap.size + 1, 0, none⟩) hlt).trans d0
      have g1 := (hb3.cell (p := ⟨w.heap.size + 1, 1, none⟩) hlt).trans d1
      have g2 := (hb3.frozen (p := ⟨w.heap.size + 1, 0, none⟩) hlt).trans f0
      have g3 := (hb3.frozen (p := ⟨w.heap.size + 1, 1, none⟩) hlt).trans f1
      have hz3 := hb3.size
      have HB3 := Lib.hid (hbw.trans (hb3.mono (by omega)))
      have HRES := Lib.hid hres
      obtain ⟨a9, c9, hu⟩ := hres.slice
      obtain ⟨n9, hn9⟩ : ∃ m, m = (turnS n q bs).length := ⟨_, rfl⟩
      rw [← hn9] at hu
      subst hu
      clear hres hb3 HT p0 p1 d0 d1 f0 f1 hn9
      go_wp2
      have hfin := (HRES.out.kept (gb_set2 w3 (w.heap.size + 1) (.int .i64 n) (.slice a9 n9 c9)) (fun r e => by cases e; exact .inl (by omega))).wide (lo' := w.heap.size) (by omega) (gb_set2 w3 (w.heap.size + 1) (.int .i64 n) (.slice a9 n9 c9)).size
      exact bodyPost_ret (v := .tuple #[.agg #[.int .i64 n, .slice a9 n9 c9], .int .i64 0]) (by simp [results, Try.results32, go_sem, *]) rfl ⟨_, rfl, hfin, below_set2 HB3.out (by omega) _ _⟩
set_option maxRecDepth 100000 in
set_option maxHeartbeats 1000000 in
theorem specTurnSystem_any (v : Int) (s : Value) (bs : List Blk) (k : Int) (w : World) (h : SB w s bs) :
    Calls Try.prog 31 #[.agg #[.int .i64 v, s], .int .i64 k] w (RSys (turnF v bs k) w) := by
  have hs := h.slice
  have HI := Lib.hid fun W (hb : Below w.heap.size w W) => l01Is_any v s bs W (h.below hb (Nat.le_refl _))
  have HSB := Lib.hid h
  clear h
  obtain ⟨a0, c0, rfl⟩ := hs
  cases hi : isSysImpl v bs with
  | false =>
    have hval : turnF v bs k = (0, [], 1) := by simp [turnF, hi]
    rw [hval]
    rw [hi] at HI
    clear hval hi HSB
    go_enter Try.func31, Try.ntmps31
    go_wp2_with fail
    refine (HI.out _ (below2 _ _ _ _)).mono ?_
    rintro e w1 ⟨rfl, hb1⟩
    obtain ⟨_, _, d0, d1, f0, f1, hbw, hlt⟩ := boxes2 hb1
    clear hb1
    go_wp2
    exact bodyPost_ret (v := .tuple #[.agg #[.int .i64 0, .slice none 0 0], .int .i64 1]) (by simp [results, Try.results31, go_sem, *]) rfl ⟨_, rfl, .inl ⟨rfl, _, _, rfl⟩, below_set2 hbw (by omega) _ _⟩
  | true =>
    rw [hi] at HI
    obtain ⟨hv3, hv15, hb35⟩ := sys_size hi
    have HP := Lib.hid fun W => l01InP_any v k W
    cases hp : inP v k with
    | false =>
      have hval : turnF v bs k = (0, [], 2) := by unfold turnF; rw [if_pos hi, ← show inP v k = (decide (0 ≤ k) && decide (k < v)) from by simp [inP], hp]; rfl
      rw [hval]
      rw [hp] at HP
      clear hval hi hp HSB
      go_enter Try.func31, Try.ntmps31
      go_wp2_with fail
      refine (HI.out _ (below2 _ _ _ _)).mono ?_
      rintro e w1 ⟨rfl, hb1⟩
      obtain ⟨p0, p1, d0, d1, f0, f1, hbw, hlt⟩ := boxes2 hb1
      clear hb1
      go_wp2_with fail
      refine (HP.out _).mono ?_
      rintro e w2 ⟨rfl, rfl⟩
      go_wp2
      exact bodyPost_ret (v := .tuple #[.agg #[.int .i64 0, .slice none 0 0], .int .i64 2]) (by simp [results, Try.results31, go_sem, *]) rfl ⟨_, rfl, .inl ⟨rfl, _, _, rfl⟩, below_set2 hbw (by omega) _ _⟩
    | true =>
      have hval : turnF v bs k = (v, turnS v.toNat k.toNat bs, 0) := by unfold turnF; rw [if_pos hi, ← show inP v k = (decide (0 ≤ k) && decide (k < v)) from by simp [inP], hp]; rfl
      rw [hval]
      rw [hp] at HP
      have hk2 : 0 ≤ k ∧ k < v := by simpa [inP] using hp
      obtain ⟨n, rfl⟩ : ∃ n : Nat, v = n := ⟨v.toNat, by omega⟩
      obtain ⟨q, rfl⟩ : ∃ q : Nat, k = q := ⟨k.toNat, by omega⟩
      have HT := Lib.hid fun W (hb : Below w.heap.size w W) => l10Turned_any n q _ bs W (HSB.out.below hb (Nat.le_refl _)) hi (by omega)
      simp only [Int.toNat_natCast]
      clear hval hi hp HSB
      go_enter Try.func31, Try.ntmps31
      go_wp2_with fail
      refine (HI.out _ (below2 _ _ _ _)).mono ?_
      rintro e w1 ⟨rfl, hb1⟩
      obtain ⟨p0, p1, d0, d1, f0, f1, hbw, hlt⟩ := boxes2 hb1
      clear hb1
      go_wp2_with fail
      refine (HP.out _).mono ?_
      rintro e w2 ⟨rfl, rfl⟩
      go_wp2_with fail
      refine (HT.out _ hbw).mono ?_
      rintro e w3 ⟨u, rfl, hres, hb3⟩
      have g0 := (hb3.cell (p := ⟨w.heap.size + 1, 0, none⟩) hlt).trans d0
      have g1 := (hb3.cell (p := ⟨w.heap.size + 1, 1, none⟩) hlt).trans d1
      have g2 := (hb3.frozen (p := ⟨w.heap.size + 1, 0, none⟩) hlt).trans f0
      have g3 := (hb3.frozen (p := ⟨w.heap.size + 1, 1, none⟩) hlt).trans f1
      have hz3 := hb3.size
      have HB3 := Lib.hid (hbw.trans (hb3.mono (by omega)))
      have HRES := Lib.hid hres
      obtain ⟨a9, c9, hu⟩ := hres.slice
      obtain ⟨n9, hn9⟩ : ∃ m, m = (turnS n q bs).length := ⟨_, rfl⟩
      rw [← hn9] at hu
      subst hu
      clear hres hb3 HT p0 p1 d0 d1 f0 f1 hn9
      go_wp2
      have hfin := (HRES.out.kept (gb_set2 w3 (w.heap.size + 1) (.int .i64 n) (.slice a9 n9 c9)) (fun r e => by cases e; exact .inl (by omega))).wide (lo' := w.heap.size) (by omega) (gb_set2 w3 (w.heap.size + 1) (.int .i64 n) (.slice a9 n9 c9)).size
      exact bodyPost_ret (v := .tuple #[.agg #[.int .i64 n, .slice a9 n9 c9], .int .i64 0]) (by simp [results, Try.results31, go_sem, *]) rfl ⟨_, rfl, hfin, below_set2 HB3.out (by omega) _ _⟩
end Go.Proofs.Ytehdpgjbmnkkiaa

namespace Go.Proofs.Ytehdpgjbmnkkiaa
/-- The pairs of a list of blocks. -/
def prs (bs : List Blk) : List (Int × Int) := bs.flatMap pairsL
/-- The same pairs. -/
def samePr (bs cs : List Blk) : Bool := (prs bs).all (fun p => decide (p ∈ prs cs)) && (prs cs).all (fun p => decide (p ∈ prs bs))
/-- No block is in both. -/
def dsj (bs cs : List Blk) : Bool := bs.all fun x => !decide (x ∈ cs)
def trdB (v : Int) (bo bi : List Blk) : Bool := isSysImpl v bo && isSysImpl v bi && (samePr bo bi && dsj bo bi)
theorem samePr_iff {bs cs : List Blk} : samePr bs cs = true ↔ ∀ p, p ∈ prs bs ↔ p ∈ prs cs := by
  simp only [samePr, Bool.and_eq_true, List.all_eq_true, decide_eq_true_eq]
  exact ⟨fun h p => ⟨h.1 p, h.2 p⟩, fun h => ⟨fun p => (h p).1, fun p => (h p).2⟩⟩
theorem dsj_iff {bs cs : List Blk} : dsj bs cs = true ↔ ∀ x ∈ bs, x ∉ cs := by simp [dsj]
theorem dsj_symm (bs cs : List Blk) : dsj bs cs = dsj cs bs := by
  rw [Bool.eq_iff_iff, dsj_iff, dsj_iff]
  exact ⟨fun h x hx hy => h x hy hx, fun h x hx hy => h x hy hx⟩
theorem samePr_symm (bs cs : List Blk) : samePr bs cs = samePr cs bs := by
  rw [Bool.eq_iff_iff, samePr_iff, samePr_iff]
  exact ⟨fun h p => (h p).symm, fun h p => (h p).symm⟩
theorem trdB_symm (v : Int) (bo bi : List Blk) : trdB v bo bi = trdB v bi bo := by
  unfold trdB
  rw [samePr_symm, dsj_symm, Bool.and_comm (isSysImpl v bo)]
theorem prs_length (bs : List Blk) : (prs bs).length = 3 * bs.length := by
  induction bs with
  | nil => rfl
  | cons x r ih =>
    simp only [prs, List.flatMap_cons, List.length_append, List.length_cons] at ih ⊢
    rw [ih]
    simp [pairsL]; omega
theorem share_nodup {v : Int} (hv : v ≤ 15) : ∀ (bs : List Blk) (seen : List (Int × Int)), (∀ x ∈ bs, goodB v x = true) → seen.Nodup → shareGo seen bs = false → (seen ++ prs bs).Nodup
  | [], seen, _, hn, _ => by simpa [prs] using hn
  | x :: r, seen, hb, hn, h => by
    unfold shareGo at h
    split at h
    · rename_i hf
      rw [freeB_iff] at hf
      obtain ⟨g1, _⟩ := good_pairs hv (hb x (by simp))
      have := share_nodup hv r (seen ++ pairsL x) (fun y hy => hb y (by simp [hy])) (List.nodup_append.2 ⟨hn, g1, fun p hp q hq e => hf q hq (e ▸ hp)⟩) h
      simpa [prs, List.append_assoc] using this
    · cases h
theorem sys_parts {v : Int} {bs : List Blk} (h : isSysImpl v bs = true) : 3 ≤ v ∧ v ≤ 15 ∧ (∀ x ∈ bs, goodB v x = true) ∧ shareGo [] bs = false := by
  simp only [isSysImpl, Bool.and_eq_true, decide_eq_true_eq, Bool.not_eq_true'] at h
  exact ⟨h.1.1.1, h.1.1.2, order_good h.1.2, h.2⟩
theorem prs_nodup {v : Int} {bs : List Blk} (h : isSysImpl v bs = true) : (prs bs).Nodup := by
  obtain ⟨_, h2, h3, h4⟩ := sys_parts h
  simpa using share_nodup h2 bs [] h3 List.nodup_nil h4
theorem sub_back {α : Type} [DecidableEq α] {l m : List α} (hn : l.Nodup) (hs : ∀ x ∈ l, x ∈ m) (hl : m.length ≤ l.length) : ∀ x ∈ m, x ∈ l := by
  intro x hx
  apply Classical.byContradiction
  intro hnot
  have h := nodup_length l (m.erase x) hn (fun y hy => by
    have hne : y ≠ x := fun e => hnot (e ▸ hy)
    exact (List.mem_erase_of_ne hne).2 (hs y hy))
  rw [List.length_erase_of_mem hx] at h
  have : 0 < m.length := List.length_pos_of_mem hx
  omega
/-- Of two systems: as many pairs, and those of the first in the second, say the same. -/
theorem samePr_of {v u : Int} {bs cs : List Blk} (h1 : isSysImpl v bs = true) (h2 : isSysImpl u cs = true) : samePr bs cs = (decide ((prs bs).length = (prs cs).length) && (prs bs).all fun p => decide (p ∈ prs cs)) := by
  have n1 := prs_nodup h1
  have n2 := prs_nodup h2
  rw [Bool.eq_iff_iff, samePr_iff]
  simp only [Bool.and_eq_true, List.all_eq_true, decide_eq_true_eq]
  constructor
  · intro h
    exact ⟨Nat.le_antisymm (nodup_length _ _ n1 fun x hx => (h x).1 hx) (nodup_length _ _ n2 fun x hx => (h x).2 hx), fun x hx => (h x).1 hx⟩
  · rintro ⟨h, hs⟩ p
    exact ⟨hs p, sub_back n1 hs (by omega) p⟩
/-- The blocks that are not in the others. -/
def lessL (bs cs : List Blk) : List Blk := bs.filter fun x => !decide (x ∈ cs)
theorem lessL_length (bs cs : List Blk) : (lessL bs cs).length ≤ bs.length := List.length_filter_le _ _
theorem lessL_mem {bs cs : List Blk} {x : Blk} : x ∈ lessL bs cs ↔ x ∈ bs ∧ x ∉ cs := by simp [lessL]
theorem lessL_strict {bs cs : List Blk} (h : bs.Pairwise fun x y => befB x y = true) : (lessL bs cs).Pairwise fun x y => befB x y = true := h.filter _
theorem sortB_strict {bs : List Blk} (h : bs.Pairwise fun x y => befB x y = true) : sortB bs = bs := sortB_eq (strict_srt h) (List.Perm.refl _)
end Go.Proofs.Ytehdpgjbmnkkiaa

namespace Go.Proofs.Ytehdpgjbmnkkiaa
open Go.RowKit Go.Maps
/-- The number of a pair. -/
def numP (p : Int × Int) : Int := p.1 * 16 + p.2
def inNum (ps : List (Int × Int)) (i : Nat) : Bool := decide ((i : Int) ∈ ps.map numP)
/-- 256 bools in block g. -/
structure Bools (W : World) (g : Nat) (f : Nat → Bool) : Prop where
  lt : g < W.heap.size
  at_ : ∀ i, i < 256 → W.cell? ⟨g, i, none⟩ = some (.bool (f i))
  free : ∀ o, W.frozen? ⟨g, o, none⟩ = false
theorem Bools.below {W W' : World} {g B : Nat} {f : Nat → Bool} (h : Bools W g f) (hb : Below B W W') (hB : W.heap.size ≤ B) : Bools W' g f :=
  ⟨Nat.lt_of_lt_of_le h.lt hb.size, fun i hi => (hb.cell (p := ⟨g, i, none⟩) (Nat.lt_of_lt_of_le h.lt hB)).trans (h.at_ i hi), fun o => (hb.frozen (p := ⟨g, o, none⟩) (Nat.lt_of_lt_of_le h.lt hB)).trans (h.free o)⟩
theorem Bools.set {W : World} {g : Nat} {f : Nat → Bool} (h : Bools W g f) {n : Nat} (hn : n < 256) : Bools (W.setCell ⟨g, n, none⟩ (.bool true)) g (fun i => f i || decide (i = n)) := by
  refine ⟨by simpa using h.lt, fun i hi => ?_, fun o => (World.frozen?_setCell _ _ _ _).trans (h.free o)⟩
  by_cases e : i = n
  · subst e
    rw [World.cell?_setCell_same _ _ _ (h.at_ i hi)]
    simp
  · rw [World.cell?_setCell_other _ _ _ _ (by simp), h.at_ i hi]
    simp [e]
theorem Bools.eq {W : World} {g : Nat} {f f' : Nat → Bool} (h : Bools W g f) (e : ∀ i, i < 256 → f i = f' i) : Bools W g f' := ⟨h.lt, fun i hi => by rw [← e i hi]; exact h.at_ i hi, h.free⟩
theorem Bools.drew {W : World} {g : Nat} {f : Nat → Bool} (h : Bools W g f) : Bools W.drew g f := ⟨h.lt, h.at_, h.free⟩
theorem infoBool : (Try.prog.info? 4).map (fun i => (i.zero, i.size, i.bytes)) = some (some (.bool false), 1, 1) := by kernel_rfl
theorem mkBools : ∃ cs : Array Value, (∀ i, i < 256 → cs[i]? = some (.bool false)) ∧ ∀ W : World, (Instr.makeSlice 168 (.int .i64 256) (.int .i64 256)).run Try.prog W = .ok (.slice (some ⟨W.heap.size, 0, none⟩) 256 256) (W.alloc (.cells cs 4)) :=
  ⟨madeCells #[.bool false] 256, fun i hi => by simp [madeCells, hi, Nat.mod_one], fun W => run_make_row' (P := Try.prog) 168 4 (.bool false) 1 Try.underlying168 infoBool rfl .i64 .i64 256 (by omega) (by omega) W⟩
theorem num_nat {v : Int} {x : Blk} (hv : v ≤ 15) (h : goodB v x = true) : ∃ n1 n2 n3 : Nat, (n1 : Int) = x.a * 16 + x.b ∧ (n2 : Int) = x.a * 16 + x.c ∧ (n3 : Int) = x.b * 16 + x.c ∧ n1 < 256 ∧ n2 < 256 ∧ n3 < 256 := by
  rw [goodB_iff] at h
  exact ⟨(x.a * 16 + x.b).toNat, (x.a * 16 + x.c).toNat, (x.b * 16 + x.c).toNat, by omega, by omega, by omega, by omega, by omega, by omega⟩
theorem inNum_next {bs : List Blk} {k : Nat} {x : Blk} (hk : k < bs.length) (hx : bs[k]? = some x) {n1 n2 n3 : Nat} (h1 : (n1 : Int) = x.a * 16 + x.b) (h2 : (n2 : Int) = x.a * 16 + x.c) (h3 : (n3 : Int) = x.b * 16 + x.c) (i : Nat) :
    (((inNum (prs (bs.take k)) i || decide (i = n1)) || decide (i = n2)) || decide (i = n3)) = inNum (prs (bs.take (k + 1))) i := by
  have e : bs[k] = x := by
    rw [List.getElem?_eq_getElem hk] at hx
    simpa using hx
  rw [take_next hk, e]
  unfold inNum prs
  rw [List.flatMap_append, List.map_append]
  simp only [List.flatMap_cons, List.flatMap_nil, List.append_nil, pairsL, List.map_cons, List.map_nil, numP, List.mem_append, List.mem_cons, List.not_mem_nil, or_false]
  rw [Bool.eq_iff_iff]
  simp only [Bool.or_eq_true, decide_eq_true_eq]
  constructor
  · rintro (((h | rfl) | rfl) | rfl)
    · exact .inl h
    · exact .inr (.inl h1)
    · exact .inr (.inr (.inl h2))
    · exact .inr (.inr (.inr h3))
  · rintro (h | h | h | h)
    · exact .inl (.inl (.inl h))
    · exact .inl (.inl (.inr (by omega)))
    · exact .inl (.inr (by omega))
    · exact .inr (by omega)
end Go.Proofs.Ytehdpgjbmnkkiaa

namespace Go.Proofs.Ytehdpgjbmnkkiaa
open Go.RowKit Go.Maps
/-- The blocks as a map's keys. -/
def BSet (w : World) (b n : Nat) (cs : List Blk) : Prop := BoolSet w Try.prog 93 4 b n (cs.map bv)
/-- Returns new blocks. -/
def RA (bs : List Blk) (w : World) (e : Ending) (w' : World) : Prop := ∃ u, e = .returned u ∧ OwnR w' w.heap.size u bs ∧ Below w.heap.size w w'
theorem bv_mem {x : Blk} {cs : List Blk} : bv x ∈ cs.map bv ↔ x ∈ cs := ⟨fun h => by obtain ⟨y, hy, e⟩ := List.mem_map.1 h; rw [← bv_inj e]; exact hy, fun h => List.mem_map.2 ⟨x, h, rfl⟩⟩
theorem BSet.below {w w' : World} {b n B : Nat} {cs : List Blk} (h : BSet w b n cs) (hb : Below B w w') (hB : w.heap.size ≤ B) : BSet w' b n cs := BoolSet.below h hb (Nat.lt_of_lt_of_le (BoolSet.lt h) hB)
end Go.Proofs.Ytehdpgjbmnkkiaa

namespace Go.Proofs.Ytehdpgjbmnkkiaa
open Go.RowKit Go.Maps
end Go.Proofs.Ytehdpgjbmnkkiaa

namespace Go.Proofs.Ytehdpgjbmnkkiaa
open Go.RowKit Go.Maps
theorem OwnR.lit (w : World) : OwnR (w.alloc (.cells #[] 93)) w.heap.size (.slice (some ⟨w.heap.size, 0, none⟩) 0 0) [] :=
  ⟨rfl,   .inr ⟨w.heap.size, 0, #[], rfl, Nat.le_refl _, (MapKept.heap_alloc w (.cells #[] 93)).1, Nat.le_refl _, by unfold maxLen; omega, rfl, rfl⟩⟩
end Go.Proofs.Ytehdpgjbmnkkiaa

namespace Go.Proofs.Ytehdpgjbmnkkiaa
open Go.RowKit Go.Maps
theorem ResI.slice {w : World} {lo hi : Nat} {s : Value} {zs : List Int} (h : ResI w lo hi s zs) : ∃ a c, s = .slice a zs.length c := by
  rcases h with ⟨rfl, a, c, rfl⟩ | ⟨g, cap, rfl, _⟩ <;> exact ⟨_, _, rfl⟩
theorem ResI.wide {w : World} {lo hi lo' hi' : Nat} {s : Value} {zs : List Int} (h : ResI w lo hi s zs) (h1 : lo' ≤ lo) (h2 : hi ≤ hi') : ResI w lo' hi' s zs := by
  rcases h with h | ⟨g, cap, rfl, h3, h4, ho⟩
  · exact .inl h
  · exact .inr ⟨g, cap, rfl, by omega, by omega, ho⟩
structure St1 (w : World) (v : Int) (s : Value) (W : World) : Prop where
  below : Below w.heap.size w W
  big : w.heap.size < W.heap.size
  x0 : W.cell? ⟨w.heap.size, 0, none⟩ = some (.int .i64 v)
  x1 : W.cell? ⟨w.heap.size, 1, none⟩ = some s
theorem St1.step {w : World} {v : Int} {s : Value} {W W' : World} {row : Option Nat} (h : St1 w v s W) (hg : W.grownBy W' row) (hr : ∀ r, row = some r → w.heap.size < r) : St1 w v s W' :=
  ⟨h.below.grown hg h.below.size (fun r e => by have := hr r e; omega), Nat.lt_of_lt_of_le h.big hg.size,
    hg.cell h.x0 (fun e => by have := hr _ e.symm; simp at this), hg.cell h.x1 (fun e => by have := hr _ e.symm; simp at this)⟩
theorem St1.start (w : World) (v : Int) (s : Value) : St1 w v s (w.alloc (.cells #[.int .i64 v, s] 24)) :=
  ⟨(Below.refl _ _).alloc (Nat.le_refl _) _, by simp, by simp [go_sem], by simp [go_sem]⟩
structure CI (w : World) (v : Int) (s sW s8 sG : Value) (X i0 i1 i2 i5 i6 : Nat) (LW : List Int) (L8 : List Blk) (LG : List Int) (W : World) : Prop where
  st : St1 w v s W
  o0 : w.heap.size < i0
  o1 : i0 ≤ i1
  o2 : i1 ≤ i2
  oX : i2 ≤ X
  oX' : X < i5
  o6 : i5 ≤ i6
  rW : ResI W i0 i1 sW LW
  r8 : ResR W i1 i2 s8 L8
  vX : VarB W X v s8
  rG : ResI W i5 i6 sG LG
section
variable {w : World} {v : Int} {s sW s8 sG : Value} {X i0 i1 i2 i5 i6 : Nat} {LW LG : List Int} {L8 : List Blk} {W W' : World}
theorem CI.step (h : CI w v s sW s8 sG X i0 i1 i2 i5 i6 LW L8 LG W) (hg : W.grownBy W' none) : CI w v s sW s8 sG X i0 i1 i2 i5 i6 LW L8 LG W' :=
  ⟨h.st.step hg (by simp), h.o0, h.o1, h.o2, h.oX, h.oX', h.o6, h.rW.kept hg (by simp), h.r8.kept hg (by simp), h.vX.step hg (by simp), h.rG.kept hg (by simp)⟩
theorem CI.mark8 (h : CI w v s sW s8 sG X i0 i1 i2 i5 i6 LW L8 LG W) {row : Option Nat} (hg : W.grownBy W' row) (hr : ∀ r, row = some r → i1 ≤ r ∧ r < i2) {L : List Blk} (hn : ResR W' i1 i2 s8 L) :
    CI w v s sW s8 sG X i0 i1 i2 i5 i6 LW L LG W' := by
  obtain ⟨st, o0, o1, o2, oX, oX', o6, rW, r8, vX, rG⟩ := h
  exact ⟨st.step hg (fun r e => by have := hr r e; omega), o0, o1, o2, oX, oX', o6, rW.kept hg (fun r e => by have := hr r e; omega), hn, vX.step hg (fun e => by have := hr _ e; omega), rG.kept hg (fun r e => by have := hr r e; omega)⟩
theorem CI.markG (h : CI w v s sW s8 sG X i0 i1 i2 i5 i6 LW L8 LG W) {row : Option Nat} (hg : W.grownBy W' row) (hr : ∀ r, row = some r → i5 ≤ r ∧ r < i6) {L : List Int} (hn : ResI W' i5 i6 sG L) :
    CI w v s sW s8 sG X i0 i1 i2 i5 i6 LW L8 L W' := by
  obtain ⟨st, o0, o1, o2, oX, oX', o6, rW, r8, vX, rG⟩ := h
  exact ⟨st.step hg (fun r e => by have := hr r e; omega), o0, o1, o2, oX, oX', o6, rW.kept hg (fun r e => by have := hr r e; omega), r8.kept hg (fun r e => by have := hr r e; omega), vX.step hg (fun e => by have := hr _ e; omega), hn⟩
end
theorem gb_drew1 (w : World) : w.grownBy w.drew none := ⟨rfl, rfl, rfl, Nat.le_refl _, fun _ _ _ => rfl⟩
theorem gb_alloc1 (w : World) (o : Obj) : w.grownBy (w.alloc o) none := World.grownBy_alloc w o none
end Go.Proofs.Ytehdpgjbmnkkiaa


/- The laws' own helpers: copies of systems, and equality. -/
import Derived.Test.YtlchcnngikgjjaaLawA
namespace Go.Proofs.Ytlchcnngikgjjaa
open Go.RowKit Go.Maps
theorem Blks.setCell {w : World} {b off : Nat} {bs : List Blk} (h : Blks w b off bs) {a : Addr} (ha : b ≠ a.block) (u : Value) : Blks (w.setCell a u) b off bs := fun k hk => by
  obtain ⟨h1, h2, h3⟩ := h k hk
  have e : ∀ o, (w.setCell a u).cell? ⟨b, o, none⟩ = w.cell? ⟨b, o, none⟩ := fun o => World.cell?_setCell_other _ _ _ _ (fun e => ha (by rw [e]))
  rw [e, e, e]
  exact ⟨h1, h2, h3⟩
set_option maxRecDepth 100000 in
theorem toSystem_any (v : Int) (s : Value) (bs : List Blk) (w : World) (h : SB w s bs) : Calls Try.prog 42 #[.agg #[.int .i64 v, s]] w
    (fun e w' => ∃ s', e = .returned (.agg #[.int .i64 v, s']) ∧ OwnB w' w.heap.size s' bs ∧ Below w.heap.size w w') := by
  have hs : ∃ a n c, s = .slice a n c := by rcases h.2.2 with ⟨a0, c0, rfl, _⟩ | ⟨b, off, cap, rfl, _⟩ <;> exact ⟨_, _, _, rfl⟩
  have H := Lib.hid h
  clear h
  obtain ⟨a, n, c, rfl⟩ := hs
  go_enter Try.func42, Try.ntmps42
  go_wp2_with fail
  refine (toBlockS_any _ bs _ (H.out.below (B := w.heap.size) (by repeat (first | exact Below.refl _ _ | refine Below.setCell ?_ (by simp) _ | refine Below.alloc ?_ (by first | exact Nat.le_refl _ | simp; try omega) _)) (Nat.le_refl _))).mono ?_
  rintro e w1 ⟨s', rfl, ho, hb1⟩
  obtain ⟨g, cap, rfl, ho1, ho2, ho3, ho4, ho5⟩ := ho
  simp only [World.size_alloc] at ho1
  have c10 : w1.cell? ⟨w.heap.size + 1, 0, none⟩ = some (.int .i64 0) := (hb1.cell (p := ⟨w.heap.size + 1, 0, none⟩) (by simp <;> omega)).trans (by simp [go_sem])
  have c11 : w1.cell? ⟨w.heap.size + 1, 1, none⟩ = some (.slice none 0 0) := (hb1.cell (p := ⟨w.heap.size + 1, 1, none⟩) (by simp <;> omega)).trans (by simp [go_sem])
  have c20 : w1.cell? ⟨w.heap.size + 1 + 1, 0, none⟩ = some (.int .i64 v) := (hb1.cell (p := ⟨w.heap.size + 1 + 1, 0, none⟩) (by simp)).trans (by simp [go_sem])
  have c21 : w1.cell? ⟨w.heap.size + 1 + 1, 1, none⟩ = some (.slice none 0 0) := (hb1.cell (p := ⟨w.heap.size + 1 + 1, 1, none⟩) (by simp)).trans (by simp [go_sem])
  have f10 : w1.frozen? ⟨w.heap.size + 1, 0, none⟩ = false := (hb1.frozen (p := ⟨w.heap.size + 1, 0, none⟩) (by simp <;> omega)).trans (by simp [go_sem])
  have f11 : w1.frozen? ⟨w.heap.size + 1, 1, none⟩ = false := (hb1.frozen (p := ⟨w.heap.size + 1, 1, none⟩) (by simp <;> omega)).trans (by simp [go_sem])
  have f21 : w1.frozen? ⟨w.heap.size + 1 + 1, 1, none⟩ = false := (hb1.frozen (p := ⟨w.heap.size + 1 + 1, 1, none⟩) (by simp)).trans (by simp [go_sem])
  have hbw : Below w.heap.size w w1 := Below.trans (by repeat (first | exact Below.refl _ _ | refine Below.alloc ?_ (by first | exact Nat.le_refl _ | simp; try omega) _)) (hb1.mono (by simp; omega))
  clear hb1
  go_wp2
  refine bodyPost_ret (v := .agg #[.int .i64 v, .slice (some ⟨g, 0, none⟩) bs.length cap]) (by simp [results, Try.results42, go_sem, *]) rfl ⟨_, rfl, ⟨g, cap, rfl, by omega, ?_, ?_, ?_, ho5⟩, ?_⟩
  · simpa [World.setCell] using ho2
  · exact ((ho3.setCell (by simp; omega) _).setCell (by simp; omega) _).setCell (by simp; omega) _
  · intro o
    rw [World.frozen?_setCell, World.frozen?_setCell, World.frozen?_setCell]
    exact ho4 o
  · exact ((hbw.setCell (by simp; omega) _).setCell (by simp) _).setCell (by simp) _

theorem szBlockS_any (s : Value) (n : Nat) (hs : ∃ a c, s = .slice a n c) (hn : (n : Int) ≤ 9223372036854775807) (left : Int) (h0 : 0 ≤ left) (h1 : left ≤ 1048576) (w : World) : Calls Try.prog 31 #[s, .int .i64 left] w
    (RS (.int .i64 (if left - n < 0 then -1 else left - n)) w) := by
  obtain ⟨a, c, rfl⟩ := hs
  by_cases h : left - n < 0
  · rw [if_pos h]
    have h' : left < n := by omega
    clear h
    go_enter Try.func31, Try.ntmps31
    go_wp2
    go_ret
    exact RS_of rfl
  · rw [if_neg h]
    have h' : (n : Int) ≤ left := by omega
    clear h
    go_enter Try.func31, Try.ntmps31
    go_wp2
    go_ret
    exact RS_of rfl

theorem szSystem_any (v : Int) (s : Value) (n : Nat) (hs : ∃ a c, s = .slice a n c) (hn : (n : Int) ≤ 9223372036854775807) (left : Int) (h0 : 0 ≤ left) (h1 : left ≤ 1048576) (w : World) : Calls Try.prog 40 #[.agg #[.int .i64 v, s], .int .i64 left] w
    (RV (.int .i64 (if left - n < 0 then -1 else left - n)) w) := by
  obtain ⟨a, c, rfl⟩ := hs
  have hc := szBlockS_any (.slice a n c) n ⟨a, c, rfl⟩ hn left h0 h1
  by_cases h : left - n < 0
  · rw [if_pos h] at hc ⊢
    clear h
    have HC := Lib.hid hc
    clear hc
    go_enter Try.func40, Try.ntmps40
    go_wp2_with (go_at_call 31; refine (HC.out _).mono ?_; rintro e w1 ⟨rfl, rfl⟩)
    go_ret
    exact RV_of rfl ((Below.refl _ _).alloc (Nat.le_refl _) _)
  · rw [if_neg h] at hc ⊢
    obtain ⟨m, hm⟩ : ∃ m, m = left - (n : Int) := ⟨_, rfl⟩
    rw [← hm] at hc ⊢
    have hm0 : 0 ≤ m := by omega
    clear h hm
    have HC := Lib.hid hc
    clear hc
    go_enter Try.func40, Try.ntmps40
    go_wp2_with (go_at_call 31; refine (HC.out _).mono ?_; rintro e w1 ⟨rfl, rfl⟩)
    go_ret
    exact RV_of rfl ((Below.refl _ _).alloc (Nat.le_refl _) _)

set_option maxRecDepth 100000 in
theorem eqBlock_same (x : Blk) (w : World) : Calls Try.prog 108 #[bv x, bv x] w (RV (.bool true) w) := by
  obtain ⟨a, b, c⟩ := x
  unfold bv
  dsimp only
  go_enter Try.func108, Try.ntmps108
  go_wp2
  refine wp_loop_rounds 4 ?_
  rw [rounds_succ]
  go_wp2
  go_quiet (fail)
  go_wp2
  rw [rounds_succ]
  go_wp2
  go_quiet (fail)
  go_wp2
  rw [rounds_succ]
  go_wp2
  go_quiet (fail)
  go_wp2
  rw [rounds_succ]
  go_wp2
  go_ret
  exact RV_of rfl (by repeat (first | exact Below.refl _ _ | refine below_drewN ?_ _ | refine Below.alloc ?_ (by first | exact Nat.le_refl _ | simp) _))

set_option maxRecDepth 100000 in
theorem eqBlockS_same (s t : Value) (bs : List Blk) (w : World) (h : SB w s bs) (k : SB w t bs) : Calls Try.prog 36 #[s, t] w (RV (.bool true) w) := by
  have hs : ∃ a c, s = .slice a bs.length c := by rcases h.2.2 with ⟨a0, c0, rfl, rfl⟩ | ⟨b, off, cap, rfl, _⟩ <;> exact ⟨_, _, rfl⟩
  have ht : ∃ a c, t = .slice a bs.length c := by rcases k.2.2 with ⟨a0, c0, rfl, rfl⟩ | ⟨b, off, cap, rfl, _⟩ <;> exact ⟨_, _, rfl⟩
  have hlen := h.2.1
  have hat : ∀ i, i < bs.length → ∃ b off cap b' off' cap', s = .slice (some ⟨b, off, none⟩) bs.length cap ∧ t = .slice (some ⟨b', off', none⟩) bs.length cap' ∧ b < w.heap.size ∧ b' < w.heap.size ∧ Blks w b off bs ∧ Blks w b' off' bs := fun i hi => by
    rcases h.2.2 with ⟨_, _, _, rfl⟩ | ⟨b, off, cap, rfl, hb, hB⟩
    · simp at hi
    · rcases k.2.2 with ⟨_, _, _, rfl⟩ | ⟨b', off', cap', rfl, hb', hB'⟩
      · simp at hi
      · exact ⟨b, off, cap, b', off', cap', rfl, rfl, hb, hb', hB, hB'⟩
  have HAT := Lib.hid hat
  clear hat h k
  by_cases h0 : bs.length = 0
  · obtain ⟨a, c, rfl⟩ := hs
    obtain ⟨a', c', rfl⟩ := ht
    rw [h0]
    clear hlen h0 HAT
    go_enter Try.func36, Try.ntmps36
    go_wp2
    refine wp_loop_rounds 1 ?_
    rw [rounds_succ]
    go_wp2
    go_ret
    exact RV_of rfl (Below.refl _ _)
  · obtain ⟨b, off, cap, b', off', cap', rfl, rfl, hb, hb', hB, hB'⟩ := HAT.out 0 (by omega)
    clear HAT hs ht h0
    have HB := Lib.hid hB
    have HB' := Lib.hid hB'
    clear hB hB'
    have hne : (((bs.length : Nat) : Int) != (bs.length : Nat)) = false := by simp
    go_enter Try.func36, Try.ntmps36
    go_wp2
    go_loopw [5] (fun i wr => ∃ k : Nat, k ≤ bs.length ∧ i = .int .i64 k ∧ Below w.heap.size w wr) (fun i _ => bs.length - (intOf i).toNat)
    case atStart => exact ⟨0, Nat.zero_le _, rfl, Below.refl _ _⟩
    case round =>
      obtain ⟨k, hk, rfl, hBw⟩ := hrel
      by_cases hkl : k < bs.length
      · obtain ⟨x, _, ex, c1, c2, c3⟩ := blks_at HB.out hkl
        obtain ⟨y, _, ey, d1, d2, d3⟩ := blks_at HB'.out hkl
        obtain rfl : x = y := by rw [ex] at ey; exact Option.some.inj ey
        clear ex ey
        obtain ⟨x1, x2, x3⟩ := x
        dsimp only at c1 c2 c3 d1 d2 d3
        have q1 := cell_regrown ((hBw.cell (p := ⟨b, off + k * 3, none⟩) hb).trans c1)
        have q2 := cell_regrown ((hBw.cell (p := ⟨b, off + k * 3 + 1, none⟩) hb).trans c2)
        have q3 := cell_regrown ((hBw.cell (p := ⟨b, off + k * 3 + 2, none⟩) hb).trans c3)
        have r1 := cell_regrown ((hBw.cell (p := ⟨b', off' + k * 3, none⟩) hb').trans d1)
        have r2 := cell_regrown ((hBw.cell (p := ⟨b', off' + k * 3 + 1, none⟩) hb').trans d2)
        have r3 := cell_regrown ((hBw.cell (p := ⟨b', off' + k * 3 + 2, none⟩) hb').trans d3)
        clear c1 c2 c3 d1 d2 d3
        have g0 : (0 : Int) ≤ (k : Int) := by omega
        have g1 : (k : Int) < (bs.length : Int) := by omega
        have HC := Lib.hid (eqBlock_same ⟨x1, x2, x3⟩)
        go_wp2
        refine wp_region_quiet_below (by kernel_rfl) (by kernel_rfl) ?_
        repeat (go_big_quiet_step (exact Calls.regrown_of (HC.out _)))
        refine wpQuiet_nil ?_
        intro _ hw'
        obtain ⟨⟨dq, osq⟩, hw''⟩ := hw'
        subst hw''
        go_wp2
        go_roundw
        case rel => exact ⟨k + 1, by omega, by go_num, hBw.trans ((below_regrown _ dq osq).mono hBw.size)⟩
        case measure => simp [intOf]; omega
      · go_wp2
        go_ret
        exact RV_of rfl hBw

set_option maxRecDepth 100000 in
theorem eqSystem_same (v : Int) (s t : Value) (bs : List Blk) (w : World) (h : SB w s bs) (k : SB w t bs) : Calls Try.prog 35 #[.agg #[.int .i64 v, s], .agg #[.int .i64 v, t]] w (RV (.bool true) w) := by
  have hs : ∃ a n c, s = .slice a n c := by rcases h.2.2 with ⟨a0, c0, rfl, rfl⟩ | ⟨b, off, cap, rfl, _⟩ <;> exact ⟨_, _, _, rfl⟩
  have ht : ∃ a n c, t = .slice a n c := by rcases k.2.2 with ⟨a0, c0, rfl, rfl⟩ | ⟨b, off, cap, rfl, _⟩ <;> exact ⟨_, _, _, rfl⟩
  have HC := Lib.hid fun W (hb : Below w.heap.size w W) => eqBlockS_same s t bs W (h.below hb (Nat.le_refl _)) (k.below hb (Nat.le_refl _))
  clear h k
  obtain ⟨a, n, c, rfl⟩ := hs
  obtain ⟨a', n', c', rfl⟩ := ht
  go_enter Try.func35, Try.ntmps35
  go_wp2_with (go_at_call 36; refine (HC.out _ (((Below.refl _ _).alloc (Nat.le_refl _) _).alloc (by simp) _)).mono ?_; rintro e w1 ⟨rfl, hb1⟩)
  go_ret
  exact RV_of rfl ((((Below.refl _ _).alloc (Nat.le_refl _) _).alloc (by simp) _).trans (hb1.mono (by simp; omega)))
end Go.Proofs.Ytlchcnngikgjjaa

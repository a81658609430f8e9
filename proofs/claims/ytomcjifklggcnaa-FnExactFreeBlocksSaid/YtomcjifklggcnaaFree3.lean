/- The model's test whether a block can be put in. -/
import Derived.Test.YtomcjifklggcnaaSpecFits
import Derived.Test.YtomcjifklggcnaaCommon
namespace Go.Proofs.Ytomcjifklggcnaa
open Go.RowKit Go.Maps
def okB (bs : List Blk) (x : Blk) : Bool := bs.all fun y => decide (commonN y x ≤ 1)
theorem okB_free {v : Int} {bs : List Blk} {x : Blk} (hb : ∀ y ∈ bs, goodB v y = true) (hx : goodB v x = true) : freeB (bs.flatMap pairsL) x = okB bs x := by
  rw [Bool.eq_iff_iff, freeB_iff]
  unfold okB
  rw [List.all_eq_true]
  constructor
  · intro h y hy
    rw [decide_eq_true_iff, common_pairs (hb y hy) hx]
    intro p hp hq
    exact h p hq (List.mem_flatMap.2 ⟨y, hy, hp⟩)
  · intro h p hp hq
    obtain ⟨y, hy, hpy⟩ := List.mem_flatMap.1 hq
    have := h y hy
    rw [decide_eq_true_iff, common_pairs (hb y hy) hx] at this
    exact this p hpy hp
set_option maxRecDepth 100000 in
theorem l01Free_any (v : Int) (s : Value) (bs : List Blk) (x : Blk) (w : World) (h : SB w s bs) :
    Calls Try.prog 85 #[.agg #[.int .i64 v, s], bv x] w (RV (.bool (okB bs x)) w) := by
  have hs := h.slice
  have H := Lib.hid h
  have hl := h.2.1
  clear h
  obtain ⟨a0, c0, rfl⟩ := hs
  obtain ⟨x1, x2, x3⟩ := x
  dsimp only [bv]
  go_enter Try.func85, Try.ntmps85
  go_wp2
  have hB0 : Below w.heap.size w ((w.alloc (.cells #[.int .i64 v, .slice a0 bs.length c0] 29)).alloc (.cells #[.int .i64 x1, .int .i64 x2, .int .i64 x3] 60)) := ((Below.refl _ _).alloc (Nat.le_refl _) _).alloc (by simp) _
  have p1 : ((w.alloc (.cells #[.int .i64 v, .slice a0 bs.length c0] 29)).alloc (.cells #[.int .i64 x1, .int .i64 x2, .int .i64 x3] 60)).cell? ⟨w.heap.size, 1, none⟩ = some (.slice a0 bs.length c0) := cell_past (new_at 1 rfl) (by simp)
  have n0 := new_at (w := w.alloc (.cells #[.int .i64 v, .slice a0 bs.length c0] 29)) (cs := #[.int .i64 x1, .int .i64 x2, .int .i64 x3]) (T := 60) 0 rfl
  have n1 := new_at (w := w.alloc (.cells #[.int .i64 v, .slice a0 bs.length c0] 29)) (cs := #[.int .i64 x1, .int .i64 x2, .int .i64 x3]) (T := 60) 1 rfl
  have n2 := new_at (w := w.alloc (.cells #[.int .i64 v, .slice a0 bs.length c0] 29)) (cs := #[.int .i64 x1, .int .i64 x2, .int .i64 x3]) (T := 60) 2 rfl
  rw [World.size_alloc] at n0 n1 n2
  obtain ⟨w2, hw2⟩ : ∃ w2, (w.alloc (.cells #[.int .i64 v, .slice a0 bs.length c0] 29)).alloc (.cells #[.int .i64 x1, .int .i64 x2, .int .i64 x3] 60) = w2 := ⟨_, rfl⟩
  have hz2 : w2.heap.size = w.heap.size + 1 + 1 := by rw [← hw2]; simp
  rw [hw2] at hB0 p1 n0 n1 n2 ⊢
  clear hw2
  go_loopw [5] (fun i wr => ∃ k : Nat, k ≤ bs.length ∧ i = .int .i64 k ∧ Below w2.heap.size w2 wr ∧ Hid ((bs.take k).all (fun y => decide (commonN y ⟨x1, x2, x3⟩ ≤ 1)) = true)) (fun i _ => bs.length - (intOf i).toNat)
  case atStart => exact ⟨0, Nat.zero_le _, rfl, Below.refl _ _, Lib.hid (by simp)⟩
  case round =>
    obtain ⟨k, hk, rfl, hB, HF⟩ := hrel
    have hz := hB.size
    have r1 : wr.cell? ⟨w.heap.size, 1, none⟩ = some (.slice a0 bs.length c0) := (hB.cell (p := ⟨w.heap.size, 1, none⟩) (by show w.heap.size < _; omega)).trans p1
    have m0 := (hB.cell (p := ⟨w.heap.size + 1, 0, none⟩) (by show w.heap.size + 1 < _; omega)).trans n0
    have m1 := (hB.cell (p := ⟨w.heap.size + 1, 1, none⟩) (by show w.heap.size + 1 < _; omega)).trans n1
    have m2 := (hB.cell (p := ⟨w.heap.size + 1, 2, none⟩) (by show w.heap.size + 1 < _; omega)).trans n2
    have hBw := hB0.trans (hB.mono (by omega))
    by_cases hkl : k < bs.length
    · rcases H.out.2.2 with ⟨_, _, _, hnil⟩ | ⟨bb, off, cap, hval, hblt, hbl⟩
      · rw [hnil] at hkl; simp at hkl
      · simp at hval
        obtain ⟨rfl, rfl⟩ := hval
        obtain ⟨y, hy, ey, d1, d2, d3⟩ := blks_at (hbl.below hBw hblt) hkl
        have ey' : bs[k] = y := by
          rw [List.getElem?_eq_getElem hkl] at ey
          simpa using ey
        have E3 := Lib.hid (show bs.take (k + 1) = bs.take k ++ [y] by rw [take_next hkl, ey'])
        have HY := Lib.hid hy
        have hc := l01Common_any y ⟨x1, x2, x3⟩
        have hb0 : 0 ≤ (commonN y ⟨x1, x2, x3⟩ : Int) ∧ (commonN y ⟨x1, x2, x3⟩ : Int) ≤ 9 := by
          refine ⟨by omega, ?_⟩
          have := cntLL_le [(⟨x1, x2, x3⟩ : Blk).a, (⟨x1, x2, x3⟩ : Blk).b, (⟨x1, x2, x3⟩ : Blk).c] [y.a, y.b, y.c]
          rw [cntLL_common] at this
          simpa using this.2
        obtain ⟨n, hn⟩ : ∃ n : Int, n = commonN y ⟨x1, x2, x3⟩ := ⟨_, rfl⟩
        rw [← hn] at hc hb0
        have HN := Lib.hid hn
        obtain ⟨hb0, hb9⟩ := hb0
        clear hn ey ey' hy hbl
        obtain ⟨y1, y2, y3⟩ := y
        have HC := Lib.hid hc
        dsimp only at d1 d2 d3
        have s1 := cell_regrown r1
        have q1 := cell_regrown d1
        have q2 := cell_regrown d2
        have q3 := cell_regrown d3
        have u1 := cell_regrown m0
        have u2 := cell_regrown m1
        have u3 := cell_regrown m2
        clear hc d1 d2 d3
        have g0 : (0 : Int) ≤ (k : Int) := by omega
        have g1 : (k : Int) < (bs.length : Int) := by omega
        go_wp2
        refine wp_region_quiet_below (by kernel_rfl) (by kernel_rfl) ?_
        repeat (go_big_quiet_step (exact Calls.regrown_of (HC.out _)))
        refine wpQuiet_nil ?_
        intro _ hw'
        obtain ⟨⟨dq, osq⟩, hw''⟩ := hw'
        subst hw''
        go_wp2
        · have h1 : 1 < n := by assumption
          go_ret
          refine RV_of (bool_eq ?_) (hBw.trans ((below_regrown _ dq osq).mono hBw.size))
          symm
          rw [Bool.eq_false_iff]
          intro ht
          have := List.all_eq_true.1 ht _ HY.out
          have h2 := HN.out
          simp at this
          omega
        · have h1 : n ≤ 1 := by assumption
          go_roundw
          case rel => exact ⟨k + 1, by omega, by go_num, hB.trans ((below_regrown _ dq osq).mono hB.size), Lib.hid (by rw [E3.out, List.all_append, HF.out]; have := HN.out; simp; omega)⟩
          case measure => simp [intOf]; omega
    · go_wp2
      go_ret
      have e : k = bs.length := by omega
      subst e
      have := HF.out
      rw [List.take_length] at this
      exact RV_of (bool_eq this.symm) hBw
end Go.Proofs.Ytomcjifklggcnaa

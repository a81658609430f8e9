
/- Whether a system is full: the program and the model. -/
import Derived.Test.YtlchcnngikgjjaaLawIsSys
namespace Go.Proofs.Ytlchcnngikgjjaa
open Go.RowKit Go.Maps
def fullB (v : Int) (bs : List Blk) : Bool := decide (6 * (bs.length : Int) = v * (v - 1))
/-- Two results: a bool and a code. -/
def boolCode (b : Bool) (c : Int) : Value := .tuple #[.bool b, .int .i64 c]
theorem sys_size {v : Int} {bs : List Blk} (h : isSysImpl v bs = true) : 3 ≤ v ∧ v ≤ 15 ∧ bs.length ≤ 35 := by
  have h2 := h
  rw [isSys_same] at h2
  simp [isSysSpec] at h2
  exact ⟨h2.1.1.1.1, h2.1.1.1.2, h2.1.1.2⟩
theorem sq_bounds {v : Int} (h0 : 3 ≤ v) (h1 : v ≤ 15) : 6 ≤ v * (v - 1) ∧ v * (v - 1) ≤ 210 := by
  have : v = 3 ∨ v = 4 ∨ v = 5 ∨ v = 6 ∨ v = 7 ∨ v = 8 ∨ v = 9 ∨ v = 10 ∨ v = 11 ∨ v = 12 ∨ v = 13 ∨ v = 14 ∨ v = 15 := by omega
  rcases this with rfl | rfl | rfl | rfl | rfl | rfl | rfl | rfl | rfl | rfl | rfl | rfl | rfl <;> decide
theorem sq_even {v : Int} (h0 : 3 ≤ v) (h1 : v ≤ 15) : ∃ k, v * (v - 1) = 2 * k := by
  have : v = 3 ∨ v = 4 ∨ v = 5 ∨ v = 6 ∨ v = 7 ∨ v = 8 ∨ v = 9 ∨ v = 10 ∨ v = 11 ∨ v = 12 ∨ v = 13 ∨ v = 14 ∨ v = 15 := by omega
  rcases this with rfl | rfl | rfl | rfl | rfl | rfl | rfl | rfl | rfl | rfl | rfl | rfl | rfl
  · exact ⟨3, by decide⟩
  · exact ⟨6, by decide⟩
  · exact ⟨10, by decide⟩
  · exact ⟨15, by decide⟩
  · exact ⟨21, by decide⟩
  · exact ⟨28, by decide⟩
  · exact ⟨36, by decide⟩
  · exact ⟨45, by decide⟩
  · exact ⟨55, by decide⟩
  · exact ⟨66, by decide⟩
  · exact ⟨78, by decide⟩
  · exact ⟨91, by decide⟩
  · exact ⟨105, by decide⟩
/-- What IsFull answers. -/
def fullV (v : Int) (bs : List Blk) : Value := if isSysImpl v bs then boolCode (fullB v bs) 0 else boolCode false 1

theorem RV2_of {v u : Value} {w w' : World} (h : u = v) (hb : Below w.heap.size w w') : RV v w (.returned u) w' := ⟨by rw [h], hb⟩
set_option maxRecDepth 100000 in
theorem IsFull_any (v : Int) (s : Value) (bs : List Blk) (w : World) (h : SB w s bs) : Calls Try.prog 29 #[.agg #[.int .i64 v, s]] w (RV (fullV v bs) w) := by
  have hs : ∃ a c, s = .slice a bs.length c := by rcases h.2.2 with ⟨a0, c0, rfl, rfl⟩ | ⟨b, off, cap, rfl, _⟩ <;> exact ⟨_, _, rfl⟩
  have hc := IsSystem_any v s bs (w.alloc (.cells #[.int .i64 v, s] 26)) (h.below ((Below.refl _ _).alloc (Nat.le_refl _) _) (Nat.le_refl _))
  obtain ⟨a, c, rfl⟩ := hs
  cases hi : isSysImpl v bs with
  | false =>
    rw [hi] at hc
    have hf : fullV v bs = boolCode false 1 := by simp [fullV, hi]
    rw [hf]
    have HC := Lib.hid hc
    clear hc hi h hf
    go_enter Try.func29, Try.ntmps29
    go_wp2_with (go_at_call 99; refine HC.out.mono ?_; rintro e w1 ⟨rfl, hb1⟩)
    go_ret2
    exact RV_of rfl (((Below.refl _ _).alloc (Nat.le_refl _) _).trans (hb1.mono (by simp)))
  | true =>
    rw [hi] at hc
    obtain ⟨h3, h15, hl⟩ := sys_size hi
    obtain ⟨q0, q1⟩ := sq_bounds h3 h15
    obtain ⟨k, hk⟩ := sq_even h3 h15
    have hf : fullV v bs = boolCode (fullB v bs) 0 := by simp [fullV, hi]
    rw [hf]
    have hfb : fullB v bs = decide (3 * (bs.length : Int) = v * (v - 1) / 2) := by
      unfold fullB
      rw [hk]
      rw [show 2 * k / 2 = k by omega]
      by_cases e : 3 * (bs.length : Int) = k
      · simp [e]; omega
      · simp [e]; omega
    rw [hfb]
    have hb0 : (0 : Int) ≤ (bs.length : Int) := by omega
    have hb35 : (bs.length : Int) ≤ 35 := by omega
    have q0' : 0 ≤ v * (v - 1) := by omega
    have HC := Lib.hid hc
    clear hc hi h hf hfb hk
    go_enter Try.func29, Try.ntmps29
    go_wp2_with (go_at_call 99; refine HC.out.mono ?_; rintro e w1 ⟨rfl, hb1⟩; have c0 := cell_new hb1 0 rfl; have c1 := cell_new hb1 1 rfl)
    all_goals go_ret2
    exact RV_of (congrArg (fun b => boolCode b 0) (by rw [Bool.eq_iff_iff]; simp)) (((Below.refl _ _).alloc (Nat.le_refl _) _).trans (hb1.mono (by simp)))

set_option maxRecDepth 100000 in
theorem l01Full_any (v : Int) (s : Value) (bs : List Blk) (w : World) (hs : ∃ a c, s = .slice a bs.length c) (h3 : 3 ≤ v) (h15 : v ≤ 15) (hl : bs.length ≤ 1100000) : Calls Try.prog 90 #[.agg #[.int .i64 v, s]] w (RV (.bool (fullB v bs)) w) := by
  obtain ⟨a, c, rfl⟩ := hs
  obtain ⟨q0, q1⟩ := sq_bounds h3 h15
  have hb0 : (0 : Int) ≤ (bs.length : Int) := by omega
  have hb35 : (bs.length : Int) ≤ 1100000 := by omega
  go_enter Try.func90, Try.ntmps90
  go_wp2
  go_ret
  exact RV_of (bool_eq (by rw [Bool.eq_iff_iff]; simp [fullB])) ((Below.refl _ _).alloc (Nat.le_refl _) _)

end Go.Proofs.Ytlchcnngikgjjaa

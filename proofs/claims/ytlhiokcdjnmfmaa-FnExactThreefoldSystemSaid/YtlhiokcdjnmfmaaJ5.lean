
/- BlocksAt: the program and the model answer alike. impl.isDifferenceTriple, differencesOf; spec.l02Triple. spec.l02Triple, the first cases. spec.l02Triple, the other cases. Masks of small numbers. Squares and masks: plain. Marking and holding rows of integers. Rows of rows of integers: equality, marks, and that they are still there. Helpers on difference families. spec.l02Square. -/
import Derived.Test.YtlhiokcdjnmfmaaJ4
import Derived.Deep.QuietTactic
import Derived.BigQuiet
import Derived.Deep.RegionWith
namespace Go.Proofs.Ytlhiokcdjnmfmaa
open Go.RowKit Go.Maps
/-- The indices of the blocks through p, and the code. -/
def atF (v : Int) (bs : List Blk) (p : Int) : List Int × Int := if isSysImpl v bs then (if inP v p then (idxI p bs bs.length, 0) else ([], 2)) else ([], 1)
def RJ (r : List Int × Int) (w : World) (e : Ending) (w' : World) : Prop := ∃ u, e = .returned (.tuple #[u, .int .i64 r.2]) ∧ OwnJ w' w.heap.size u r.1 ∧ Below w.heap.size w w'
theorem OwnJ.nil (w : World) (base : Nat) : OwnJ w base (.slice none 0 0) [] := ⟨rfl, .inl ⟨rfl, rfl⟩⟩
theorem idxs_eq (p : Int) (bs : List Blk) : idxs (upTo p bs bs.length) = (idxI p bs bs.length).map (Value.int .i64) := by
  unfold idxs idxI
  rw [List.map_map]
  rfl
theorem ints1 {w : World} {b : Nat} {x : Int} (h0 : w.cell? ⟨b, 0, none⟩ = some (.int .i64 x)) : Ints w b 0 [x] := by
  intro k hk
  match k, hk with
  | 0, _ => simpa using h0
end Go.Proofs.Ytlhiokcdjnmfmaa

namespace Go.Proofs.Ytlhiokcdjnmfmaa
open Go.RowKit Go.Maps
theorem hasDF_any (v : Int) (w : World) : Calls Try.prog 79 #[.int .i64 v] w (RS (.bool (dfV v)) w) := by
  go_enter Try.func79, Try.ntmps79
  go_wp2
  all_goals go_ret
  all_goals refine RS_of (bool_eq ?_)
  all_goals (rw [Bool.eq_iff_iff]; simp [dfV]; try omega)
theorem numsDF_any (v : Int) (w : World) : Calls Try.prog 77 #[.int .i64 v] w (RS (.bool (dfV v)) w) := by
  go_enter Try.func77, Try.ntmps77
  go_wp2
  all_goals go_ret
  all_goals refine RS_of (bool_eq ?_)
  all_goals (rw [Bool.eq_iff_iff]; simp [dfV]; try omega)
theorem dfV_half {v : Int} (h : dfV v = true) : (v - 1).tdiv 2 = (v - 1) / 2 ∧ 7 ≤ v ∧ v ≤ 15 ∧ 3 ≤ (v - 1) / 2 ∧ (v - 1) / 2 ≤ 7 := by
  simp only [dfV, Bool.or_eq_true, decide_eq_true_eq] at h
  rcases h with (rfl | rfl) | rfl <;> decide
set_option maxRecDepth 100000 in
set_option maxHeartbeats 4000000 in
theorem isDT_len (v : Int) (a : Option Addr) (n c : Nat) (w : World) (h : n ≠ 3) : Calls Try.prog 80 #[.int .i64 v, .slice a n c] w (RV (.bool false) w) := by
  have hne : ((n : Int) != 3) = true := by simp; omega
  clear h
  go_enter Try.func80, Try.ntmps80
  go_wp2
  go_quiet (fail)
  go_wp2
  go_ret
  exact RV_of rfl (below_drewN (Below.refl _ _) _)
set_option maxRecDepth 100000 in
set_option maxHeartbeats 16000000 in
theorem isDT_three (v a b c : Int) (B off cap : Nat) (w : World) (hv : dfV v = true) (h0 : w.cell? ⟨B, off, none⟩ = some (.int .i64 a)) (h1 : w.cell? ⟨B, off + 1, none⟩ = some (.int .i64 b)) (h2 : w.cell? ⟨B, off + 2, none⟩ = some (.int .i64 c)) :
    Calls Try.prog 80 #[.int .i64 v, .slice (some ⟨B, off, none⟩) 3 cap] w (RV (.bool (triB v [a, b, c])) w) := by
  obtain ⟨hq, v7, v15, q3, q7⟩ := dfV_half hv
  obtain ⟨q, hqq⟩ : ∃ q, q = (v - 1) / 2 := ⟨_, rfl⟩
  rw [← hqq] at hq q3 q7
  have HT := Lib.hid (show triB v [a, b, c] = (decide (1 ≤ a) && decide (a < b) && decide (b < c) && decide (c ≤ q) && (decide (a + b = c) || decide (a + b + c = v))) by rw [hqq]; simp [triB, at3])
  have hw1 : IntKind.i64.wrap (v - 1) = v - 1 := IntWalk.i64_in _ (by omega)
  clear hqq hv
  by_cases c1 : 1 ≤ a
  case neg =>
    have d1 : decide (a < 1) = true := by simp; omega
    have HV := Lib.hid (show triB v [a, b, c] = false by rw [HT.out]; simp; omega)
    clear c1
    go_enter Try.func80, Try.ntmps80
    go_wp2
    go_quiet (fail)
    go_wp2
    go_ret
    exact RV_of (bool_eq HV.out.symm) (below_drewN (Below.refl _ _) _)
  have d1 : decide (a < 1) = false := by simp; omega
  by_cases c2 : a < b
  case neg =>
    have d2 : decide (b ≤ a) = true := by simp; omega
    have HV := Lib.hid (show triB v [a, b, c] = false by rw [HT.out]; simp; omega)
    clear c1 c2
    go_enter Try.func80, Try.ntmps80
    go_wp2
    go_quiet (fail)
    go_wp2
    go_ret
    exact RV_of (bool_eq HV.out.symm) (below_drewN (Below.refl _ _) _)
  have d2 : decide (b ≤ a) = false := by simp; omega
  by_cases c3 : b < c
  case neg =>
    have d3 : decide (c ≤ b) = true := by simp; omega
    have HV := Lib.hid (show triB v [a, b, c] = false by rw [HT.out]; simp; omega)
    clear c1 c2 c3
    go_enter Try.func80, Try.ntmps80
    go_wp2
    go_quiet (fail)
    go_wp2
    go_ret
    exact RV_of (bool_eq HV.out.symm) (below_drewN (Below.refl _ _) _)
  have d3 : decide (c ≤ b) = false := by simp; omega
  by_cases c4 : c ≤ q
  case neg =>
    have d4 : decide (q < c) = true := by simp; omega
    have HV := Lib.hid (show triB v [a, b, c] = false by rw [HT.out]; simp; omega)
    clear c1 c2 c3 c4
    go_enter Try.func80, Try.ntmps80
    go_wp2
    go_quiet (fail)
    go_wp2
    go_ret
    exact RV_of (bool_eq HV.out.symm) (below_drewN (Below.refl _ _) _)
  have d4 : decide (q < c) = false := by simp; omega
  have hw2 : IntKind.i64.wrap (a + b) = a + b := IntWalk.i64_in _ (by omega)
  have hw3 : IntKind.i64.wrap (a + b + c) = a + b + c := IntWalk.i64_in _ (by omega)
  by_cases c5 : a + b = c
  case pos =>
    have d5 : (a + b == c) = true := by simpa using c5
    have HV := Lib.hid (show triB v [a, b, c] = true by rw [HT.out]; simp; omega)
    go_enter Try.func80, Try.ntmps80
    go_wp2
    go_quiet (fail)
    go_wp2
    go_quiet (fail)
    go_wp2
    go_ret
    exact RV_of (bool_eq HV.out.symm) (below_drewN (below_drewN (Below.refl _ _) _) _)
  have d5 : (a + b == c) = false := by simpa using c5
  have HV := Lib.hid (show triB v [a, b, c] = (a + b + c == v) by rw [HT.out, Bool.eq_iff_iff]; simp; omega)
  go_enter Try.func80, Try.ntmps80
  go_wp2
  go_quiet (fail)
  go_wp2
  go_quiet (fail)
  go_wp2
  go_ret
  exact RV_of (bool_eq HV.out.symm) (below_drewN (below_drewN (Below.refl _ _) _) _)
theorem isDT_any (v : Int) (s : Value) (t : List Int) (w : World) (hv : dfV v = true) (h : IB w s t) : Calls Try.prog 80 #[.int .i64 v, s] w (RV (.bool (triB v t)) w) := by
  by_cases h3 : t.length = 3
  · rcases h.2 with ⟨_, _, _, rfl⟩ | ⟨B, off, cap, rfl, _, hr⟩
    · simp at h3
    · match t, h3 with
      | [a, b, c], _ => exact isDT_three v a b c B off cap w hv (by simpa using hr 0 (by simp)) (by simpa using hr 1 (by simp)) (by simpa using hr 2 (by simp))
  · have e : triB v t = false := by simp [triB, h3]
    rw [e]
    rcases h.2 with ⟨a, c, rfl, rfl⟩ | ⟨B, off, cap, rfl, _, _⟩
    · exact isDT_len v a 0 c w (by decide)
    · exact isDT_len v _ _ cap w h3
theorem diffsK_succ (v : Int) (k : Nat) : diffsK v (k + 1) = diffsK v k ++ if decide (v ≠ 15) || decide (((k : Int) + 1) ≠ 5) then [(k : Int) + 1] else [] := by
  simp only [diffsK, List.range_succ, List.map_append, List.filter_append, List.map_cons, List.map_nil]
  congr 1
  by_cases e1 : v = 15 <;> by_cases e2 : (k : Int) + 1 = 5 <;> simp [e1, e2]
theorem diffsK_len (v : Int) (k : Nat) : (diffsK v k).length ≤ k := by
  unfold diffsK
  exact Nat.le_trans (List.length_filter_le _ _) (by simp)
end Go.Proofs.Ytlhiokcdjnmfmaa

namespace Go.Proofs.Ytlhiokcdjnmfmaa
open Go.RowKit Go.Maps
/-- Returns v; only draws. -/
def RQ (v : Value) (w : World) (e : Ending) (w' : World) : Prop := e = .returned v ∧ ∃ n, w' = w.drewN n
set_option maxRecDepth 100000 in
set_option maxHeartbeats 4000000 in
theorem l02T_len (v : Int) (a : Option Addr) (n c : Nat) (w : World) (h : n ≠ 3) : Calls Try.prog 130 #[.int .i64 v, .slice a n c] w (RQ (.bool false) w) := by
  have hne : ((n : Int) == 3) = false := by simp; omega
  clear h
  go_enter Try.func130, Try.ntmps130
  go_wp2
  dsimp only [List.append]
  go_quiet (fail)
  go_wp2
  go_ret
  exact ⟨rfl, _, rfl⟩
set_option maxRecDepth 100000 in
set_option maxHeartbeats 4000000 in
theorem l02T_c1 (v a b c q : Int) (B off cap : Nat) (w : World) (hq : (v - 1).tdiv 2 = q) (v7 : 7 ≤ v) (v15 : v ≤ 15) (q3 : 3 ≤ q) (q7 : q ≤ 7) (h0 : w.cell? ⟨B, off, none⟩ = some (.int .i64 a)) (h1 : w.cell? ⟨B, off + 1, none⟩ = some (.int .i64 b)) (h2 : w.cell? ⟨B, off + 2, none⟩ = some (.int .i64 c))  (c1 : ¬ (1 ≤ a)) :
    Calls Try.prog 130 #[.int .i64 v, .slice (some ⟨B, off, none⟩) 3 cap] w (RQ (.bool false) w) := by
  have hw1 : IntKind.i64.wrap (v - 1) = v - 1 := IntWalk.i64_in _ (by omega)
  have hwq : IntKind.i64.wrap q = q := IntWalk.i64_in _ (by omega)
  have d1 : decide (1 ≤ a) = false := decide_eq_false c1
  clear c1
  go_enter Try.func130, Try.ntmps130
  go_wp2
  dsimp only [List.append]
  go_quiet (fail)
  go_wp2
  go_ret
  exact ⟨rfl, _, rfl⟩
set_option maxRecDepth 100000 in
set_option maxHeartbeats 4000000 in
theorem l02T_c2 (v a b c q : Int) (B off cap : Nat) (w : World) (hq : (v - 1).tdiv 2 = q) (v7 : 7 ≤ v) (v15 : v ≤ 15) (q3 : 3 ≤ q) (q7 : q ≤ 7) (h0 : w.cell? ⟨B, off, none⟩ = some (.int .i64 a)) (h1 : w.cell? ⟨B, off + 1, none⟩ = some (.int .i64 b)) (h2 : w.cell? ⟨B, off + 2, none⟩ = some (.int .i64 c)) (c1 : 1 ≤ a) (c2 : ¬ (a < b)) :
    Calls Try.prog 130 #[.int .i64 v, .slice (some ⟨B, off, none⟩) 3 cap] w (RQ (.bool false) w) := by
  have hw1 : IntKind.i64.wrap (v - 1) = v - 1 := IntWalk.i64_in _ (by omega)
  have hwq : IntKind.i64.wrap q = q := IntWalk.i64_in _ (by omega)
  have d1 : decide (1 ≤ a) = true := decide_eq_true c1
  have d2 : decide (a < b) = false := decide_eq_false c2
  clear c1 c2
  go_enter Try.func130, Try.ntmps130
  go_wp2
  dsimp only [List.append]
  go_quiet (fail)
  go_wp2
  go_ret
  exact ⟨rfl, _, rfl⟩
set_option maxRecDepth 100000 in
set_option maxHeartbeats 4000000 in
theorem l02T_c3 (v a b c q : Int) (B off cap : Nat) (w : World) (hq : (v - 1).tdiv 2 = q) (v7 : 7 ≤ v) (v15 : v ≤ 15) (q3 : 3 ≤ q) (q7 : q ≤ 7) (h0 : w.cell? ⟨B, off, none⟩ = some (.int .i64 a)) (h1 : w.cell? ⟨B, off + 1, none⟩ = some (.int .i64 b)) (h2 : w.cell? ⟨B, off + 2, none⟩ = some (.int .i64 c)) (c1 : 1 ≤ a) (c2 : a < b) (c3 : ¬ (b < c)) :
    Calls Try.prog 130 #[.int .i64 v, .slice (some ⟨B, off, none⟩) 3 cap] w (RQ (.bool false) w) := by
  have hw1 : IntKind.i64.wrap (v - 1) = v - 1 := IntWalk.i64_in _ (by omega)
  have hwq : IntKind.i64.wrap q = q := IntWalk.i64_in _ (by omega)
  have d1 : decide (1 ≤ a) = true := decide_eq_true c1
  have d2 : decide (a < b) = true := decide_eq_true c2
  have d3 : decide (b < c) = false := decide_eq_false c3
  clear c1 c2 c3
  go_enter Try.func130, Try.ntmps130
  go_wp2
  dsimp only [List.append]
  go_quiet (fail)
  go_wp2
  go_ret
  exact ⟨rfl, _, rfl⟩
end Go.Proofs.Ytlhiokcdjnmfmaa

namespace Go.Proofs.Ytlhiokcdjnmfmaa
open Go.RowKit Go.Maps
set_option maxRecDepth 100000 in
set_option maxHeartbeats 4000000 in
theorem l02T_c4 (v a b c q : Int) (B off cap : Nat) (w : World) (hq : (v - 1).tdiv 2 = q) (v7 : 7 ≤ v) (v15 : v ≤ 15) (q3 : 3 ≤ q) (q7 : q ≤ 7) (h0 : w.cell? ⟨B, off, none⟩ = some (.int .i64 a)) (h1 : w.cell? ⟨B, off + 1, none⟩ = some (.int .i64 b)) (h2 : w.cell? ⟨B, off + 2, none⟩ = some (.int .i64 c)) (c1 : 1 ≤ a) (c2 : a < b) (c3 : b < c) (c4 : ¬ (c ≤ q)) :
    Calls Try.prog 130 #[.int .i64 v, .slice (some ⟨B, off, none⟩) 3 cap] w (RQ (.bool false) w) := by
  have hw1 : IntKind.i64.wrap (v - 1) = v - 1 := IntWalk.i64_in _ (by omega)
  have hwq : IntKind.i64.wrap q = q := IntWalk.i64_in _ (by omega)
  have d1 : decide (1 ≤ a) = true := decide_eq_true c1
  have d2 : decide (a < b) = true := decide_eq_true c2
  have d3 : decide (b < c) = true := decide_eq_true c3
  have d4 : decide (c ≤ q) = false := decide_eq_false c4
  clear c1 c2 c3 c4
  go_enter Try.func130, Try.ntmps130
  go_wp2
  dsimp only [List.append]
  go_quiet (fail)
  go_wp2
  go_ret
  exact ⟨rfl, _, rfl⟩
set_option maxRecDepth 100000 in
set_option maxHeartbeats 4000000 in
theorem l02T_c5 (v a b c q : Int) (B off cap : Nat) (w : World) (hq : (v - 1).tdiv 2 = q) (v7 : 7 ≤ v) (v15 : v ≤ 15) (q3 : 3 ≤ q) (q7 : q ≤ 7) (h0 : w.cell? ⟨B, off, none⟩ = some (.int .i64 a)) (h1 : w.cell? ⟨B, off + 1, none⟩ = some (.int .i64 b)) (h2 : w.cell? ⟨B, off + 2, none⟩ = some (.int .i64 c)) (c1 : 1 ≤ a) (c2 : a < b) (c3 : b < c) (c4 : c ≤ q) (c5 : a + b = c) :
    Calls Try.prog 130 #[.int .i64 v, .slice (some ⟨B, off, none⟩) 3 cap] w (RQ (.bool true) w) := by
  have hw1 : IntKind.i64.wrap (v - 1) = v - 1 := IntWalk.i64_in _ (by omega)
  have hwq : IntKind.i64.wrap q = q := IntWalk.i64_in _ (by omega)
  have d1 : decide (1 ≤ a) = true := decide_eq_true c1
  have d2 : decide (a < b) = true := decide_eq_true c2
  have d3 : decide (b < c) = true := decide_eq_true c3
  have d4 : decide (c ≤ q) = true := decide_eq_true c4
  have d5 : (a + b == c) = true := by simpa using c5
  have hw2 : IntKind.i64.wrap (a + b) = a + b := IntWalk.i64_in _ (by omega)
  have hw3 : IntKind.i64.wrap (a + b + c) = a + b + c := IntWalk.i64_in _ (by omega)
  clear c1 c2 c3 c4 c5
  go_enter Try.func130, Try.ntmps130
  go_wp2
  dsimp only [List.append]
  go_quiet (fail)
  go_wp2
  go_ret
  exact ⟨rfl, _, rfl⟩
set_option maxRecDepth 100000 in
set_option maxHeartbeats 4000000 in
theorem l02T_c6 (v a b c q : Int) (B off cap : Nat) (w : World) (hq : (v - 1).tdiv 2 = q) (v7 : 7 ≤ v) (v15 : v ≤ 15) (q3 : 3 ≤ q) (q7 : q ≤ 7) (h0 : w.cell? ⟨B, off, none⟩ = some (.int .i64 a)) (h1 : w.cell? ⟨B, off + 1, none⟩ = some (.int .i64 b)) (h2 : w.cell? ⟨B, off + 2, none⟩ = some (.int .i64 c)) (c1 : 1 ≤ a) (c2 : a < b) (c3 : b < c) (c4 : c ≤ q) (c5 : ¬ a + b = c) :
    Calls Try.prog 130 #[.int .i64 v, .slice (some ⟨B, off, none⟩) 3 cap] w (RQ (.bool (a + b + c == v)) w) := by
  have hw1 : IntKind.i64.wrap (v - 1) = v - 1 := IntWalk.i64_in _ (by omega)
  have hwq : IntKind.i64.wrap q = q := IntWalk.i64_in _ (by omega)
  have d1 : decide (1 ≤ a) = true := decide_eq_true c1
  have d2 : decide (a < b) = true := decide_eq_true c2
  have d3 : decide (b < c) = true := decide_eq_true c3
  have d4 : decide (c ≤ q) = true := decide_eq_true c4
  have d5 : (a + b == c) = false := by simpa using c5
  have hw2 : IntKind.i64.wrap (a + b) = a + b := IntWalk.i64_in _ (by omega)
  have hw3 : IntKind.i64.wrap (a + b + c) = a + b + c := IntWalk.i64_in _ (by omega)
  clear c1 c2 c3 c4 c5
  go_enter Try.func130, Try.ntmps130
  go_wp2
  dsimp only [List.append]
  go_quiet (fail)
  go_wp2
  go_ret
  exact ⟨rfl, _, rfl⟩
theorem l02T_three (v a b c : Int) (B off cap : Nat) (w : World) (hv : dfV v = true) (h0 : w.cell? ⟨B, off, none⟩ = some (.int .i64 a)) (h1 : w.cell? ⟨B, off + 1, none⟩ = some (.int .i64 b)) (h2 : w.cell? ⟨B, off + 2, none⟩ = some (.int .i64 c)) :
    Calls Try.prog 130 #[.int .i64 v, .slice (some ⟨B, off, none⟩) 3 cap] w (RQ (.bool (triB v [a, b, c])) w) := by
  obtain ⟨hq, v7, v15, q3, q7⟩ := dfV_half hv
  obtain ⟨q, hqq⟩ : ∃ q, q = (v - 1) / 2 := ⟨_, rfl⟩
  rw [← hqq] at hq q3 q7
  have HT : triB v [a, b, c] = (decide (1 ≤ a) && decide (a < b) && decide (b < c) && decide (c ≤ q) && (decide (a + b = c) || decide (a + b + c = v))) := by rw [hqq]; simp [triB, at3]
  by_cases c1 : 1 ≤ a
  case neg => rw [show triB v [a, b, c] = false by rw [HT]; simp; omega]; exact l02T_c1 v a b c q B off cap w hq v7 v15 q3 q7 h0 h1 h2 c1
  by_cases c2 : a < b
  case neg => rw [show triB v [a, b, c] = false by rw [HT]; simp; omega]; exact l02T_c2 v a b c q B off cap w hq v7 v15 q3 q7 h0 h1 h2 c1 c2
  by_cases c3 : b < c
  case neg => rw [show triB v [a, b, c] = false by rw [HT]; simp; omega]; exact l02T_c3 v a b c q B off cap w hq v7 v15 q3 q7 h0 h1 h2 c1 c2 c3
  by_cases c4 : c ≤ q
  case neg => rw [show triB v [a, b, c] = false by rw [HT]; simp; omega]; exact l02T_c4 v a b c q B off cap w hq v7 v15 q3 q7 h0 h1 h2 c1 c2 c3 c4
  by_cases c5 : a + b = c
  case pos => rw [show triB v [a, b, c] = true by rw [HT]; simp; omega]; exact l02T_c5 v a b c q B off cap w hq v7 v15 q3 q7 h0 h1 h2 c1 c2 c3 c4 c5
  rw [show triB v [a, b, c] = (a + b + c == v) by rw [HT, Bool.eq_iff_iff]; simp; omega]
  exact l02T_c6 v a b c q B off cap w hq v7 v15 q3 q7 h0 h1 h2 c1 c2 c3 c4 c5
theorem l02Triple_any (v : Int) (s : Value) (t : List Int) (w : World) (hv : dfV v = true) (h : IB w s t) : Calls Try.prog 130 #[.int .i64 v, s] w (RQ (.bool (triB v t)) w) := by
  by_cases h3 : t.length = 3
  · rcases h.2 with ⟨_, _, _, rfl⟩ | ⟨B, off, cap, rfl, _, hr⟩
    · simp at h3
    · match t, h3 with
      | [a, b, c], _ => exact l02T_three v a b c B off cap w hv (by simpa using hr 0 (by simp)) (by simpa using hr 1 (by simp)) (by simpa using hr 2 (by simp))
  · have e : triB v t = false := by simp [triB, h3]
    rw [e]
    rcases h.2 with ⟨a, c, rfl, rfl⟩ | ⟨B, off, cap, rfl, _, _⟩
    · exact l02T_len v a 0 c w (by decide)
    · exact l02T_len v _ _ cap w h3
end Go.Proofs.Ytlhiokcdjnmfmaa

namespace Go.Proofs.Ytlhiokcdjnmfmaa
open Go.RowKit Go.Maps
def msk (L : List Int) : Nat := L.foldl (fun m d => m ||| 2 ^ d.toNat) 0
theorem msk_snoc (L : List Int) (d : Int) : msk (L ++ [d]) = msk L ||| 2 ^ d.toNat := by simp [msk, List.foldl_append]
theorem foldM_test (t : Nat) : ∀ (L : List Int) (m : Nat), (L.foldl (fun m d => m ||| 2 ^ d.toNat) m).testBit t = (m.testBit t || L.any fun d => decide (d.toNat = t))
  | [], m => by simp
  | d :: L, m => by
    rw [List.foldl_cons, foldM_test t L, Nat.testBit_or, Nat.testBit_two_pow, List.any_cons, Bool.or_assoc]
theorem msk_test (L : List Int) (t : Nat) : (msk L).testBit t = L.any fun d => decide (d.toNat = t) := by
  rw [msk, foldM_test]; simp
theorem foldM_lt : ∀ (L : List Int) (m : Nat), m < 256 → (∀ d ∈ L, 1 ≤ d ∧ d ≤ 7) → L.foldl (fun m d => m ||| 2 ^ d.toNat) m < 256
  | [], m, h, _ => h
  | d :: L, m, h, hd => by
    rw [List.foldl_cons]
    have hq := hd d (List.mem_cons_self)
    refine foldM_lt L _ ?_ fun e he => hd e (List.mem_cons_of_mem _ he)
    refine Nat.or_lt_two_pow (n := 8) h ?_
    exact Nat.pow_lt_pow_right (by decide) (by omega)
theorem msk_lt {L : List Int} (h : ∀ d ∈ L, 1 ≤ d ∧ d ≤ 7) : msk L < 256 := foldM_lt L 0 (by decide) h
theorem bits_small : ∀ t : Fin 8, ∀ u : Fin 256, bits .and .i64 (u.val : Int) ((2 ^ t.val : Nat) : Int) = ((u.val &&& 2 ^ t.val : Nat) : Int) ∧ bits .or .i64 (u.val : Int) ((2 ^ t.val : Nat) : Int) = ((u.val ||| 2 ^ t.val : Nat) : Int) := by
  decide +kernel
theorem and_pow_ne : ∀ t : Fin 8, ∀ u : Fin 256, decide (u.val &&& 2 ^ t.val ≠ 0) = u.val.testBit t.val := by
  decide +kernel
/-- Is d among L: the bit says it. -/
theorem bit_in {L : List Int} (h : ∀ d ∈ L, 1 ≤ d ∧ d ≤ 7) {d : Int} (h1 : 1 ≤ d) (h7 : d ≤ 7) : (bits .and .i64 (msk L : Int) ((2 ^ d.toNat : Nat) : Int) != 0) = decide (d ∈ L) ∧ bits .or .i64 (msk L : Int) ((2 ^ d.toNat : Nat) : Int) = (msk (L ++ [d]) : Int) := by
  have hb := bits_small ⟨d.toNat, by omega⟩ ⟨msk L, msk_lt h⟩
  simp only at hb
  refine ⟨?_, by rw [hb.2, msk_snoc]⟩
  rw [hb.1, Bool.eq_iff_iff]
  simp only [bne_iff_ne, ne_eq, decide_eq_true_eq]
  have e1 : (¬ ((msk L &&& 2 ^ d.toNat : Nat) : Int) = 0) ↔ (msk L &&& 2 ^ d.toNat ≠ 0) := by omega
  have e2 := and_pow_ne ⟨d.toNat, by omega⟩ ⟨msk L, msk_lt h⟩
  simp only at e2
  rw [e1, ← decide_eq_true_iff (p := msk L &&& 2 ^ d.toNat ≠ 0), e2, msk_test, List.any_eq_true]
  constructor
  · rintro ⟨e, he, hq⟩
    have := h e he
    simp at hq
    have : e = d := by omega
    exact this ▸ he
  · intro hd
    exact ⟨d, hd, by simp⟩
end Go.Proofs.Ytlhiokcdjnmfmaa

namespace Go.Proofs.Ytlhiokcdjnmfmaa
open Go.RowKit
theorem rnGo_iff {v : Int} : ∀ {l seen : List Int}, rnGo v seen l = true ↔ (∀ a ∈ l, 0 ≤ a ∧ a < v) ∧ l.Nodup ∧ ∀ a ∈ l, a ∉ seen
  | [], seen => by simp [rnGo]
  | b :: r, seen => by
    simp only [rnGo, Bool.and_eq_true, rnGo_iff (l := r), inP, decide_eq_true_eq, Bool.not_eq_true', decide_eq_false_iff_not, List.forall_mem_cons, List.nodup_cons, List.mem_append, List.mem_singleton, not_or]
    constructor
    · rintro ⟨⟨h1, h2⟩, h3, h4, h5⟩
      exact ⟨⟨h1, h3⟩, ⟨fun e => (h5 b e).2 rfl, h4⟩, h2, fun a ha => (h5 a ha).1⟩
    · rintro ⟨⟨h1, h3⟩, ⟨h6, h4⟩, h2, h5⟩
      exact ⟨⟨h1, h2⟩, h3, h4, fun a ha => ⟨h5 a ha, fun e => h6 (e ▸ ha)⟩⟩
theorem isRen_iff {n : Nat} {p : List Int} : isRen (n : Int) p = true ↔ p.length = n ∧ (∀ a ∈ p, 0 ≤ a ∧ a < (n : Int)) ∧ p.Nodup := by
  simp only [isRen, Bool.and_eq_true, decide_eq_true_eq, rnGo_iff]
  constructor
  · rintro ⟨h1, h2, h3, _⟩
    exact ⟨by omega, h2, h3⟩
  · rintro ⟨h1, h2, h3⟩
    exact ⟨by omega, h2, h3, by simp⟩
theorem nodup_of_cover {α : Type} [DecidableEq α] {l m : List α} (hn : l.Nodup) (hs : ∀ x ∈ l, x ∈ m) (hl : m.length ≤ l.length) : m.Nodup := by
  apply Classical.byContradiction
  intro hnot
  rw [List.Nodup, List.pairwise_iff_getElem] at hnot
  have ⟨i, j, hi, hj, hij, he⟩ : ∃ i j, ∃ (hi : i < m.length) (hj : j < m.length), i < j ∧ m[i] = m[j] := by
    apply Classical.byContradiction
    intro hc
    exact hnot fun i j hi hj hij he => hc ⟨i, j, hi, hj, hij, he⟩
  have h := List.Nodup.length_le_of_subset (l₂ := m.eraseIdx j) hn fun x hx => by
    obtain ⟨k, hk, rfl⟩ := List.getElem_of_mem (hs x hx)
    rw [List.mem_eraseIdx_iff_getElem]
    by_cases e : k = j
    · subst e
      exact ⟨i, hi, by omega, he⟩
    · exact ⟨k, hk, e, rfl⟩
  rw [List.length_eraseIdx, if_pos hj] at h
  omega
theorem msk_lt' {L : List Int} (h : ∀ d ∈ L, 0 ≤ d ∧ d ≤ 7) : msk L < 256 := by
  suffices ∀ (L : List Int) (m : Nat), m < 256 → (∀ d ∈ L, 0 ≤ d ∧ d ≤ 7) → L.foldl (fun m d => m ||| 2 ^ d.toNat) m < 256 from this L 0 (by decide) h
  intro L
  induction L with
  | nil => exact fun m hm _ => hm
  | cons d L ih =>
    intro m hm hd
    rw [List.foldl_cons]
    have hq := hd d (List.mem_cons_self)
    refine ih _ ?_ fun e he => hd e (List.mem_cons_of_mem _ he)
    refine Nat.or_lt_two_pow (n := 8) hm ?_
    exact Nat.pow_lt_pow_right (by decide) (by omega)
theorem bit_or {L : List Int} (h : ∀ d ∈ L, 0 ≤ d ∧ d ≤ 7) {d : Int} (h1 : 0 ≤ d) (h7 : d ≤ 7) : bits .or .i64 (msk L : Int) ((2 ^ d.toNat : Nat) : Int) = (msk (L ++ [d]) : Int) := by
  have hb := bits_small ⟨d.toNat, by omega⟩ ⟨msk L, msk_lt' h⟩
  simp only at hb
  rw [hb.2, msk_snoc]
theorem isRen_msk {n : Nat} {p : List Int} (hl : p.length = n) (hr : ∀ a ∈ p, 0 ≤ a ∧ a < (n : Int)) : isRen (n : Int) p = decide (msk p = 2 ^ n - 1) := by
  have hR : ((List.range n).map fun (k : Nat) => (k : Int)).Nodup := by
    rw [List.Nodup, List.pairwise_map]
    exact List.nodup_range.imp fun h e => h (by omega)
  rw [Bool.eq_iff_iff, isRen_iff, decide_eq_true_eq]
  have hm : msk p = 2 ^ n - 1 ↔ ∀ k : Nat, k < n → (k : Int) ∈ p := by
    constructor
    · intro h k hk
      have ht : (msk p).testBit k = true := by rw [h, Nat.testBit_two_pow_sub_one]; simpa using hk
      rw [msk_test, List.any_eq_true] at ht
      obtain ⟨d, hd, e⟩ := ht
      have := hr d hd
      simp at e
      have : d = (k : Int) := by omega
      exact this ▸ hd
    · intro h
      apply Nat.eq_of_testBit_eq
      intro k
      rw [msk_test, Nat.testBit_two_pow_sub_one, Bool.eq_iff_iff, List.any_eq_true, decide_eq_true_eq]
      constructor
      · rintro ⟨d, hd, e⟩
        have := hr d hd
        simp at e
        omega
      · intro hk
        exact ⟨_, h k hk, by simp⟩
  rw [hm]
  constructor
  · rintro ⟨_, _, hn⟩ k hk
    refine sub_back hn (m := (List.range n).map fun (k : Nat) => (k : Int)) (fun x hx => ?_) (by simp [hl]) _ (List.mem_map.2 ⟨k, List.mem_range.2 hk, rfl⟩)
    have := hr x hx
    exact List.mem_map.2 ⟨x.toNat, List.mem_range.2 (by omega), by omega⟩
  · intro h
    refine ⟨hl, hr, nodup_of_cover hR (fun x hx => ?_) (by simp [hl])⟩
    obtain ⟨k, hk, rfl⟩ := List.mem_map.1 hx
    exact h k (List.mem_range.1 hk)
end Go.Proofs.Ytlhiokcdjnmfmaa

namespace Go.Proofs.Ytlhiokcdjnmfmaa
open Go.RowKit Go.Maps
/-- The row at the head of block g holds just these integers and may be written. -/
structure OwnAtI (w : World) (g : Nat) (zs : List Int) : Prop where
  lt : g < w.heap.size
  at_ : Ints w g 0 zs
  free : ∀ o, w.frozen? ⟨g, o, none⟩ = false
theorem OwnAtI.kept {w w' : World} {g : Nat} {zs : List Int} {row : Option Nat} (h : OwnAtI w g zs) (hg : w.grownBy w' row) (hne : some g ≠ row) : OwnAtI w' g zs := by
  have hb := hg.block g h.lt hne
  exact ⟨Nat.lt_of_lt_of_le h.lt hg.size, fun k hk => (World.cell?_of_block (w := w) (a := ⟨g, _, none⟩) hb).trans (h.at_ k hk), fun o => (World.frozen?_of_block (w := w) (a := ⟨g, o, none⟩) hb).trans (h.free o)⟩
theorem Ints.set {w : World} {g : Nat} {l : List Int} (h : Ints w g 0 l) {i : Nat} (hi : i < l.length) (x : Int) : Ints (w.setCell ⟨g, i, none⟩ (.int .i64 x)) g 0 (l.set i x) := by
  intro k hk
  rw [List.length_set] at hk
  have hk' := h k hk
  have hi' := h i hi
  rw [Nat.zero_add] at hk' hi' ⊢
  by_cases e : k = i
  · subst e
    rw [World.cell?_setCell_same' _ _ _ (by rw [hi']; rfl)]
    simp [hk]
  · rw [World.cell?_setCell_other _ _ _ _ (by simp <;> omega), hk', List.getElem?_set_ne (Ne.symm e)]
def markI (k : Int) (n : Nat) : List Int := (List.range n).map fun (t : Nat) => k + (t : Int)
theorem markI_length (k : Int) (n : Nat) : (markI k n).length = n := by simp [markI]
theorem markI_next {k : Int} {i : Nat} {zs : List Int} (h : i < zs.length) : (markI k i ++ zs.drop i).set i (k + i) = markI k (i + 1) ++ zs.drop (i + 1) := by
  rw [List.drop_eq_getElem_cons h, List.set_append_right _ _ (by rw [markI_length]; omega), markI_length, Nat.sub_self, List.set_cons_zero]
  simp [markI, List.range_succ]
theorem markI_at {k : Int} {n j : Nat} (h : j < n) : (markI k n)[j]?.getD 0 = k + j := by
  simp [markI, h]
set_option maxRecDepth 100000 in
theorem markInt64S_nil (a : Option Addr) (c : Nat) (k : Int) (w : World) : Calls Try.prog 22 #[.slice a 0 c, .int .i64 k] w (RS (.int .i64 k) w) := by
  go_enter Try.func22, Try.ntmps22
  go_wp2
  refine wp_loop_rounds 1 ?_
  rw [rounds_succ]
  go_wp2
  go_ret
  exact RS_of rfl
set_option maxRecDepth 100000 in
theorem heldInt64S_nil (a : Option Addr) (c : Nat) (k : Int) (w : World) : Calls Try.prog 23 #[.slice a 0 c, .int .i64 k] w (RS (.int .i64 k) w) := by
  go_enter Try.func23, Try.ntmps23
  go_wp2
  refine wp_loop_rounds 1 ?_
  rw [rounds_succ]
  go_wp2
  go_ret
  exact RS_of rfl
set_option maxRecDepth 100000 in
theorem markInt64S_any (g cap : Nat) (zs : List Int) (k : Int) (w : World) (h : OwnAtI w g zs) (hl : zs.length ≤ 1100000) (h0 : 0 ≤ k) (h1 : k ≤ 9000000) :
    Calls Try.prog 22 #[.slice (some ⟨g, 0, none⟩) zs.length cap, .int .i64 k] w (fun e w' => e = .returned (.int .i64 (k + zs.length)) ∧ w.grownBy w' (some g) ∧ OwnAtI w' g (markI k zs.length)) := by
  have H := Lib.hid h
  clear h
  go_enter Try.func22, Try.ntmps22
  go_wp2
  go_loopw [1, 5] (fun t i wr => ∃ j : Nat, j ≤ zs.length ∧ i = .int .i64 j ∧ t = .int .i64 (k + j) ∧ w.grownBy wr (some g) ∧ OwnAtI wr g (markI k j ++ zs.drop j)) (fun _ i _ => zs.length - (intOf i).toNat)
  case atStart => exact ⟨0, Nat.zero_le _, rfl, by simp, only_refl _ _, by simpa [markI] using H.out⟩
  case round =>
    obtain ⟨j, hj, rfl, rfl, hg, ho⟩ := hrel
    by_cases hjl : j < zs.length
    · have hlj : j < (markI k j ++ zs.drop j).length := by simp [markI_length]; omega
      have c1 := ho.at_ j hlj
      rw [Nat.zero_add] at c1
      have f1 := ho.free
      have hs := Ints.set ho.at_ hlj (k + j)
      rw [markI_next hjl] at hs
      have HS := Lib.hid hs
      have hlt := ho.lt
      clear hs ho
      have g0 : (0 : Int) ≤ (j : Int) := by omega
      have g1 : (j : Int) < (zs.length : Int) := by omega
      obtain ⟨m, hm⟩ : ∃ m, m = k + (j : Int) := ⟨_, rfl⟩
      rw [← hm] at HS ⊢
      have m0 : 0 ≤ m := by omega
      have m1 : m ≤ 90000000 := by omega
      have HM := Lib.hid hm
      clear hm
      go_wp2
      go_roundw
      case rel => exact ⟨j + 1, by omega, by go_num, int_eq (by rw [HM.out]; omega), only_setCell hg rfl _, ⟨by simpa [World.setCell] using hlt, HS.out, fun o => by rw [World.frozen?_setCell]; exact f1 o⟩⟩
      case measure => simp [intOf]; omega
    · go_wp2
      go_ret
      have e : j = zs.length := by omega
      subst e
      rw [List.drop_length, List.append_nil] at ho
      exact ⟨rfl, hg, ho⟩
set_option maxRecDepth 100000 in
theorem heldInt64S_any (g cap n : Nat) (k : Int) (w : World) (h : Ints w g 0 (markI k n)) (hl : n ≤ 1100000) (h0 : 0 ≤ k) (h1 : k ≤ 9000000) :
    Calls Try.prog 23 #[.slice (some ⟨g, 0, none⟩) n cap, .int .i64 k] w (RS (.int .i64 (k + n)) w) := by
  have H := Lib.hid h
  clear h
  go_enter Try.func23, Try.ntmps23
  go_wp2
  go_loop [1, 5] (fun t i => ∃ j : Nat, j ≤ n ∧ i = .int .i64 j ∧ t = .int .i64 (k + j)) (fun _ i => n - (intOf i).toNat)
  case atStart => exact ⟨0, Nat.zero_le _, rfl, by simp⟩
  case round =>
    obtain ⟨j, hj, rfl, rfl⟩ := hrel
    by_cases hjl : j < n
    · have hc := H.out j (by rw [markI_length]; exact hjl)
      rw [markI_at hjl, Nat.zero_add] at hc
      obtain ⟨m, hm⟩ : ∃ m, m = k + (j : Int) := ⟨_, rfl⟩
      rw [← hm] at hc ⊢
      have m0 : 0 ≤ m := by omega
      have m1 : m ≤ 90000000 := by omega
      have HM := Lib.hid hm
      clear hm
      have g0 : (0 : Int) ≤ (j : Int) := by omega
      have g1 : (j : Int) < (n : Int) := by omega
      have n1 : (m != m) = false := by simp
      go_wp2
      go_round
      case rel => exact ⟨j + 1, by omega, by go_num, int_eq (by rw [HM.out]; omega)⟩
      case measure => simp [intOf]; omega
    · go_wp2
      go_ret
      have e : j = n := by omega
      subst e
      exact RS_of rfl
/-- A result that is a list of integers: empty anywhere, or memory of its own between lo and hi. -/
def ResI (w : World) (lo hi : Nat) (s : Value) (zs : List Int) : Prop := (zs = [] ∧ ∃ a c, s = .slice a 0 c) ∨ ∃ g cap, s = .slice (some ⟨g, 0, none⟩) zs.length cap ∧ lo ≤ g ∧ g < hi ∧ OwnAtI w g zs
theorem OwnJ.res {w : World} {base : Nat} {v : Value} {zs : List Int} (h : OwnJ w base v zs) (hl : zs.length ≤ 1100000) : ResI w base w.heap.size v zs := by
  have hib := h.ib hl
  obtain ⟨hl, h | ⟨g, cap, cur, rfl, hb, hcur, hn, hc, hsz, hx⟩⟩ := h
  · obtain ⟨rfl, h0⟩ := h
    exact .inl ⟨List.length_eq_zero_iff.1 h0, _, _, rfl⟩
  · have hg : g < w.heap.size := (Array.getElem?_eq_some_iff.1 hcur).1
    rcases hib.2 with ⟨a, c, e1, rfl⟩ | ⟨b, off, cap', e1, _, hI⟩
    · exact .inl ⟨rfl, _, _, rfl⟩
    · simp at e1
      obtain ⟨⟨rfl, rfl⟩, _⟩ := e1
      exact .inr ⟨g, cap, rfl, hb, hg, hg, hI, fun o => by simp [World.frozen?, hcur]⟩
theorem ResI.ib {w : World} {lo hi : Nat} {s : Value} {zs : List Int} (h : ResI w lo hi s zs) (hl : zs.length ≤ 1100000) : IB w s zs := by
  rcases h with ⟨rfl, a, c, rfl⟩ | ⟨g, cap, rfl, _, _, ho⟩
  · exact ⟨hl, .inl ⟨a, c, rfl, rfl⟩⟩
  · exact ⟨hl, .inr ⟨g, 0, cap, rfl, ho.lt, ho.at_⟩⟩
theorem ResI.kept {w w' : World} {lo hi : Nat} {s : Value} {zs : List Int} {row : Option Nat} (h : ResI w lo hi s zs) (hg : w.grownBy w' row) (hr : ∀ r, row = some r → r < lo ∨ hi ≤ r) : ResI w' lo hi s zs := by
  rcases h with h | ⟨g, cap, rfl, h1, h2, ho⟩
  · exact .inl h
  · exact .inr ⟨g, cap, rfl, h1, h2, ho.kept hg (fun e => by have := hr g e.symm; omega)⟩
theorem ResI.below {w w' : World} {lo hi : Nat} {s : Value} {zs : List Int} (h : ResI w lo hi s zs) {B : Nat} (hb : Below B w w') (hB : w.heap.size ≤ B) : ResI w' lo hi s zs :=
  h.kept (only_of_below (hb.mono hB) none) (by simp)
theorem markJ (lo hi : Nat) (s : Value) (zs : List Int) (k : Int) (w : World) (h : ResI w lo hi s zs) (hl : zs.length ≤ 1100000) (h0 : 0 ≤ k) (h1 : k ≤ 9000000) :
    Calls Try.prog 22 #[s, .int .i64 k] w (fun e w' => e = .returned (.int .i64 (k + zs.length)) ∧ (∃ row, w.grownBy w' row ∧ ∀ r, row = some r → lo ≤ r ∧ r < hi) ∧ ResI w' lo hi s (markI k zs.length)) := by
  rcases h with ⟨rfl, a, c, rfl⟩ | ⟨g, cap, rfl, h3, h4, ho⟩
  · refine (markInt64S_nil a c k w).mono ?_
    rintro e w' ⟨rfl, rfl⟩
    exact ⟨by simp, ⟨none, only_refl _ _, by simp⟩, .inl ⟨rfl, a, c, rfl⟩⟩
  · refine (markInt64S_any g cap zs k w ho hl h0 h1).mono ?_
    rintro e w' ⟨rfl, hg, ho'⟩
    exact ⟨rfl, ⟨some g, hg, fun r hr => by cases hr; exact ⟨h3, h4⟩⟩, .inr ⟨g, cap, by rw [markI_length], h3, h4, ho'⟩⟩
theorem heldJ (lo hi : Nat) (s : Value) (n : Nat) (k : Int) (w : World) (h : ResI w lo hi s (markI k n)) (hl : n ≤ 1100000) (h0 : 0 ≤ k) (h1 : k ≤ 9000000) :
    Calls Try.prog 23 #[s, .int .i64 k] w (RS (.int .i64 (k + n)) w) := by
  rcases h with ⟨hn, a, c, rfl⟩ | ⟨g, cap, rfl, h3, h4, ho⟩
  · have : n = 0 := by have := congrArg List.length hn; simpa [markI_length] using this
    subst this
    simpa using heldInt64S_nil a c k w
  · rw [markI_length]
    exact heldInt64S_any g cap n k w ho.at_ hl h0 h1
end Go.Proofs.Ytlhiokcdjnmfmaa

namespace Go.Proofs.Ytlhiokcdjnmfmaa
open Go.RowKit Go.Maps
/-- The value is a slice of just these n rows. -/
def SSB (w : World) (s : Value) (n : Nat) (F : Nat → List Int) : Prop :=
  n ≤ 1100000 ∧ ((n = 0 ∧ ∃ a c, s = .slice a 0 c) ∨ ∃ b off cap, s = .slice (some ⟨b, off, none⟩) n cap ∧ b < w.heap.size ∧ ∀ k, k < n → ∃ a c, w.cell? ⟨b, off + k, none⟩ = some (.slice a (F k).length c) ∧ IB w (.slice a (F k).length c) (F k))
theorem SSB.below {w w' : World} {s : Value} {n : Nat} {F : Nat → List Int} (h : SSB w s n F) {B : Nat} (hb : Below B w w') (hB : w.heap.size ≤ B) : SSB w' s n F := by
  obtain ⟨h1, h2⟩ := h
  refine ⟨h1, ?_⟩
  rcases h2 with h2 | ⟨b, off, cap, rfl, hl, hr⟩
  · exact .inl h2
  · refine .inr ⟨b, off, cap, rfl, by have := hb.size; omega, fun k hk => ?_⟩
    obtain ⟨a, c, hc, hi⟩ := hr k hk
    exact ⟨a, c, (hb.cell (by simp; omega)).trans hc, hi.below hb hB⟩
theorem SSB.slice {w : World} {s : Value} {n : Nat} {F : Nat → List Int} (h : SSB w s n F) : ∃ a c, s = .slice a n c := by
  rcases h.2 with ⟨rfl, a, c, rfl⟩ | ⟨b, off, cap, rfl, _⟩ <;> exact ⟨_, _, rfl⟩
set_option maxRecDepth 100000 in
theorem eqInt64SS_same (s t : Value) (n : Nat) (F : Nat → List Int) (w : World) (h : SSB w s n F) (k : SSB w t n F) : Calls Try.prog 28 #[s, t] w (RV (.bool true) w) := by
  have hn := h.1
  by_cases h0 : n = 0
  · obtain ⟨a, c, rfl⟩ := h.slice
    obtain ⟨a', c', rfl⟩ := k.slice
    subst h0
    clear h k hn
    go_enter Try.func28, Try.ntmps28
    go_wp2
    refine wp_loop_rounds 1 ?_
    rw [rounds_succ]
    go_wp2
    go_ret
    exact RV_of rfl (Below.refl _ _)
  · rcases h.2 with ⟨e, _⟩ | ⟨b, off, cap, rfl, hb, hB⟩
    · exact absurd e h0
    · rcases k.2 with ⟨e, _⟩ | ⟨b', off', cap', rfl, hb', hB'⟩
      · exact absurd e h0
      · have HB := Lib.hid hB
        have HB' := Lib.hid hB'
        clear hB hB' h k h0
        have hne : (((n : Nat) : Int) != (n : Nat)) = false := by simp
        go_enter Try.func28, Try.ntmps28
        go_wp2
        go_loopw [5] (fun i wr => ∃ k : Nat, k ≤ n ∧ i = .int .i64 k ∧ Below w.heap.size w wr) (fun i _ => n - (intOf i).toNat)
        case atStart => exact ⟨0, Nat.zero_le _, rfl, Below.refl _ _⟩
        case round =>
          obtain ⟨k, hk, rfl, hBw⟩ := hrel
          by_cases hkl : k < n
          · obtain ⟨a1, c1, q1, i1⟩ := HB.out k hkl
            obtain ⟨a2, c2, q2, i2⟩ := HB'.out k hkl
            have q1 := (hBw.cell (p := ⟨b, off + k, none⟩) hb).trans q1
            have q2 := (hBw.cell (p := ⟨b', off' + k, none⟩) hb').trans q2
            have I1 := Lib.hid (i1.below hBw (Nat.le_refl _))
            have I2 := Lib.hid (i2.below hBw (Nat.le_refl _))
            clear i1 i2
            have g0 : (0 : Int) ≤ (k : Int) := by omega
            have g1 : (k : Int) < (n : Int) := by omega
            go_wp2_with fail
            go_region_with (go_at_call 19; refine (eqInt64S_same _ _ (F k) _ (I1.out.below ((Below.refl _ _).drew) (Nat.le_refl _)) (I2.out.below ((Below.refl _ _).drew) (Nat.le_refl _))).mono ?_; rintro e w1 ⟨rfl, hb1⟩)
            all_goals
              go_wp2_with fail
              go_roundw
              case rel => exact ⟨k + 1, by omega, by go_num, (hBw.drew).trans (hb1.mono (by have := hBw.size; simp; omega))⟩
              case measure => simp [intOf]; omega
          · go_wp2
            go_ret
            exact RV_of rfl hBw
/-- Rows of its own: the head at block G, the k-th row at block gs k. -/
structure SSR (w : World) (lo G : Nat) (gs caps : Nat → Nat) (n : Nat) (F : Nat → List Int) : Prop where
  cell : ∀ k, k < n → w.cell? ⟨G, k, none⟩ = some (.slice (some ⟨gs k, 0, none⟩) (F k).length (caps k))
  row : ∀ k, k < n → OwnAtI w (gs k) (F k)
  ne : ∀ k, k < n → gs k ≠ G
  inc : ∀ j k, j < k → k < n → gs j < gs k
  low : ∀ k, k < n → lo ≤ gs k
  lt : G < w.heap.size
theorem SSR.kept {w w' : World} {lo G : Nat} {gs caps : Nat → Nat} {n : Nat} {F : Nat → List Int} (h : SSR w lo G gs caps n F) {row : Option Nat} (hg : w.grownBy w' row) (hG : some G ≠ row) (hr : ∀ k, k < n → some (gs k) ≠ row) : SSR w' lo G gs caps n F :=
  ⟨fun k hk => hg.cell (h.cell k hk) (by simpa using hG), fun k hk => (h.row k hk).kept hg (hr k hk), h.ne, h.inc, h.low, Nat.lt_of_lt_of_le h.lt hg.size⟩
theorem SSR.below {w w' : World} {lo G : Nat} {gs caps : Nat → Nat} {n : Nat} {F : Nat → List Int} (h : SSR w lo G gs caps n F) {B : Nat} (hb : Below B w w') (hB : w.heap.size ≤ B) : SSR w' lo G gs caps n F :=
  h.kept (only_of_below (hb.mono hB) none) (by simp) (by simp)
theorem SSR.sb {w : World} {lo G cap : Nat} {gs caps : Nat → Nat} {n : Nat} {F : Nat → List Int} (h : SSR w lo G gs caps n F) (hn : n ≤ 1100000) (hF : ∀ k, k < n → (F k).length ≤ 1100000) : SSB w (.slice (some ⟨G, 0, none⟩) n cap) n F :=
  ⟨hn, .inr ⟨G, 0, cap, rfl, h.lt, fun k hk => ⟨_, _, by rw [Nat.zero_add]; exact h.cell k hk, ⟨hF k hk, .inr ⟨gs k, 0, caps k, rfl, (h.row k hk).lt, (h.row k hk).at_⟩⟩⟩⟩⟩
/-- How many integers the first k rows hold. -/
def tot (F : Nat → List Int) : Nat → Nat
  | 0 => 0
  | k + 1 => tot F k + (F k).length
theorem tot_le (F : Nat → List Int) {j n : Nat} (h : j ≤ n) : tot F j ≤ tot F n := by
  induction h with
  | refl => exact Nat.le_refl _
  | step _ ih => exact Nat.le_trans ih (by simp [tot])
/-- The rows after marking. -/
def markSS (k0 : Int) (F : Nat → List Int) (j : Nat) : List Int := markI (k0 + tot F j) (F j).length
theorem SSR.mark1 {w w' : World} {lo G : Nat} {gs caps : Nat → Nat} {n : Nat} {F : Nat → List Int} (h : SSR w lo G gs caps n F) {j : Nat} (hj : j < n) (L : List Int) (hL : L.length = (F j).length) (hg : w.grownBy w' (some (gs j))) (ho : OwnAtI w' (gs j) L) :
    SSR w' lo G gs caps n (fun k => if k = j then L else F k) := by
  refine ⟨fun k hk => ?_, fun k hk => ?_, h.ne, h.inc, h.low, Nat.lt_of_lt_of_le h.lt hg.size⟩
  · have hc := hg.cell (h.cell k hk) (by simpa using Ne.symm (h.ne j hj))
    split
    · subst k
      rw [hL]; exact hc
    · exact hc
  · split
    · subst k; exact ho
    · refine (h.row k hk).kept hg (fun e => ?_)
      have e : gs k = gs j := by simpa using e
      rcases Nat.lt_trichotomy k j with hlt | rfl | hlt
      · have := h.inc k j hlt hj; omega
      · contradiction
      · have := h.inc j k hlt hk; omega
def partSS (k0 : Int) (F : Nat → List Int) (j : Nat) : Nat → List Int := fun k => if k < j then markSS k0 F k else F k
theorem partSS_len (k0 : Int) (F : Nat → List Int) (j k : Nat) : (partSS k0 F j k).length = (F k).length := by
  unfold partSS markSS
  split
  · rw [markI_length]
  · rfl
theorem partSS_succ (k0 : Int) (F : Nat → List Int) (j : Nat) : (fun k => if k = j then markSS k0 F j else partSS k0 F j k) = partSS k0 F (j + 1) := by
  funext k
  unfold partSS
  by_cases h : k = j
  · subst h; simp
  · rw [if_neg h]
    by_cases h2 : k < j
    · rw [if_pos h2, if_pos (by omega)]
    · rw [if_neg h2, if_neg (by omega)]
theorem SSR.congr {w : World} {lo G : Nat} {gs caps : Nat → Nat} {n : Nat} {F F' : Nat → List Int} (h : SSR w lo G gs caps n F) (e : ∀ k, k < n → F k = F' k) : SSR w lo G gs caps n F' :=
  ⟨fun k hk => by rw [← e k hk]; exact h.cell k hk, fun k hk => by rw [← e k hk]; exact h.row k hk, h.ne, h.inc, h.low, h.lt⟩
set_option maxRecDepth 100000 in
theorem markInt64SS_any (lo G cap : Nat) (gs caps : Nat → Nat) (n : Nat) (F : Nat → List Int) (k0 : Int) (w : World) (h : SSR w lo G gs caps n F) (hl : n ≤ 1100000) (hlo : lo ≤ w.heap.size) (hT : tot F n ≤ 1100000) (h0 : 0 ≤ k0) (h1 : k0 ≤ 5000000) :
    Calls Try.prog 29 #[.slice (some ⟨G, 0, none⟩) n cap, .int .i64 k0] w (fun e w' => e = .returned (.int .i64 (k0 + tot F n)) ∧ Below lo w w' ∧ SSR w' lo G gs caps n (markSS k0 F)) := by
  have H := Lib.hid h
  clear h
  go_enter Try.func29, Try.ntmps29
  go_wp2
  go_loopw [1, 5] (fun t i wr => ∃ j : Nat, j ≤ n ∧ i = .int .i64 j ∧ t = .int .i64 (k0 + tot F j) ∧ Below lo w wr ∧ SSR wr lo G gs caps n (partSS k0 F j)) (fun _ i _ => n - (intOf i).toNat)
  case atStart => exact ⟨0, Nat.zero_le _, rfl, by simp [tot], Below.refl _ _, H.out.congr (fun k _ => by simp [partSS])⟩
  case round =>
    obtain ⟨j, hj, rfl, rfl, hB, hS⟩ := hrel
    have hSz := hB.size
    by_cases hjl : j < n
    · have c1 := hS.cell j hjl
      have hrow := hS.row j hjl
      have hlow := hS.low j hjl
      have hlen := partSS_len k0 F j j
      have hFj : partSS k0 F j j = F j := by simp [partSS]
      rw [hFj] at c1 hrow
      have htj : tot F (j + 1) ≤ tot F n := tot_le F hjl
      have htj' : tot F (j + 1) = tot F j + (F j).length := rfl
      have HS := Lib.hid hS
      have HM := Lib.hid (markInt64S_any (gs j) (caps j) (F j) (k0 + tot F j) wr hrow (by omega) (by omega) (by omega))
      clear hlen hFj hrow hS
      have g0 : (0 : Int) ≤ (j : Int) := by omega
      have g1 : (j : Int) < (n : Int) := by omega
      go_wp2_with (go_at_call 22; refine HM.out.mono ?_; rintro e w1 ⟨rfl, hg1, ho1⟩)
      go_roundw
      case rel => exact ⟨j + 1, by omega, by go_num, int_eq (by rw [htj']; omega), hB.grown hg1 (by omega) (fun r e => by simp at e; omega), by
        have := HS.out.mark1 hjl (markSS k0 F j) (by unfold markSS; rw [markI_length, partSS_len]) hg1 ho1
        rw [partSS_succ] at this
        exact this⟩
      case measure => simp [intOf]; omega
    · go_wp2
      go_ret
      have e : j = n := by omega
      subst e
      exact ⟨rfl, hB, hS.congr (fun k hk => by simp [partSS, hk])⟩
set_option maxRecDepth 100000 in
theorem heldInt64SS_any (lo G cap : Nat) (gs caps : Nat → Nat) (n : Nat) (F : Nat → List Int) (k0 : Int) (w : World) (h : SSR w lo G gs caps n (markSS k0 F)) (hl : n ≤ 1100000) (hT : tot F n ≤ 1100000) (h0 : 0 ≤ k0) (h1 : k0 ≤ 5000000) :
    Calls Try.prog 37 #[.slice (some ⟨G, 0, none⟩) n cap, .int .i64 k0] w (RS (.int .i64 (k0 + tot F n)) w) := by
  have H := Lib.hid h
  clear h
  go_enter Try.func37, Try.ntmps37
  go_wp2
  go_loop [1, 5] (fun t i => ∃ j : Nat, j ≤ n ∧ i = .int .i64 j ∧ t = .int .i64 (k0 + tot F j)) (fun _ i => n - (intOf i).toNat)
  case atStart => exact ⟨0, Nat.zero_le _, rfl, by simp [tot]⟩
  case round =>
    obtain ⟨j, hj, rfl, rfl⟩ := hrel
    by_cases hjl : j < n
    · have c1 := H.out.cell j hjl
      have hrow := (H.out.row j hjl).at_
      have htj : tot F (j + 1) ≤ tot F n := tot_le F hjl
      have htj' : tot F (j + 1) = tot F j + (F j).length := rfl
      have hmm : (markSS k0 F j).length = (F j).length := by unfold markSS; rw [markI_length]
      rw [hmm] at c1
      have HM := Lib.hid (heldInt64S_any (gs j) (caps j) (F j).length (k0 + tot F j) w hrow (by omega) (by omega) (by omega))
      clear hmm hrow
      obtain ⟨m, hm⟩ : ∃ m, m = k0 + (tot F j : Int) + ((F j).length : Int) := ⟨_, rfl⟩
      rw [← hm] at HM
      have hm0 : 0 ≤ m := by omega
      have HME := Lib.hid hm
      clear hm
      have g0 : (0 : Int) ≤ (j : Int) := by omega
      have g1 : (j : Int) < (n : Int) := by omega
      go_wp2_with (go_at_call 23; refine HM.out.mono ?_; rintro e w1 ⟨rfl, rfl⟩)
      go_round
      case rel => exact ⟨j + 1, by omega, by go_num, int_eq (by rw [htj', HME.out]; omega)⟩
      case measure => simp [intOf]; omega
    · go_wp2
      go_ret
      have e : j = n := by omega
      subst e
      exact RS_of rfl
end Go.Proofs.Ytlhiokcdjnmfmaa

namespace Go.Proofs.Ytlhiokcdjnmfmaa
open Go.RowKit Go.Maps
def famF (v : Int) (n : Nat) (F : Nat → List Int) : Bool × Int := if dfV v = true then (famB v n F, 0) else (false, 2)
def okP1 (v : Int) (k : Nat) (F : Nat → List Int) : Bool := triB v (F k) && (decide (k = 0) || decide (cmpL (F (k - 1)) (F k) < 0))
theorem okP_succ (v : Int) (k : Nat) (F : Nat → List Int) : okP v (k + 1) F = (okP v k F && okP1 v k F) := by
  unfold okP okP1
  simp [List.range_succ, List.all_append]
theorem okP_false {v : Int} {k n : Nat} {F : Nat → List Int} (hk : k < n) (h : okP1 v k F = false) : okP v n F = false := by
  unfold okP
  rw [List.all_eq_false]
  exact ⟨k, List.mem_range.2 hk, by unfold okP1 at h; simp only [h]; decide⟩
theorem okP_tri {v : Int} {k n : Nat} {F : Nat → List Int} (hk : k < n) (h : okP v n F = true) : triB v (F k) = true := by
  unfold okP at h
  have := List.all_eq_true.1 h k (List.mem_range.2 hk)
  simp only [Bool.and_eq_true] at this
  exact this.1
theorem tri_len {v : Int} {t : List Int} (h : triB v t = true) : t.length = 3 := by
  obtain ⟨a, b, c, rfl, _⟩ := triB_iff.1 h
  rfl
theorem SSB.rows {w : World} {a : Option Addr} {c n : Nat} {F : Nat → List Int} (h : SSB w (.slice a n c) n F) : ∀ k, k < n → ∃ b off a' c', a = some ⟨b, off, none⟩ ∧ b < w.heap.size ∧ w.cell? ⟨b, off + k, none⟩ = some (.slice a' (F k).length c') ∧ IB w (.slice a' (F k).length c') (F k) := fun k hk => by
  rcases h.2 with ⟨h0, _⟩ | ⟨b, off, cap, e, hlt, hr⟩
  · omega
  · simp at e
    obtain ⟨rfl, rfl⟩ := e
    obtain ⟨a', c', hc, hi⟩ := hr k hk
    exact ⟨b, off, a', c', rfl, hlt, hc, hi⟩
theorem IB.three {w : World} {a : Option Addr} {n c : Nat} {t : List Int} (h : IB w (.slice a n c) t) (h3 : t.length = 3) : ∃ b off, a = some ⟨b, off, none⟩ ∧ n = 3 ∧ b < w.heap.size ∧ Ints w b off t := by
  rcases h.2 with ⟨_, _, _, rfl⟩ | ⟨b, off, cap, e, hlt, hr⟩
  · simp at h3
  · simp at e
    obtain ⟨rfl, rfl, rfl⟩ := e
    exact ⟨b, off, rfl, h3, hlt, hr⟩
theorem diffs_ne {v : Int} (hv : dfV v = true) : diffs v ≠ [] ∧ (diffs v).length ≤ 7 := by
  simp only [dfV, Bool.or_eq_true, decide_eq_true_eq] at hv
  rcases hv with (rfl | rfl) | rfl <;> decide
end Go.Proofs.Ytlhiokcdjnmfmaa

namespace Go.Proofs.Ytlhiokcdjnmfmaa
open Go.RowKit Go.Maps
theorem IB.pos {w : World} {a : Option Addr} {n c : Nat} {t : List Int} (h : IB w (.slice a n c) t) (h3 : 0 < t.length) : ∃ b off, a = some ⟨b, off, none⟩ ∧ n = t.length ∧ b < w.heap.size ∧ Ints w b off t := by
  rcases h.2 with ⟨_, _, _, rfl⟩ | ⟨b, off, cap, e, hlt, hr⟩
  · simp at h3
  · simp at e
    obtain ⟨rfl, rfl, rfl⟩ := e
    exact ⟨b, off, rfl, rfl, hlt, hr⟩
theorem wrap_pow0 {t : Int} (h1 : 0 ≤ t) (h7 : t ≤ 7) : IntKind.i64.wrap (2 ^ t.toNat) = ((2 ^ t.toNat : Nat) : Int) ∧ IntKind.u64.wrap t = t := by
  have : t = 0 ∨ t = 1 ∨ t = 2 ∨ t = 3 ∨ t = 4 ∨ t = 5 ∨ t = 6 ∨ t = 7 := by omega
  rcases this with rfl | rfl | rfl | rfl | rfl | rfl | rfl | rfl <;> decide
theorem sqB_false1 {n x : Nat} {F : Nat → List Int} (hx : x < n) (h : isRen (n : Int) (F x) = false) : sqB n F = false := by
  rw [sqB, rowsOk_false hx h]; simp
theorem sqB_false2 {n x : Nat} {F : Nat → List Int} (hx : x < n) (h : isRen (n : Int) (col n F x) = false) : sqB n F = false := by
  rw [sqB, colsOk_false hx h]; simp
theorem isRen_out {n : Nat} {p : List Int} {z : Int} (h : z ∈ p) (hz : ¬ (0 ≤ z ∧ z < (n : Int))) : isRen (n : Int) p = false := by
  rcases e : isRen (n : Int) p with _ | _
  · rfl
  · exact absurd ((isRen_iff.1 e).2.1 z h) hz
theorem take_nx {l : List Int} {k : Nat} (h : k < l.length) : l.take (k + 1) = l.take k ++ [l[k]?.getD 0] := by
  rw [List.take_succ_eq_append_getElem h]; simp [h]
theorem colK_col (n : Nat) (F : Nat → List Int) (y : Nat) : colK F y n = col n F y := rfl
set_option maxRecDepth 100000 in
set_option maxHeartbeats 8000000 in
theorem l02Square_any (s : Value) (n : Nat) (F : Nat → List Int) (w : World) (h : SSB w s n F) :
    Calls Try.prog 67 #[s] w (RV (.bool (sqB n F)) w) := by
  have hn := h.1
  have HSS := Lib.hid h
  obtain ⟨a, c, rfl⟩ := h.slice
  have HROW := Lib.hid h.rows
  have HIN := Lib.hid fun z lo hi W => l01In_any z lo hi W
  clear h
  by_cases h2 : 2 ≤ n ∧ n ≤ 5
  case neg =>
    have hg := Lib.hid (show sqB n F = false by simp only [sqB]; rw [show (decide (2 ≤ n) && decide (n ≤ 5)) = false by simp; omega]; simp)
    have hd : (decide ((2 : Int) ≤ (n : Int)) && decide ((n : Int) ≤ 5)) = false := by simp; omega
    clear h2
    go_enter Try.func67, Try.ntmps67
    go_wp2_with fail
    refine (HIN.out _ _ _ _).mono ?_
    rintro e w1 ⟨rfl, rfl⟩
    go_wp2
    go_ret
    rw [hg.out]
    exact RV_of rfl (Below.refl _ _)
  obtain ⟨h2, h5⟩ := h2
  have HG := Lib.hid (show sqB n F = (rowsOk n n F && colsOk n n F) by simp [sqB, h2, h5])
  have hd : (decide ((2 : Int) ≤ (n : Int)) && decide ((n : Int) ≤ 5)) = true := by simp; omega
  go_enter Try.func67, Try.ntmps67
  obtain ⟨W0, rfl⟩ : ∃ W0, W0 = w := ⟨_, rfl⟩
  go_wp2_with fail
  refine (HIN.out _ _ _ _).mono ?_
  rintro e w1 ⟨rfl, rfl⟩
  go_wp2_with fail
  go_loopw [4] (fun i wr => ∃ k : Nat, k ≤ n ∧ i = .int .i64 k ∧ Below W0.heap.size W0 wr ∧ ∀ j, j < k → (F j).length = n) (fun i _ => n - (intOf i).toNat)
  case atStart => exact ⟨0, Nat.zero_le _, rfl, Below.refl _ _, fun j hj => absurd hj (Nat.not_lt_zero j)⟩
  case round =>
    obtain ⟨k, hk, rfl, hB, hlen⟩ := hrel
    have HB := Lib.hid hB
    have HL := Lib.hid hlen
    have hz := hB.size
    clear hB hlen
    by_cases hkl : k < n
    · obtain ⟨b, off, a', c', rfl, hlt, hc, hi⟩ := HROW.out k hkl
      have q := (HB.out.cell (p := ⟨b, off + k, none⟩) hlt).trans hc
      obtain ⟨m, hm⟩ : ∃ m, m = (F k).length := ⟨_, rfl⟩
      rw [← hm] at q
      clear hc hi
      by_cases hmn : m = n
      · have hne : ((m : Int) != (n : Int)) = false := by simp; omega
        have HS := Lib.hid (show ∀ j, j < k + 1 → (F j).length = n from fun j hj => by
          rcases Nat.lt_or_ge j k with h1 | h1
          · exact HL.out j h1
          · obtain rfl : j = k := by omega
            omega)
        clear hm hmn
        go_wp2_with fail
        go_roundw
        case rel => exact ⟨k + 1, by omega, by go_num, HB.out, HS.out⟩
        case measure => simp [intOf]; omega
      · have hne : ((m : Int) != (n : Int)) = true := by simp; omega
        have HS := Lib.hid (sqB_false1 (F := F) hkl (by
          rcases e : isRen (n : Int) (F k) with _ | _
          · rfl
          · have := isRen_len e; omega))
        clear hm hmn
        go_wp2
        go_ret
        rw [HS.out]
        exact RV_of rfl HB.out
    · have e : k = n := by omega
      subst e
      clear hkl hk
      obtain ⟨W1, rfl⟩ : ∃ W1, W1 = wr := ⟨_, rfl⟩
      have hw1 : IntKind.i64.wrap ((k : Int) - 1) = (k : Int) - 1 := IntWalk.i64_in _ (by omega)
      have hu : IntKind.u64.wrap (k : Int) = (k : Int) := (wrap_pow0 (t := (k : Int)) (by omega) (by omega)).2
      have hp2 : IntKind.i64.wrap (2 ^ k) = ((2 ^ k : Nat) : Int) := by have := (wrap_pow0 (t := (k : Int)) (by omega) (by omega)).1; simpa using this
      go_wp2_with fail
      go_loopw [5] (fun i wr => ∃ x : Nat, x ≤ k ∧ i = .int .i64 x ∧ Below W0.heap.size W0 wr ∧ rowsOk k x F = true ∧ colsOk k x F = true) (fun i _ => k - (intOf i).toNat)
      case atStart => exact ⟨0, Nat.zero_le _, rfl, HB.out, rfl, rfl⟩
      case round =>
        obtain ⟨x, hx, rfl, hB, hro, hco⟩ := hrel
        have HBx := Lib.hid hB
        have HRO := Lib.hid hro
        have HCO := Lib.hid hco
        have hzx := hB.size
        clear hB hro hco
        by_cases hxl : x < k
        · obtain ⟨W2, rfl⟩ : ∃ W2, W2 = wr := ⟨_, rfl⟩
          go_wp2_with fail
          go_loopw [6, 7, 8] (fun r cc i wr => ∃ y : Nat, y ≤ k ∧ i = .int .i64 y ∧ Below W0.heap.size W0 wr ∧ r = .int .i64 (msk ((F x).take y) : Int) ∧ cc = .int .i64 (msk (colK F x y) : Int) ∧ (∀ d ∈ (F x).take y, 0 ≤ d ∧ d < (k : Int)) ∧ (∀ d ∈ colK F x y, 0 ≤ d ∧ d < (k : Int))) (fun _ _ i _ => k - (intOf i).toNat)
          case atStart => exact ⟨0, Nat.zero_le _, rfl, HBx.out, by rw [List.take_zero]; rfl, rfl, by simp, by simp [colK]⟩
          case round =>
            obtain ⟨y, hy, rfl, hB, rfl, rfl, hrr, hcr⟩ := hrel
            have HBy := Lib.hid hB
            have HRR := Lib.hid hrr
            have HCR := Lib.hid hcr
            have hzy := hB.size
            clear hB hrr hcr
            by_cases hyl : y < k
            · obtain ⟨b, off, a1, c1, rfl, hlt, hc1, hi1⟩ := HROW.out x hxl
              obtain ⟨b0, off0, a2, c2, e0, hlt0, hc2, hi2⟩ := HROW.out y hyl
              simp at e0
              obtain ⟨rfl, rfl⟩ := e0
              have l1 := HL.out x hxl
              have l2 := HL.out y hyl
              obtain ⟨bx, ox, rfl, _, hltx, hr1⟩ := hi1.pos (by omega)
              obtain ⟨by', oy, rfl, _, hlty, hr2⟩ := hi2.pos (by omega)
              rw [l1] at hc1
              rw [l2] at hc2
              have q1 := (HBy.out.cell (p := ⟨b, off + x, none⟩) hlt).trans hc1
              have q2 := (HBy.out.cell (p := ⟨b, off + y, none⟩) hlt).trans hc2
              have z1 := (HBy.out.cell (p := ⟨bx, ox + y, none⟩) hltx).trans (hr1 y (by omega))
              have z2 := (HBy.out.cell (p := ⟨by', oy + x, none⟩) hlty).trans (hr2 x (by omega))
              have hT1 := take_nx (l := F x) (k := y) (by omega)
              have hT2 := colK_succ F x y
              have hm1 : (F x)[y]?.getD 0 ∈ F x := by
                rw [List.getElem?_eq_getElem (by omega), Option.getD_some]
                exact List.getElem_mem _
              have hm2 : (F y)[x]?.getD 0 ∈ col k F x := List.mem_map.2 ⟨y, List.mem_range.2 hyl, rfl⟩
              obtain ⟨d1, hd1⟩ : ∃ d, d = (F x)[y]?.getD 0 := ⟨_, rfl⟩
              obtain ⟨d2, hd2⟩ : ∃ d, d = (F y)[x]?.getD 0 := ⟨_, rfl⟩
              rw [← hd1] at z1 hT1 hm1
              rw [← hd2] at z2 hT2 hm2
              have HT1 := Lib.hid hT1
              have HT2 := Lib.hid hT2
              have HM1 := Lib.hid hm1
              have HM2 := Lib.hid hm2
              have g0 : (0 : Int) ≤ (x : Int) := by omega
              have g1 : (x : Int) < (k : Int) := by omega
              have g2 : (0 : Int) ≤ (y : Int) := by omega
              have g3 : (y : Int) < (k : Int) := by omega
              clear hc1 hc2 hi1 hi2 hr1 hr2 hT1 hT2 hm1 hm2 hd1 hd2 l1 l2
              by_cases r1 : 0 ≤ d1 ∧ d1 < (k : Int)
              case neg =>
                have hb1 : (decide (0 ≤ d1) && decide (d1 ≤ (k : Int) - 1)) = false := by simp; omega
                have HS := Lib.hid (sqB_false1 hxl (isRen_out HM1.out r1))
                clear r1
                go_wp2_with fail
                refine (HIN.out _ _ _ _).mono ?_
                rintro e w3 ⟨rfl, rfl⟩
                go_wp2
                go_ret
                rw [HS.out]
                exact RV_of rfl HBy.out
              have hb1a : decide (0 ≤ d1) = true := by simp; omega
              have hb1b : decide (d1 ≤ (k : Int) - 1) = true := by simp; omega
              by_cases r2 : 0 ≤ d2 ∧ d2 < (k : Int)
              case neg =>
                have hb2 : (decide (0 ≤ d2) && decide (d2 ≤ (k : Int) - 1)) = false := by simp; omega
                have HS := Lib.hid (sqB_false2 hxl (isRen_out HM2.out r2))
                clear r1 r2
                go_wp2_with fail
                refine (HIN.out _ _ _ _).mono ?_
                rintro e w3 ⟨rfl, rfl⟩
                go_wp2_with fail
                refine (HIN.out _ _ _ _).mono ?_
                rintro e w4 ⟨rfl, rfl⟩
                go_wp2
                go_ret
                rw [HS.out]
                exact RV_of rfl HBy.out
              have hb2a : decide (0 ≤ d2) = true := by simp; omega
              have hb2b : decide (d2 ≤ (k : Int) - 1) = true := by simp; omega
              have hp1 := wrap_pow0 (t := d1) r1.1 (by omega)
              have hp2' := wrap_pow0 (t := d2) r2.1 (by omega)
              have ho1 := bit_or (L := (F x).take y) (fun d hd => by have := HRR.out d hd; omega) r1.1 (by omega)
              have ho2 := bit_or (L := colK F x y) (fun d hd => by have := HCR.out d hd; omega) r2.1 (by omega)
              rw [← HT1.out] at ho1
              rw [← HT2.out] at ho2
              obtain ⟨P1, hP1⟩ : ∃ P : Nat, P = 2 ^ d1.toNat := ⟨_, rfl⟩
              obtain ⟨P2, hP2⟩ : ∃ P : Nat, P = 2 ^ d2.toNat := ⟨_, rfl⟩
              obtain ⟨U1, hU1⟩ : ∃ U : Int, U = (msk ((F x).take y) : Int) := ⟨_, rfl⟩
              obtain ⟨U2, hU2⟩ : ∃ U : Int, U = (msk (colK F x y) : Int) := ⟨_, rfl⟩
              rw [← hU1, ← hP1] at ho1
              rw [← hU2, ← hP2] at ho2
              rw [← hP1] at hp1
              rw [← hP2] at hp2'
              rw [← hU1, ← hU2]
              have HR1 := Lib.hid r1
              have HR2 := Lib.hid r2
              have d10 := r1.1
              have d20 := r2.1
              have d14 : d1 ≤ 7 := by omega
              have d24 : d2 ≤ 7 := by omega
              clear hP1 hP2 hU1 hU2 r1 r2
              go_wp2_with fail
              refine (HIN.out _ _ _ _).mono ?_
              rintro e w3 ⟨rfl, rfl⟩
              go_wp2_with fail
              refine (HIN.out _ _ _ _).mono ?_
              rintro e w4 ⟨rfl, rfl⟩
              go_wp2_with fail
              go_roundw
              case rel =>
                refine ⟨y + 1, by omega, by go_num, HBy.out, by rw [← ho1], by rw [← ho2], fun d hd => ?_, fun d hd => ?_⟩
                · rw [HT1.out, List.mem_append, List.mem_singleton] at hd
                  rcases hd with hd | rfl
                  · exact HRR.out d hd
                  · exact HR1.out
                · rw [HT2.out, List.mem_append, List.mem_singleton] at hd
                  rcases hd with hd | rfl
                  · exact HCR.out d hd
                  · exact HR2.out
              case measure => simp [intOf]; omega
            · have e : y = k := by omega
              subst e
              have l1 := HL.out x hxl
              have hF := isRen_msk l1 (fun d hd => HRR.out d (by rw [List.take_of_length_le (by omega)]; exact hd))
              have hC := isRen_msk (col_len y F x) HCR.out
              rw [colK_col] at HCR ⊢
              rw [List.take_of_length_le (by omega)] at HRR ⊢
              obtain ⟨U1, hU1⟩ : ∃ U, U = msk (F x) := ⟨_, rfl⟩
              obtain ⟨U2, hU2⟩ : ∃ U, U = msk (col y F x) := ⟨_, rfl⟩
              rw [← hU1] at hF ⊢
              rw [← hU2] at hC ⊢
              obtain ⟨P, hP⟩ : ∃ P : Nat, P = 2 ^ y := ⟨_, rfl⟩
              rw [← hP] at hp2 hF hC
              have hP1 : 1 ≤ P := by rw [hP]; exact Nat.one_le_two_pow
              have hP5 : P ≤ 32 := by rw [hP]; exact Nat.pow_le_pow_right (by decide) h5
              have hw2 : IntKind.i64.wrap ((P : Int) - 1) = (P : Int) - 1 := IntWalk.i64_in _ (by omega)
              clear hU1 hU2 hP l1
              by_cases t1 : U1 = P - 1
              case neg =>
                have hne : ((U1 : Int) != (P : Int) - 1) = true := by simp; omega
                have HS := Lib.hid (sqB_false1 hxl (by rw [hF]; simpa using t1))
                clear hF hC t1
                go_wp2
                go_ret
                rw [HS.out]
                exact RV_of rfl HBy.out
              have hne : ((U1 : Int) != (P : Int) - 1) = false := by simp; omega
              by_cases t2 : U2 = P - 1
              case neg =>
                have hne2 : ((U2 : Int) != (P : Int) - 1) = true := by simp; omega
                have HS := Lib.hid (sqB_false2 hxl (by rw [hC]; simpa using t2))
                clear hF hC t1 t2
                go_wp2
                go_ret
                rw [HS.out]
                exact RV_of rfl HBy.out
              have hne2 : ((U2 : Int) != (P : Int) - 1) = false := by simp; omega
              have HS1 := Lib.hid (show rowsOk y (x + 1) F = true by rw [rowsOk_succ, HRO.out, hF]; simpa using t1)
              have HS2 := Lib.hid (show colsOk y (x + 1) F = true by rw [colsOk_succ, HCO.out, hC]; simpa using t2)
              clear hF hC t1 t2
              go_wp2_with fail
              go_roundw
              case rel => exact ⟨x + 1, by omega, by go_num, HBy.out, HS1.out, HS2.out⟩
              case measure => simp [intOf]; omega
        · have e : x = k := by omega
          subst e
          have HS := Lib.hid (show sqB x F = true by rw [HG.out, HRO.out, HCO.out]; rfl)
          go_wp2
          go_ret
          rw [HS.out]
          exact RV_of rfl HBx.out
end Go.Proofs.Ytlhiokcdjnmfmaa

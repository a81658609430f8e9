
/- The model's small functions on blocks. -/
import Derived.Test.YtlchcnngikgjjaaIsSys
namespace Go.Proofs.Ytlchcnngikgjjaa
open Go.RowKit Go.Maps
theorem l01In_any (n lo hi : Int) (w : World) : Calls Try.prog 102 #[.int .i64 n, .int .i64 lo, .int .i64 hi] w (RS (.bool (decide (lo ≤ n) && decide (n ≤ hi))) w) := by
  go_enter Try.func102, Try.ntmps102
  go_wp2
  all_goals go_ret
  all_goals refine RS_of (bool_eq ?_)
  all_goals (simp; omega)
theorem l01Good_any (v : Int) (x : Blk) (w : World) : Calls Try.prog 114 #[.int .i64 v, bv x] w (RV (.bool (goodB v x)) w) := by
  obtain ⟨a, b, c⟩ := x
  unfold bv
  dsimp only
  go_enter Try.func114, Try.ntmps114
  go_wp2
  all_goals go_ret
  all_goals refine RV_of (bool_eq ?_) ((Below.refl _ _).alloc (Nat.le_refl _) _)
  all_goals (simp [goodB]; omega)

set_option maxRecDepth 100000 in
theorem l01Before_any (x y : Blk) (w : World) : Calls Try.prog 165 #[bv x, bv y] w (RV (.bool (befB x y)) w) := by
  obtain ⟨a, b, c⟩ := x
  obtain ⟨d, e, f⟩ := y
  unfold bv
  dsimp only
  by_cases h1 : a = d
  · subst h1
    by_cases h2 : b = e
    · subst h2
      by_cases h3 : c = f
      · subst h3
        go_enter Try.func165, Try.ntmps165
        go_wp2
        refine wp_loop_rounds 4 ?_
        rw [rounds_succ]
        go_wp2
        go_quiet (fail)
        go_wp2
        rw [rounds_succ]
        go_wp2
        go_quiet (fail)
        go_wp2
        rw [rounds_succ]
        go_wp2
        go_quiet (fail)
        go_wp2
        rw [rounds_succ]
        go_wp2
        go_ret
        exact RV_of (bool_eq (by simp [befB])) (by repeat (first | exact Below.refl _ _ | refine below_drewN ?_ _ | refine Below.alloc ?_ (by first | exact Nat.le_refl _ | simp) _))
      · have hn : (c != f) = true := by simp [h3]
        clear h3
        go_enter Try.func165, Try.ntmps165
        go_wp2
        refine wp_loop_rounds 4 ?_
        rw [rounds_succ]
        go_wp2
        go_quiet (fail)
        go_wp2
        rw [rounds_succ]
        go_wp2
        go_quiet (fail)
        go_wp2
        rw [rounds_succ]
        go_wp2
        go_quiet (fail)
        go_wp2
        go_quiet (fail)
        go_wp2
        go_ret
        exact RV_of (bool_eq (by simp [befB])) (by repeat (first | exact Below.refl _ _ | refine below_drewN ?_ _ | refine Below.alloc ?_ (by first | exact Nat.le_refl _ | simp) _))
    · have hn : (b != e) = true := by simp [h2]
      have H2 := Lib.hid h2
      clear h2
      go_enter Try.func165, Try.ntmps165
      go_wp2
      refine wp_loop_rounds 4 ?_
      rw [rounds_succ]
      go_wp2
      go_quiet (fail)
      go_wp2
      rw [rounds_succ]
      go_wp2
      go_quiet (fail)
      go_wp2
      go_quiet (fail)
      go_wp2
      go_ret
      exact RV_of (bool_eq (by simp [befB, H2.out])) (by repeat (first | exact Below.refl _ _ | refine below_drewN ?_ _ | refine Below.alloc ?_ (by first | exact Nat.le_refl _ | simp) _))
  · have hn : (a != d) = true := by simp [h1]
    have H1 := Lib.hid h1
    clear h1
    go_enter Try.func165, Try.ntmps165
    go_wp2
    refine wp_loop_rounds 4 ?_
    rw [rounds_succ]
    go_wp2
    go_quiet (fail)
    go_wp2
    go_quiet (fail)
    go_wp2
    go_ret
    exact RV_of (bool_eq (by simp [befB, H1.out])) (by repeat (first | exact Below.refl _ _ | refine below_drewN ?_ _ | refine Below.alloc ?_ (by first | exact Nat.le_refl _ | simp) _))
/-- How often a number stands in a list. -/
def cntL (x : Int) : List Int → Int
  | [] => 0
  | y :: r => (if x = y then 1 else 0) + cntL x r
def cntLL (ys : List Int) : List Int → Int
  | [] => 0
  | x :: r => cntL x ys + cntLL ys r
theorem cntL_snoc (x y : Int) : ∀ l : List Int, cntL x (l ++ [y]) = cntL x l + if x = y then 1 else 0
  | [] => by simp [cntL]
  | z :: r => by simp [cntL, cntL_snoc x y r]; omega
theorem cntLL_snoc (ys : List Int) (x : Int) : ∀ l : List Int, cntLL ys (l ++ [x]) = cntLL ys l + cntL x ys
  | [] => by simp [cntLL]
  | z :: r => by simp [cntLL, cntLL_snoc ys x r]; omega
theorem cntL_le (x : Int) : ∀ l : List Int, 0 ≤ cntL x l ∧ cntL x l ≤ l.length
  | [] => by simp [cntL]
  | y :: r => by have := cntL_le x r; simp only [cntL, List.length_cons]; split <;> omega
theorem cntLL_le (ys : List Int) : ∀ l : List Int, 0 ≤ cntLL ys l ∧ cntLL ys l ≤ ys.length * l.length
  | [] => by simp [cntLL]
  | x :: r => by
    have h := cntLL_le ys r
    have h2 := cntL_le x ys
    simp only [cntLL, List.length_cons, Int.natCast_add, Int.mul_add]
    omega
theorem cntLL_common (x y : Blk) : cntLL [y.a, y.b, y.c] [x.a, x.b, x.c] = commonN x y := by
  have e : ∀ p q : Int, (if p = q then 1 else 0 : Int) = eq1 p q := fun p q => by unfold eq1; split <;> rfl
  simp only [cntLL, cntL, commonN, e]
  omega
theorem take_next {α : Type} {l : List α} {k : Nat} (h : k < l.length) : l.take (k + 1) = l.take k ++ [l[k]] := by rw [List.take_succ_eq_append_getElem h]

set_option maxRecDepth 100000 in
theorem l01Common_any (x y : Blk) (w : World) : Calls Try.prog 173 #[bv x, bv y] w (RV (.int .i64 (commonN x y)) w) := by
  rw [← cntLL_common]
  obtain ⟨xs, hxs⟩ : ∃ xs, xs = [x.a, x.b, x.c] := ⟨_, rfl⟩
  obtain ⟨ys, hys⟩ : ∃ ys, ys = [y.a, y.b, y.c] := ⟨_, rfl⟩
  have hI1 : ∀ w b, w.cell? ⟨b, 0, none⟩ = some (.int .i64 x.a) → w.cell? ⟨b, 1, none⟩ = some (.int .i64 x.b) → w.cell? ⟨b, 2, none⟩ = some (.int .i64 x.c) → Ints w b 0 xs := fun w b h1 h2 h3 => hxs ▸ ints3 h1 h2 h3
  have hI2 : ∀ w b, w.cell? ⟨b, 0, none⟩ = some (.int .i64 y.a) → w.cell? ⟨b, 1, none⟩ = some (.int .i64 y.b) → w.cell? ⟨b, 2, none⟩ = some (.int .i64 y.c) → Ints w b 0 ys := fun w b h1 h2 h3 => hys ▸ ints3 h1 h2 h3
  have hl1 : xs.length = 3 := by rw [hxs]; rfl
  have hl2 : ys.length = 3 := by rw [hys]; rfl
  rw [← hxs, ← hys]
  have H1 := Lib.hid hI1
  have H2 := Lib.hid hI2
  have L1 := Lib.hid hl1
  have L2 := Lib.hid hl2
  clear hI1 hI2 hl1 hl2 hxs hys
  obtain ⟨a, b, c⟩ := x
  obtain ⟨d, e, f⟩ := y
  unfold bv
  dsimp only
  go_enter Try.func173, Try.ntmps173
  go_wp2
  have J1 := Lib.hid (H1.out ((w.alloc (.cells #[.int .i64 a, .int .i64 b, .int .i64 c] 62)).alloc (.cells #[.int .i64 d, .int .i64 e, .int .i64 f] 62)) w.heap.size (by simp) (by simp) (by simp))
  have J2 := Lib.hid (H2.out ((w.alloc (.cells #[.int .i64 a, .int .i64 b, .int .i64 c] 62)).alloc (.cells #[.int .i64 d, .int .i64 e, .int .i64 f] 62)) (w.heap.size + 1) (by simp) (by simp) (by simp))
  obtain ⟨W, hW⟩ : ∃ W, W = (w.alloc (.cells #[.int .i64 a, .int .i64 b, .int .i64 c] 62)).alloc (.cells #[.int .i64 d, .int .i64 e, .int .i64 f] 62) := ⟨_, rfl⟩
  have hB : Below w.heap.size w W := by rw [hW]; exact ((Below.refl _ _).alloc (Nat.le_refl _) _).alloc (by simp) _
  rw [← hW] at J1 J2 ⊢
  clear hW
  go_loopw [5, 6] (fun n i wr => ∃ k : Nat, k ≤ 3 ∧ i = .int .i64 k ∧ n = .int .i64 (cntLL ys (xs.take k)) ∧ ∃ m, wr = W.drewN m) (fun _ i _ => 3 - (intOf i).toNat)
  case atStart => exact ⟨0, Nat.zero_le _, rfl, rfl, 0, rfl⟩
  case round =>
    obtain ⟨k, hk, rfl, rfl, m, rfl⟩ := hrel
    by_cases hkl : k < 3
    · go_wp2
      go_loopw [5, 7] (fun n i wr => ∃ j : Nat, j ≤ 3 ∧ i = .int .i64 j ∧ n = .int .i64 (cntLL ys (xs.take k) + cntL (xs[k]?.getD 0) (ys.take j)) ∧ ∃ m, wr = W.drewN m) (fun _ i _ => 3 - (intOf i).toNat)
      case atStart => exact ⟨0, Nat.zero_le _, rfl, by simp [cntL], m, rfl⟩
      case round =>
        obtain ⟨j, hj, rfl, rfl, m2, rfl⟩ := hrel
        obtain ⟨x, hx⟩ : ∃ x, x = xs[k]?.getD 0 := ⟨_, rfl⟩
        have c1 : W.cell? ⟨w.heap.size, k, none⟩ = some (.int .i64 x) := by
          have := J1.out k (by rw [L1.out]; omega)
          rw [Nat.zero_add] at this
          rw [hx]
          exact this
        rw [← hx]
        have HX := Lib.hid hx
        clear hx
        have g0 : (0 : Int) ≤ (k : Int) := by omega
        have g1 : (k : Int) < 3 := by omega
        have b1 := cntLL_le ys (xs.take k)
        have b2 := cntL_le x (ys.take j)
        have b3 : (ys.length : Int) * ((xs.take k).length : Int) ≤ 9 := by
          rw [L2.out, List.length_take, L1.out]
          omega
        have b4 : (((ys.take j).length : Nat) : Int) ≤ 3 := by rw [List.length_take, L2.out]; omega
        obtain ⟨n, hn⟩ : ∃ n, n = cntLL ys (xs.take k) + cntL x (ys.take j) := ⟨_, rfl⟩
        rw [← hn]
        have bn : 0 ≤ n ∧ n ≤ 12 := by omega
        obtain ⟨bn1, bn2⟩ := bn
        have HNN := Lib.hid hn
        clear hn b1 b2 b3 b4
        by_cases hjl : j < 3
        · obtain ⟨y, hy⟩ : ∃ y, y = ys[j]?.getD 0 := ⟨_, rfl⟩
          have c2 : W.cell? ⟨w.heap.size + 1, j, none⟩ = some (.int .i64 y) := by
            have := J2.out j (by rw [L2.out]; omega)
            rw [Nat.zero_add] at this
            rw [hy]
            exact this
          have g2 : (0 : Int) ≤ (j : Int) := by omega
          have g3 : (j : Int) < 3 := by omega
          have e1 : ys.take (j + 1) = ys.take j ++ [y] := by
            have := take_next (show j < ys.length by rw [L2.out]; exact hjl)
            rw [this, hy]
            simp [L2.out, hjl]
          have E1 := Lib.hid e1
          clear e1 hy
          by_cases hxy : x = y
          · have q : (x == y) = true := by simp [hxy]
            have QX := Lib.hid hxy
            clear hxy
            go_wp2
            go_quiet (fail)
            go_wp2
            go_roundw
            case rel => exact ⟨j + 1, by omega, by go_num, int_eq (by rw [HNN.out, E1.out, cntL_snoc, if_pos QX.out]; omega), _, rfl⟩
            case measure => simp [intOf]; omega
          · have q : (x == y) = false := by simp [hxy]
            have QX := Lib.hid hxy
            clear hxy
            go_wp2
            go_quiet (fail)
            go_wp2
            go_roundw
            case rel => exact ⟨j + 1, by omega, by go_num, int_eq (by rw [HNN.out, E1.out, cntL_snoc, if_neg QX.out]; omega), _, rfl⟩
            case measure => simp [intOf]; omega
        · go_wp2
          go_roundw
          case rel => exact ⟨k + 1, by omega, by go_num, int_eq (by
            have hk3 : k < xs.length := by rw [L1.out]; exact hkl
            have hx2 : x = xs[k] := by rw [HX.out]; simp [hk3]
            rw [HNN.out, take_next hk3, cntLL_snoc, List.take_of_length_le (l := ys) (by rw [L2.out]; omega), hx2]), _, rfl⟩
          case measure => simp [intOf]; omega
    · go_wp2
      go_ret
      exact RV_of (int_eq (by rw [List.take_of_length_le (by rw [L1.out]; omega)])) (below_drewN hB _)
end Go.Proofs.Ytlchcnngikgjjaa

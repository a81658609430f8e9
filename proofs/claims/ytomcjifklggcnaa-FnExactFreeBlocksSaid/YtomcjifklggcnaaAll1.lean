/- The iterator over all blocks of v points. -/
import Derived.Test.YtomcjifklggcnaaSeq2
namespace Go.Proofs.Ytomcjifklggcnaa
open Go.RowKit Go.Maps Go.Shelf
attribute [local go_sem] Oper.semAt_some
def rowC (a b n : Nat) : List Blk := (List.range n).map fun (t : Nat) => ⟨(a : Int), (b : Int), ((b + 1 + t : Nat) : Int)⟩
def rowB (v a n : Nat) : List Blk := (List.range n).flatMap fun (t : Nat) => rowC a (a + 1 + t) (v - (a + 1 + t + 1))
def rowA (v n : Nat) : List Blk := (List.range n).flatMap fun (t : Nat) => rowB v t (v - (t + 1))
theorem rowC_succ (a b n : Nat) : rowC a b (n + 1) = rowC a b n ++ [⟨(a : Int), (b : Int), ((b + 1 + n : Nat) : Int)⟩] := by simp [rowC, List.range_succ]
theorem rowB_succ (v a n : Nat) : rowB v a (n + 1) = rowB v a n ++ rowC a (a + 1 + n) (v - (a + 1 + n + 1)) := by simp [rowB, List.range_succ]
theorem rowA_succ (v n : Nat) : rowA v (n + 1) = rowA v n ++ rowB v n (v - (n + 1)) := by simp [rowA, List.range_succ]
theorem allBlocks_any (v : Int) (w : World) : Calls Try.prog 98 #[.int .i64 v] w fun e w' =>
    e = .returned (.func (.func 116) #[] #[.pointer (some ⟨w.heap.size, 0, none⟩)]) ∧ w' = w.alloc (.cells #[.int .i64 v] 2) := by
  go_enter Try.func98, Try.ntmps98
  go_wp2
  go_ret
  exact ⟨rfl, rfl⟩
theorem wf_small {a : Nat} (h : a ≤ 15) : WF (a : Int) := by
  have : (a : Int) = wrap64 (a : Int) := by unfold wrap64; omega
  unfold WF
  rw [this]
  exact wrap64_wf _
theorem wfb_small {a b c : Nat} (ha : a ≤ 15) (hb : b ≤ 15) (hc : c ≤ 15) : WFB ⟨(a : Int), (b : Int), (c : Int)⟩ := ⟨wf_small ha, wf_small hb, wf_small hc⟩
set_option maxRecDepth 100000 in
set_option maxHeartbeats 2000000 in
theorem all1_in (n : Nat) (_hn : 1 ≤ n) (l Bp n₀ v N : Nat) (hv : v ≤ 15) (J Jx : List Blk → World → Prop) (W : World)
    (hN : ∀ a b c, a < v → b ≤ v → c ≤ v → (rowA v a ++ rowB v a (b - (a + 1)) ++ rowC a b (c - (b + 1))).length ≤ N)
    (hY : ∀ pre x W1, WFB x → J pre W1 → pre.length ≤ N → YieldAt Fence.wide (n - 1) Try.prog l #[bv x] W1 fun e W' =>
      (e = .returned (.bool true) ∧ J (pre ++ [x]) W' ∧ KpB n₀ Bp W1 W') ∨ (e = .returned (.bool false) ∧ Jx (pre ++ [x]) W'))
    (hp : W.cell? ⟨Bp, 0, none⟩ = some (.int .i64 (v : Int))) (h0 : J [] W) :
    CallsIn Fence.wide n Try.prog 116 #[.func (.yield l) #[] #[], .pointer (some ⟨Bp, 0, none⟩)] W fun e W' => (∃ v, e = .returned v) ∧
      ((∃ ys, ys = rowA v v ∧ J ys W') ∨ (∃ pre, True ∧ Jx pre W')) := by
  have hro : Fence.wide.round = none := rfl
  refine callsIn_of_wp Try.func116 rfl trivial ?_ hro
  simp only [Try.ntmps116, List.size_toArray, List.length_cons, List.length_nil, Nat.reduceAdd, Nat.reduceSub, Array.replicate_succ, Array.replicate_zero, List.push_toArray, List.append_toArray, List.nil_append, List.cons_append]
  gi_wp2
  gi_loopw [7] (fun i wr => ∃ a : Nat, a ≤ v ∧ i = .int .i64 a ∧ J (rowA v a) wr ∧ KpB n₀ Bp W wr) (fun i _ => v - (intOf i).toNat)
  case atStart => exact ⟨0, Nat.zero_le _, rfl, h0, KpB.refl _ _ _⟩
  case round =>
    obtain ⟨a, ha, rfl, hJa, hKa⟩ := hrel
    by_cases hav : a < v
    · gi_wp2
      gi_loopw [4] (fun i wr => ∃ b : Nat, a + 1 ≤ b ∧ b ≤ v ∧ i = .int .i64 b ∧ J (rowA v a ++ rowB v a (b - (a + 1))) wr ∧ KpB n₀ Bp W wr) (fun i _ => v - (intOf i).toNat)
      case atStart => exact ⟨a + 1, Nat.le_refl _, by omega, int_eq (by omega), by simpa [rowB] using hJa, hKa⟩
      case round =>
        obtain ⟨b, hab, hb, rfl, hJb, hKb⟩ := hrel
        have hcb := hKb.2 _ hp
        by_cases hbv : b < v
        · gi_wp2
          gi_loopw [5] (fun i wr => ∃ c : Nat, b + 1 ≤ c ∧ c ≤ v ∧ i = .int .i64 c ∧ J (rowA v a ++ rowB v a (b - (a + 1)) ++ rowC a b (c - (b + 1))) wr ∧ KpB n₀ Bp W wr) (fun i _ => v - (intOf i).toNat)
          case atStart => exact ⟨b + 1, Nat.le_refl _, by omega, int_eq (by omega), by simpa [rowC] using hJb, hKb⟩
          case round =>
            obtain ⟨c, hbc, hc, rfl, hJc, hKc⟩ := hrel
            have hcc := hKc.2 _ hp
            by_cases hcv : c < v
            · obtain ⟨fn, tmps, assign, body, hy, hR⟩ := hY _ ⟨(a : Int), (b : Int), (c : Int)⟩ _ (wfb_small (by omega) (by omega) (by omega)) hJc (hN a b c hav (by omega) (by omega))
              dsimp only [bv] at hy
              gi_wp2
              refine hR.mono ?_
              rintro e W3 (⟨rfl, hJ3, hk3⟩ | ⟨rfl, hJx3⟩)
              · gi_wp2
                go_roundw
                case rel => exact ⟨c + 1, by omega, by omega, by simp, by rw [show c + 1 - (b + 1) = (c - (b + 1)) + 1 by omega, rowC_succ, ← List.append_assoc, show b + 1 + (c - (b + 1)) = c by omega]; exact hJ3, hKc.trans hk3⟩
                case measure => simp [intOf]; omega
              · gi_wp2
                refine bodyPost_ret (results_none rfl _ _ _) rfl ?_
                exact ⟨⟨_, rfl⟩, .inr ⟨_, trivial, hJx3⟩⟩
            · obtain rfl : c = v := by omega
              gi_wp2
              go_roundw
              case rel => exact ⟨b + 1, by omega, by omega, by simp, by rw [show b + 1 - (a + 1) = (b - (a + 1)) + 1 by omega, rowB_succ, ← List.append_assoc, show a + 1 + (b - (a + 1)) = b by omega]; exact hJc, hKc⟩
              case measure => simp [intOf]; omega
        · obtain rfl : b = v := by omega
          gi_wp2
          go_roundw
          case rel => exact ⟨a + 1, by omega, by simp, by rw [rowA_succ]; exact hJb, hKb⟩
          case measure => simp [intOf]; omega
    · obtain rfl : a = v := by omega
      gi_wp2
      go_end0
      exact ⟨⟨_, rfl⟩, .inl ⟨_, rfl, hJa⟩⟩
theorem flat_len {α : Type} (f : Nat → List α) (m : Nat) : ∀ n : Nat, (∀ t, t < n → (f t).length ≤ m) → ((List.range n).flatMap f).length ≤ n * m
  | 0, _ => by simp
  | n + 1, h => by
    have ih := flat_len f m n (fun t ht => h t (by omega))
    have h1 := h n (by omega)
    rw [List.range_succ, List.flatMap_append, List.length_append, Nat.succ_mul, List.flatMap_cons, List.flatMap_nil, List.append_nil]
    omega
theorem rowC_len (a b n : Nat) : (rowC a b n).length = n := by simp [rowC]
theorem rowB_len {v a n : Nat} (hv : v ≤ 15) : (rowB v a n).length ≤ n * 15 := flat_len _ 15 n fun t _ => by rw [rowC_len]; omega
theorem rowA_len {v n : Nat} (hv : v ≤ 15) : (rowA v n).length ≤ n * 225 := flat_len _ 225 n fun t _ => by
  have := rowB_len (v := v) (a := t) (n := v - (t + 1)) hv
  omega
/-- A block of three int64. -/
abbrev WB := { x : Blk // WFB x }
theorem all_stops (n : Nat) (hn : 1 ≤ n) (Bp v : Nat) (hv : v ≤ 15) (n₀ : Nat) (w : World) (hp : w.cell? ⟨Bp, 0, none⟩ = some (.int .i64 (v : Int))) (hBp : Bp < w.heap.size) :
    SeqStopsK Fence.wide n Try.prog 116 #[.pointer (some ⟨Bp, 0, none⟩)] (fun x : WB => #[bv x.1]) (KpB n₀ Bp) (fun ys => ys.map (·.1) = rowA v v) (fun _ => True) 4000 w := fun l J Jx W hW _ _ hY h0 => by
  refine (all1_in n hn l Bp n₀ v 3999 hv (fun pre W => ∃ q : List WB, q.map (·.1) = pre ∧ J q W) (fun pre W => ∃ q : List WB, q.map (·.1) = pre ∧ Jx q W) W (fun a b c ha hb hc => ?_) (fun pre x W1 hwf hj hl => ?_) ((hW.cell (p := ⟨Bp, 0, none⟩) hBp).trans hp) ⟨[], rfl, h0⟩).mono ?_
  · have h1 := rowA_len (v := v) (n := a) hv
    have h2 := rowB_len (v := v) (a := a) (n := b - (a + 1)) hv
    have h3 := rowC_len a b (c - (b + 1))
    simp only [List.length_append]
    omega
  · obtain ⟨q, rfl, hj⟩ := hj
    rw [List.length_map] at hl
    obtain ⟨fn, tmps, assign, body, hy, hR⟩ := hY q ⟨x, hwf⟩ W1 hj (by omega)
    refine ⟨fn, tmps, assign, body, hy, hR.mono ?_⟩
    rintro e W' (⟨rfl, h1, h2⟩ | ⟨rfl, h1⟩)
    · exact .inl ⟨rfl, ⟨_, by rw [List.map_append]; rfl, h1⟩, h2⟩
    · exact .inr ⟨rfl, ⟨_, by rw [List.map_append]; rfl, h1⟩⟩
  · rintro e W' ⟨he, ⟨ys, rfl, q, hq, hj⟩ | ⟨pre, _, q, hq, hj⟩⟩
    · exact ⟨he, .inl ⟨q, hq, hj⟩⟩
    · exact ⟨he, .inr ⟨q, trivial, hj⟩⟩
end Go.Proofs.Ytomcjifklggcnaa

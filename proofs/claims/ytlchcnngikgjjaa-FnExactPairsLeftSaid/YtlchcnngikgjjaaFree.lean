
/- Pairs of a block, and whether a block has a pair that is taken. -/
import Derived.Test.YtlchcnngikgjjaaKeys
import Derived.Maps.OwnOps
import Derived.Maps.OwnIn
import Derived.Laws.Rows
import Derived.Deep.DeepFit
import Derived.Deep.DeepMust
import Derived.Laws.ResultCell
namespace Go.Proofs.Ytlchcnngikgjjaa
open Go.RowKit Go.Maps
def prsv (x : Blk) : Value := .agg #[.int .i64 x.a, .int .i64 x.b, .int .i64 x.a, .int .i64 x.c, .int .i64 x.b, .int .i64 x.c]
theorem pairsOf_any (x : Blk) (w : World) : Calls Try.prog 174 #[bv x] w (RV (prsv x) w) := by
  obtain ⟨a, b, c⟩ := x
  unfold bv
  dsimp only
  go_enter Try.func174, Try.ntmps174
  go_wp2
  exact bodyPost_ret (v := prsv ⟨a, b, c⟩) (by simp [results, Try.results174, go_sem, prsv]) rfl ⟨rfl, ((Below.refl _ _).alloc (Nat.le_refl _) _).alloc (by simp) _⟩

theorem zeroBool (w : World) : (zeroValue 4).run Try.prog w = .ok (.bool false) w := by kernel_rfl
def WFB (x : Blk) : Prop := WF x.a ∧ WF x.b ∧ WF x.c

set_option maxRecDepth 100000 in
theorem isBlockFree_any (mb n : Nat) (seen : List (Int × Int)) (x : Blk) (hx : WFB x) (w : World) (hS : BoolSet w Try.prog 116 4 mb n (seen.map pv)) :
    Calls Try.prog 116 #[.map (some mb), bv x] w (RV (.bool (freeB seen x)) w) := by
  obtain ⟨a, b, c⟩ := x
  obtain ⟨ha, hb, hc⟩ := hx
  obtain ⟨k1, hk1⟩ := pv_key ha hb
  obtain ⟨k2, hk2⟩ := pv_key ha hc
  obtain ⟨k3, hk3⟩ := pv_key hb hc
  have HK1 := Lib.hid hk1
  have HK2 := Lib.hid hk2
  have HK3 := Lib.hid hk3
  clear hk1 hk2 hk3 ha hb hc
  unfold bv
  dsimp only
  have i0 : ∀ w, (Instr.index 164 (.agg #[.int .i64 a, .int .i64 b, .int .i64 a, .int .i64 c, .int .i64 b, .int .i64 c]) (.int .i64 0)).run Try.prog w = .ok (.agg #[.int .i64 a, .int .i64 b]) w := fun _ => by kernel_rfl
  have i1 : ∀ w, (Instr.index 164 (.agg #[.int .i64 a, .int .i64 b, .int .i64 a, .int .i64 c, .int .i64 b, .int .i64 c]) (.int .i64 1)).run Try.prog w = .ok (.agg #[.int .i64 a, .int .i64 c]) w := fun _ => by kernel_rfl
  have i2 : ∀ w, (Instr.index 164 (.agg #[.int .i64 a, .int .i64 b, .int .i64 a, .int .i64 c, .int .i64 b, .int .i64 c]) (.int .i64 2)).run Try.prog w = .ok (.agg #[.int .i64 b, .int .i64 c]) w := fun _ => by kernel_rfl
  go_enter Try.func116, Try.ntmps116
  go_wp2_with (go_at_call 174; refine (pairsOf_any ⟨a, b, c⟩ _).mono ?_; rintro e w1 ⟨rfl, hb1⟩; unfold prsv; dsimp only)
  have hS1 : BoolSet w1 Try.prog 116 4 mb n (seen.map pv) := (hS.alloc _).below hb1 (by have := hS.lt; simp; omega)
  have hz := hb1.size
  simp at hz
  have hB := (((Below.refl w.heap.size w).alloc (Nat.le_refl _) (.cells #[.int .i64 a, .int .i64 b, .int .i64 c] 62)).trans (hb1.mono (by simp)))
  clear hb1
  have hm : ∀ (β : Bool) (p : Int × Int), Hid (β = true ↔ pv p ∈ seen.map pv) → (β = true ↔ p ∈ seen) := fun β p h => h.out.trans ⟨fun h => by obtain ⟨q, hq, e⟩ := List.mem_map.1 h; rw [← pv_inj e]; exact hq, fun h => List.mem_map.2 ⟨p, h, rfl⟩⟩
  have HM := Lib.hid hm
  clear hm
  refine wp_loop_rounds 4 ?_
  rw [rounds_succ]
  go_wp2_with (at_lookup; refine wpList_look_set _ rfl _ _ 113 rfl 116 4 pairKeyed Try.underlying113 Try.underlying4 (zeroBool _) mb n (seen.map pv) rfl (by first | exact hS1.alloc _ | exact (hS1.alloc _).alloc _ | exact ((hS1.alloc _).alloc _).alloc _) (pv (a, b)) k1 rfl HK1.out ?_; intro β1 hβ1)
  · have h1 : β1 = true := by assumption
    go_ret
    exact RV_of (bool_eq (by have := (HM.out _ _ hβ1).1 h1; simp [freeB, pairsL, this])) (hB.alloc (by omega) _)
  have h1 : β1 = false := by assumption
  have F1 := Lib.hid h1
  clear h1
  rw [rounds_succ]
  go_wp2_with (at_lookup; refine wpList_look_set _ rfl _ _ 113 rfl 116 4 pairKeyed Try.underlying113 Try.underlying4 (zeroBool _) mb n (seen.map pv) rfl (by first | exact hS1.alloc _ | exact (hS1.alloc _).alloc _ | exact ((hS1.alloc _).alloc _).alloc _) (pv (a, c)) k2 rfl HK2.out ?_; intro β2 hβ2)
  · have h2 : β2 = true := by assumption
    go_ret
    exact RV_of (bool_eq (by have := (HM.out _ _ hβ2).1 h2; simp [freeB, pairsL, this])) ((hB.alloc (by omega) _).alloc (by simp; omega) _)
  have h2 : β2 = false := by assumption
  have F2 := Lib.hid h2
  clear h2
  rw [rounds_succ]
  go_wp2_with (at_lookup; refine wpList_look_set _ rfl _ _ 113 rfl 116 4 pairKeyed Try.underlying113 Try.underlying4 (zeroBool _) mb n (seen.map pv) rfl (by first | exact hS1.alloc _ | exact (hS1.alloc _).alloc _ | exact ((hS1.alloc _).alloc _).alloc _) (pv (b, c)) k3 rfl HK3.out ?_; intro β3 hβ3)
  · have h3 : β3 = true := by assumption
    go_ret
    exact RV_of (bool_eq (by have := (HM.out _ _ hβ3).1 h3; simp [freeB, pairsL, this])) (((hB.alloc (by omega) _).alloc (by simp; omega) _).alloc (by simp; omega) _)
  have h3 : β3 = false := by assumption
  have F3 := Lib.hid h3
  clear h3
  rw [rounds_succ]
  go_wp2
  go_ret
  refine RV_of (bool_eq ?_) (((hB.alloc (by omega) _).alloc (by simp; omega) _).alloc (by simp; omega) _)
  have n1 : (a, b) ∉ seen := fun h => by have := (HM.out _ _ hβ1).2 h; rw [F1.out] at this; cases this
  have n2 : (a, c) ∉ seen := fun h => by have := (HM.out _ _ hβ2).2 h; rw [F2.out] at this; cases this
  have n3 : (b, c) ∉ seen := fun h => by have := (HM.out _ _ hβ3).2 h; rw [F3.out] at this; cases this
  simp [freeB, pairsL, n1, n2, n3]
end Go.Proofs.Ytlchcnngikgjjaa

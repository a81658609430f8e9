
/- The pairs of a list of blocks, as a map. -/
import Derived.Test.YtlchcnngikgjjaaCommon
namespace Go.Proofs.Ytlchcnngikgjjaa
open Go.RowKit Go.Maps
set_option maxRecDepth 100000 in
theorem pairsIn_any (s : Value) (bs : List Blk) (w : World) (h : SB w s bs) (hb : bs.length ≤ 100000) : Calls Try.prog 113 #[s] w fun e w' =>
    e = .returned (.map (some w.heap.size)) ∧ BoolSet w' Try.prog 116 4 w.heap.size (3 * bs.length) ((bs.flatMap pairsL).map pv) ∧ Below w.heap.size w w' := by
  have hs := h.slice
  obtain ⟨hwf, hlen, h3⟩ := h
  obtain ⟨a0, c0, rfl⟩ := hs
  have hmm := run_makeMap_hint (P := Try.prog) 113 116 4 .i64 (3 * (bs.length : Int)) Try.underlying113
  go_enter Try.func113, Try.ntmps113
  go_wp2
  go_loopw [14] (fun i wr => ∃ k : Nat, k ≤ bs.length ∧ i = .int .i64 k ∧ BoolSet wr Try.prog 116 4 w.heap.size (3 * k) (((bs.take k).flatMap pairsL).map pv) ∧ Below w.heap.size w wr) (fun i _ => bs.length - (intOf i).toNat)
  case atStart => exact ⟨0, Nat.zero_le _, rfl, BoolSet.made _ _ _ _, (Below.refl _ _).alloc (Nat.le_refl _) _⟩
  case round =>
    obtain ⟨k, hk, rfl, hS, hB⟩ := hrel
    have hsz := hB.size
    have hlt' := hS.lt
    by_cases hkl : k < bs.length
    · rcases h3 with ⟨_, _, _, hnil⟩ | ⟨b, off, cap, hval, hblt, hbl⟩
      · rw [hnil] at hkl; simp at hkl
      · simp at hval
        obtain ⟨rfl, rfl⟩ := hval
        obtain ⟨x, r, hx, e1, e2, e3, c1, c2, c3⟩ := blks_next (hbl.below hB hblt) hkl
        have E3 := Lib.hid e3
        clear e1 e2 e3 hbl
        obtain ⟨x1, x2, x3⟩ := x
        obtain ⟨g1, g2, g3⟩ := hwf _ hx
        obtain ⟨seen, hseen⟩ : ∃ l, l = (bs.take k).flatMap pairsL := ⟨_, rfl⟩
        rw [← hseen] at hS
        have HSN := Lib.hid hseen
        clear hseen hx
        obtain ⟨k1, hk1⟩ := pv_key g1 g2
        obtain ⟨k2, hk2⟩ := pv_key g1 g3
        obtain ⟨k3, hk3⟩ := pv_key g2 g3
        have HK1 := Lib.hid hk1
        have HK2 := Lib.hid hk2
        have HK3 := Lib.hid hk3
        clear hk1 hk2 hk3 g1 g2 g3
        have i0 : ∀ w, (Instr.index 164 (.agg #[.int .i64 x1, .int .i64 x2, .int .i64 x1, .int .i64 x3, .int .i64 x2, .int .i64 x3]) (.int .i64 0)).run Try.prog w = .ok (.agg #[.int .i64 x1, .int .i64 x2]) w := fun _ => by kernel_rfl
        have i1 : ∀ w, (Instr.index 164 (.agg #[.int .i64 x1, .int .i64 x2, .int .i64 x1, .int .i64 x3, .int .i64 x2, .int .i64 x3]) (.int .i64 1)).run Try.prog w = .ok (.agg #[.int .i64 x1, .int .i64 x3]) w := fun _ => by kernel_rfl
        have i2 : ∀ w, (Instr.index 164 (.agg #[.int .i64 x1, .int .i64 x2, .int .i64 x1, .int .i64 x3, .int .i64 x2, .int .i64 x3]) (.int .i64 2)).run Try.prog w = .ok (.agg #[.int .i64 x2, .int .i64 x3]) w := fun _ => by kernel_rfl
        go_wp2_with (go_at_call 174; refine (pairsOf_any ⟨x1, x2, x3⟩ _).mono ?_; rintro e w2 ⟨rfl, hb2⟩; unfold prsv; dsimp only; have hSx := (hS.alloc (.cells #[.int .i64 x1, .int .i64 x2, .int .i64 x3] 62)).below hb2 (by simp; omega); have hz2 := hb2.size; simp at hz2)
        refine wp_loop_rounds 4 ?_
        rw [rounds_succ]
        go_wp2_with (at_mapUpdate; refine wpList_put_set _ rfl _ _ _ 113 rfl 116 4 pairKeyed Try.underlying113 Try.underlying4 w.heap.size (3 * k + 0) (seen.map pv) rfl (hSx.alloc _) (by unfold maxLen; omega) (pv (x1, x2)) k1 rfl rfl HK1.out ?_; intro w3 hS3 hg3)
        rw [rounds_succ]
        go_wp2_with (at_mapUpdate; refine wpList_put_set _ rfl _ _ _ 113 rfl 116 4 pairKeyed Try.underlying113 Try.underlying4 w.heap.size (3 * k + 1) (seen.map pv ++ [pv (x1, x2)]) rfl (hS3.alloc _) (by unfold maxLen; omega) (pv (x1, x3)) k2 rfl rfl HK2.out ?_; intro w4 hS4 hg4)
        rw [rounds_succ]
        go_wp2_with (at_mapUpdate; refine wpList_put_set _ rfl _ _ _ 113 rfl 116 4 pairKeyed Try.underlying113 Try.underlying4 w.heap.size (3 * k + 2) (seen.map pv ++ [pv (x1, x2)] ++ [pv (x1, x3)]) rfl (hS4.alloc _) (by unfold maxLen; omega) (pv (x2, x3)) k3 rfl rfl HK3.out ?_; intro w5 hS5 hg5)
        rw [rounds_succ]
        go_wp2
        have hBx := hB.trans (((Below.refl _ _).alloc hsz _).trans (hb2.mono (by simp; omega)))
        have hB3 := (hBx.alloc (by omega) (.cells #[.int .i64 x1, .int .i64 x2] 116)).grown hg3 (by simp; omega) (fun j e => by cases e; exact Nat.le_refl _)
        have hB4 := (hB3.alloc hB3.size (.cells #[.int .i64 x1, .int .i64 x3] 116)).grown hg4 (by have := hB3.size; simp; omega) (fun j e => by cases e; exact Nat.le_refl _)
        have hB5 := (hB4.alloc hB4.size (.cells #[.int .i64 x2, .int .i64 x3] 116)).grown hg5 (by have := hB4.size; simp; omega) (fun j e => by cases e; exact Nat.le_refl _)
        have hfin : BoolSet w5 Try.prog 116 4 w.heap.size (3 * (k + 1)) (((bs.take (k + 1)).flatMap pairsL).map pv) := by
          rw [E3.out, List.flatMap_append, ← HSN.out]
          have e : (seen ++ [Blk.mk x1 x2 x3].flatMap pairsL).map pv = seen.map pv ++ [pv (x1, x2)] ++ [pv (x1, x3)] ++ [pv (x2, x3)] := by simp [pairsL]
          rw [e]
          exact hS5.mono (by omega)
        go_roundw
        case rel => exact ⟨k + 1, by omega, by go_num, hfin, hB5⟩
        case measure => simp [intOf]; omega
    · have e : k = bs.length := by omega
      subst e
      rw [List.take_length] at hS
      go_wp2
      go_ret
      exact ⟨rfl, hS, hB⟩
end Go.Proofs.Ytlchcnngikgjjaa


/- Whether a pair is in two of the blocks of a list. -/
import Derived.Test.YtlchcnngikgjjaaFree
namespace Go.Proofs.Ytlchcnngikgjjaa
open Go.RowKit Go.Maps
/-- The blocks lie in a row from the address on. -/
def Blks (w : World) (b off : Nat) (bs : List Blk) : Prop := ∀ k, k < bs.length →
  w.cell? ⟨b, off + k * 3, none⟩ = some (.int .i64 (bs[k]?.getD default).a) ∧ w.cell? ⟨b, off + k * 3 + 1, none⟩ = some (.int .i64 (bs[k]?.getD default).b) ∧ w.cell? ⟨b, off + k * 3 + 2, none⟩ = some (.int .i64 (bs[k]?.getD default).c)
/-- The value is a slice of just these blocks. -/
def SB (w : World) (s : Value) (bs : List Blk) : Prop :=
  (∀ x ∈ bs, WFB x) ∧ bs.length ≤ 1100000 ∧ ((∃ a c, s = .slice a 0 c ∧ bs = []) ∨ ∃ b off cap, s = .slice (some ⟨b, off, none⟩) bs.length cap ∧ b < w.heap.size ∧ Blks w b off bs)
theorem Blks.below {w w' : World} {b off B : Nat} {bs : List Blk} (h : Blks w b off bs) (hb : Below B w w') (hl : b < B) : Blks w' b off bs := fun k hk => by
  obtain ⟨h1, h2, h3⟩ := h k hk
  exact ⟨(hb.cell (p := ⟨b, off + k * 3, none⟩) hl).trans h1, (hb.cell (p := ⟨b, off + k * 3 + 1, none⟩) hl).trans h2, (hb.cell (p := ⟨b, off + k * 3 + 2, none⟩) hl).trans h3⟩
theorem SB.below {w w' : World} {s : Value} {bs : List Blk} (h : SB w s bs) {B : Nat} (hb : Below B w w') (hB : w.heap.size ≤ B) : SB w' s bs := by
  obtain ⟨h1, h2, h3⟩ := h
  refine ⟨h1, h2, ?_⟩
  rcases h3 with h3 | ⟨b, off, cap, rfl, hl, hr⟩
  · exact .inl h3
  · exact .inr ⟨b, off, cap, rfl, by have := hb.size; omega, hr.below hb (by omega)⟩
theorem blks_next {w : World} {b off : Nat} {bs : List Blk} (h : Blks w b off bs) {k : Nat} (hk : k < bs.length) :
    ∃ x r, x ∈ bs ∧ bs.drop k = x :: r ∧ bs.drop (k + 1) = r ∧ bs.take (k + 1) = bs.take k ++ [x] ∧ w.cell? ⟨b, off + k * 3, none⟩ = some (.int .i64 x.a) ∧ w.cell? ⟨b, off + k * 3 + 1, none⟩ = some (.int .i64 x.b) ∧ w.cell? ⟨b, off + k * 3 + 2, none⟩ = some (.int .i64 x.c) := by
  refine ⟨bs[k], bs.drop (k + 1), List.getElem_mem hk, List.drop_eq_getElem_cons hk, rfl, ?_, ?_⟩
  · rw [List.take_succ_eq_append_getElem hk]
  · have := h k hk
    simpa [hk] using this

theorem cell_new {w w1 : World} {cs : Array Value} {T : TypeId} (h : Below (w.alloc (.cells cs T)).heap.size (w.alloc (.cells cs T)) w1) (j : Nat) {v : Value} (hv : cs[j]? = some v) : w1.cell? ⟨w.heap.size, j, none⟩ = some v := by
  rw [h.cell (p := ⟨w.heap.size, j, none⟩) (by simp)]
  simp [hv]

set_option maxRecDepth 100000 in
theorem sharePair_any (s : Value) (bs : List Blk) (w : World) (h : SB w s bs) : Calls Try.prog 107 #[s] w (RV (.bool (shareGo [] bs)) w) := by
  obtain ⟨hwf, hlen, h3⟩ := h
  have hmm := @run_makeMap Try.prog
  rcases h3 with ⟨a0, c0, rfl, rfl⟩ | ⟨b, off, cap, rfl, hlt, hbl⟩
  · go_enter Try.func107, Try.ntmps107
    go_wp2
    refine wp_loop_rounds 1 ?_
    rw [rounds_succ]
    go_wp2
    go_ret
    exact RV_of rfl ((Below.refl _ _).alloc (Nat.le_refl _) _)
  · go_enter Try.func107, Try.ntmps107
    go_wp2
    go_loopw [11] (fun i wr => ∃ k : Nat, k ≤ bs.length ∧ i = .int .i64 k ∧ BoolSet wr Try.prog 116 4 w.heap.size (3 * k) (((bs.take k).flatMap pairsL).map pv) ∧ Below w.heap.size w wr ∧
        Hid (shareGo [] bs = shareGo ((bs.take k).flatMap pairsL) (bs.drop k))) (fun i _ => bs.length - (intOf i).toNat)
    case atStart => exact ⟨0, Nat.zero_le _, rfl, BoolSet.made _ _ _ _, (Below.refl _ _).alloc (Nat.le_refl _) _, Lib.hid (by simp)⟩
    case round =>
      obtain ⟨k, hk, rfl, hS, hB, HE⟩ := hrel
      have hsz := hB.size
      have hlt' := hS.lt
      by_cases hkl : k < bs.length
      · obtain ⟨x, r, hx, e1, e2, e3, c1, c2, c3⟩ := blks_next (hbl.below hB hlt) hkl
        rw [e1] at HE
        have E2 := Lib.hid e2
        have E3 := Lib.hid e3
        clear e1 e2 e3
        obtain ⟨x1, x2, x3⟩ := x
        have hX := Lib.hid (hwf _ hx)
        clear hx
        obtain ⟨seen, hseen⟩ : ∃ l, l = (bs.take k).flatMap pairsL := ⟨_, rfl⟩
        rw [← hseen] at hS HE
        have HSN := Lib.hid hseen
        clear hseen
        have hc := isBlockFree_any w.heap.size (3 * k) seen ⟨x1, x2, x3⟩ hX.out (wr.alloc (.cells #[.int .i64 x1, .int .i64 x2, .int .i64 x3] 62)) (hS.alloc _)
        obtain ⟨g1, g2, g3⟩ := hX.out
        obtain ⟨k1, hk1⟩ := pv_key g1 g2
        obtain ⟨k2, hk2⟩ := pv_key g1 g3
        obtain ⟨k3, hk3⟩ := pv_key g2 g3
        have HK1 := Lib.hid hk1
        have HK2 := Lib.hid hk2
        have HK3 := Lib.hid hk3
        clear hk1 hk2 hk3 g1 g2 g3
        have i0 : ∀ w, (Instr.index 164 (.agg #[.int .i64 x1, .int .i64 x2, .int .i64 x1, .int .i64 x3, .int .i64 x2, .int .i64 x3]) (.int .i64 0)).run Try.prog w = .ok (.agg #[.int .i64 x1, .int .i64 x2]) w := fun _ => by kernel_rfl
        have i1 : ∀ w, (Instr.index 164 (.agg #[.int .i64 x1, .int .i64 x2, .int .i64 x1, .int .i64 x3, .int .i64 x2, .int .i64 x3]) (.int .i64 1)).run Try.prog w = .ok (.agg #[.int .i64 x1, .int .i64 x3]) w := fun _ => by kernel_rfl
        have i2 : ∀ w, (Instr.index 164 (.agg #[.int .i64 x1, .int .i64 x2, .int .i64 x1, .int .i64 x3, .int .i64 x2, .int .i64 x3]) (.int .i64 2)).run Try.prog w = .ok (.agg #[.int .i64 x2, .int .i64 x3]) w := fun _ => by kernel_rfl
        cases hβ : freeB seen ⟨x1, x2, x3⟩ with
        | false =>
          rw [hβ] at hc
          have Hβ := Lib.hid hβ
          clear hβ
          have HC := Lib.hid hc
          clear hc
          go_wp2_with (go_at_call 116; refine HC.out.mono ?_; rintro e w1 ⟨rfl, hb1⟩)
          go_ret
          exact RV_of (bool_eq (by rw [HE.out, shareGo, if_neg (by rw [Hβ.out]; simp)])) (hB.trans (((Below.refl _ _).alloc hsz _).trans (hb1.mono (by simp; omega))))
        | true =>
          rw [hβ] at hc
          have Hβ := Lib.hid hβ
          clear hβ
          have HC := Lib.hid hc
          clear hc
          go_wp2_with (first
            | (go_at_call 116; refine HC.out.mono ?_; rintro e w1 ⟨rfl, hb1⟩; have d1 := cell_new hb1 0 rfl; have d2 := cell_new hb1 1 rfl; have d3 := cell_new hb1 2 rfl; have hS1 := (hS.alloc (.cells #[.int .i64 x1, .int .i64 x2, .int .i64 x3] 62)).below hb1 (by simp; omega); have hz1 := hb1.size; simp at hz1)
            | (go_at_call 174; refine (pairsOf_any ⟨x1, x2, x3⟩ _).mono ?_; rintro e w2 ⟨rfl, hb2⟩; unfold prsv; dsimp only; have hSx := hS1.below hb2 (by omega); have hz2 := hb2.size))
          refine wp_loop_rounds 4 ?_
          rw [rounds_succ]
          go_wp2_with (at_mapUpdate; refine wpList_put_set _ rfl _ _ _ 113 rfl 116 4 pairKeyed Try.underlying113 Try.underlying4 w.heap.size (3 * k + 0) (seen.map pv) rfl (hSx.alloc _) (by unfold maxLen; omega) (pv (x1, x2)) k1 rfl rfl HK1.out ?_; intro w3 hS3 hg3)
          rw [rounds_succ]
          go_wp2_with (at_mapUpdate; refine wpList_put_set _ rfl _ _ _ 113 rfl 116 4 pairKeyed Try.underlying113 Try.underlying4 w.heap.size (3 * k + 1) (seen.map pv ++ [pv (x1, x2)]) rfl (hS3.alloc _) (by unfold maxLen; omega) (pv (x1, x3)) k2 rfl rfl HK2.out ?_; intro w4 hS4 hg4)
          rw [rounds_succ]
          go_wp2_with (at_mapUpdate; refine wpList_put_set _ rfl _ _ _ 113 rfl 116 4 pairKeyed Try.underlying113 Try.underlying4 w.heap.size (3 * k + 2) (seen.map pv ++ [pv (x1, x2)] ++ [pv (x1, x3)]) rfl (hS4.alloc _) (by unfold maxLen; omega) (pv (x2, x3)) k3 rfl rfl HK3.out ?_; intro w5 hS5 hg5)
          rw [rounds_succ]
          go_wp2
          have hBx := hB.trans (((Below.refl _ _).alloc hsz _).trans ((hb1.mono (by simp; omega)).trans (hb2.mono (by omega))))
          have hB3 := (hBx.alloc (by omega) (.cells #[.int .i64 x1, .int .i64 x2] 116)).grown hg3 (by simp; omega) (fun j e => by cases e; exact Nat.le_refl _)
          have hB4 := (hB3.alloc hB3.size (.cells #[.int .i64 x1, .int .i64 x3] 116)).grown hg4 (by have := hB3.size; simp; omega) (fun j e => by cases e; exact Nat.le_refl _)
          have hB5 := (hB4.alloc hB4.size (.cells #[.int .i64 x2, .int .i64 x3] 116)).grown hg5 (by have := hB4.size; simp; omega) (fun j e => by cases e; exact Nat.le_refl _)
          have hfin : BoolSet w5 Try.prog 116 4 w.heap.size (3 * (k + 1)) (((bs.take (k + 1)).flatMap pairsL).map pv) := by
            rw [E3.out, List.flatMap_append, ← HSN.out]
            have e : (seen ++ [Blk.mk x1 x2 x3].flatMap pairsL).map pv = seen.map pv ++ [pv (x1, x2)] ++ [pv (x1, x3)] ++ [pv (x2, x3)] := by simp [pairsL]
            rw [e]
            exact hS5.mono (by omega)
          go_roundw
          case rel => exact ⟨k + 1, by omega, by go_num, hfin, hB5, Lib.hid (by rw [HE.out, E2.out, E3.out, shareGo, if_pos Hβ.out, List.flatMap_append, ← HSN.out]; simp)⟩
          case measure => simp [intOf]; omega
      · go_wp2
        go_ret
        exact RV_of (bool_eq (by rw [HE.out, List.drop_eq_nil_of_le (by omega), shareGo])) hB
end Go.Proofs.Ytlchcnngikgjjaa


/- impl.thirdsOf. impl.fullCode of one system. CyclesOf: the program. The types: plain. The outline's ascending list. The program's DegreesOf, plain. The program's iterator over renumberings: what stays while callers of its rounds work; its depth is of no account. -/
import Derived.Test.YtoicdfdfajfopaaJ11
import Derived.StillTailTactics
import Derived.BigQuiet
namespace Go.Proofs.Ytoicdfdfajfopaa
open Go.RowKit Go.Maps
set_option maxRecDepth 100000 in
set_option maxHeartbeats 8000000 in
theorem thirdsOf_any (n : Nat) (s : Value) (bs : List Blk) (w : World) (h : SB w s bs) (hi : isSysImpl (n : Int) bs = true) :
    Calls Try.prog 103 #[.agg #[.int .i64 (n : Int), s]] w (fun e w' => ∃ G gs caps, e = .returned (.slice (some ⟨G, 0, none⟩) n n) ∧ w.heap.size ≤ G ∧ Below w.heap.size w w' ∧ SSR w' w.heap.size G gs caps n (rowT n (tabN bs))) := by
  have hs := h.slice
  obtain ⟨hv3, hv15, hb35⟩ := sys_size hi
  have HI := Lib.hid hi
  have HG := Lib.hid (sys_good hi)
  have HSX := Lib.hid h.sx
  have hmr := mkRow n (by omega)
  have hmo := mkRows n (by omega)
  clear h hi
  obtain ⟨a0, c0, rfl⟩ := hs
  go_enter Try.func103, Try.ntmps103
  go_wp2_with fail
  obtain ⟨W1, hW1⟩ : ∃ W1, W1 = w.alloc (.cells #[.int .i64 (n : Int), .slice a0 bs.length c0] 31) := ⟨_, rfl⟩
  have hz1 : W1.heap.size = w.heap.size + 1 := by rw [hW1]; simp
  have p0 : W1.cell? ⟨w.heap.size, 0, none⟩ = some (.int .i64 (n : Int)) := by rw [hW1]; simp [go_sem]
  have p1 : W1.cell? ⟨w.heap.size, 1, none⟩ = some (.slice a0 bs.length c0) := by rw [hW1]; simp [go_sem]
  have HB1 := Lib.hid (show Below w.heap.size w W1 by rw [hW1]; exact (Below.refl _ _).alloc (Nat.le_refl _) _)
  rw [← hW1]
  clear hW1
  go_loopw [14] (fun i wr => ∃ (k : Nat) (gs caps : Nat → Nat), k ≤ n ∧ i = .int .i64 k ∧ Below (w.heap.size + 1) W1 wr ∧ w.heap.size + 1 < wr.heap.size ∧ SSR wr (w.heap.size + 1) (w.heap.size + 1) gs caps k (rowT n fun _ _ => 0) ∧ (∀ q, q < n → ∃ u, wr.cell? ⟨w.heap.size + 1, q, none⟩ = some u) ∧ (∀ o, wr.frozen? ⟨w.heap.size + 1, o, none⟩ = false)) (fun i _ => n - (intOf i).toNat)
  case atStart =>
    rw [← hz1]
    exact ⟨0, fun _ => 0, fun _ => 0, Nat.zero_le _, rfl, (Below.refl _ _).alloc (Nat.le_refl _) _, by simp, ⟨fun k hk => by omega, fun k hk => by omega, fun k hk => by omega, fun j k _ hk => by omega, fun k hk => by omega, by simp⟩, fun q hq => by rw [World.cell?_alloc_at _ _ _ _ rfl]; exact ⟨.slice none 0 0, by simp [madeCells, hq, Nat.mod_one]⟩, fun o => by simp⟩
  case round =>
    obtain ⟨k, gs, caps, hk, rfl, hB, hz, hS, hcs, hfz⟩ := hrel
    have HS := Lib.hid hS
    have HB := Lib.hid hB
    have r0 := (hB.cell (p := ⟨w.heap.size, 0, none⟩) (by simp)).trans p0
    have r1 := (hB.cell (p := ⟨w.heap.size, 1, none⟩) (by simp)).trans p1
    by_cases hkl : k < n
    · obtain ⟨u, hu⟩ := hcs k hkl
      have hf := hfz k
      have HC := Lib.hid hcs
      have HFZ := Lib.hid hfz
      have g0 : (0 : Int) ≤ (k : Int) := by omega
      have g1 : (k : Int) < (n : Int) := by omega
      clear hS hB hcs hfz
      obtain ⟨w1, hw1⟩ : ∃ w1, w1 = wr.alloc (.cells (madeCells #[.int .i64 0] n) 2) := ⟨_, rfl⟩
      have hb1 : Below wr.heap.size wr w1 := by rw [hw1]; exact (Below.refl _ _).alloc (Nat.le_refl _) _
      have ho1 : OwnAtI w1 wr.heap.size (List.replicate n 0) := by rw [hw1]; exact made_ints wr n _
      have hz2 : w1.heap.size = wr.heap.size + 1 := by rw [hw1]; simp
      have m1 : (wr.alloc (.cells (madeCells #[.int .i64 0] n) 2)).cell? ⟨w.heap.size + 1, k, none⟩ = some u := by rw [← hw1]; exact (hb1.cell (p := ⟨w.heap.size + 1, k, none⟩) hz).trans hu
      have f1 : (wr.alloc (.cells (madeCells #[.int .i64 0] n) 2)).frozen? ⟨w.heap.size + 1, k, none⟩ = false := by rw [← hw1]; exact (hb1.frozen (p := ⟨w.heap.size + 1, k, none⟩) hz).trans hf
      have HW := Lib.hid hw1
      have HB1 := Lib.hid hb1
      have HO1 := Lib.hid ho1
      clear hw1 hb1 ho1
      go_wp2_with fail
      rw [← HW.out] at m1 f1
      have hsw : (wr.setCell ⟨w.heap.size + 1, k, none⟩ (.slice (some ⟨wr.heap.size, 0, none⟩) n n)).alloc (.cells (madeCells #[.int .i64 0] n) 2) = w1.setCell ⟨w.heap.size + 1, k, none⟩ (.slice (some ⟨wr.heap.size, 0, none⟩) n n) := by rw [HW.out]; exact (World.setCell_alloc_past _ _ _ _ hz).symm
      rw [hsw]
      have hS1 := HS.out.below HB1.out (Nat.le_refl _)
      have hst := only_setCell (only_refl w1 (some (w.heap.size + 1))) (p := ⟨w.heap.size + 1, k, none⟩) rfl (.slice (some ⟨wr.heap.size, 0, none⟩) n n)
      go_roundw
      case rel =>
        refine ⟨k + 1, fun q => if q = k then wr.heap.size else gs q, fun q => if q = k then n else caps q, by omega, by go_num, (HB.out.trans (HB1.out.mono (by omega))).setCell (p := ⟨w.heap.size + 1, k, none⟩) (Nat.le_refl _) _, by simp [World.setCell]; omega, ⟨fun q hq => ?_, fun q hq => ?_, fun q hq => ?_, fun p q hpq hq => ?_, fun q hq => ?_, by simp [World.setCell]; omega⟩, fun q hq => ?_, fun o => by rw [World.frozen?_setCell]; exact (HB1.out.frozen (p := ⟨w.heap.size + 1, o, none⟩) hz).trans (HFZ.out o)⟩
        · by_cases e : q = k
          · subst e
            rw [World.cell?_setCell_same' _ _ _ (by rw [m1]; rfl)]
            simp [rowT_len]
          · rw [World.cell?_setCell_other _ _ _ _ (by simp <;> omega), hS1.cell q (by omega)]
            simp [e]
        · by_cases e : q = k
          · subst e
            simp only [if_pos]
            rw [rowT_zero]
            exact HO1.out.kept hst (by simp; omega)
          · simp only [if_neg e]
            exact (hS1.row q (by omega)).kept hst (by have := hS1.ne q (by omega); simpa using this)
        · by_cases e : q = k
          · simp only [if_pos e]; omega
          · simp only [if_neg e]; exact hS1.ne q (by omega)
        · have e1 : p ≠ k := by omega
          simp only [if_neg e1]
          by_cases e : q = k
          · simp only [if_pos e]
            exact Nat.ne_of_lt (HS.out.row p (by omega)).lt
          · simp only [if_neg e]
            exact hS1.inc p q hpq (by omega)
        · by_cases e : q = k
          · simp only [if_pos e]; omega
          · simp only [if_neg e]; exact hS1.low q (by omega)
        · by_cases e : q = k
          · subst e
            exact ⟨_, World.cell?_setCell_same' _ _ _ (by rw [m1]; rfl)⟩
          · obtain ⟨u', hu'⟩ := HC.out q hq
            exact ⟨u', by rw [World.cell?_setCell_other _ _ _ _ (by simp <;> omega)]; exact (HB1.out.cell (p := ⟨w.heap.size + 1, q, none⟩) hz).trans hu'⟩
      case measure => simp [intOf]; omega
    · have e : k = n := by omega
      have dk : (n : Int) ≤ (k : Int) := by omega
      have dk2 : decide (k < n) = false := by simp; omega
      rw [e] at HS
      have HS0 := Lib.hid (HS.out.congr (F' := rowT n (tabN (bs.take 0))) (fun j _ => rowT_congr fun q _ => by simp [tabN, tabI]))
      clear e hkl hk hS hB hcs hfz HS
      obtain ⟨W2, rfl⟩ : ∃ W2, W2 = wr := ⟨_, rfl⟩
      go_wp2_with fail
      clear dk dk2
      go_loopw [27] (fun i wr => ∃ m : Nat, m ≤ bs.length ∧ i = .int .i64 m ∧ Below (w.heap.size + 1) W1 wr ∧ SSR wr (w.heap.size + 1) (w.heap.size + 1) gs caps n (rowT n (tabN (bs.take m)))) (fun i _ => bs.length - (intOf i).toNat)
      case atStart => exact ⟨0, Nat.zero_le _, rfl, HB.out, HS0.out⟩
      case round =>
        obtain ⟨m, hm, rfl, hB, hS⟩ := hrel
        have HBm := Lib.hid hB
        have HSm := Lib.hid hS
        have hzm := hB.size
        clear hB hS
        by_cases hml : m < bs.length
        · have hbw : Below w.heap.size w wr := HB1.out.trans (HBm.out.mono (by omega))
          rcases HSX.out with ⟨_, _, _, hnil⟩ | ⟨b, off, cap, hv, hblt, hbl⟩
          · rw [hnil] at hml; simp at hml
          simp at hv
          obtain ⟨rfl, rfl⟩ := hv
          obtain ⟨x, hx, ex, x1, x2, x3⟩ := blks_at (hbl.below hbw hblt) hml
          have hgx := goodB_iff.1 (HG.out x hx)
          obtain ⟨xa, xb, xc⟩ := x
          dsimp only at hgx x1 x2 x3
          obtain ⟨p, rfl⟩ := Int.eq_ofNat_of_zero_le hgx.1
          obtain ⟨q, rfl⟩ := Int.eq_ofNat_of_zero_le (show 0 ≤ xb by omega)
          obtain ⟨r, rfl⟩ := Int.eq_ofNat_of_zero_le (show 0 ≤ xc by omega)
          have hp : p < n := by omega
          have hq : q < n := by omega
          have hr : r < n := by omega
          have HSIX := Lib.hid (fun j k => six_tab HI.out hml ex (show p < q by omega) (show q < r by omega) j k)
          have i0 : (0 : Int) ≤ (m : Int) := by omega
          have i1 : (m : Int) < (bs.length : Int) := by omega
          have hB0 := hzm
          have TB0 : TBx W1 (wr.alloc (.cells #[.int .i64 (p : Int), .int .i64 (q : Int), .int .i64 (r : Int)] 71)) (w.heap.size + 1) (w.heap.size + 1) wr.heap.size gs caps n (tabN (bs.take m)) p q r :=
            ⟨HBm.out.alloc (by omega) _, HSm.out.below ((Below.refl _ _).alloc (Nat.le_refl _) _) (Nat.le_refl _), by simp [go_sem], by simp [go_sem], by simp [go_sem], fun j hj => (HSm.out.row j hj).lt⟩
          have HTB0 := Lib.hid TB0
          clear TB0 hgx hx ex hbl
          go_wp2_with fail
          obtain ⟨V0, hV0⟩ : ∃ V0, V0 = wr.alloc (.cells #[.int .i64 (p : Int), .int .i64 (q : Int), .int .i64 (r : Int)] 71) := ⟨_, rfl⟩
          rw [← hV0] at HTB0 ⊢
          clear hV0 x1 x2 x3
          refine wp_loop_rounds 4 ?_
          rw [rounds_succ]
          go_wp2_with fail
          refine wp_loop_rounds 4 ?_
          rw [rounds_succ]
          go_wp2_with fail
          rw [rounds_succ]
          go_wp2_with fail
          have c0 := HTB0.out.c0
          have c1 := HTB0.out.c1
          have c2 := HTB0.out.c2
          have o1 := HTB0.out.tab.cell p hp
          rw [rowT_len] at o1
          have s1 := (HTB0.out.tab.row p hp).at_ q (by rw [rowT_len]; exact hq)
          rw [Nat.zero_add] at s1
          have f1 := (HTB0.out.tab.row p hp).free q
          have HTB1 := Lib.hid (HTB0.out.step hp hq (r : Int))
          have k1 : IntKind.i64.wrap (3 - 0) = 3 := by decide
          have k2 : IntKind.i64.wrap (3 - 1) = 2 := by decide
          have k3 : IntKind.i64.wrap 2 = 2 := by decide
          have k4 : IntKind.i64.wrap 3 = 3 := by decide
          go_still_tail 16, (by kernel_rfl)
          change wpList _ _ _ _ _ V0.drew
          have s2 : V0.drew.cell? ⟨gs p, q, none⟩ = some _ := s1
          have f2 : V0.drew.frozen? ⟨gs p, q, none⟩ = false := f1
          clear c0 c1 c2 o1 s1 f1 k1 k2 k3 k4
          go_wp2_with fail
          obtain ⟨V1, hV1⟩ : ∃ V, V = (V0.setCell ⟨gs p, q, none⟩ (.int .i64 (r : Int))).drew := ⟨_, rfl⟩
          rw [← hV1] at HTB1 ⊢
          clear hV1 s2 f2 HTB0
          rw [rounds_succ]
          go_wp2_with fail
          have c0 := HTB1.out.c0
          have c1 := HTB1.out.c1
          have c2 := HTB1.out.c2
          have o1 := HTB1.out.tab.cell p hp
          rw [rowT_len] at o1
          have s1 := (HTB1.out.tab.row p hp).at_ r (by rw [rowT_len]; exact hr)
          rw [Nat.zero_add] at s1
          have f1 := (HTB1.out.tab.row p hp).free r
          have HTB2 := Lib.hid (HTB1.out.step hp hr (q : Int))
          have k1 : IntKind.i64.wrap (3 - 0) = 3 := by decide
          have k2 : IntKind.i64.wrap (3 - 2) = 1 := by decide
          have k3 : IntKind.i64.wrap 1 = 1 := by decide
          have k4 : IntKind.i64.wrap 3 = 3 := by decide
          go_still_tail 16, (by kernel_rfl)
          change wpList _ _ _ _ _ V1.drew
          have s2 : V1.drew.cell? ⟨gs p, r, none⟩ = some _ := s1
          have f2 : V1.drew.frozen? ⟨gs p, r, none⟩ = false := f1
          clear c0 c1 c2 o1 s1 f1 k1 k2 k3 k4
          go_wp2_with fail
          obtain ⟨V2, hV2⟩ : ∃ V, V = (V1.setCell ⟨gs p, r, none⟩ (.int .i64 (q : Int))).drew := ⟨_, rfl⟩
          rw [← hV2] at HTB2 ⊢
          clear hV2 s2 f2 HTB1
          rw [rounds_succ]
          go_wp2_with fail
          rw [rounds_succ]
          go_wp2_with fail
          refine wp_loop_rounds 4 ?_
          rw [rounds_succ]
          go_wp2_with fail
          have c0 := HTB2.out.c0
          have c1 := HTB2.out.c1
          have c2 := HTB2.out.c2
          have o1 := HTB2.out.tab.cell q hq
          rw [rowT_len] at o1
          have s1 := (HTB2.out.tab.row q hq).at_ p (by rw [rowT_len]; exact hp)
          rw [Nat.zero_add] at s1
          have f1 := (HTB2.out.tab.row q hq).free p
          have HTB3 := Lib.hid (HTB2.out.step hq hp (r : Int))
          have k1 : IntKind.i64.wrap (3 - 1) = 2 := by decide
          have k2 : IntKind.i64.wrap (2 - 0) = 2 := by decide
          have k3 : IntKind.i64.wrap 2 = 2 := by decide
          have k4 : IntKind.i64.wrap 2 = 2 := by decide
          go_still_tail 16, (by kernel_rfl)
          change wpList _ _ _ _ _ V2.drew
          have s2 : V2.drew.cell? ⟨gs q, p, none⟩ = some _ := s1
          have f2 : V2.drew.frozen? ⟨gs q, p, none⟩ = false := f1
          clear c0 c1 c2 o1 s1 f1 k1 k2 k3 k4
          go_wp2_with fail
          obtain ⟨V3, hV3⟩ : ∃ V, V = (V2.setCell ⟨gs q, p, none⟩ (.int .i64 (r : Int))).drew := ⟨_, rfl⟩
          rw [← hV3] at HTB3 ⊢
          clear hV3 s2 f2 HTB2
          rw [rounds_succ]
          go_wp2_with fail
          rw [rounds_succ]
          go_wp2_with fail
          have c0 := HTB3.out.c0
          have c1 := HTB3.out.c1
          have c2 := HTB3.out.c2
          have o1 := HTB3.out.tab.cell q hq
          rw [rowT_len] at o1
          have s1 := (HTB3.out.tab.row q hq).at_ r (by rw [rowT_len]; exact hr)
          rw [Nat.zero_add] at s1
          have f1 := (HTB3.out.tab.row q hq).free r
          have HTB4 := Lib.hid (HTB3.out.step hq hr (p : Int))
          have k1 : IntKind.i64.wrap (3 - 1) = 2 := by decide
          have k2 : IntKind.i64.wrap (2 - 2) = 0 := by decide
          have k3 : IntKind.i64.wrap 0 = 0 := by decide
          have k4 : IntKind.i64.wrap 2 = 2 := by decide
          go_still_tail 16, (by kernel_rfl)
          change wpList _ _ _ _ _ V3.drew
          have s2 : V3.drew.cell? ⟨gs q, r, none⟩ = some _ := s1
          have f2 : V3.drew.frozen? ⟨gs q, r, none⟩ = false := f1
          clear c0 c1 c2 o1 s1 f1 k1 k2 k3 k4
          go_wp2_with fail
          obtain ⟨V4, hV4⟩ : ∃ V, V = (V3.setCell ⟨gs q, r, none⟩ (.int .i64 (p : Int))).drew := ⟨_, rfl⟩
          rw [← hV4] at HTB4 ⊢
          clear hV4 s2 f2 HTB3
          rw [rounds_succ]
          go_wp2_with fail
          rw [rounds_succ]
          go_wp2_with fail
          refine wp_loop_rounds 4 ?_
          rw [rounds_succ]
          go_wp2_with fail
          have c0 := HTB4.out.c0
          have c1 := HTB4.out.c1
          have c2 := HTB4.out.c2
          have o1 := HTB4.out.tab.cell r hr
          rw [rowT_len] at o1
          have s1 := (HTB4.out.tab.row r hr).at_ p (by rw [rowT_len]; exact hp)
          rw [Nat.zero_add] at s1
          have f1 := (HTB4.out.tab.row r hr).free p
          have HTB5 := Lib.hid (HTB4.out.step hr hp (q : Int))
          have k1 : IntKind.i64.wrap (3 - 2) = 1 := by decide
          have k2 : IntKind.i64.wrap (1 - 0) = 1 := by decide
          have k3 : IntKind.i64.wrap 1 = 1 := by decide
          have k4 : IntKind.i64.wrap 1 = 1 := by decide
          go_still_tail 16, (by kernel_rfl)
          change wpList _ _ _ _ _ V4.drew
          have s2 : V4.drew.cell? ⟨gs r, p, none⟩ = some _ := s1
          have f2 : V4.drew.frozen? ⟨gs r, p, none⟩ = false := f1
          clear c0 c1 c2 o1 s1 f1 k1 k2 k3 k4
          go_wp2_with fail
          obtain ⟨V5, hV5⟩ : ∃ V, V = (V4.setCell ⟨gs r, p, none⟩ (.int .i64 (q : Int))).drew := ⟨_, rfl⟩
          rw [← hV5] at HTB5 ⊢
          clear hV5 s2 f2 HTB4
          rw [rounds_succ]
          go_wp2_with fail
          have c0 := HTB5.out.c0
          have c1 := HTB5.out.c1
          have c2 := HTB5.out.c2
          have o1 := HTB5.out.tab.cell r hr
          rw [rowT_len] at o1
          have s1 := (HTB5.out.tab.row r hr).at_ q (by rw [rowT_len]; exact hq)
          rw [Nat.zero_add] at s1
          have f1 := (HTB5.out.tab.row r hr).free q
          have HTB6 := Lib.hid (HTB5.out.step hr hq (p : Int))
          have k1 : IntKind.i64.wrap (3 - 2) = 1 := by decide
          have k2 : IntKind.i64.wrap (1 - 1) = 0 := by decide
          have k3 : IntKind.i64.wrap 0 = 0 := by decide
          have k4 : IntKind.i64.wrap 1 = 1 := by decide
          go_still_tail 16, (by kernel_rfl)
          change wpList _ _ _ _ _ V5.drew
          have s2 : V5.drew.cell? ⟨gs r, q, none⟩ = some _ := s1
          have f2 : V5.drew.frozen? ⟨gs r, q, none⟩ = false := f1
          clear c0 c1 c2 o1 s1 f1 k1 k2 k3 k4
          go_wp2_with fail
          obtain ⟨V6, hV6⟩ : ∃ V, V = (V5.setCell ⟨gs r, q, none⟩ (.int .i64 (p : Int))).drew := ⟨_, rfl⟩
          rw [← hV6] at HTB6 ⊢
          clear hV6 s2 f2 HTB5
          rw [rounds_succ]
          go_wp2_with fail
          rw [rounds_succ]
          go_wp2_with fail
          rw [rounds_succ]
          go_wp2_with fail
          go_roundw
          case rel => exact ⟨m + 1, by omega, by go_num, HTB6.out.below, HTB6.out.tab.congr fun j _ => rowT_congr fun q _ => HSIX.out j q⟩
          case measure => simp [intOf]; omega
        · have e : m = bs.length := by omega
          subst e
          rw [List.take_length] at HSm
          have hS := HSm.out
          go_wp2
          go_ret
          exact ⟨_, gs, caps, rfl, by omega, HB1.out.trans (HBm.out.mono (by omega)), ⟨hS.cell, hS.row, hS.ne, hS.inc, fun k hk => Nat.le_trans (by omega) (hS.low k hk), hS.lt⟩⟩
end Go.Proofs.Ytoicdfdfajfopaa

namespace Go.Proofs.Ytoicdfdfajfopaa
open Go.RowKit Go.Maps
def fullC (v : Int) (bs : List Blk) : Int := if isSysImpl v bs then (if fullB v bs then 0 else 5) else 1
theorem fullV_cases (v : Int) (bs : List Blk) : (fullV v bs = boolCode true 0 ∧ fullC v bs = 0) ∨ (fullV v bs = boolCode false 0 ∧ fullC v bs = 5) ∨ (fullV v bs = boolCode false 1 ∧ fullC v bs = 1) := by
  unfold fullV fullC
  cases isSysImpl v bs
  · right; right; simp
  · cases fullB v bs
    · right; left; simp
    · left; simp
set_option maxRecDepth 100000 in
theorem fullCode_one (B : Nat) (v : Int) (s : Value) (bs : List Blk) (w : World) (h : SB w s bs) (c0 : w.cell? ⟨B, 0, none⟩ = some (.int .i64 v)) (c1 : w.cell? ⟨B, 1, none⟩ = some s) :
    Calls Try.prog 66 #[.slice (some ⟨B, 0, none⟩) 1 1] w (RV (.int .i64 (fullC v bs)) w) := by
  have hs := h.slice
  have HI := Lib.hid (IsFull_any v s bs (w.alloc (.cells #[.int .i64 v, s] 31)) (h.below ((Below.refl _ _).alloc (Nat.le_refl _) _) (Nat.le_refl _)))
  clear h
  obtain ⟨a, c, rfl⟩ := hs
  rcases fullV_cases v bs with ⟨e1, e2⟩ | ⟨e1, e2⟩ | ⟨e1, e2⟩
  all_goals
    rw [e1] at HI
    rw [e2]
    unfold boolCode at HI
    clear e1 e2
    go_enter Try.func66, Try.ntmps66
    go_wp2
    refine wp_loop_rounds 2 ?_
    rw [rounds_succ]
    go_wp2_with (go_at_call 99; refine HI.out.mono ?_; rintro e w1 ⟨rfl, hb1⟩)
  · rw [rounds_succ]
    go_wp2
    go_ret
    exact RV_of rfl (((Below.refl _ _).alloc (Nat.le_refl _) _).trans (hb1.mono (by simp)))
  · rw [rounds_succ]
    go_wp2
    go_ret
    exact RV_of rfl (((Below.refl _ _).alloc (Nat.le_refl _) _).trans (hb1.mono (by simp)))
  · go_ret
    exact RV_of rfl (((Below.refl _ _).alloc (Nat.le_refl _) _).trans (hb1.mono (by simp)))
end Go.Proofs.Ytoicdfdfajfopaa

namespace Go.Proofs.Ytoicdfdfajfopaa
open Go.RowKit Go.Maps
def cyCode (v : Int) (bs : List Blk) (a b : Int) : Int := if isSysImpl v bs then (if inP v a && inP v b && !(a == b) then (if fullB v bs then 0 else 5) else 2) else 1
noncomputable def cyF (v : Int) (bs : List Blk) (a b : Int) : List (List Int) × Int := if cyCode v bs a b = 0 then (cyS bs a.toNat b.toNat v.toNat, 0) else ([], cyCode v bs a b)
end Go.Proofs.Ytoicdfdfajfopaa

namespace Go.Proofs.Ytoicdfdfajfopaa
def ascL (l : List Int) : List Int := l.mergeSort fun x y => decide (x ≤ y)
def lensL (L : List (List Int)) : List Int := L.map fun r => (r.length : Int)
def typL (L : List (List Int)) : List Int := (ascL (lensL L)).reverse
noncomputable def tyF (v : Int) (bs : List Blk) (a b : Int) : List Int × Int := if cyCode v bs a b = 0 then (typL (cyS bs a.toNat b.toNat v.toNat), 0) else ([], cyCode v bs a b)
theorem ascL_perm (l : List Int) : (ascL l).Perm l := List.mergeSort_perm l _
theorem ascL_asc (l : List Int) : (ascL l).Pairwise (· ≤ ·) := by
  have := List.pairwise_mergeSort (le := fun (x y : Int) => decide (x ≤ y)) (fun a b c => by simp; omega) (fun a b => by simp; omega) l
  exact this.imp (by simp)
theorem ascL_of {l s : List Int} (hp : s.Perm l) (hs : s.Pairwise (· ≤ ·)) : s = ascL l :=
  (hp.trans (ascL_perm l).symm).eq_of_pairwise (fun _ _ _ _ h1 h2 => Int.le_antisymm h1 h2) hs (ascL_asc l)
theorem ascL_len (l : List Int) : (ascL l).length = l.length := (ascL_perm l).length_eq
theorem typL_len (L : List (List Int)) : (typL L).length = L.length := by simp [typL, ascL_len, lensL]
theorem lensL_take {L : List (List Int)} {k : Nat} (hk : k < L.length) : lensL (L.take (k + 1)) = lensL (L.take k) ++ [((rowsF L k).length : Int)] := by
  unfold lensL rowsF
  rw [List.take_add_one, List.getElem?_eq_getElem hk, List.map_append]
  rfl
theorem lensL_len (L : List (List Int)) : (lensL L).length = L.length := by simp [lensL]
/-- The negative lengths, ascending, are the lengths, descending. -/
theorem typL_neg (L : List (List Int)) : (ascL ((lensL L).map fun x => -x)).map (fun x => -x) = typL L := by
  have h1 : (((ascL ((lensL L).map fun x => -x)).map (fun x => -x)).reverse).Perm (lensL L) := by
    refine (List.reverse_perm _).trans (((ascL_perm _).map _).trans ?_)
    rw [List.map_map]
    have e : ((fun x : Int => -x) ∘ fun x => -x) = id := by funext x; simp
    rw [e, List.map_id]
  have h2 : (((ascL ((lensL L).map fun x => -x)).map (fun x => -x)).reverse).Pairwise (· ≤ ·) := by
    rw [List.pairwise_reverse, List.pairwise_map]
    exact (ascL_asc _).imp (by intro a b h; omega)
  have h3 := ascL_of h1 h2
  unfold typL
  rw [← h3, List.reverse_reverse]
end Go.Proofs.Ytoicdfdfajfopaa

namespace Go.Proofs.Ytoicdfdfajfopaa
open Go.RowKit Go.Maps
def ins (s : List Int) (j : Nat) (y : Int) : List Int := s.take j ++ y :: s.drop j
theorem ins_lenT (s : List Int) (j : Nat) (y : Int) : (ins s j y).length = s.length + 1 := by
  unfold ins
  simp
  omega
theorem ins_end (s : List Int) (y : Int) : ins s s.length y = s ++ [y] := by simp [ins]
theorem ins_set (s : List Int) (j : Nat) (y x : Int) (h : j ≤ s.length) : (ins s j y).set j x = ins s j x := by
  have e : (s.take j).length = j := by rw [List.length_take]; omega
  unfold ins
  rw [List.set_append_right _ _ (by omega), e, Nat.sub_self, List.set_cons_zero]
theorem ins_get (s : List Int) (j : Nat) (y : Int) (h : j < s.length) : (ins s (j + 1) y)[j]?.getD 0 = s[j]?.getD 0 := by
  unfold ins
  rw [List.getElem?_append_left (by rw [List.length_take]; omega), List.getElem?_take_of_lt (by omega)]
theorem ins_shift (s : List Int) (j : Nat) (y : Int) (h : j < s.length) : (ins s (j + 1) y).set (j + 1) (s[j]?.getD 0) = ins s j (s[j]?.getD 0) := by
  rw [ins_set s (j + 1) y _ (by omega)]
  unfold ins
  rw [List.take_add_one, List.getElem?_eq_getElem h, List.append_assoc]
  conv => rhs; rw [List.drop_eq_getElem_cons h]
  simp
theorem ins_perm {s zs : List Int} {k : Nat} {x : Int} (hp : s.Perm (zs.take k)) (hx : zs.take (k + 1) = zs.take k ++ [x]) (j : Nat) : (ins s j x).Perm (zs.take (k + 1)) := by
  unfold ins
  refine List.perm_middle.trans ?_
  rw [List.take_append_drop, hx]
  exact (hp.cons x).trans (List.perm_append_comm (l₁ := [x]) (l₂ := zs.take k))
theorem ins_sorted {s : List Int} {j : Nat} {x : Int} (hs : s.Pairwise (· ≤ ·)) (_hj : j ≤ s.length) (hle : ∀ z ∈ s.take j, z ≤ x) (hgt : ∀ z ∈ s.drop j, x < z) : (ins s j x).Pairwise (· ≤ ·) := by
  have h0 := hs
  rw [← List.take_append_drop j s, List.pairwise_append] at h0
  unfold ins
  rw [List.pairwise_append, List.pairwise_cons]
  refine ⟨h0.1, ⟨fun z hz => by have := hgt z hz; omega, h0.2.1⟩, fun p hp q hq => ?_⟩
  rcases List.mem_cons.1 hq with rfl | hq
  · exact hle p hp
  · exact h0.2.2 p hp q hq
theorem sorted_le {s : List Int} {j : Nat} {x : Int} (hs : s.Pairwise (· ≤ ·)) (hj : j < s.length) (h : s[j]?.getD 0 ≤ x) : ∀ z ∈ s.take (j + 1), z ≤ x := by
  rw [List.getElem?_eq_getElem hj, Option.getD_some] at h
  intro z hz
  obtain ⟨i, hi, rfl⟩ := List.mem_iff_getElem.1 hz
  rw [List.length_take] at hi
  rw [List.getElem_take]
  rcases Nat.lt_or_ge i j with h1 | h1
  · have := List.pairwise_iff_getElem.1 hs i j (by omega) hj h1
    omega
  · have e : i = j := by omega
    subst e
    exact h
theorem OwnJ.setT {w : World} {base g n cap : Nat} {zs : List Int} (h : OwnJ w base (.slice (some ⟨g, 0, none⟩) n cap) zs) {i : Nat} {x : Int} (_hi : i < zs.length) :
    OwnJ (w.setCell ⟨g, i, none⟩ (.int .i64 x)) base (.slice (some ⟨g, 0, none⟩) n cap) (zs.set i x) ∧ w.grownBy (w.setCell ⟨g, i, none⟩ (.int .i64 x)) (some g) := by
  refine ⟨?_, only_setCell (only_refl w (some g)) rfl _⟩
  obtain ⟨_, h | ⟨g', cap', cur, e, hb, hcur, hn, hc, hsz, hx⟩⟩ := h
  · simp at h
  · simp at e
    obtain ⟨rfl, rfl, rfl⟩ := e
    have hl : (zs.set i x).length = zs.length := List.length_set
    unfold OwnJ
    rw [hl]
    refine ⟨by simp, .inr ⟨g, cap, cur.setIfInBounds i (.int .i64 x), rfl, hb, heap_setCell_same w g i cur _ _ hcur, hn, hc, by simp [hsz], ?_⟩⟩
    rw [Array.toList_setIfInBounds, List.take_set, hx, List.map_set]
theorem OwnJ.at_ {w : World} {base g n cap : Nat} {zs : List Int} (h : OwnJ w base (.slice (some ⟨g, 0, none⟩) n cap) zs) {i : Nat} (hi : i < zs.length) : w.cell? ⟨g, i, none⟩ = some (.int .i64 (zs[i]?.getD 0)) ∧ base ≤ g ∧ g < w.heap.size ∧ n = zs.length ∧ w.frozen? ⟨g, i, none⟩ = false := by
  obtain ⟨_, h | ⟨g', cap', cur, e, hb, hcur, hn, hc, hsz, hx⟩⟩ := h
  · simp at h
  · simp at e
    obtain ⟨rfl, rfl, rfl⟩ := e
    refine ⟨?_, hb, (Array.getElem?_eq_some_iff.1 hcur).1, rfl, by simp [World.frozen?, hcur]⟩
    have e : (zs.map (Value.int .i64))[i]? = some (.int .i64 zs[i]) := by simp [hi]
    rw [← hx, List.getElem?_take_of_lt (by omega)] at e
    rw [List.getElem?_eq_getElem hi, Option.getD_some]
    simp [World.cell?, hcur]
    simpa using e
end Go.Proofs.Ytoicdfdfajfopaa

namespace Go.Proofs.Ytoicdfdfajfopaa
open Go.RowKit Go.Maps Go.Shelf
theorem mkRowD (n : Nat) (hn : n ≤ 1100000) (W : World) : (Instr.makeSlice 25 (.int .i64 (n : Int)) (.int .i64 (n : Int))).run Try.prog W = .ok (.slice (some ⟨W.heap.size, 0, none⟩) n n) (W.alloc (.cells (madeCells #[.int .i64 0] n) 2)) := by
  obtain ⟨i0, hi, hz0, hz1, hz2⟩ := info_parts infoInt64
  have hr := run_make (P := Try.prog) W 25 2 i0 (.int .i64 0) Try.underlying25 hi hz0 .i64 .i64 n n (by omega) (by omega) (by rw [hz2]; omega) (by omega)
  simp only [Int.toNat_natCast, hz1, Nat.mul_one] at hr
  exact hr
/-- The row while point k is counted: c of its blocks were met. -/
def degR (bs : List Blk) (v k c : Nat) : List Int := (List.range v).map fun q => if q < k then ((idxI (q : Int) bs bs.length).length : Int) else if q = k then (c : Int) else 0
theorem degR_len (bs : List Blk) (v k c : Nat) : (degR bs v k c).length = v := by simp [degR]
theorem degR_at (bs : List Blk) {v k : Nat} (c : Nat) (hk : k < v) : (degR bs v k c)[k]?.getD 0 = (c : Int) := by simp [degR, hk]
theorem degR_set (bs : List Blk) {v k : Nat} (c : Nat) (_hk : k < v) : (degR bs v k c).set k ((c : Int) + 1) = degR bs v k (c + 1) := by
  apply List.ext_getElem
  · simp [degR]
  · intro i h1 h2
    rw [List.getElem_set]
    by_cases e : k = i
    · subst e
      simp [degR]
    · rw [if_neg e]
      simp [degR, Ne.symm e]
theorem degR_next (bs : List Blk) (v k : Nat) : degR bs v k (idxI (k : Int) bs bs.length).length = degR bs v (k + 1) 0 := by
  apply List.map_congr_left
  intro q _
  by_cases h : q < k
  · simp [h, show q < k + 1 by omega]
  · by_cases e : q = k
    · subst e
      simp
    · simp [h, e, show ¬ q < k + 1 by omega]
theorem degR_start (bs : List Blk) (v : Nat) : degR bs v 0 0 = List.replicate v 0 := by
  apply List.ext_getElem
  · simp [degR]
  · intro i h1 h2
    simp [degR]
theorem degR_end (bs : List Blk) (v : Nat) : degR bs v v 0 = degI bs v := by
  apply List.map_congr_left
  intro q hq
  simp [List.mem_range.1 hq]
theorem idxI_upTo (p : Int) (bs : List Blk) : (idxI p bs bs.length).length = (upTo p bs bs.length).length := by simp [idxI]
theorem ownJ_own (base : Nat) (u : Value) : Own (fun (zs : List Int) W => OwnJ W base u zs) := fun _ X _ row hs hg hr => World.ownsRow.kept hs hg (by
  rcases hs.2 with ⟨rfl, _⟩ | ⟨g, cap, cur, rfl, _, hgb, _⟩
  · exact .inl rfl
  · refine .inr fun e => ?_
    obtain ⟨o, ho, hc⟩ := hr g e.symm
    rw [hgb] at ho
    cases ho
    cases hc)
/-- The marks that the loops left, the newest first: each bears a block that no call stands in. -/
def Marks (n0 : Nat) (W : World) : Nat → List Deferred → Prop
  | _, [] => True
  | n1, d :: ds => ∃ D, d = { target := .collected D, args := #[] } ∧ n0 ≤ D ∧ D < n1 ∧ W.heap[D]? = some (.deferred (some [])) ∧ Marks n0 W D ds
theorem Marks.mono {n0 : Nat} {W : World} {ds : List Deferred} {n1 n2 : Nat} (h : Marks n0 W n1 ds) (hn : n1 ≤ n2) : Marks n0 W n2 ds := by
  cases ds with
  | nil => trivial
  | cons d ds =>
    obtain ⟨D, e, h0, h1, hD, hr⟩ := h
    exact ⟨D, e, h0, by omega, hD, hr⟩
theorem Marks.kept {n0 : Nat} {W W' : World} : ∀ {ds : List Deferred} {n1 : Nat}, Marks n0 W n1 ds → (∀ D, D < n1 → W.heap[D]? = some (.deferred (some [])) → W'.heap[D]? = some (.deferred (some []))) → Marks n0 W' n1 ds
  | [], _, _, _ => trivial
  | _ :: _, _, ⟨D, e, h0, h1, hD, hr⟩, k => ⟨D, e, h0, h1, k D h1 hD, hr.kept fun D' h' => k D' (by omega)⟩
theorem Marks.grown {n0 : Nat} {W W' : World} {ds : List Deferred} {n1 : Nat} {row : Option Nat} (h : Marks n0 W n1 ds) (hg : W.grownBy W' row) (hr : ∀ r, row = some r → n1 ≤ r ∨ ∃ o : Obj, W.heap[r]? = some o ∧ o.isCells = true) : Marks n0 W' n1 ds :=
  h.kept fun D hD e => (hg.block D (Array.getElem?_eq_some_iff.1 e).1 (fun e' => by
    rcases hr D e'.symm with h | ⟨o, ho, hc⟩
    · omega
    · rw [e] at ho
      cases ho
      cases hc)).trans e
theorem Marks.alloc {n0 : Nat} {W : World} {ds : List Deferred} {n1 : Nat} (h : Marks n0 W n1 ds) (o : Obj) : Marks n0 (W.alloc o) n1 ds := h.grown (World.grownBy_alloc W o none) (fun r e => by cases e)
theorem marks_own (n0 n1 B : Nat) (hB : n1 ≤ B) {β : Type} (ds : List Deferred) : OwnFrom B (fun (_ : β) W => Marks n0 W n1 ds) := fun _ _ _ _ hs hg hr => hs.grown hg (fun r e => .inl (Nat.le_trans hB (hr r e).1))
theorem leaves_marks {F : Fence} {n : Nat} {P : Program} {fn : Func} {tmps : Array Value} {R : Ending → World → Prop} {n0 : Nat} (K : World → Prop) (hK : ∀ W D, K W → n0 ≤ D → W.heap[D]? = some (.deferred (some [])) → K (W.putObj D (.deferred none)))
    (hend : ∀ W, K W → LeavesInM F n P fn tmps R [] .returning W) : ∀ (ds : List Deferred) (n1 : Nat) (W : World), Marks n0 W n1 ds → K W → LeavesInM F n P fn tmps R ds .returning W
  | [], _, W, _, h => hend W h
  | d :: ds, n1, W, ⟨D, e, h0, h1, hD, hr⟩, h => ⟨by simp, .inl ⟨D, _, by rw [e], run_takeDeferred hD, leaves_marks K hK hend ds D _ (hr.kept fun D' h' e' => (World.putObj_heap_other (by omega)).trans e') (hK W D h h0 hD)⟩⟩
theorem meas_lt {v k : Nat} (h : k < v) : ((v : Int) - ((k + 1 : Nat) : Int)).toNat < ((v : Int) - (k : Int)).toNat := by omega
theorem wrap_succ {k : Nat} (h : k ≤ 15) : wrap64 ((k : Int) + 1) = ((k + 1 : Nat) : Int) := by unfold wrap64; omega
theorem OwnJ.baseD {w : World} {b b' : Nat} {u : Value} {zs : List Int} (h : OwnJ w b u zs) (hb : b' ≤ b) : OwnJ w b' u zs := ownsRow_base h hb
/-- A system in a box. -/
def SysAt (W : World) (B : Nat) (v : Int) (s : Value) : Prop := W.heap[B]? = some (.cells #[.int .i64 v, s] 31 (0, 0))
theorem SysAt.cells {W : World} {B : Nat} {v : Int} {s : Value} (h : SysAt W B v s) : W.cell? ⟨B, 0, none⟩ = some (.int .i64 v) ∧ W.cell? ⟨B, 1, none⟩ = some s ∧ B < W.heap.size := by
  have : W.heap[B]? = _ := h
  refine ⟨by simp [World.cell?, this], by simp [World.cell?, this], (Array.getElem?_eq_some_iff.1 this).1⟩
theorem SysAt.kept {W W' : World} {B : Nat} {v : Int} {s : Value} {row : Option Nat} (h : SysAt W B v s) (hg : W.grownBy W' row) (hr : some B ≠ row) : SysAt W' B v s := (hg.block B h.cells.2.2 hr).trans h
theorem SysAt.alloc {W : World} {B : Nat} {v : Int} {s : Value} (h : SysAt W B v s) (o : Obj) : SysAt (W.alloc o) B v s := h.kept (World.grownBy_alloc W o none) (fun e => by cases e)
theorem SysAt.own {β : Type} (B : Nat) (v : Int) (s : Value) : Own (fun (_ : β) W => SysAt W B v s) := fun _ X Y row hs hg hrow => hs.kept hg (fun e' => by
  obtain ⟨o, ho, hc⟩ := hrow B e'.symm
  rw [show X.heap[B]? = _ from hs] at ho
  cases ho
  cases hc)
end Go.Proofs.Ytoicdfdfajfopaa

namespace Go.Proofs.Ytoicdfdfajfopaa
open Go.RowKit Go.Maps Go.Shelf
theorem roundIn_any {n n' : Nat} {P : Program} {l f : Nat} {tmps : Array Value} {assign body : Code} {w : World} {R : Ending → World → Prop} (h : RoundIn Fence.wide n P l f tmps assign body w R) : RoundIn Fence.wide n' P l f tmps assign body w R :=
  ⟨h.1, fun c cs _ => h.2 c cs (room_wide _)⟩
theorem roundIn_in {n n' l' : Nat} {P : Program} {l f : Nat} {tmps : Array Value} {assign body : Code} {w : World} {R : Ending → World → Prop} (h : RoundIn Fence.wide n P l f tmps assign body w R) : RoundIn (Fence.wide.inRound l') n' P l f tmps assign body w R :=
  ⟨h.1, fun c cs _ => h.2 c cs (room_wide _)⟩
theorem yieldAt_any {n n' : Nat} {P : Program} {l : Nat} {args : Array Value} {W : World} {R : Ending → World → Prop} (h : YieldAt Fence.wide n P l args W R) : YieldAt Fence.wide n' P l args W R :=
  let ⟨fn, tmps, assign, body, h1, h2⟩ := h
  ⟨fn, tmps, assign, body, h1, roundIn_any h2⟩
theorem SeqR.any {α : Type} {n n' : Nat} {P : Program} {g : Nat} {lb : Array Value} {R : α → Nat → Value → World → Prop} {E : Nat → Prop} {S Sp : List α → Prop} {N b : Nat} {W : World}
    (h : SeqR Fence.wide n P g lb R E S Sp N b W) : SeqR Fence.wide n' P g lb R E S Sp N b W := fun l J Jx hJ hJx hY h0 =>
  callsIn_wide.2 (callsIn_wide.1 (h l J Jx hJ hJx (fun pre x k v W1 a b c => yieldAt_any (hY pre x k v W1 a b c)) h0))
/-- What stays: cells that lie in no block of E. -/
def CK (E : Nat → Prop) (X Y : World) : Prop := X.heap.size ≤ Y.heap.size ∧ ∀ i o, X.heap[i]? = some o → ¬ E i → o.isCells = true → Y.heap[i]? = some o
section
variable {E : Nat → Prop} {X Y Z : World}
theorem CK.refl (E : Nat → Prop) (X : World) : CK E X X := ⟨Nat.le_refl _, fun _ _ h _ _ => h⟩
theorem CK.trans (h : CK E X Y) (k : CK E Y Z) : CK E X Z := ⟨Nat.le_trans h.1 k.1, fun i o hi he hc => k.2 i o (h.2 i o hi he hc) he hc⟩
theorem CK.of_kept {B : Nat} (h : Kept B E X Y) : CK E X Y := ⟨h.1, fun i o hi he hc => h.2 i o hi he (.inr (by cases o <;> simp_all [Obj.isCells, keepable]))⟩
theorem CK.of_below (h : Below X.heap.size X Y) : CK E X Y := ⟨h.size, fun i o hi _ _ => (h.block i (Array.getElem?_eq_some_iff.1 hi).1).trans hi⟩
theorem CK.of_grown {row : Option Nat} (h : X.grownBy Y row) (hr : ∀ r, row = some r → ∃ o : Obj, X.heap[r]? = some o ∧ o.isCells = false) : CK E X Y := ⟨h.size, fun i o hi _ hc => (h.block i (Array.getElem?_eq_some_iff.1 hi).1 (fun e => by
  obtain ⟨o', ho', hc'⟩ := hr i e.symm
  rw [hi] at ho'
  cases ho'
  rw [hc] at hc'
  cases hc')).trans hi⟩
theorem CK.of_grownBy {row : Option Nat} (h : X.grownBy Y row) (hr : ∀ r, row = some r → E r) : CK E X Y := ⟨h.size, fun i o hi he _ => (h.block i (Array.getElem?_eq_some_iff.1 hi).1 (fun e => he (hr i e.symm))).trans hi⟩
theorem CK.cell (h : CK E X Y) {p : Addr} {u : Value} (hc : X.cell? p = some u) (he : ¬ E p.block) : Y.cell? p = some u := by
  obtain ⟨o, ho, hk⟩ := cells_of_cell hc
  rw [World.cell?_of_block ((h.2 _ o ho he hk).trans ho.symm)]
  exact hc
theorem CK.boxed {B : Nat} {t : TypeId} {v : Value} (h : CK E X Y) (hb : Boxed X B t v) (he : ¬ E B) : Boxed Y B t v := h.2 _ _ hb he rfl
theorem OwnE.ck {b : Nat} {v : Value} {zs : List Int} (h : OwnE X E b v zs) (k : CK E X Y) : OwnE Y E b v zs := by
  refine ⟨⟨h.1.1, ?_⟩, h.2⟩
  rcases h.1.2 with q | ⟨g, cap, cur, rfl, hb, hcur, hr⟩
  · exact .inl q
  · exact .inr ⟨g, cap, cur, rfl, hb, k.2 _ _ hcur (h.2 g rfl) rfl, hr⟩
/-- A table in a box, none of its blocks in E. -/
def TbE (W : World) (E : Nat → Prop) (Bx n : Nat) (T : Nat → Nat → Nat) : Prop := ∃ (G cap : Nat) (gs cs : Nat → Nat), ¬ E Bx ∧ ¬ E G ∧ (∀ a, a < n → ¬ E (gs a)) ∧ W.cell? ⟨Bx, 0, none⟩ = some (.slice (some ⟨G, 0, none⟩) n cap) ∧
  (∀ a, a < n → W.cell? ⟨G, a, none⟩ = some (.slice (some ⟨gs a, 0, none⟩) n (cs a))) ∧ ∀ a c, a < n → c < n → a ≠ c → W.cell? ⟨gs a, c, none⟩ = some (.int .i64 (T a c : Int))
theorem TbE.ck {Bx n : Nat} {T : Nat → Nat → Nat} (h : TbE X E Bx n T) (k : CK E X Y) : TbE Y E Bx n T := by
  obtain ⟨G, cap, gs, cs, h1, h2, h3, h4, h5, h6⟩ := h
  exact ⟨G, cap, gs, cs, h1, h2, h3, k.cell h4 h1, fun a ha => k.cell (h5 a ha) h2, fun a c ha hc hne => k.cell (h6 a c ha hc hne) (h3 a ha)⟩
theorem TbE.tbR {Bx n : Nat} {T : Nat → Nat → Nat} (h : TbE X E Bx n T) (hn : 1 < n) : TbR X X.heap.size Bx n T := by
  obtain ⟨G, cap, gs, cs, h1, h2, h3, h4, h5, h6⟩ := h
  have lt : ∀ {g o : Nat} {u : Value}, X.cell? ⟨g, o, none⟩ = some u → g < X.heap.size := fun hc => block_lt_of_cell hc
  refine ⟨G, cap, gs, cs, lt h4, lt (h5 0 (by omega)), fun a ha => ?_, h4, h5, h6⟩
  by_cases h0 : a = 0
  · exact lt (h6 a 1 ha (by omega) (by omega))
  · exact lt (h6 a 0 ha (by omega) h0)
end
/-- All that a search reads. -/
def RenS (E : Nat → Prop) (n b Bi Bt Bf Yb l : Nat) (v : Value) (T1 T2 : Nat → Nat → Nat) (m : List (Option Nat)) (W : World) : Prop :=
  (Boxed W Yb 92 (.func (.yield l) #[] #[]) ∧ ¬ E Yb) ∧ (Boxed W Bi 25 v ∧ ¬ E Bi) ∧ OwnE W E b v (encM m) ∧ TbE W E Bf n T1 ∧ TbE W E Bt n T2
theorem RenS.ck {E : Nat → Prop} {n b Bi Bt Bf Yb l : Nat} {v : Value} {T1 T2 : Nat → Nat → Nat} {m : List (Option Nat)} {X Y : World} (h : RenS E n b Bi Bt Bf Yb l v T1 T2 m X) (k : CK E X Y) : RenS E n b Bi Bt Bf Yb l v T1 T2 m Y :=
  ⟨⟨k.boxed h.1.1 h.1.2, h.1.2⟩, ⟨k.boxed h.2.1.1 h.2.1.2, h.2.1.2⟩, h.2.2.1.ck k, h.2.2.2.1.ck k, h.2.2.2.2.ck k⟩
theorem RenS.own {E : Nat → Prop} {n b Bi Bt Bf Yb l : Nat} {v : Value} {T1 T2 : Nat → Nat → Nat} {m : List (Option Nat)} (B : Nat) : OwnFrom B (fun (_ : Unit) W => RenS E n b Bi Bt Bf Yb l v T1 T2 m W) := fun _ _ _ _ hs hg hr =>
  hs.ck (CK.of_grown hg (fun r e => (hr r e).2))
/-- The renumberings that come before the choice q. -/
def doneR (n : Nat) (T1 T2 : Nat → Nat → Nat) (d : Nat) (m : List (Option Nat)) (p q : Nat) : List (List (Option Nat)) := (List.range q).flatMap fun q => match propR n T1 T2 m p q with
  | none => []
  | some m' => rens n T1 T2 d m'
theorem doneR_succ (n : Nat) (T1 T2 : Nat → Nat → Nat) (d : Nat) (m : List (Option Nat)) (p q : Nat) : doneR n T1 T2 d m p (q + 1) = doneR n T1 T2 d m p q ++ match propR n T1 T2 m p q with
    | none => []
    | some m' => rens n T1 T2 d m' := by
  unfold doneR
  rw [List.range_succ, List.flatMap_append, List.flatMap_singleton]
theorem rens_done {n : Nat} {T1 T2 : Nat → Nat → Nat} {d : Nat} {m : List (Option Nat)} {p : Nat} (h : m.findIdx? Option.isNone = some p) : rens n T1 T2 (d + 1) m = doneR n T1 T2 d m p n := by
  rw [rens, h]
  rfl
theorem doneR_pre {n : Nat} {T1 T2 : Nat → Nat → Nat} {d : Nat} {m : List (Option Nat)} {p : Nat} : ∀ {q : Nat} (k : Nat), doneR n T1 T2 d m p q <+: doneR n T1 T2 d m p (q + k)
  | _, 0 => List.prefix_refl _
  | q, k + 1 => by
    rw [show q + (k + 1) = (q + k) + 1 by omega, doneR_succ]
    exact (doneR_pre k).trans (List.prefix_append _ _)
theorem doneR_stop {n : Nat} {T1 T2 : Nat → Nat → Nat} {d : Nat} {m m' : List (Option Nat)} {p q : Nat} {pre : List (List (Option Nat))} (hq : q < n) (hm : propR n T1 T2 m p q = some m') (hp : pre <+: rens n T1 T2 d m') : doneR n T1 T2 d m p q ++ pre <+: doneR n T1 T2 d m p n := by
  have h1 : doneR n T1 T2 d m p q ++ pre <+: doneR n T1 T2 d m p (q + 1) := by
    rw [doneR_succ, hm]
    exact (List.prefix_append_right_inj _).2 hp
  have h2 := doneR_pre (n := n) (T1 := T1) (T2 := T2) (d := d) (m := m) (p := p) (q := q + 1) (n - (q + 1))
  rw [show q + 1 + (n - (q + 1)) = n by omega] at h2
  exact h1.trans h2
end Go.Proofs.Ytoicdfdfajfopaa

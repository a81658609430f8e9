
/- impl.thirdsOf. impl.fullCode of one system. CyclesOf: the program. The types: plain. The outline's ascending list. CyclesOf: the program's answer. The contract of slices.Sort, laid at []int64. The contract of slices.Reverse, laid at []int64. impl.typeFrom. impl.typeFrom: the type of two points. TypeOf: the program's answer. What DoubleSystem answers: plain. Renumbered systems, and systems of blocks in any order: plain. -/
import Derived.Test.YtiomdfhhejdoiaaJ9
import Derived.StillTailTactics
import Derived.BigQuiet
import Derived.Shelf.SortM.Plain
import Derived.Ground.SlgmProg
import Derived.Test.YtiomdfhhejdoiaaProg
import Derived.Shelf.SlicesG.Reverse
import Derived.Ground.SlgnProg
import Derived.Shelf.SortM.SortNone
import Derived.Lib.OwnBridge
namespace Go.Proofs.Ytiomdfhhejdoiaa
open Go.RowKit Go.Maps
set_option maxRecDepth 100000 in
set_option maxHeartbeats 8000000 in
theorem thirdsOf_any (n : Nat) (s : Value) (bs : List Blk) (w : World) (h : SB w s bs) (hi : isSysImpl (n : Int) bs = true) :
    Calls Try.prog 67 #[.agg #[.int .i64 (n : Int), s]] w (fun e w' => ∃ G gs caps, e = .returned (.slice (some ⟨G, 0, none⟩) n n) ∧ w.heap.size ≤ G ∧ Below w.heap.size w w' ∧ SSR w' w.heap.size G gs caps n (rowT n (tabN bs))) := by
  have hs := h.slice
  obtain ⟨hv3, hv15, hb35⟩ := sys_size hi
  have HI := Lib.hid hi
  have HG := Lib.hid (sys_good hi)
  have HSX := Lib.hid h.sx
  have hmr := mkRow n (by omega)
  have hmo := mkRows n (by omega)
  clear h hi
  obtain ⟨a0, c0, rfl⟩ := hs
  go_enter Try.func67, Try.ntmps67
  go_wp2_with fail
  obtain ⟨W1, hW1⟩ : ∃ W1, W1 = w.alloc (.cells #[.int .i64 (n : Int), .slice a0 bs.length c0] 31) := ⟨_, rfl⟩
  have hz1 : W1.heap.size = w.heap.size + 1 := by rw [hW1]; simp
  have p0 : W1.cell? ⟨w.heap.size, 0, none⟩ = some (.int .i64 (n : Int)) := by rw [hW1]; simp [go_sem]
  have p1 : W1.cell? ⟨w.heap.size, 1, none⟩ = some (.slice a0 bs.length c0) := by rw [hW1]; simp [go_sem]
  have HB1 := Lib.hid (show Below w.heap.size w W1 by rw [hW1]; exact (Below.refl _ _).alloc (Nat.le_refl _) _)
  rw [← hW1]
  clear hW1
  go_loopw [14] (fun i wr => ∃ (k : Nat) (gs caps : Nat → Nat), k ≤ n ∧ i = .int .i64 k ∧ Below (w.heap.size + 1) W1 wr ∧ w.heap.size + 1 < wr.heap.size ∧ SSR wr (w.heap.size + 1) (w.heap.size + 1) gs caps k (rowT n fun _ _ => 0) ∧ (∀ q, q < n → ∃ u, wr.cell? ⟨w.heap.size + 1, q, none⟩ = some u) ∧ (∀ o, wr.frozen? ⟨w.heap.size + 1, o, none⟩ = false)) (fun i _ => n - (intOf i).toNat)
  case atStart =>
    rw [← hz1]
    exact ⟨0, fun _ => 0, fun _ => 0, Nat.zero_le _, rfl, (Below.refl _ _).alloc (Nat.le_refl _) _, by simp, ⟨fun k hk => by omega, fun k hk => by omega, fun k hk => by omega, fun j k _ hk => by omega, fun k hk => by omega, by simp⟩, fun q hq => by rw [World.cell?_alloc_at _ _ _ _ rfl]; exact ⟨.slice none 0 0, by simp [madeCells, hq, Nat.mod_one]⟩, fun o => by simp⟩
  case round =>
    obtain ⟨k, gs, caps, hk, rfl, hB, hz, hS, hcs, hfz⟩ := hrel
    have HS := Lib.hid hS
    have HB := Lib.hid hB
    have r0 := (hB.cell (p := ⟨w.heap.size, 0, none⟩) (by simp)).trans p0
    have r1 := (hB.cell (p := ⟨w.heap.size, 1, none⟩) (by simp)).trans p1
    by_cases hkl : k < n
    · obtain ⟨u, hu⟩ := hcs k hkl
      have hf := hfz k
      have HC := Lib.hid hcs
      have HFZ := Lib.hid hfz
      have g0 : (0 : Int) ≤ (k : Int) := by omega
      have g1 : (k : Int) < (n : Int) := by omega
      clear hS hB hcs hfz
      obtain ⟨w1, hw1⟩ : ∃ w1, w1 = wr.alloc (.cells (madeCells #[.int .i64 0] n) 2) := ⟨_, rfl⟩
      have hb1 : Below wr.heap.size wr w1 := by rw [hw1]; exact (Below.refl _ _).alloc (Nat.le_refl _) _
      have ho1 : OwnAtI w1 wr.heap.size (List.replicate n 0) := by rw [hw1]; exact made_ints wr n _
      have hz2 : w1.heap.size = wr.heap.size + 1 := by rw [hw1]; simp
      have m1 : (wr.alloc (.cells (madeCells #[.int .i64 0] n) 2)).cell? ⟨w.heap.size + 1, k, none⟩ = some u := by rw [← hw1]; exact (hb1.cell (p := ⟨w.heap.size + 1, k, none⟩) hz).trans hu
      have f1 : (wr.alloc (.cells (madeCells #[.int .i64 0] n) 2)).frozen? ⟨w.heap.size + 1, k, none⟩ = false := by rw [← hw1]; exact (hb1.frozen (p := ⟨w.heap.size + 1, k, none⟩) hz).trans hf
      have HW := Lib.hid hw1
      have HB1 := Lib.hid hb1
      have HO1 := Lib.hid ho1
      clear hw1 hb1 ho1
      go_wp2_with fail
      rw [← HW.out] at m1 f1
      have hsw : (wr.setCell ⟨w.heap.size + 1, k, none⟩ (.slice (some ⟨wr.heap.size, 0, none⟩) n n)).alloc (.cells (madeCells #[.int .i64 0] n) 2) = w1.setCell ⟨w.heap.size + 1, k, none⟩ (.slice (some ⟨wr.heap.size, 0, none⟩) n n) := by rw [HW.out]; exact (World.setCell_alloc_past _ _ _ _ hz).symm
      rw [hsw]
      have hS1 := HS.out.below HB1.out (Nat.le_refl _)
      have hst := only_setCell (only_refl w1 (some (w.heap.size + 1))) (p := ⟨w.heap.size + 1, k, none⟩) rfl (.slice (some ⟨wr.heap.size, 0, none⟩) n n)
      go_roundw
      case rel =>
        refine ⟨k + 1, fun q => if q = k then wr.heap.size else gs q, fun q => if q = k then n else caps q, by omega, by go_num, (HB.out.trans (HB1.out.mono (by omega))).setCell (p := ⟨w.heap.size + 1, k, none⟩) (Nat.le_refl _) _, by simp [World.setCell]; omega, ⟨fun q hq => ?_, fun q hq => ?_, fun q hq => ?_, fun p q hpq hq => ?_, fun q hq => ?_, by simp [World.setCell]; omega⟩, fun q hq => ?_, fun o => by rw [World.frozen?_setCell]; exact (HB1.out.frozen (p := ⟨w.heap.size + 1, o, none⟩) hz).trans (HFZ.out o)⟩
        · by_cases e : q = k
          · subst e
            rw [World.cell?_setCell_same' _ _ _ (by rw [m1]; rfl)]
            simp [rowT_len]
          · rw [World.cell?_setCell_other _ _ _ _ (by simp <;> omega), hS1.cell q (by omega)]
            simp [e]
        · by_cases e : q = k
          · subst e
            simp only [if_pos]
            rw [rowT_zero]
            exact HO1.out.kept hst (by simp; omega)
          · simp only [if_neg e]
            exact (hS1.row q (by omega)).kept hst (by have := hS1.ne q (by omega); simpa using this)
        · by_cases e : q = k
          · simp only [if_pos e]; omega
          · simp only [if_neg e]; exact hS1.ne q (by omega)
        · have e1 : p ≠ k := by omega
          simp only [if_neg e1]
          by_cases e : q = k
          · simp only [if_pos e]
            exact Nat.ne_of_lt (HS.out.row p (by omega)).lt
          · simp only [if_neg e]
            exact hS1.inc p q hpq (by omega)
        · by_cases e : q = k
          · simp only [if_pos e]; omega
          · simp only [if_neg e]; exact hS1.low q (by omega)
        · by_cases e : q = k
          · subst e
            exact ⟨_, World.cell?_setCell_same' _ _ _ (by rw [m1]; rfl)⟩
          · obtain ⟨u', hu'⟩ := HC.out q hq
            exact ⟨u', by rw [World.cell?_setCell_other _ _ _ _ (by simp <;> omega)]; exact (HB1.out.cell (p := ⟨w.heap.size + 1, q, none⟩) hz).trans hu'⟩
      case measure => simp [intOf]; omega
    · have e : k = n := by omega
      have dk : (n : Int) ≤ (k : Int) := by omega
      have dk2 : decide (k < n) = false := by simp; omega
      rw [e] at HS
      have HS0 := Lib.hid (HS.out.congr (F' := rowT n (tabN (bs.take 0))) (fun j _ => rowT_congr fun q _ => by simp [tabN, tabI]))
      clear e hkl hk hS hB hcs hfz HS
      obtain ⟨W2, rfl⟩ : ∃ W2, W2 = wr := ⟨_, rfl⟩
      go_wp2_with fail
      clear dk dk2
      go_loopw [27] (fun i wr => ∃ m : Nat, m ≤ bs.length ∧ i = .int .i64 m ∧ Below (w.heap.size + 1) W1 wr ∧ SSR wr (w.heap.size + 1) (w.heap.size + 1) gs caps n (rowT n (tabN (bs.take m)))) (fun i _ => bs.length - (intOf i).toNat)
      case atStart => exact ⟨0, Nat.zero_le _, rfl, HB.out, HS0.out⟩
      case round =>
        obtain ⟨m, hm, rfl, hB, hS⟩ := hrel
        have HBm := Lib.hid hB
        have HSm := Lib.hid hS
        have hzm := hB.size
        clear hB hS
        by_cases hml : m < bs.length
        · have hbw : Below w.heap.size w wr := HB1.out.trans (HBm.out.mono (by omega))
          rcases HSX.out with ⟨_, _, _, hnil⟩ | ⟨b, off, cap, hv, hblt, hbl⟩
          · rw [hnil] at hml; simp at hml
          simp at hv
          obtain ⟨rfl, rfl⟩ := hv
          obtain ⟨x, hx, ex, x1, x2, x3⟩ := blks_at (hbl.below hbw hblt) hml
          have hgx := goodB_iff.1 (HG.out x hx)
          obtain ⟨xa, xb, xc⟩ := x
          dsimp only at hgx x1 x2 x3
          obtain ⟨p, rfl⟩ := Int.eq_ofNat_of_zero_le hgx.1
          obtain ⟨q, rfl⟩ := Int.eq_ofNat_of_zero_le (show 0 ≤ xb by omega)
          obtain ⟨r, rfl⟩ := Int.eq_ofNat_of_zero_le (show 0 ≤ xc by omega)
          have hp : p < n := by omega
          have hq : q < n := by omega
          have hr : r < n := by omega
          have HSIX := Lib.hid (fun j k => six_tab HI.out hml ex (show p < q by omega) (show q < r by omega) j k)
          have i0 : (0 : Int) ≤ (m : Int) := by omega
          have i1 : (m : Int) < (bs.length : Int) := by omega
          have hB0 := hzm
          have TB0 : TBx W1 (wr.alloc (.cells #[.int .i64 (p : Int), .int .i64 (q : Int), .int .i64 (r : Int)] 68)) (w.heap.size + 1) (w.heap.size + 1) wr.heap.size gs caps n (tabN (bs.take m)) p q r :=
            ⟨HBm.out.alloc (by omega) _, HSm.out.below ((Below.refl _ _).alloc (Nat.le_refl _) _) (Nat.le_refl _), by simp [go_sem], by simp [go_sem], by simp [go_sem], fun j hj => (HSm.out.row j hj).lt⟩
          have HTB0 := Lib.hid TB0
          clear TB0 hgx hx ex hbl
          go_wp2_with fail
          obtain ⟨V0, hV0⟩ : ∃ V0, V0 = wr.alloc (.cells #[.int .i64 (p : Int), .int .i64 (q : Int), .int .i64 (r : Int)] 68) := ⟨_, rfl⟩
          rw [← hV0] at HTB0 ⊢
          clear hV0 x1 x2 x3
          refine wp_loop_rounds 4 ?_
          rw [rounds_succ]
          go_wp2_with fail
          refine wp_loop_rounds 4 ?_
          rw [rounds_succ]
          go_wp2_with fail
          rw [rounds_succ]
          go_wp2_with fail
          have c0 := HTB0.out.c0
          have c1 := HTB0.out.c1
          have c2 := HTB0.out.c2
          have o1 := HTB0.out.tab.cell p hp
          rw [rowT_len] at o1
          have s1 := (HTB0.out.tab.row p hp).at_ q (by rw [rowT_len]; exact hq)
          rw [Nat.zero_add] at s1
          have f1 := (HTB0.out.tab.row p hp).free q
          have HTB1 := Lib.hid (HTB0.out.step hp hq (r : Int))
          have k1 : IntKind.i64.wrap (3 - 0) = 3 := by decide
          have k2 : IntKind.i64.wrap (3 - 1) = 2 := by decide
          have k3 : IntKind.i64.wrap 2 = 2 := by decide
          have k4 : IntKind.i64.wrap 3 = 3 := by decide
          go_still_tail 16, (by kernel_rfl)
          change wpList _ _ _ _ _ V0.drew
          have s2 : V0.drew.cell? ⟨gs p, q, none⟩ = some _ := s1
          have f2 : V0.drew.frozen? ⟨gs p, q, none⟩ = false := f1
          clear c0 c1 c2 o1 s1 f1 k1 k2 k3 k4
          go_wp2_with fail
          obtain ⟨V1, hV1⟩ : ∃ V, V = (V0.setCell ⟨gs p, q, none⟩ (.int .i64 (r : Int))).drew := ⟨_, rfl⟩
          rw [← hV1] at HTB1 ⊢
          clear hV1 s2 f2 HTB0
          rw [rounds_succ]
          go_wp2_with fail
          have c0 := HTB1.out.c0
          have c1 := HTB1.out.c1
          have c2 := HTB1.out.c2
          have o1 := HTB1.out.tab.cell p hp
          rw [rowT_len] at o1
          have s1 := (HTB1.out.tab.row p hp).at_ r (by rw [rowT_len]; exact hr)
          rw [Nat.zero_add] at s1
          have f1 := (HTB1.out.tab.row p hp).free r
          have HTB2 := Lib.hid (HTB1.out.step hp hr (q : Int))
          have k1 : IntKind.i64.wrap (3 - 0) = 3 := by decide
          have k2 : IntKind.i64.wrap (3 - 2) = 1 := by decide
          have k3 : IntKind.i64.wrap 1 = 1 := by decide
          have k4 : IntKind.i64.wrap 3 = 3 := by decide
          go_still_tail 16, (by kernel_rfl)
          change wpList _ _ _ _ _ V1.drew
          have s2 : V1.drew.cell? ⟨gs p, r, none⟩ = some _ := s1
          have f2 : V1.drew.frozen? ⟨gs p, r, none⟩ = false := f1
          clear c0 c1 c2 o1 s1 f1 k1 k2 k3 k4
          go_wp2_with fail
          obtain ⟨V2, hV2⟩ : ∃ V, V = (V1.setCell ⟨gs p, r, none⟩ (.int .i64 (q : Int))).drew := ⟨_, rfl⟩
          rw [← hV2] at HTB2 ⊢
          clear hV2 s2 f2 HTB1
          rw [rounds_succ]
          go_wp2_with fail
          rw [rounds_succ]
          go_wp2_with fail
          refine wp_loop_rounds 4 ?_
          rw [rounds_succ]
          go_wp2_with fail
          have c0 := HTB2.out.c0
          have c1 := HTB2.out.c1
          have c2 := HTB2.out.c2
          have o1 := HTB2.out.tab.cell q hq
          rw [rowT_len] at o1
          have s1 := (HTB2.out.tab.row q hq).at_ p (by rw [rowT_len]; exact hp)
          rw [Nat.zero_add] at s1
          have f1 := (HTB2.out.tab.row q hq).free p
          have HTB3 := Lib.hid (HTB2.out.step hq hp (r : Int))
          have k1 : IntKind.i64.wrap (3 - 1) = 2 := by decide
          have k2 : IntKind.i64.wrap (2 - 0) = 2 := by decide
          have k3 : IntKind.i64.wrap 2 = 2 := by decide
          have k4 : IntKind.i64.wrap 2 = 2 := by decide
          go_still_tail 16, (by kernel_rfl)
          change wpList _ _ _ _ _ V2.drew
          have s2 : V2.drew.cell? ⟨gs q, p, none⟩ = some _ := s1
          have f2 : V2.drew.frozen? ⟨gs q, p, none⟩ = false := f1
          clear c0 c1 c2 o1 s1 f1 k1 k2 k3 k4
          go_wp2_with fail
          obtain ⟨V3, hV3⟩ : ∃ V, V = (V2.setCell ⟨gs q, p, none⟩ (.int .i64 (r : Int))).drew := ⟨_, rfl⟩
          rw [← hV3] at HTB3 ⊢
          clear hV3 s2 f2 HTB2
          rw [rounds_succ]
          go_wp2_with fail
          rw [rounds_succ]
          go_wp2_with fail
          have c0 := HTB3.out.c0
          have c1 := HTB3.out.c1
          have c2 := HTB3.out.c2
          have o1 := HTB3.out.tab.cell q hq
          rw [rowT_len] at o1
          have s1 := (HTB3.out.tab.row q hq).at_ r (by rw [rowT_len]; exact hr)
          rw [Nat.zero_add] at s1
          have f1 := (HTB3.out.tab.row q hq).free r
          have HTB4 := Lib.hid (HTB3.out.step hq hr (p : Int))
          have k1 : IntKind.i64.wrap (3 - 1) = 2 := by decide
          have k2 : IntKind.i64.wrap (2 - 2) = 0 := by decide
          have k3 : IntKind.i64.wrap 0 = 0 := by decide
          have k4 : IntKind.i64.wrap 2 = 2 := by decide
          go_still_tail 16, (by kernel_rfl)
          change wpList _ _ _ _ _ V3.drew
          have s2 : V3.drew.cell? ⟨gs q, r, none⟩ = some _ := s1
          have f2 : V3.drew.frozen? ⟨gs q, r, none⟩ = false := f1
          clear c0 c1 c2 o1 s1 f1 k1 k2 k3 k4
          go_wp2_with fail
          obtain ⟨V4, hV4⟩ : ∃ V, V = (V3.setCell ⟨gs q, r, none⟩ (.int .i64 (p : Int))).drew := ⟨_, rfl⟩
          rw [← hV4] at HTB4 ⊢
          clear hV4 s2 f2 HTB3
          rw [rounds_succ]
          go_wp2_with fail
          rw [rounds_succ]
          go_wp2_with fail
          refine wp_loop_rounds 4 ?_
          rw [rounds_succ]
          go_wp2_with fail
          have c0 := HTB4.out.c0
          have c1 := HTB4.out.c1
          have c2 := HTB4.out.c2
          have o1 := HTB4.out.tab.cell r hr
          rw [rowT_len] at o1
          have s1 := (HTB4.out.tab.row r hr).at_ p (by rw [rowT_len]; exact hp)
          rw [Nat.zero_add] at s1
          have f1 := (HTB4.out.tab.row r hr).free p
          have HTB5 := Lib.hid (HTB4.out.step hr hp (q : Int))
          have k1 : IntKind.i64.wrap (3 - 2) = 1 := by decide
          have k2 : IntKind.i64.wrap (1 - 0) = 1 := by decide
          have k3 : IntKind.i64.wrap 1 = 1 := by decide
          have k4 : IntKind.i64.wrap 1 = 1 := by decide
          go_still_tail 16, (by kernel_rfl)
          change wpList _ _ _ _ _ V4.drew
          have s2 : V4.drew.cell? ⟨gs r, p, none⟩ = some _ := s1
          have f2 : V4.drew.frozen? ⟨gs r, p, none⟩ = false := f1
          clear c0 c1 c2 o1 s1 f1 k1 k2 k3 k4
          go_wp2_with fail
          obtain ⟨V5, hV5⟩ : ∃ V, V = (V4.setCell ⟨gs r, p, none⟩ (.int .i64 (q : Int))).drew := ⟨_, rfl⟩
          rw [← hV5] at HTB5 ⊢
          clear hV5 s2 f2 HTB4
          rw [rounds_succ]
          go_wp2_with fail
          have c0 := HTB5.out.c0
          have c1 := HTB5.out.c1
          have c2 := HTB5.out.c2
          have o1 := HTB5.out.tab.cell r hr
          rw [rowT_len] at o1
          have s1 := (HTB5.out.tab.row r hr).at_ q (by rw [rowT_len]; exact hq)
          rw [Nat.zero_add] at s1
          have f1 := (HTB5.out.tab.row r hr).free q
          have HTB6 := Lib.hid (HTB5.out.step hr hq (p : Int))
          have k1 : IntKind.i64.wrap (3 - 2) = 1 := by decide
          have k2 : IntKind.i64.wrap (1 - 1) = 0 := by decide
          have k3 : IntKind.i64.wrap 0 = 0 := by decide
          have k4 : IntKind.i64.wrap 1 = 1 := by decide
          go_still_tail 16, (by kernel_rfl)
          change wpList _ _ _ _ _ V5.drew
          have s2 : V5.drew.cell? ⟨gs r, q, none⟩ = some _ := s1
          have f2 : V5.drew.frozen? ⟨gs r, q, none⟩ = false := f1
          clear c0 c1 c2 o1 s1 f1 k1 k2 k3 k4
          go_wp2_with fail
          obtain ⟨V6, hV6⟩ : ∃ V, V = (V5.setCell ⟨gs r, q, none⟩ (.int .i64 (p : Int))).drew := ⟨_, rfl⟩
          rw [← hV6] at HTB6 ⊢
          clear hV6 s2 f2 HTB5
          rw [rounds_succ]
          go_wp2_with fail
          rw [rounds_succ]
          go_wp2_with fail
          rw [rounds_succ]
          go_wp2_with fail
          go_roundw
          case rel => exact ⟨m + 1, by omega, by go_num, HTB6.out.below, HTB6.out.tab.congr fun j _ => rowT_congr fun q _ => HSIX.out j q⟩
          case measure => simp [intOf]; omega
        · have e : m = bs.length := by omega
          subst e
          rw [List.take_length] at HSm
          have hS := HSm.out
          go_wp2
          go_ret
          exact ⟨_, gs, caps, rfl, by omega, HB1.out.trans (HBm.out.mono (by omega)), ⟨hS.cell, hS.row, hS.ne, hS.inc, fun k hk => Nat.le_trans (by omega) (hS.low k hk), hS.lt⟩⟩
end Go.Proofs.Ytiomdfhhejdoiaa

namespace Go.Proofs.Ytiomdfhhejdoiaa
open Go.RowKit Go.Maps
def fullC (v : Int) (bs : List Blk) : Int := if isSysImpl v bs then (if fullB v bs then 0 else 5) else 1
theorem fullV_cases (v : Int) (bs : List Blk) : (fullV v bs = boolCode true 0 ∧ fullC v bs = 0) ∨ (fullV v bs = boolCode false 0 ∧ fullC v bs = 5) ∨ (fullV v bs = boolCode false 1 ∧ fullC v bs = 1) := by
  unfold fullV fullC
  cases isSysImpl v bs
  · right; right; simp
  · cases fullB v bs
    · right; left; simp
    · left; simp
set_option maxRecDepth 100000 in
theorem fullCode_one (B : Nat) (v : Int) (s : Value) (bs : List Blk) (w : World) (h : SB w s bs) (c0 : w.cell? ⟨B, 0, none⟩ = some (.int .i64 v)) (c1 : w.cell? ⟨B, 1, none⟩ = some s) :
    Calls Try.prog 66 #[.slice (some ⟨B, 0, none⟩) 1 1] w (RV (.int .i64 (fullC v bs)) w) := by
  have hs := h.slice
  have HI := Lib.hid (IsFull_any v s bs (w.alloc (.cells #[.int .i64 v, s] 31)) (h.below ((Below.refl _ _).alloc (Nat.le_refl _) _) (Nat.le_refl _)))
  clear h
  obtain ⟨a, c, rfl⟩ := hs
  rcases fullV_cases v bs with ⟨e1, e2⟩ | ⟨e1, e2⟩ | ⟨e1, e2⟩
  all_goals
    rw [e1] at HI
    rw [e2]
    unfold boolCode at HI
    clear e1 e2
    go_enter Try.func66, Try.ntmps66
    go_wp2
    refine wp_loop_rounds 2 ?_
    rw [rounds_succ]
    go_wp2_with (go_at_call 96; refine HI.out.mono ?_; rintro e w1 ⟨rfl, hb1⟩)
  · rw [rounds_succ]
    go_wp2
    go_ret
    exact RV_of rfl (((Below.refl _ _).alloc (Nat.le_refl _) _).trans (hb1.mono (by simp)))
  · rw [rounds_succ]
    go_wp2
    go_ret
    exact RV_of rfl (((Below.refl _ _).alloc (Nat.le_refl _) _).trans (hb1.mono (by simp)))
  · go_ret
    exact RV_of rfl (((Below.refl _ _).alloc (Nat.le_refl _) _).trans (hb1.mono (by simp)))
end Go.Proofs.Ytiomdfhhejdoiaa

namespace Go.Proofs.Ytiomdfhhejdoiaa
open Go.RowKit Go.Maps
def cyCode (v : Int) (bs : List Blk) (a b : Int) : Int := if isSysImpl v bs then (if inP v a && inP v b && !(a == b) then (if fullB v bs then 0 else 5) else 2) else 1
noncomputable def cyF (v : Int) (bs : List Blk) (a b : Int) : List (List Int) × Int := if cyCode v bs a b = 0 then (cyS bs a.toNat b.toNat v.toNat, 0) else ([], cyCode v bs a b)
end Go.Proofs.Ytiomdfhhejdoiaa

namespace Go.Proofs.Ytiomdfhhejdoiaa
def ascL (l : List Int) : List Int := l.mergeSort fun x y => decide (x ≤ y)
def lensL (L : List (List Int)) : List Int := L.map fun r => (r.length : Int)
def typL (L : List (List Int)) : List Int := (ascL (lensL L)).reverse
noncomputable def tyF (v : Int) (bs : List Blk) (a b : Int) : List Int × Int := if cyCode v bs a b = 0 then (typL (cyS bs a.toNat b.toNat v.toNat), 0) else ([], cyCode v bs a b)
theorem ascL_perm (l : List Int) : (ascL l).Perm l := List.mergeSort_perm l _
theorem ascL_asc (l : List Int) : (ascL l).Pairwise (· ≤ ·) := by
  have := List.pairwise_mergeSort (le := fun (x y : Int) => decide (x ≤ y)) (fun a b c => by simp; omega) (fun a b => by simp; omega) l
  exact this.imp (by simp)
theorem ascL_of {l s : List Int} (hp : s.Perm l) (hs : s.Pairwise (· ≤ ·)) : s = ascL l :=
  (hp.trans (ascL_perm l).symm).eq_of_pairwise (fun _ _ _ _ h1 h2 => Int.le_antisymm h1 h2) hs (ascL_asc l)
theorem ascL_len (l : List Int) : (ascL l).length = l.length := (ascL_perm l).length_eq
theorem typL_len (L : List (List Int)) : (typL L).length = L.length := by simp [typL, ascL_len, lensL]
theorem lensL_take {L : List (List Int)} {k : Nat} (hk : k < L.length) : lensL (L.take (k + 1)) = lensL (L.take k) ++ [((rowsF L k).length : Int)] := by
  unfold lensL rowsF
  rw [List.take_add_one, List.getElem?_eq_getElem hk, List.map_append]
  rfl
theorem lensL_len (L : List (List Int)) : (lensL L).length = L.length := by simp [lensL]
/-- The negative lengths, ascending, are the lengths, descending. -/
theorem typL_neg (L : List (List Int)) : (ascL ((lensL L).map fun x => -x)).map (fun x => -x) = typL L := by
  have h1 : (((ascL ((lensL L).map fun x => -x)).map (fun x => -x)).reverse).Perm (lensL L) := by
    refine (List.reverse_perm _).trans (((ascL_perm _).map _).trans ?_)
    rw [List.map_map]
    have e : ((fun x : Int => -x) ∘ fun x => -x) = id := by funext x; simp
    rw [e, List.map_id]
  have h2 : (((ascL ((lensL L).map fun x => -x)).map (fun x => -x)).reverse).Pairwise (· ≤ ·) := by
    rw [List.pairwise_reverse, List.pairwise_map]
    exact (ascL_asc _).imp (by intro a b h; omega)
  have h3 := ascL_of h1 h2
  unfold typL
  rw [← h3, List.reverse_reverse]
end Go.Proofs.Ytiomdfhhejdoiaa

namespace Go.Proofs.Ytiomdfhhejdoiaa
open Go.RowKit Go.Maps
def ins (s : List Int) (j : Nat) (y : Int) : List Int := s.take j ++ y :: s.drop j
theorem ins_len (s : List Int) (j : Nat) (y : Int) : (ins s j y).length = s.length + 1 := by
  unfold ins
  simp
  omega
theorem ins_end (s : List Int) (y : Int) : ins s s.length y = s ++ [y] := by simp [ins]
theorem ins_set (s : List Int) (j : Nat) (y x : Int) (h : j ≤ s.length) : (ins s j y).set j x = ins s j x := by
  have e : (s.take j).length = j := by rw [List.length_take]; omega
  unfold ins
  rw [List.set_append_right _ _ (by omega), e, Nat.sub_self, List.set_cons_zero]
theorem ins_get (s : List Int) (j : Nat) (y : Int) (h : j < s.length) : (ins s (j + 1) y)[j]?.getD 0 = s[j]?.getD 0 := by
  unfold ins
  rw [List.getElem?_append_left (by rw [List.length_take]; omega), List.getElem?_take_of_lt (by omega)]
theorem ins_shift (s : List Int) (j : Nat) (y : Int) (h : j < s.length) : (ins s (j + 1) y).set (j + 1) (s[j]?.getD 0) = ins s j (s[j]?.getD 0) := by
  rw [ins_set s (j + 1) y _ (by omega)]
  unfold ins
  rw [List.take_add_one, List.getElem?_eq_getElem h, List.append_assoc]
  conv => rhs; rw [List.drop_eq_getElem_cons h]
  simp
theorem ins_perm {s zs : List Int} {k : Nat} {x : Int} (hp : s.Perm (zs.take k)) (hx : zs.take (k + 1) = zs.take k ++ [x]) (j : Nat) : (ins s j x).Perm (zs.take (k + 1)) := by
  unfold ins
  refine List.perm_middle.trans ?_
  rw [List.take_append_drop, hx]
  exact (hp.cons x).trans (List.perm_append_comm (l₁ := [x]) (l₂ := zs.take k))
theorem ins_sorted {s : List Int} {j : Nat} {x : Int} (hs : s.Pairwise (· ≤ ·)) (_hj : j ≤ s.length) (hle : ∀ z ∈ s.take j, z ≤ x) (hgt : ∀ z ∈ s.drop j, x < z) : (ins s j x).Pairwise (· ≤ ·) := by
  have h0 := hs
  rw [← List.take_append_drop j s, List.pairwise_append] at h0
  unfold ins
  rw [List.pairwise_append, List.pairwise_cons]
  refine ⟨h0.1, ⟨fun z hz => by have := hgt z hz; omega, h0.2.1⟩, fun p hp q hq => ?_⟩
  rcases List.mem_cons.1 hq with rfl | hq
  · exact hle p hp
  · exact h0.2.2 p hp q hq
theorem sorted_le {s : List Int} {j : Nat} {x : Int} (hs : s.Pairwise (· ≤ ·)) (hj : j < s.length) (h : s[j]?.getD 0 ≤ x) : ∀ z ∈ s.take (j + 1), z ≤ x := by
  rw [List.getElem?_eq_getElem hj, Option.getD_some] at h
  intro z hz
  obtain ⟨i, hi, rfl⟩ := List.mem_iff_getElem.1 hz
  rw [List.length_take] at hi
  rw [List.getElem_take]
  rcases Nat.lt_or_ge i j with h1 | h1
  · have := List.pairwise_iff_getElem.1 hs i j (by omega) hj h1
    omega
  · have e : i = j := by omega
    subst e
    exact h
theorem OwnJ.setT {w : World} {base g n cap : Nat} {zs : List Int} (h : OwnJ w base (.slice (some ⟨g, 0, none⟩) n cap) zs) {i : Nat} {x : Int} (_hi : i < zs.length) :
    OwnJ (w.setCell ⟨g, i, none⟩ (.int .i64 x)) base (.slice (some ⟨g, 0, none⟩) n cap) (zs.set i x) ∧ w.grownBy (w.setCell ⟨g, i, none⟩ (.int .i64 x)) (some g) := by
  refine ⟨?_, only_setCell (only_refl w (some g)) rfl _⟩
  obtain ⟨_, h | ⟨g', cap', cur, e, hb, hcur, hn, hc, hsz, hx⟩⟩ := h
  · simp at h
  · simp at e
    obtain ⟨rfl, rfl, rfl⟩ := e
    have hl : (zs.set i x).length = zs.length := List.length_set
    unfold OwnJ
    rw [hl]
    refine ⟨by simp, .inr ⟨g, cap, cur.setIfInBounds i (.int .i64 x), rfl, hb, heap_setCell_same w g i cur _ _ hcur, hn, hc, by simp [hsz], ?_⟩⟩
    rw [Array.toList_setIfInBounds, List.take_set, hx, List.map_set]
theorem OwnJ.at_ {w : World} {base g n cap : Nat} {zs : List Int} (h : OwnJ w base (.slice (some ⟨g, 0, none⟩) n cap) zs) {i : Nat} (hi : i < zs.length) : w.cell? ⟨g, i, none⟩ = some (.int .i64 (zs[i]?.getD 0)) ∧ base ≤ g ∧ g < w.heap.size ∧ n = zs.length ∧ w.frozen? ⟨g, i, none⟩ = false := by
  obtain ⟨_, h | ⟨g', cap', cur, e, hb, hcur, hn, hc, hsz, hx⟩⟩ := h
  · simp at h
  · simp at e
    obtain ⟨rfl, rfl, rfl⟩ := e
    refine ⟨?_, hb, (Array.getElem?_eq_some_iff.1 hcur).1, rfl, by simp [World.frozen?, hcur]⟩
    have e : (zs.map (Value.int .i64))[i]? = some (.int .i64 zs[i]) := by simp [hi]
    rw [← hx, List.getElem?_take_of_lt (by omega)] at e
    rw [List.getElem?_eq_getElem hi, Option.getD_some]
    simp [World.cell?, hcur]
    simpa using e
set_option maxRecDepth 100000 in
set_option maxHeartbeats 2000000 in
theorem l03Ascending_any (b0 off cap : Nat) (zs : List Int) (w : World) (h : Ints w b0 off zs) (hlt : b0 < w.heap.size) (hl : zs.length ≤ 1000) :
    Calls Try.prog 106 #[.slice (some ⟨b0, off, none⟩) zs.length cap] w (fun e w' => ∃ u, e = .returned u ∧ (∃ g c, u = .slice (some ⟨g, 0, none⟩) zs.length c) ∧ OwnJ w' w.heap.size u (ascL zs) ∧ Below w.heap.size w w') := by
  have HI := Lib.hid h
  obtain ⟨m, hm⟩ : ∃ m, m = zs.length := ⟨_, rfl⟩
  have HM := Lib.hid hm
  rw [← hm] at hl ⊢
  clear h hm
  obtain ⟨W0, rfl⟩ : ∃ W0, W0 = w := ⟨_, rfl⟩
  go_enter Try.func106, Try.ntmps106
  go_wp2_with fail
  go_loopw [3, 4, 5] (fun o i _ wr => ∃ (k : Nat) (s : List Int) (g c : Nat), k ≤ m ∧ i = .int .i64 k ∧ o = .slice (some ⟨g, 0, none⟩) k c ∧ Below W0.heap.size W0 wr ∧ OwnJ wr W0.heap.size (.slice (some ⟨g, 0, none⟩) k c) s ∧ Hid (s.Perm (zs.take k) ∧ s.Pairwise (· ≤ ·) ∧ s.length = k)) (fun _ i _ _ => m - (intOf i).toNat)
  case atStart => exact ⟨0, [], _, _, Nat.zero_le _, rfl, rfl, (Below.refl _ _).alloc (Nat.le_refl _) _, OwnJ.new0 _ (Nat.le_refl _), Lib.hid ⟨by simp, List.Pairwise.nil, rfl⟩⟩
  case round =>
    obtain ⟨k, s, g, c, hk, rfl, rfl, hB, hO, HP⟩ := hrel
    have hz := hB.size
    by_cases hkl : k < m
    · have q := (hB.cell (p := ⟨b0, off + k, none⟩) hlt).trans (HI.out k (by rw [← HM.out]; exact hkl))
      have hxk : zs.take (k + 1) = zs.take k ++ [zs[k]?.getD 0] := by
        have hk' : k < zs.length := by rw [← HM.out]; exact hkl
        rw [List.take_add_one, List.getElem?_eq_getElem hk']
        rfl
      obtain ⟨x, hx⟩ : ∃ x, x = zs[k]?.getD 0 := ⟨_, rfl⟩
      rw [← hx] at q hxk
      have HXK := Lib.hid hxk
      have HO := Lib.hid hO
      have HB := Lib.hid hB
      have HQ := Lib.hid q
      have g0 : (0 : Int) ≤ (k : Int) := by omega
      have g1 : (k : Int) < (m : Int) := by omega
      clear hx hxk hB hO
      go_wp2_with (at_builtin; refine wpList_append_int rfl _ _ rfl W0.heap.size _ s rfl (HO.out.below ((Below.refl _ _).alloc (Nat.le_refl _) _) (Nat.le_refl _)) _ _ x rfl (by simp [go_sem]) (by have := HP.out.2.2; omega) (by simp; omega) ?_; intro g' cap' w4 hO4 hg4)
      have hrow := HO.out.row
      have hgo : wr.grownBy w4 (some g) := ⟨hg4.os, hg4.tape, hg4.output, by have := hg4.size; simp at this; omega, fun i hi hne => by
        rw [hg4.block i (by simp; omega) hne, Below.heap_alloc _ _ _ hi]⟩
      have hB4 := HB.out.grown hgo hz (fun r e => hrow r e)
      rw [HP.out.2.2] at hO4 ⊢
      have hz4 := hB4.size
      have HO4 := Lib.hid hO4
      have HB4 := Lib.hid hB4
      clear hg4 hgo hrow hO4 hB4 q
      go_wp2_with fail
      go_loopw [5] (fun t wr' => ∃ (j : Nat) (y : Int), j ≤ k ∧ t = .int .i64 j ∧ Below W0.heap.size W0 wr' ∧ OwnJ wr' W0.heap.size (.slice (some ⟨g', 0, none⟩) (k + 1) cap') (ins s j y) ∧ Hid (∀ z ∈ s.drop j, x < z)) (fun t _ => (intOf t).toNat)
      case atStart => exact ⟨k, x, Nat.le_refl _, rfl, HB4.out, by have := HP.out.2.2; rw [← this, ins_end, this]; exact HO4.out, Lib.hid (by rw [List.drop_of_length_le (by have := HP.out.2.2; omega)]; simp)⟩
      case round =>
        obtain ⟨j, y, hjk, rfl, hB5, hO5, HGT⟩ := hrel
        have hz5 := hB5.size
        have q5 := (hB5.cell (p := ⟨b0, off + k, none⟩) hlt).trans ((HB.out.cell (p := ⟨b0, off + k, none⟩) hlt).symm.trans HQ.out)
        have hO6a := Lib.hid hO5
        have hB6a := Lib.hid hB5
        have hls := HP.out.2.2
        have hAt := hO5.at_ (i := j) (by rw [ins_len]; omega)
        have hgl := hAt.2.1
        have fz := hAt.2.2.2.2
        have c6 := hAt.1
        generalize (ins s j y)[j]?.getD 0 = old at c6
        rcases Nat.eq_zero_or_pos j with rfl | hj0
        · have hjs : 0 ≤ s.length := Nat.zero_le _
          have HLE := Lib.hid (show ∀ z ∈ s.take 0, z ≤ x by simp)
          have i1 : decide ((0 : Int) < ((0 : Nat) : Int)) = false := by simp
          clear hB5 hO5 hAt
          go_wp2
          go_quiet (fail)
          have hB6 := Lib.hid (below_drewN hB6a.out nq)
          have hO6 := Lib.hid (show OwnJ (wr.drewN nq) _ _ _ from hO6a.out)
          have hs6 := hO6.out.setT (i := 0) (x := x) (by rw [ins_len]; omega)
          rw [ins_set s 0 y x hjs] at hs6
          have hB7 := hB6.out.grown hs6.2 (by have := hB6.out.size; omega) (fun r e => by cases e; exact hgl)
          have HS6 := Lib.hid hs6.1
          have HB7 := Lib.hid hB7
          have HFIN := Lib.hid (show (ins s 0 x).Perm (zs.take (k + 1)) ∧ (ins s 0 x).Pairwise (· ≤ ·) ∧ (ins s 0 x).length = k + 1 from ⟨ins_perm HP.out.1 HXK.out 0, ins_sorted HP.out.2.1 hjs HLE.out HGT.out, by rw [ins_len, HP.out.2.2]⟩)
          clear hs6 hB7
          go_wp2
          go_roundw
          case rel => exact ⟨k + 1, ins s 0 x, g', cap', by omega, by go_num, rfl, HB7.out, HS6.out, HFIN⟩
          case measure => simp [intOf]; omega
        · obtain ⟨j', rfl⟩ : ∃ j', j = j' + 1 := ⟨j - 1, by omega⟩
          have hjk2 : j' < s.length := by omega
          have hv := ins_get s j' y hjk2
          have hsh := ins_shift s j' y hjk2
          have hA2 := hO5.at_ (i := j') (by rw [ins_len]; omega)
          have c5 := hA2.1
          have fz2 := hA2.2.2.2.2
          rw [hv] at c5
          obtain ⟨v, hvv⟩ : ∃ v, v = s[j']?.getD 0 := ⟨_, rfl⟩
          rw [← hvv] at c5 hsh
          have hdr : s.drop j' = v :: s.drop (j' + 1) := by rw [List.drop_eq_getElem_cons hjk2, hvv, List.getElem?_eq_getElem hjk2]; rfl
          have HDR := Lib.hid hdr
          have HSH := Lib.hid hsh
          have HVV := Lib.hid hvv
          have i1 : decide ((0 : Int) < (j' : Int) + 1) = true := by simp
          have e5 : ((j' + 1 : Nat) : Int) = (j' : Int) + 1 := by omega
          rw [e5]
          clear hB5 hO5 hAt hA2 hv hsh hvv hdr hls
          by_cases hc : x < v
          · have i2 : decide (x < v) = true := decide_eq_true hc
            go_wp2
            go_quiet (fail)
            have hB6 := Lib.hid (below_drewN hB6a.out nq)
            have hO6 := Lib.hid (show OwnJ (wr.drewN nq) _ _ _ from hO6a.out)
            have hs6 := hO6.out.setT (i := j' + 1) (x := v) (by rw [ins_len]; omega)
            rw [HSH.out] at hs6
            have hB7 := hB6.out.grown hs6.2 (by have := hB6.out.size; omega) (fun r e => by cases e; exact hgl)
            have HS6 := Lib.hid hs6.1
            have HB7 := Lib.hid hB7
            have HGT2 := Lib.hid (show ∀ z ∈ s.drop j', x < z by
              rw [HDR.out]
              intro z hz
              rcases List.mem_cons.1 hz with rfl | hz
              · exact hc
              · exact HGT.out z hz)
            clear hs6 hB7
            go_wp2
            go_roundw
            case rel => exact ⟨j', v, by omega, by go_num, HB7.out, HS6.out, HGT2⟩
            case measure => simp [intOf] <;> omega
          · have i2 : decide (x < v) = false := decide_eq_false hc
            have hjs : j' + 1 ≤ s.length := hjk2
            have HLE := Lib.hid (sorted_le HP.out.2.1 hjk2 (x := x) (by rw [← HVV.out]; omega))
            go_wp2
            go_quiet (fail)
            have hB6 := Lib.hid (below_drewN hB6a.out nq)
            have hO6 := Lib.hid (show OwnJ (wr.drewN nq) _ _ _ from hO6a.out)
            have hs6 := hO6.out.setT (i := (j' + 1)) (x := x) (by rw [ins_len]; omega)
            rw [ins_set s (j' + 1) y x hjs] at hs6
            have hB7 := hB6.out.grown hs6.2 (by have := hB6.out.size; omega) (fun r e => by cases e; exact hgl)
            have HS6 := Lib.hid hs6.1
            have HB7 := Lib.hid hB7
            have HFIN := Lib.hid (show (ins s (j' + 1) x).Perm (zs.take (k + 1)) ∧ (ins s (j' + 1) x).Pairwise (· ≤ ·) ∧ (ins s (j' + 1) x).length = k + 1 from ⟨ins_perm HP.out.1 HXK.out (j' + 1), ins_sorted HP.out.2.1 hjs HLE.out HGT.out, by rw [ins_len, HP.out.2.2]⟩)
            clear hs6 hB7
            go_wp2
            go_roundw
            case rel => exact ⟨k + 1, ins s (j' + 1) x, g', cap', by omega, by go_num, rfl, HB7.out, HS6.out, HFIN⟩
            case measure => simp [intOf]; omega
    · have e : k = m := by omega
      subst e
      have e2 : s = ascL zs := ascL_of (by have := HP.out.1; rw [HM.out, List.take_length] at this; exact this) HP.out.2.1
      subst e2
      clear HP
      go_wp2
      go_ret
      exact ⟨_, rfl, ⟨_, _, rfl⟩, hO, hB⟩
end Go.Proofs.Ytiomdfhhejdoiaa

namespace Go.Proofs.Ytiomdfhhejdoiaa
open Go.RowKit Go.Maps
theorem cyCode_good {v : Int} {bs : List Blk} {a b : Int} (h : cyCode v bs a b = 0) : isSysImpl v bs = true ∧ fullB v bs = true ∧ (0 ≤ a ∧ a < v) ∧ (0 ≤ b ∧ b < v) ∧ a ≠ b := by
  unfold cyCode at h
  split at h
  · rename_i hi
    split at h
    · rename_i hp
      split at h
      · rename_i hf
        simp only [Bool.and_eq_true, inP, decide_eq_true_eq, Bool.not_eq_true', beq_eq_false_iff_ne] at hp
        exact ⟨hi, hf, hp.1.1, hp.1.2, hp.2⟩
      · cases h
    · cases h
  · cases h
theorem ResSS.kept' {w w' : World} {lo : Nat} {u : Value} {n : Nat} {F : Nat → List Int} (h : ResSS w lo u n F) {lo' : Nat} (hl : lo' ≤ lo) (he : w' = w) : ResSS w' lo' u n F := by
  subst he
  rcases h with h | ⟨G, cap, gs, caps, e, h1, hS⟩
  · exact .inl h
  · exact .inr ⟨G, cap, gs, caps, e, Nat.le_trans hl h1, ⟨hS.cell, hS.row, hS.ne, hS.inc, fun k hk => Nat.le_trans hl (hS.low k hk), hS.lt⟩⟩
theorem ResSS.form {w : World} {lo : Nat} {u : Value} {n : Nat} {F : Nat → List Int} (h : ResSS w lo u n F) : ∃ a c, u = .slice a n c := by
  rcases h with ⟨rfl, a, c, rfl⟩ | ⟨G, cap, gs, caps, rfl, _⟩ <;> exact ⟨_, _, rfl⟩
end Go.Proofs.Ytiomdfhhejdoiaa

namespace Go.Proofs
open Go.Shelf
def Try.sortI_ren : Go.Shelf.Ren := ⟨fun | 5 => 98 | 8 => 101 | 7 => 123 | 19 => 132 | 20 => 133 | 10 => 148 | 11 => 149 | 12 => 150 | 13 => 151 | 14 => 152 | 15 => 153 | 16 => 154 | 17 => 155 | 18 => 156 | 30 => 165 | 31 => 158 | 32 => 159 | 33 => 166 | 34 => 167 | 35 => 134 | 40 => 170 | n => n, fun | 23 => 26 | 25 => 2 | 3 => 3 | 32 => 115 | 22 => 26 | 0 => 0 | 44 => 142 | 46 => 144 | 4 => 4 | 36 => 135 | 35 => 134 | 41 => 139 | 5 => 5 | 9 => 9 | 53 => 161 | 57 => 165 | 63 => 171 | 64 => 172 | n => n, fun | n => n⟩
theorem Try.sortI : Go.Proofs.SlLaysM.n5 Try.prog Try.sortI_ren := {
  mixed := by kernel_rfl
  f5 := ⟨Try.f98.name, by decide, Try.func98.trans (congrArg some (by kernel_rfl))⟩
  f7 := ⟨Try.f123.name, by decide, Try.func123.trans (congrArg some (by kernel_rfl))⟩
  f8 := Try.func101.trans (congrArg some (by kernel_rfl))
  f10 := ⟨Try.f148.name, by decide, Try.func148.trans (congrArg some (by kernel_rfl))⟩
  f11 := ⟨Try.f149.name, by decide, Try.func149.trans (congrArg some (by kernel_rfl))⟩
  f12 := ⟨Try.f150.name, by decide, Try.func150.trans (congrArg some (by kernel_rfl))⟩
  f13 := ⟨Try.f151.name, by decide, Try.func151.trans (congrArg some (by kernel_rfl))⟩
  f14 := ⟨Try.f152.name, by decide, Try.func152.trans (congrArg some (by kernel_rfl))⟩
  f15 := ⟨Try.f153.name, by decide, Try.func153.trans (congrArg some (by kernel_rfl))⟩
  f16 := ⟨Try.f154.name, by decide, Try.func154.trans (congrArg some (by kernel_rfl))⟩
  f17 := ⟨Try.f155.name, by decide, Try.func155.trans (congrArg some (by kernel_rfl))⟩
  f18 := ⟨Try.f156.name, by decide, Try.func156.trans (congrArg some (by kernel_rfl))⟩
  f19 := Try.func132.trans (congrArg some (by kernel_rfl))
  f20 := Try.func133.trans (congrArg some (by kernel_rfl))
  f30 := ⟨Try.f165.name, by decide, Try.func165.trans (congrArg some (by kernel_rfl))⟩
  f31 := Try.func158.trans (congrArg some (by kernel_rfl))
  f32 := Try.func159.trans (congrArg some (by kernel_rfl))
  f33 := ⟨Try.f166.name, by decide, Try.func166.trans (congrArg some (by kernel_rfl))⟩
  f34 := ⟨Try.f167.name, by decide, Try.func167.trans (congrArg some (by kernel_rfl))⟩
  f35 := ⟨Try.f134.name, by decide, Try.func134.trans (congrArg some (by kernel_rfl))⟩
  f40 := ⟨Try.f170.name, by decide, Try.func170.trans (congrArg some (by kernel_rfl))⟩
  t0 := Try.underlying0
  a0 := Try.isAgg0
  z0 := Try.sizeOf0
  v0 := Try.zeroValue0
  t3 := Try.underlying3
  a3 := Try.isAgg3
  z3 := Try.sizeOf3
  v3 := Try.zeroValue3
  t4 := Try.underlying4
  a4 := Try.isAgg4
  z4 := Try.sizeOf4
  v4 := Try.zeroValue4
  t5 := Try.underlying5
  a5 := Try.isAgg5
  z5 := Try.sizeOf5
  v5 := Try.zeroValue5
  t9 := Try.underlying9
  a9 := Try.isAgg9
  z9 := Try.sizeOf9
  v9 := Try.zeroValue9
  t22 := Try.underlying26
  a22 := Try.isAgg26
  z22 := Try.sizeOf26
  v22 := Try.zeroValue26
  t23 := Try.underlying26
  a23 := Try.isAgg26
  z23 := Try.sizeOf26
  v23 := Try.zeroValue26
  t25 := Try.underlying2
  a25 := Try.isAgg2
  z25 := Try.sizeOf2
  v25 := Try.zeroValue2
  t32 := Try.underlying115
  a32 := Try.isAgg115
  z32 := Try.sizeOf115
  v32 := Try.zeroValue115
  t35 := Try.underlying134
  a35 := Try.isAgg134
  z35 := Try.sizeOf134
  v35 := Try.zeroValue134
  t36 := Try.underlying135
  a36 := Try.isAgg135
  z36 := Try.sizeOf135
  v36 := Try.zeroValue135
  t41 := Try.underlying139
  a41 := Try.isAgg139
  z41 := Try.sizeOf139
  v41 := Try.zeroValue139
  t44 := Try.underlying142
  a44 := Try.isAgg142
  z44 := Try.sizeOf142
  v44 := Try.zeroValue142
  t46 := Try.underlying144
  a46 := Try.isAgg144
  z46 := Try.sizeOf144
  v46 := Try.zeroValue144
  t53 := Try.underlying161
  a53 := Try.isAgg161
  z53 := Try.sizeOf161
  v53 := Try.zeroValue161
  t57 := Try.underlying165
  a57 := Try.isAgg165
  z57 := Try.sizeOf165
  v57 := Try.zeroValue165
  t63 := Try.underlying171
  a63 := Try.isAgg171
  z63 := Try.sizeOf171
  v63 := Try.zeroValue171
  t64 := Try.underlying172
  a64 := Try.isAgg172
  z64 := Try.sizeOf172
  v64 := Try.zeroValue172 }
end Go.Proofs

namespace Go.Proofs
open Go.Shelf
def Try.revI_ren : Go.Shelf.Ren := ⟨fun | 35 => 99 | n => n, fun | 22 => 26 | 23 => 2 | 3 => 3 | 4 => 4 | 0 => 0 | n => n, fun | n => n⟩
theorem Try.revI : Go.Proofs.SlLaysN.n35 Try.prog Try.revI_ren := {
  mixed := by kernel_rfl
  f35 := ⟨Try.f99.name, by decide, Try.func99.trans (congrArg some (by kernel_rfl))⟩
  t0 := Try.underlying0
  a0 := Try.isAgg0
  z0 := Try.sizeOf0
  v0 := Try.zeroValue0
  t3 := Try.underlying3
  a3 := Try.isAgg3
  z3 := Try.sizeOf3
  v3 := Try.zeroValue3
  t4 := Try.underlying4
  a4 := Try.isAgg4
  z4 := Try.sizeOf4
  v4 := Try.zeroValue4
  t22 := Try.underlying26
  a22 := Try.isAgg26
  z22 := Try.sizeOf26
  v22 := Try.zeroValue26
  t23 := Try.underlying2
  a23 := Try.isAgg2
  z23 := Try.sizeOf2
  v23 := Try.zeroValue2 }
end Go.Proofs

namespace Go.Proofs.Ytiomdfhhejdoiaa
open Go.RowKit Go.Maps Go.Sort Go.Shelf
theorem grownBy_putT {w : World} {g n : Nat} {os : Array Obj} (F : Array Int) : w.grownBy (grow (putRow (Value.int .i64) (Sort.ahead w n) g 0 F) os) (some g) := by
  refine ⟨rfl, rfl, rfl, by simp, fun k hk hne => ?_⟩
  rw [heap_grow_old _ _ (by simpa using hk)]
  have : g ≠ k := fun e => hne (by rw [e])
  simp [putRow, mapBlock, Sort.ahead, Array.getElem?_modify, this]
theorem grownBy_growT (w : World) (os : Array Obj) : w.grownBy (grow w os) none :=
  ⟨rfl, rfl, rfl, by simp, fun k hk _ => heap_grow_old _ _ hk⟩
theorem OwnJ.put {w : World} {base g n cap q : Nat} {os : Array Obj} {zs ys : List Int} (h : OwnJ w base (.slice (some ⟨g, 0, none⟩) n cap) zs) (hy : ys.length = zs.length) :
    OwnJ (grow (putRow (Value.int .i64) (Sort.ahead w q) g 0 ys.toArray) os) base (.slice (some ⟨g, 0, none⟩) n cap) ys ∧ w.grownBy (grow (putRow (Value.int .i64) (Sort.ahead w q) g 0 ys.toArray) os) (some g) := by
  have hn : n = zs.length := by
    rcases h.2 with ⟨e, _⟩ | ⟨g', cap', cur, e, _⟩
    · cases e
    · injection e
  subst hn
  refine ⟨?_, grownBy_putT _⟩
  have h1 := Lib.ownsRow_putRow (q := q) (k := zs.length) h hy (Nat.le_refl _)
  rw [List.take_of_length_le (Nat.le_of_eq hy)] at h1
  refine OwnJ.kept ?_ (grownBy_growT _ os) (by simp)
  unfold OwnJ
  rw [hy]
  exact h1
theorem OwnJ.holdsT {w : World} {base g n cap : Nat} {zs : List Int} (h : OwnJ w base (.slice (some ⟨g, 0, none⟩) n cap) zs) : Holds (Value.int .i64) w g 0 zs.toArray ∧ g < w.heap.size ∧ n = zs.length := by
  obtain ⟨_, h | ⟨g', cap', cur, e, hb, hcur, hn, hc, hsz, hx⟩⟩ := h
  · simp at h
  · simp at e
    obtain ⟨rfl, rfl, rfl⟩ := e
    refine ⟨fun j hj => ?_, (Array.getElem?_eq_some_iff.1 hcur).1, rfl⟩
    have hj' : j < zs.length := by simpa using hj
    have e : (zs.map (Value.int .i64))[j]? = some (.int .i64 zs[j]) := by simp [hj']
    rw [← hx, List.getElem?_take_of_lt (by omega)] at e
    rw [Nat.zero_add]
    refine ⟨?_, by simp [World.frozen?, hcur]⟩
    rw [getElem!_pos zs.toArray j hj]
    simp [World.cell?, hcur]
    simpa using e
theorem OwnJ.baseT {w : World} {b b' : Nat} {u : Value} {zs : List Int} (h : OwnJ w b u zs) (hb : b' ≤ b) : OwnJ w b' u zs := ⟨h.1, by
  rcases h.2 with h | ⟨g, cap, cur, e, hb', hr⟩
  · exact .inl h
  · exact .inr ⟨g, cap, cur, e, Nat.le_trans hb hb', hr⟩⟩
theorem sortJ_any (base : Nat) (u : Value) (zs : List Int) (w : World) (h : OwnJ w base u zs) (hl : zs.length ≤ 3300000) :
    Calls Try.prog 98 #[u] w (fun e w' => e = .returned (.tuple #[]) ∧ w.grownBy w' u.ownBlock ∧ OwnJ w' base u (ascL zs)) := by
  rcases h.2 with ⟨rfl, h0⟩ | ⟨g, cap, cur, rfl, _⟩
  · have e0 : zs = [] := List.length_eq_zero_iff.1 h0
    subst e0
    refine (AnyM.slices_Sort_int_none Try.sortI _ _ _).mono ?_
    rintro e w' ⟨rfl, rfl⟩
    exact ⟨rfl, only_refl _ _, by simpa [ascL] using OwnJ.nil _ _⟩
  · obtain ⟨hH, hlt, _⟩ := h.holdsT
    refine (AnyM.slices_Sort_int Try.sortI g 0 cap zs w hH hlt (by omega)).mono ?_
    rintro e w' ⟨rfl, n, os, hw⟩
    obtain ⟨h1, h2⟩ := h.put (q := n) (os := os) (ascL_len zs)
    subst hw
    exact ⟨rfl, h2, h1⟩
theorem revJ_any (base : Nat) (u : Value) (zs : List Int) (w : World) (h : OwnJ w base u zs) (hl : zs.length ≤ 3300000) :
    Calls Try.prog 99 #[u] w (fun e w' => e = .returned (.tuple #[]) ∧ w.grownBy w' u.ownBlock ∧ OwnJ w' base u zs.reverse) := by
  rcases h.2 with ⟨rfl, h0⟩ | ⟨g, cap, cur, rfl, _⟩
  · have e0 : zs = [] := List.length_eq_zero_iff.1 h0
    subst e0
    refine (AnyG.slices_Reverse_int_empty Try.revI _ _ _).mono ?_
    rintro e w' ⟨rfl, rfl⟩
    exact ⟨rfl, only_refl _ _, OwnJ.nil _ _⟩
  · obtain ⟨hH, hlt, _⟩ := h.holdsT
    refine (AnyG.slices_Reverse_int Try.revI g 0 cap zs w hH (by omega)).mono ?_
    rintro e w' ⟨rfl, n, hw⟩
    obtain ⟨h1, h2⟩ := h.put (q := n) (os := #[]) (ys := zs.reverse) (by simp)
    have e : w' = grow (putRow (Value.int .i64) (Sort.ahead w n) g 0 zs.reverse.toArray) #[] := by rw [hw]; simp only [grow, Array.append_empty]
    subst e
    exact ⟨rfl, h2, h1⟩
end Go.Proofs.Ytiomdfhhejdoiaa

namespace Go.Proofs.Ytiomdfhhejdoiaa
open Go.RowKit Go.Maps
theorem ResSS.cells {w : World} {lo : Nat} {u : Value} {L : List (List Int)} (h : ResSS w lo u L.length (rowsF L)) : L = [] ∧ (∃ a c, u = .slice a 0 c) ∨ ∃ G cap gs caps, u = .slice (some ⟨G, 0, none⟩) L.length cap ∧ lo ≤ G ∧ SSR w lo G gs caps L.length (rowsF L) := by
  rcases h with ⟨h0, a, c, e⟩ | ⟨G, cap, gs, caps, e, h1, h2⟩
  · exact .inl ⟨List.length_eq_zero_iff.1 h0, a, c, e⟩
  · exact .inr ⟨G, cap, gs, caps, e, h1, h2⟩
set_option maxRecDepth 100000 in
set_option maxHeartbeats 2000000 in
theorem typeFrom_any (G lo : Nat) (tgs tcaps : Nat → Nat) (n c : Nat) (bs : List Blk) (a b : Nat) (w : World) (h : SSR w lo G tgs tcaps n (rowT n (tabN bs))) (hi : isSysImpl (n : Int) bs = true) (hf : fullB (n : Int) bs = true) (ha : a < n) (hb : b < n) (hab : a ≠ b) :
    Calls Try.prog 68 #[.slice (some ⟨G, 0, none⟩) n c, .int .i64 (a : Int), .int .i64 (b : Int)] w (fun e w' => ∃ u, e = .returned u ∧ OwnJ w' w.heap.size u (typL (cyS bs a b n)) ∧ Below w.heap.size w w') := by
  have HC := Lib.hid (cyclesFrom_any G lo tgs tcaps n c bs a b w h hi hf ha hb hab)
  have hl15 := cyS_len (bs := bs) (a := a) (b := b) n
  have hn15 := (sys_size hi).2.1
  have hlr := cyS_rows hi hf ha hb hab n (Nat.le_refl _)
  obtain ⟨L, hL⟩ : ∃ L, L = cyS bs a b n := ⟨_, rfl⟩
  rw [← hL] at HC hl15 hlr ⊢
  have hL15 : L.length ≤ 15 := by omega
  have HR := Lib.hid hlr
  clear h hi hf ha hb hab hL hl15 hn15 hlr
  obtain ⟨W0, rfl⟩ : ∃ W0, W0 = w := ⟨_, rfl⟩
  go_enter Try.func68, Try.ntmps68
  go_wp2_with fail
  refine HC.out.mono ?_
  rintro e w1 ⟨u, rfl, hr, hb1⟩
  have hz1 := hb1.size
  rcases hr.cells with ⟨rfl, a0, c0, rfl⟩ | ⟨G1, cap1, gs, caps, rfl, hlo, hS⟩
  · clear HC hr hL15 HR
    go_wp2_with fail
    go_loopw [7, 15] (fun o i wr => i = .int .i64 0 ∧ o = .slice none 0 0 ∧ wr = w1) (fun _ _ _ => 0)
    case atStart => exact ⟨rfl, rfl, rfl⟩
    case round =>
      obtain ⟨rfl, rfl, rfl⟩ := hrel
      go_wp2_with fail
      refine (sortJ_any W0.heap.size _ [] _ (OwnJ.nil _ _) (Nat.zero_le _)).mono ?_
      rintro e w2 ⟨rfl, hg2, hO2⟩
      go_wp2_with fail
      refine (revJ_any W0.heap.size _ (ascL []) _ hO2 (by rw [ascL_len]; exact Nat.zero_le _)).mono ?_
      rintro e w3 ⟨rfl, hg3, hO3⟩
      go_wp2
      go_ret
      exact ⟨_, rfl, hO3, (hb1.grown hg2 (by omega) (fun r e => by cases e)).grown hg3 (by have := hg2.size; omega) (fun r e => by cases e)⟩
  · obtain ⟨m, hm⟩ : ∃ m, m = L.length := ⟨_, rfl⟩
    have HCE := Lib.hid fun k (hk : k < m) => hS.cell k (by omega)
    have HRL := Lib.hid fun k (hk : k < m) => show (rowsF L k).length ≤ 15 from HR.out _ (by unfold rowsF; rw [List.getElem?_eq_getElem (by omega)]; exact List.getElem_mem _)
    have HSL := Lib.hid fun k (hk : k < m) => lensL_take (L := L) (k := k) (by omega)
    have hlt1 := hS.lt
    have HLL := Lib.hid fun k => show (lensL (L.take k)).length ≤ 15 from by rw [lensL_len, List.length_take]; omega
    have HFU := Lib.hid (show lensL (L.take m) = lensL L by rw [hm, List.take_length])
    have hm15 : m ≤ 15 := by omega
    rw [← hm]
    clear HC hr hL15 HR hS hm
    have HB1 := Lib.hid hb1
    clear hb1
    go_wp2_with fail
    go_loopw [7, 15] (fun o i wr => ∃ k : Nat, k ≤ m ∧ i = .int .i64 k ∧ Below w1.heap.size w1 wr ∧ OwnJ wr w1.heap.size o (lensL (L.take k)) ∧ ∃ a n c, o = .slice a n c) (fun _ i _ => m - (intOf i).toNat)
    case atStart => exact ⟨0, Nat.zero_le _, rfl, Below.refl _ _, OwnJ.nil _ _, _, _, _, rfl⟩
    case round =>
      obtain ⟨k, hk, rfl, hB, hO, hform⟩ := hrel
      have hz := hB.size
      obtain ⟨a3, n3, c3, rfl⟩ := hform
      have HO := Lib.hid hO
      have HB := Lib.hid hB
      by_cases hkl : k < m
      · have q := (hB.cell (p := ⟨G1, k, none⟩) hlt1).trans (HCE.out k hkl)
        have hS := HSL.out k hkl
        have hl := HLL.out k
        have hrl := HRL.out k hkl
        obtain ⟨z, hz'⟩ : ∃ z, z = (rowsF L k).length := ⟨_, rfl⟩
        rw [← hz'] at q hS hrl
        have HS := Lib.hid hS
        have HL := Lib.hid hl
        clear hB hO hS hz' hl
        go_wp2_with (at_builtin; refine wpList_append_int rfl _ _ rfl w1.heap.size _ (lensL (L.take k)) rfl (HO.out.below ((Below.refl _ _).alloc (Nat.le_refl _) _) (Nat.le_refl _)) _ _ (z : Int) rfl (by simp [go_sem]) (by have := HL.out; omega) (by simp; omega) ?_; intro g' cap' w4 hO4 hg4)
        have hrow := HO.out.row
        have hgo : wr.grownBy w4 (Value.slice a3 n3 c3).ownBlock := ⟨hg4.os, hg4.tape, hg4.output, by have := hg4.size; simp at this; omega, fun i hi hne => by
          rw [hg4.block i (by simp; omega) hne, Below.heap_alloc _ _ _ hi]⟩
        clear hg4
        go_roundw
        case rel => exact ⟨k + 1, by omega, by go_num, HB.out.grown hgo hz (fun j e => hrow j e), by rw [HS.out]; exact hO4, _, _, _, rfl⟩
        case measure => simp [intOf]; omega
      · have e : k = m := by omega
        subst e
        have hO5 := HO.out
        rw [HFU.out] at hO5
        have HO5 := Lib.hid hO5
        have hrow := HO5.out.row
        have hlf : (lensL L).length ≤ 15 := by rw [← HFU.out]; exact HLL.out _
        have HLF := Lib.hid hlf
        clear hB hO hO5 hrow hlf
        go_wp2_with fail
        refine (sortJ_any w1.heap.size _ (lensL L) _ HO5.out (by have := HLF.out; omega)).mono ?_
        rintro e w2 ⟨rfl, hg2, hO2⟩
        have hz2 := hg2.size
        go_wp2_with fail
        refine (revJ_any w1.heap.size _ (ascL (lensL L)) _ hO2 (by rw [ascL_len]; have := HLF.out; omega)).mono ?_
        rintro e w3 ⟨rfl, hg3, hO3⟩
        go_wp2
        go_ret
        have hrow := HO5.out.row
        exact ⟨_, rfl, hO3.baseT hz1, HB1.out.trans ((((HB.out).grown hg2 hz (fun r e => hrow r e)).grown hg3 (by omega) (fun r e => hrow r e)).mono hz1)⟩
end Go.Proofs.Ytiomdfhhejdoiaa

namespace Go.Proofs.Ytiomdfhhejdoiaa
open Go.RowKit Go.Maps
theorem OwnJ.formT {W : World} {base : Nat} {u : Value} {zs : List Int} (h : OwnJ W base u zs) : ∃ a c, u = .slice a zs.length c := by
  rcases h.2 with ⟨e, h0⟩ | ⟨g, cap, cur, e, _⟩
  · exact ⟨none, 0, by rw [e, h0]⟩
  · exact ⟨_, _, e⟩
theorem tyF_len (v : Int) (bs : List Blk) (a b : Int) : (tyF v bs a b).1.length ≤ 15 := by
  unfold tyF
  split
  · rename_i hc
    obtain ⟨hi, _, _, _, _⟩ := cyCode_good hc
    obtain ⟨h3, h15, _⟩ := sys_size hi
    have := cyS_len (bs := bs) (a := a.toNat) (b := b.toNat) v.toNat
    show (typL (cyS bs a.toNat b.toNat v.toNat)).length ≤ 15
    rw [typL_len]
    omega
  · exact Nat.zero_le _
end Go.Proofs.Ytiomdfhhejdoiaa

namespace Go.Proofs.Ytiomdfhhejdoiaa
def dblB (v : Int) (x : Blk) : List Blk := [⟨x.a, v + x.b, v + x.c⟩, ⟨x.b, v + x.a, v + x.c⟩, ⟨x.c, v + x.a, v + x.b⟩]
def dblP (v : Int) (k : Nat) : List Blk := (List.range k).map fun (a : Nat) => ⟨(a : Int), v + (a : Int), 2 * v⟩
theorem dblP_succ (v : Int) (k : Nat) : dblP v (k + 1) = dblP v k ++ [⟨(k : Int), v + (k : Int), 2 * v⟩] := by simp [dblP, List.range_succ]
theorem dblP_len (v : Int) (k : Nat) : (dblP v k).length = k := by simp [dblP]
def dblA (v : Int) (bs : List Blk) (k : Nat) : List Blk := bs ++ (bs.take k).flatMap (dblB v)
theorem dblA_succ {v : Int} {bs : List Blk} {k : Nat} (hk : k < bs.length) {x : Blk} (hx : bs[k]? = some x) : dblA v bs (k + 1) = dblA v bs k ++ dblB v x := by
  have e : bs[k] = x := by
    rw [List.getElem?_eq_getElem hk] at hx
    simpa using hx
  unfold dblA
  rw [List.take_succ_eq_append_getElem hk, e, List.flatMap_append, List.append_assoc]
  simp
theorem dblB_len (v : Int) : ∀ l : List Blk, (l.flatMap (dblB v)).length = 3 * l.length
  | [] => rfl
  | x :: r => by rw [List.flatMap_cons, List.length_append, dblB_len v r]; simp [dblB]; omega
theorem dblA_len (v : Int) (bs : List Blk) {k : Nat} (hk : k ≤ bs.length) : (dblA v bs k).length = bs.length + 3 * k := by
  unfold dblA
  rw [List.length_append, dblB_len, List.length_take, Nat.min_eq_left hk]
def dblL (v : Int) (bs : List Blk) : List Blk := dblA v bs bs.length ++ dblP v v.toNat
theorem dblL_len (v : Int) (bs : List Blk) : (dblL v bs).length = bs.length + 3 * bs.length + v.toNat := by
  unfold dblL
  rw [List.length_append, dblA_len v bs (Nat.le_refl _), dblP_len]
theorem dblL_mem {v : Int} (hv : 0 ≤ v) (hv15 : v ≤ 15) {bs : List Blk} (hg : ∀ x ∈ bs, goodB v x = true) : ∀ x ∈ dblL v bs, (0 ≤ x.a ∧ x.a ≤ 1000) ∧ (0 ≤ x.b ∧ x.b ≤ 1000) ∧ (0 ≤ x.c ∧ x.c ≤ 1000) := by
  intro x hx
  unfold dblL dblA at hx
  rw [List.take_length] at hx
  rcases List.mem_append.1 hx with hx | hx
  · rcases List.mem_append.1 hx with hx | hx
    · have := goodB_iff.1 (hg x hx); omega
    · obtain ⟨y, hy, hxy⟩ := List.mem_flatMap.1 hx
      have := goodB_iff.1 (hg y hy)
      simp only [dblB, List.mem_cons, List.not_mem_nil, or_false] at hxy
      rcases hxy with rfl | rfl | rfl <;> (dsimp only; omega)
  · obtain ⟨a, ha, rfl⟩ := List.mem_map.1 hx
    have := List.mem_range.1 ha
    dsimp only
    omega
/-- The smallest, the middle and the greatest of three. -/
def blk3 (a b c : Int) : Blk := ⟨min (min a b) c, a + b + c - min (min a b) c - max (max a b) c, max (max a b) c⟩
theorem blk3_of {a b c p q r : Int} (hp : p = min (min a b) c) (hr : r = max (max a b) c) (hq : q = a + b + c - p - r) : blk3 a b c = ⟨p, q, r⟩ := by
  unfold blk3
  rw [← hp, ← hr, ← hq]
end Go.Proofs.Ytiomdfhhejdoiaa

namespace Go.Proofs.Ytiomdfhhejdoiaa
/-- Each number is a point, and comes once. -/
def rnGo (v : Int) : List Int → List Int → Bool
  | _, [] => true
  | seen, a :: r => inP v a && !(decide (a ∈ seen)) && rnGo v (seen ++ [a]) r
def isRen (v : Int) (p : List Int) : Bool := decide ((p.length : Int) = v) && rnGo v [] p
theorem rnGo_in {v : Int} : ∀ {l seen : List Int}, rnGo v seen l = true → ∀ a ∈ l, inP v a = true
  | [], _, _, a, h => by cases h
  | b :: r, seen, h, a, ha => by
    simp only [rnGo, Bool.and_eq_true] at h
    rcases List.mem_cons.1 ha with rfl | ha
    · exact h.1.1
    · exact rnGo_in h.2 a ha
theorem rnGo_bad {v : Int} {a : Int} {r seen : List Int} (h : inP v a = false) : rnGo v seen (a :: r) = false := by simp [rnGo, h]
theorem rnGo_dup {v : Int} {a : Int} {r seen : List Int} (h : a ∈ seen) : rnGo v seen (a :: r) = false := by simp [rnGo, h]
theorem rnGo_next {v : Int} {a : Int} {r seen : List Int} (h : inP v a = true) (h2 : a ∉ seen) : rnGo v seen (a :: r) = rnGo v (seen ++ [a]) r := by simp [rnGo, h, h2]
def at0 (p : List Int) (a : Int) : Int := p[a.toNat]?.getD 0
def renB (p : List Int) (x : Blk) : Blk := blk3 (at0 p x.a) (at0 p x.b) (at0 p x.c)
/-- A system and a code: points, blocks, code. -/
def renF (v : Int) (bs : List Blk) (p : List Int) : Int × List Blk × Int :=
  if isSysImpl v bs then (if isRen v p then (v, sortB (bs.map (renB p)), 0) else (0, [], 2)) else (0, [], 1)
theorem renF_len (v : Int) (bs : List Blk) (p : List Int) : (renF v bs p).2.1.length ≤ bs.length := by
  unfold renF
  split
  · split
    · simp only [sortB_length, List.length_map]; exact Nat.le_refl _
    · simp
  · simp
theorem at0_in {v : Int} {p : List Int} (h : isRen v p = true) {a : Int} (h0 : 0 ≤ a) (h1 : a < v) : 0 ≤ at0 p a ∧ at0 p a < v := by
  unfold isRen at h
  simp only [Bool.and_eq_true, decide_eq_true_eq] at h
  have hl : a.toNat < p.length := by omega
  have := rnGo_in h.2 p[a.toNat] (List.getElem_mem hl)
  rw [inP] at this
  simp only [Bool.and_eq_true, decide_eq_true_eq] at this
  unfold at0
  rw [List.getElem?_eq_getElem hl]
  exact this
theorem blk3_in {v a b c : Int} (ha : 0 ≤ a ∧ a < v) (hb : 0 ≤ b ∧ b < v) (hc : 0 ≤ c ∧ c < v) : (0 ≤ (blk3 a b c).a ∧ (blk3 a b c).a < v) ∧ (0 ≤ (blk3 a b c).b ∧ (blk3 a b c).b < v) ∧ (0 ≤ (blk3 a b c).c ∧ (blk3 a b c).c < v) := by
  unfold blk3
  dsimp only
  omega
/-- The middle one. -/
theorem blk3_good {v a b c : Int} : goodB v (blk3 a b c) = true ↔ (0 ≤ a ∧ a < v) ∧ (0 ≤ b ∧ b < v) ∧ (0 ≤ c ∧ c < v) ∧ a ≠ b ∧ b ≠ c ∧ a ≠ c := by
  rw [goodB_iff]
  unfold blk3
  dsimp only
  omega
def b3 (x : Blk) : Blk := blk3 x.a x.b x.c
def sysOfF (v : Int) (bs : List Blk) : Int × List Blk × Int :=
  if decide (3 ≤ v) && decide (v ≤ 15) && decide (bs.length ≤ 35) && bs.all (fun x => goodB v (b3 x)) then
    (if shareGo [] (bs.map b3) then (0, [], 5) else (v, sortB (bs.map b3), 0))
  else (0, [], 2)
theorem sort3 (a b c : Int) : [a, b, c].mergeSort (fun x y => decide (x ≤ y)) = [(blk3 a b c).a, (blk3 a b c).b, (blk3 a b c).c] := by
  have hs : ([a, b, c].mergeSort (fun x y => decide (x ≤ y))).Pairwise (· ≤ ·) := by
    have := List.pairwise_mergeSort (le := fun x y : Int => decide (x ≤ y)) (fun x y z h1 h2 => by simp at *; omega) (fun x y => by simp; omega) [a, b, c]
    exact this.imp (by simp)
  have hp := List.mergeSort_perm [a, b, c] (fun x y : Int => decide (x ≤ y))
  have hs2 : [(blk3 a b c).a, (blk3 a b c).b, (blk3 a b c).c].Pairwise (· ≤ ·) := by
    unfold blk3
    simp
    omega
  have hp2 : [(blk3 a b c).a, (blk3 a b c).b, (blk3 a b c).c].Perm [a, b, c] := by
    unfold blk3
    dsimp only
    rw [List.perm_iff_count]
    intro x
    simp only [List.count_cons, List.count_nil, beq_iff_eq]
    by_cases h1 : a ≤ b <;> by_cases h2 : b ≤ c <;> by_cases h3 : a ≤ c <;> simp only [Int.min_def, Int.max_def, h1, h2, h3, if_true, if_false] <;> (try omega) <;> (repeat' split) <;> omega
  exact (hp.trans hp2.symm).eq_of_pairwise (fun x y _ _ h1 h2 => by omega) hs hs2
end Go.Proofs.Ytiomdfhhejdoiaa

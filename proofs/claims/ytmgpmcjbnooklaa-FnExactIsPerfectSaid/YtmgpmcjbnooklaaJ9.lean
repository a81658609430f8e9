
/- impl.thirdsOf. impl.fullCode of one system. CyclesOf: the program. The types: plain. CyclesOf: the program's answer. The contract of slices.Sort, laid at []int64. The contract of slices.Reverse, laid at []int64. impl.typeFrom. Rows by their headers; slices.Compare of rows that may be nil; the sort of rows. The contract of the sort, laid at the blocks. The program's systemFrom. Rows of rows as a list, with their places; the outline's l03Put. -/
import Derived.Test.YtmgpmcjbnooklaaJ8
import Derived.StillTailTactics
import Derived.BigQuiet
import Derived.Shelf.SortM.Plain
import Derived.Ground.SlgmProg
import Derived.Test.YtmgpmcjbnooklaaProg
import Derived.Shelf.SlicesG.Reverse
import Derived.Ground.SlgnProg
import Derived.Shelf.SortM.SortNone
import Derived.Lib.OwnBridge
import Derived.Shelf.SlSortCmp.NoneTotal
import Derived.Ground.SlsfProg
namespace Go.Proofs.Ytmgpmcjbnooklaa
open Go.RowKit Go.Maps
set_option maxRecDepth 100000 in
set_option maxHeartbeats 8000000 in
theorem thirdsOf_any (n : Nat) (s : Value) (bs : List Blk) (w : World) (h : SB w s bs) (hi : isSysImpl (n : Int) bs = true) :
    Calls Try.prog 52 #[.agg #[.int .i64 (n : Int), s]] w (fun e w' => ∃ G gs caps, e = .returned (.slice (some ⟨G, 0, none⟩) n n) ∧ w.heap.size ≤ G ∧ Below w.heap.size w w' ∧ SSR w' w.heap.size G gs caps n (rowT n (tabN bs))) := by
  have hs := h.slice
  obtain ⟨hv3, hv15, hb35⟩ := sys_size hi
  have HI := Lib.hid hi
  have HG := Lib.hid (sys_good hi)
  have HSX := Lib.hid h.sx
  have hmr := mkRow n (by omega)
  have hmo := mkRows n (by omega)
  clear h hi
  obtain ⟨a0, c0, rfl⟩ := hs
  go_enter Try.func52, Try.ntmps52
  go_wp2_with fail
  obtain ⟨W1, hW1⟩ : ∃ W1, W1 = w.alloc (.cells #[.int .i64 (n : Int), .slice a0 bs.length c0] 31) := ⟨_, rfl⟩
  have hz1 : W1.heap.size = w.heap.size + 1 := by rw [hW1]; simp
  have p0 : W1.cell? ⟨w.heap.size, 0, none⟩ = some (.int .i64 (n : Int)) := by rw [hW1]; simp [go_sem]
  have p1 : W1.cell? ⟨w.heap.size, 1, none⟩ = some (.slice a0 bs.length c0) := by rw [hW1]; simp [go_sem]
  have HB1 := Lib.hid (show Below w.heap.size w W1 by rw [hW1]; exact (Below.refl _ _).alloc (Nat.le_refl _) _)
  rw [← hW1]
  clear hW1
  go_loopw [14] (fun i wr => ∃ (k : Nat) (gs caps : Nat → Nat), k ≤ n ∧ i = .int .i64 k ∧ Below (w.heap.size + 1) W1 wr ∧ w.heap.size + 1 < wr.heap.size ∧ SSR wr (w.heap.size + 1) (w.heap.size + 1) gs caps k (rowT n fun _ _ => 0) ∧ (∀ q, q < n → ∃ u, wr.cell? ⟨w.heap.size + 1, q, none⟩ = some u) ∧ (∀ o, wr.frozen? ⟨w.heap.size + 1, o, none⟩ = false)) (fun i _ => n - (intOf i).toNat)
  case atStart =>
    rw [← hz1]
    exact ⟨0, fun _ => 0, fun _ => 0, Nat.zero_le _, rfl, (Below.refl _ _).alloc (Nat.le_refl _) _, by simp, ⟨fun k hk => by omega, fun k hk => by omega, fun k hk => by omega, fun j k _ hk => by omega, fun k hk => by omega, by simp⟩, fun q hq => by rw [World.cell?_alloc_at _ _ _ _ rfl]; exact ⟨.slice none 0 0, by simp [madeCells, hq, Nat.mod_one]⟩, fun o => by simp⟩
  case round =>
    obtain ⟨k, gs, caps, hk, rfl, hB, hz, hS, hcs, hfz⟩ := hrel
    have HS := Lib.hid hS
    have HB := Lib.hid hB
    have r0 := (hB.cell (p := ⟨w.heap.size, 0, none⟩) (by simp)).trans p0
    have r1 := (hB.cell (p := ⟨w.heap.size, 1, none⟩) (by simp)).trans p1
    by_cases hkl : k < n
    · obtain ⟨u, hu⟩ := hcs k hkl
      have hf := hfz k
      have HC := Lib.hid hcs
      have HFZ := Lib.hid hfz
      have g0 : (0 : Int) ≤ (k : Int) := by omega
      have g1 : (k : Int) < (n : Int) := by omega
      clear hS hB hcs hfz
      obtain ⟨w1, hw1⟩ : ∃ w1, w1 = wr.alloc (.cells (madeCells #[.int .i64 0] n) 2) := ⟨_, rfl⟩
      have hb1 : Below wr.heap.size wr w1 := by rw [hw1]; exact (Below.refl _ _).alloc (Nat.le_refl _) _
      have ho1 : OwnAtI w1 wr.heap.size (List.replicate n 0) := by rw [hw1]; exact made_ints wr n _
      have hz2 : w1.heap.size = wr.heap.size + 1 := by rw [hw1]; simp
      have m1 : (wr.alloc (.cells (madeCells #[.int .i64 0] n) 2)).cell? ⟨w.heap.size + 1, k, none⟩ = some u := by rw [← hw1]; exact (hb1.cell (p := ⟨w.heap.size + 1, k, none⟩) hz).trans hu
      have f1 : (wr.alloc (.cells (madeCells #[.int .i64 0] n) 2)).frozen? ⟨w.heap.size + 1, k, none⟩ = false := by rw [← hw1]; exact (hb1.frozen (p := ⟨w.heap.size + 1, k, none⟩) hz).trans hf
      have HW := Lib.hid hw1
      have HB1 := Lib.hid hb1
      have HO1 := Lib.hid ho1
      clear hw1 hb1 ho1
      go_wp2_with fail
      rw [← HW.out] at m1 f1
      have hsw : (wr.setCell ⟨w.heap.size + 1, k, none⟩ (.slice (some ⟨wr.heap.size, 0, none⟩) n n)).alloc (.cells (madeCells #[.int .i64 0] n) 2) = w1.setCell ⟨w.heap.size + 1, k, none⟩ (.slice (some ⟨wr.heap.size, 0, none⟩) n n) := by rw [HW.out]; exact (World.setCell_alloc_past _ _ _ _ hz).symm
      rw [hsw]
      have hS1 := HS.out.below HB1.out (Nat.le_refl _)
      have hst := only_setCell (only_refl w1 (some (w.heap.size + 1))) (p := ⟨w.heap.size + 1, k, none⟩) rfl (.slice (some ⟨wr.heap.size, 0, none⟩) n n)
      go_roundw
      case rel =>
        refine ⟨k + 1, fun q => if q = k then wr.heap.size else gs q, fun q => if q = k then n else caps q, by omega, by go_num, (HB.out.trans (HB1.out.mono (by omega))).setCell (p := ⟨w.heap.size + 1, k, none⟩) (Nat.le_refl _) _, by simp [World.setCell]; omega, ⟨fun q hq => ?_, fun q hq => ?_, fun q hq => ?_, fun p q hpq hq => ?_, fun q hq => ?_, by simp [World.setCell]; omega⟩, fun q hq => ?_, fun o => by rw [World.frozen?_setCell]; exact (HB1.out.frozen (p := ⟨w.heap.size + 1, o, none⟩) hz).trans (HFZ.out o)⟩
        · by_cases e : q = k
          · subst e
            rw [World.cell?_setCell_same' _ _ _ (by rw [m1]; rfl)]
            simp [rowT_len]
          · rw [World.cell?_setCell_other _ _ _ _ (by simp <;> omega), hS1.cell q (by omega)]
            simp [e]
        · by_cases e : q = k
          · subst e
            simp only [if_pos]
            rw [rowT_zero]
            exact HO1.out.kept hst (by simp; omega)
          · simp only [if_neg e]
            exact (hS1.row q (by omega)).kept hst (by have := hS1.ne q (by omega); simpa using this)
        · by_cases e : q = k
          · simp only [if_pos e]; omega
          · simp only [if_neg e]; exact hS1.ne q (by omega)
        · have e1 : p ≠ k := by omega
          simp only [if_neg e1]
          by_cases e : q = k
          · simp only [if_pos e]
            exact Nat.ne_of_lt (HS.out.row p (by omega)).lt
          · simp only [if_neg e]
            exact hS1.inc p q hpq (by omega)
        · by_cases e : q = k
          · simp only [if_pos e]; omega
          · simp only [if_neg e]; exact hS1.low q (by omega)
        · by_cases e : q = k
          · subst e
            exact ⟨_, World.cell?_setCell_same' _ _ _ (by rw [m1]; rfl)⟩
          · obtain ⟨u', hu'⟩ := HC.out q hq
            exact ⟨u', by rw [World.cell?_setCell_other _ _ _ _ (by simp <;> omega)]; exact (HB1.out.cell (p := ⟨w.heap.size + 1, q, none⟩) hz).trans hu'⟩
      case measure => simp [intOf]; omega
    · have e : k = n := by omega
      have dk : (n : Int) ≤ (k : Int) := by omega
      have dk2 : decide (k < n) = false := by simp; omega
      rw [e] at HS
      have HS0 := Lib.hid (HS.out.congr (F' := rowT n (tabN (bs.take 0))) (fun j _ => rowT_congr fun q _ => by simp [tabN, tabI]))
      clear e hkl hk hS hB hcs hfz HS
      obtain ⟨W2, rfl⟩ : ∃ W2, W2 = wr := ⟨_, rfl⟩
      go_wp2_with fail
      clear dk dk2
      go_loopw [27] (fun i wr => ∃ m : Nat, m ≤ bs.length ∧ i = .int .i64 m ∧ Below (w.heap.size + 1) W1 wr ∧ SSR wr (w.heap.size + 1) (w.heap.size + 1) gs caps n (rowT n (tabN (bs.take m)))) (fun i _ => bs.length - (intOf i).toNat)
      case atStart => exact ⟨0, Nat.zero_le _, rfl, HB.out, HS0.out⟩
      case round =>
        obtain ⟨m, hm, rfl, hB, hS⟩ := hrel
        have HBm := Lib.hid hB
        have HSm := Lib.hid hS
        have hzm := hB.size
        clear hB hS
        by_cases hml : m < bs.length
        · have hbw : Below w.heap.size w wr := HB1.out.trans (HBm.out.mono (by omega))
          rcases HSX.out with ⟨_, _, _, hnil⟩ | ⟨b, off, cap, hv, hblt, hbl⟩
          · rw [hnil] at hml; simp at hml
          simp at hv
          obtain ⟨rfl, rfl⟩ := hv
          obtain ⟨x, hx, ex, x1, x2, x3⟩ := blks_at (hbl.below hbw hblt) hml
          have hgx := goodB_iff.1 (HG.out x hx)
          obtain ⟨xa, xb, xc⟩ := x
          dsimp only at hgx x1 x2 x3
          obtain ⟨p, rfl⟩ := Int.eq_ofNat_of_zero_le hgx.1
          obtain ⟨q, rfl⟩ := Int.eq_ofNat_of_zero_le (show 0 ≤ xb by omega)
          obtain ⟨r, rfl⟩ := Int.eq_ofNat_of_zero_le (show 0 ≤ xc by omega)
          have hp : p < n := by omega
          have hq : q < n := by omega
          have hr : r < n := by omega
          have HSIX := Lib.hid (fun j k => six_tab HI.out hml ex (show p < q by omega) (show q < r by omega) j k)
          have i0 : (0 : Int) ≤ (m : Int) := by omega
          have i1 : (m : Int) < (bs.length : Int) := by omega
          have hB0 := hzm
          have TB0 : TBx W1 (wr.alloc (.cells #[.int .i64 (p : Int), .int .i64 (q : Int), .int .i64 (r : Int)] 68)) (w.heap.size + 1) (w.heap.size + 1) wr.heap.size gs caps n (tabN (bs.take m)) p q r :=
            ⟨HBm.out.alloc (by omega) _, HSm.out.below ((Below.refl _ _).alloc (Nat.le_refl _) _) (Nat.le_refl _), by simp [go_sem], by simp [go_sem], by simp [go_sem], fun j hj => (HSm.out.row j hj).lt⟩
          have HTB0 := Lib.hid TB0
          clear TB0 hgx hx ex hbl
          go_wp2_with fail
          obtain ⟨V0, hV0⟩ : ∃ V0, V0 = wr.alloc (.cells #[.int .i64 (p : Int), .int .i64 (q : Int), .int .i64 (r : Int)] 68) := ⟨_, rfl⟩
          rw [← hV0] at HTB0 ⊢
          clear hV0 x1 x2 x3
          refine wp_loop_rounds 4 ?_
          rw [rounds_succ]
          go_wp2_with fail
          refine wp_loop_rounds 4 ?_
          rw [rounds_succ]
          go_wp2_with fail
          rw [rounds_succ]
          go_wp2_with fail
          have c0 := HTB0.out.c0
          have c1 := HTB0.out.c1
          have c2 := HTB0.out.c2
          have o1 := HTB0.out.tab.cell p hp
          rw [rowT_len] at o1
          have s1 := (HTB0.out.tab.row p hp).at_ q (by rw [rowT_len]; exact hq)
          rw [Nat.zero_add] at s1
          have f1 := (HTB0.out.tab.row p hp).free q
          have HTB1 := Lib.hid (HTB0.out.step hp hq (r : Int))
          have k1 : IntKind.i64.wrap (3 - 0) = 3 := by decide
          have k2 : IntKind.i64.wrap (3 - 1) = 2 := by decide
          have k3 : IntKind.i64.wrap 2 = 2 := by decide
          have k4 : IntKind.i64.wrap 3 = 3 := by decide
          go_still_tail 16, (by kernel_rfl)
          change wpList _ _ _ _ _ V0.drew
          have s2 : V0.drew.cell? ⟨gs p, q, none⟩ = some _ := s1
          have f2 : V0.drew.frozen? ⟨gs p, q, none⟩ = false := f1
          clear c0 c1 c2 o1 s1 f1 k1 k2 k3 k4
          go_wp2_with fail
          obtain ⟨V1, hV1⟩ : ∃ V, V = (V0.setCell ⟨gs p, q, none⟩ (.int .i64 (r : Int))).drew := ⟨_, rfl⟩
          rw [← hV1] at HTB1 ⊢
          clear hV1 s2 f2 HTB0
          rw [rounds_succ]
          go_wp2_with fail
          have c0 := HTB1.out.c0
          have c1 := HTB1.out.c1
          have c2 := HTB1.out.c2
          have o1 := HTB1.out.tab.cell p hp
          rw [rowT_len] at o1
          have s1 := (HTB1.out.tab.row p hp).at_ r (by rw [rowT_len]; exact hr)
          rw [Nat.zero_add] at s1
          have f1 := (HTB1.out.tab.row p hp).free r
          have HTB2 := Lib.hid (HTB1.out.step hp hr (q : Int))
          have k1 : IntKind.i64.wrap (3 - 0) = 3 := by decide
          have k2 : IntKind.i64.wrap (3 - 2) = 1 := by decide
          have k3 : IntKind.i64.wrap 1 = 1 := by decide
          have k4 : IntKind.i64.wrap 3 = 3 := by decide
          go_still_tail 16, (by kernel_rfl)
          change wpList _ _ _ _ _ V1.drew
          have s2 : V1.drew.cell? ⟨gs p, r, none⟩ = some _ := s1
          have f2 : V1.drew.frozen? ⟨gs p, r, none⟩ = false := f1
          clear c0 c1 c2 o1 s1 f1 k1 k2 k3 k4
          go_wp2_with fail
          obtain ⟨V2, hV2⟩ : ∃ V, V = (V1.setCell ⟨gs p, r, none⟩ (.int .i64 (q : Int))).drew := ⟨_, rfl⟩
          rw [← hV2] at HTB2 ⊢
          clear hV2 s2 f2 HTB1
          rw [rounds_succ]
          go_wp2_with fail
          rw [rounds_succ]
          go_wp2_with fail
          refine wp_loop_rounds 4 ?_
          rw [rounds_succ]
          go_wp2_with fail
          have c0 := HTB2.out.c0
          have c1 := HTB2.out.c1
          have c2 := HTB2.out.c2
          have o1 := HTB2.out.tab.cell q hq
          rw [rowT_len] at o1
          have s1 := (HTB2.out.tab.row q hq).at_ p (by rw [rowT_len]; exact hp)
          rw [Nat.zero_add] at s1
          have f1 := (HTB2.out.tab.row q hq).free p
          have HTB3 := Lib.hid (HTB2.out.step hq hp (r : Int))
          have k1 : IntKind.i64.wrap (3 - 1) = 2 := by decide
          have k2 : IntKind.i64.wrap (2 - 0) = 2 := by decide
          have k3 : IntKind.i64.wrap 2 = 2 := by decide
          have k4 : IntKind.i64.wrap 2 = 2 := by decide
          go_still_tail 16, (by kernel_rfl)
          change wpList _ _ _ _ _ V2.drew
          have s2 : V2.drew.cell? ⟨gs q, p, none⟩ = some _ := s1
          have f2 : V2.drew.frozen? ⟨gs q, p, none⟩ = false := f1
          clear c0 c1 c2 o1 s1 f1 k1 k2 k3 k4
          go_wp2_with fail
          obtain ⟨V3, hV3⟩ : ∃ V, V = (V2.setCell ⟨gs q, p, none⟩ (.int .i64 (r : Int))).drew := ⟨_, rfl⟩
          rw [← hV3] at HTB3 ⊢
          clear hV3 s2 f2 HTB2
          rw [rounds_succ]
          go_wp2_with fail
          rw [rounds_succ]
          go_wp2_with fail
          have c0 := HTB3.out.c0
          have c1 := HTB3.out.c1
          have c2 := HTB3.out.c2
          have o1 := HTB3.out.tab.cell q hq
          rw [rowT_len] at o1
          have s1 := (HTB3.out.tab.row q hq).at_ r (by rw [rowT_len]; exact hr)
          rw [Nat.zero_add] at s1
          have f1 := (HTB3.out.tab.row q hq).free r
          have HTB4 := Lib.hid (HTB3.out.step hq hr (p : Int))
          have k1 : IntKind.i64.wrap (3 - 1) = 2 := by decide
          have k2 : IntKind.i64.wrap (2 - 2) = 0 := by decide
          have k3 : IntKind.i64.wrap 0 = 0 := by decide
          have k4 : IntKind.i64.wrap 2 = 2 := by decide
          go_still_tail 16, (by kernel_rfl)
          change wpList _ _ _ _ _ V3.drew
          have s2 : V3.drew.cell? ⟨gs q, r, none⟩ = some _ := s1
          have f2 : V3.drew.frozen? ⟨gs q, r, none⟩ = false := f1
          clear c0 c1 c2 o1 s1 f1 k1 k2 k3 k4
          go_wp2_with fail
          obtain ⟨V4, hV4⟩ : ∃ V, V = (V3.setCell ⟨gs q, r, none⟩ (.int .i64 (p : Int))).drew := ⟨_, rfl⟩
          rw [← hV4] at HTB4 ⊢
          clear hV4 s2 f2 HTB3
          rw [rounds_succ]
          go_wp2_with fail
          rw [rounds_succ]
          go_wp2_with fail
          refine wp_loop_rounds 4 ?_
          rw [rounds_succ]
          go_wp2_with fail
          have c0 := HTB4.out.c0
          have c1 := HTB4.out.c1
          have c2 := HTB4.out.c2
          have o1 := HTB4.out.tab.cell r hr
          rw [rowT_len] at o1
          have s1 := (HTB4.out.tab.row r hr).at_ p (by rw [rowT_len]; exact hp)
          rw [Nat.zero_add] at s1
          have f1 := (HTB4.out.tab.row r hr).free p
          have HTB5 := Lib.hid (HTB4.out.step hr hp (q : Int))
          have k1 : IntKind.i64.wrap (3 - 2) = 1 := by decide
          have k2 : IntKind.i64.wrap (1 - 0) = 1 := by decide
          have k3 : IntKind.i64.wrap 1 = 1 := by decide
          have k4 : IntKind.i64.wrap 1 = 1 := by decide
          go_still_tail 16, (by kernel_rfl)
          change wpList _ _ _ _ _ V4.drew
          have s2 : V4.drew.cell? ⟨gs r, p, none⟩ = some _ := s1
          have f2 : V4.drew.frozen? ⟨gs r, p, none⟩ = false := f1
          clear c0 c1 c2 o1 s1 f1 k1 k2 k3 k4
          go_wp2_with fail
          obtain ⟨V5, hV5⟩ : ∃ V, V = (V4.setCell ⟨gs r, p, none⟩ (.int .i64 (q : Int))).drew := ⟨_, rfl⟩
          rw [← hV5] at HTB5 ⊢
          clear hV5 s2 f2 HTB4
          rw [rounds_succ]
          go_wp2_with fail
          have c0 := HTB5.out.c0
          have c1 := HTB5.out.c1
          have c2 := HTB5.out.c2
          have o1 := HTB5.out.tab.cell r hr
          rw [rowT_len] at o1
          have s1 := (HTB5.out.tab.row r hr).at_ q (by rw [rowT_len]; exact hq)
          rw [Nat.zero_add] at s1
          have f1 := (HTB5.out.tab.row r hr).free q
          have HTB6 := Lib.hid (HTB5.out.step hr hq (p : Int))
          have k1 : IntKind.i64.wrap (3 - 2) = 1 := by decide
          have k2 : IntKind.i64.wrap (1 - 1) = 0 := by decide
          have k3 : IntKind.i64.wrap 0 = 0 := by decide
          have k4 : IntKind.i64.wrap 1 = 1 := by decide
          go_still_tail 16, (by kernel_rfl)
          change wpList _ _ _ _ _ V5.drew
          have s2 : V5.drew.cell? ⟨gs r, q, none⟩ = some _ := s1
          have f2 : V5.drew.frozen? ⟨gs r, q, none⟩ = false := f1
          clear c0 c1 c2 o1 s1 f1 k1 k2 k3 k4
          go_wp2_with fail
          obtain ⟨V6, hV6⟩ : ∃ V, V = (V5.setCell ⟨gs r, q, none⟩ (.int .i64 (p : Int))).drew := ⟨_, rfl⟩
          rw [← hV6] at HTB6 ⊢
          clear hV6 s2 f2 HTB5
          rw [rounds_succ]
          go_wp2_with fail
          rw [rounds_succ]
          go_wp2_with fail
          rw [rounds_succ]
          go_wp2_with fail
          go_roundw
          case rel => exact ⟨m + 1, by omega, by go_num, HTB6.out.below, HTB6.out.tab.congr fun j _ => rowT_congr fun q _ => HSIX.out j q⟩
          case measure => simp [intOf]; omega
        · have e : m = bs.length := by omega
          subst e
          rw [List.take_length] at HSm
          have hS := HSm.out
          go_wp2
          go_ret
          exact ⟨_, gs, caps, rfl, by omega, HB1.out.trans (HBm.out.mono (by omega)), ⟨hS.cell, hS.row, hS.ne, hS.inc, fun k hk => Nat.le_trans (by omega) (hS.low k hk), hS.lt⟩⟩
end Go.Proofs.Ytmgpmcjbnooklaa

namespace Go.Proofs.Ytmgpmcjbnooklaa
open Go.RowKit Go.Maps
def fullC (v : Int) (bs : List Blk) : Int := if isSysImpl v bs then (if fullB v bs then 0 else 5) else 1
theorem fullV_cases (v : Int) (bs : List Blk) : (fullV v bs = boolCode true 0 ∧ fullC v bs = 0) ∨ (fullV v bs = boolCode false 0 ∧ fullC v bs = 5) ∨ (fullV v bs = boolCode false 1 ∧ fullC v bs = 1) := by
  unfold fullV fullC
  cases isSysImpl v bs
  · right; right; simp
  · cases fullB v bs
    · right; left; simp
    · left; simp
set_option maxRecDepth 100000 in
theorem fullCode_one (B : Nat) (v : Int) (s : Value) (bs : List Blk) (w : World) (h : SB w s bs) (c0 : w.cell? ⟨B, 0, none⟩ = some (.int .i64 v)) (c1 : w.cell? ⟨B, 1, none⟩ = some s) :
    Calls Try.prog 65 #[.slice (some ⟨B, 0, none⟩) 1 1] w (RV (.int .i64 (fullC v bs)) w) := by
  have hs := h.slice
  have HI := Lib.hid (IsFull_any v s bs (w.alloc (.cells #[.int .i64 v, s] 31)) (h.below ((Below.refl _ _).alloc (Nat.le_refl _) _) (Nat.le_refl _)))
  clear h
  obtain ⟨a, c, rfl⟩ := hs
  rcases fullV_cases v bs with ⟨e1, e2⟩ | ⟨e1, e2⟩ | ⟨e1, e2⟩
  all_goals
    rw [e1] at HI
    rw [e2]
    unfold boolCode at HI
    clear e1 e2
    go_enter Try.func65, Try.ntmps65
    go_wp2
    refine wp_loop_rounds 2 ?_
    rw [rounds_succ]
    go_wp2_with (go_at_call 101; refine HI.out.mono ?_; rintro e w1 ⟨rfl, hb1⟩)
  · rw [rounds_succ]
    go_wp2
    go_ret
    exact RV_of rfl (((Below.refl _ _).alloc (Nat.le_refl _) _).trans (hb1.mono (by simp)))
  · rw [rounds_succ]
    go_wp2
    go_ret
    exact RV_of rfl (((Below.refl _ _).alloc (Nat.le_refl _) _).trans (hb1.mono (by simp)))
  · go_ret
    exact RV_of rfl (((Below.refl _ _).alloc (Nat.le_refl _) _).trans (hb1.mono (by simp)))
end Go.Proofs.Ytmgpmcjbnooklaa

namespace Go.Proofs.Ytmgpmcjbnooklaa
open Go.RowKit Go.Maps
def cyCode (v : Int) (bs : List Blk) (a b : Int) : Int := if isSysImpl v bs then (if inP v a && inP v b && !(a == b) then (if fullB v bs then 0 else 5) else 2) else 1
noncomputable def cyF (v : Int) (bs : List Blk) (a b : Int) : List (List Int) × Int := if cyCode v bs a b = 0 then (cyS bs a.toNat b.toNat v.toNat, 0) else ([], cyCode v bs a b)
end Go.Proofs.Ytmgpmcjbnooklaa

namespace Go.Proofs.Ytmgpmcjbnooklaa
def ascL (l : List Int) : List Int := l.mergeSort fun x y => decide (x ≤ y)
def lensL (L : List (List Int)) : List Int := L.map fun r => (r.length : Int)
def typL (L : List (List Int)) : List Int := (ascL (lensL L)).reverse
noncomputable def tyF (v : Int) (bs : List Blk) (a b : Int) : List Int × Int := if cyCode v bs a b = 0 then (typL (cyS bs a.toNat b.toNat v.toNat), 0) else ([], cyCode v bs a b)
theorem ascL_perm (l : List Int) : (ascL l).Perm l := List.mergeSort_perm l _
theorem ascL_asc (l : List Int) : (ascL l).Pairwise (· ≤ ·) := by
  have := List.pairwise_mergeSort (le := fun (x y : Int) => decide (x ≤ y)) (fun a b c => by simp; omega) (fun a b => by simp; omega) l
  exact this.imp (by simp)
theorem ascL_of {l s : List Int} (hp : s.Perm l) (hs : s.Pairwise (· ≤ ·)) : s = ascL l :=
  (hp.trans (ascL_perm l).symm).eq_of_pairwise (fun _ _ _ _ h1 h2 => Int.le_antisymm h1 h2) hs (ascL_asc l)
theorem ascL_len (l : List Int) : (ascL l).length = l.length := (ascL_perm l).length_eq
theorem typL_len (L : List (List Int)) : (typL L).length = L.length := by simp [typL, ascL_len, lensL]
theorem lensL_take {L : List (List Int)} {k : Nat} (hk : k < L.length) : lensL (L.take (k + 1)) = lensL (L.take k) ++ [((rowsF L k).length : Int)] := by
  unfold lensL rowsF
  rw [List.take_add_one, List.getElem?_eq_getElem hk, List.map_append]
  rfl
theorem lensL_len (L : List (List Int)) : (lensL L).length = L.length := by simp [lensL]
/-- The negative lengths, ascending, are the lengths, descending. -/
theorem typL_neg (L : List (List Int)) : (ascL ((lensL L).map fun x => -x)).map (fun x => -x) = typL L := by
  have h1 : (((ascL ((lensL L).map fun x => -x)).map (fun x => -x)).reverse).Perm (lensL L) := by
    refine (List.reverse_perm _).trans (((ascL_perm _).map _).trans ?_)
    rw [List.map_map]
    have e : ((fun x : Int => -x) ∘ fun x => -x) = id := by funext x; simp
    rw [e, List.map_id]
  have h2 : (((ascL ((lensL L).map fun x => -x)).map (fun x => -x)).reverse).Pairwise (· ≤ ·) := by
    rw [List.pairwise_reverse, List.pairwise_map]
    exact (ascL_asc _).imp (by intro a b h; omega)
  have h3 := ascL_of h1 h2
  unfold typL
  rw [← h3, List.reverse_reverse]
end Go.Proofs.Ytmgpmcjbnooklaa

namespace Go.Proofs.Ytmgpmcjbnooklaa
open Go.RowKit Go.Maps
theorem cyCode_good {v : Int} {bs : List Blk} {a b : Int} (h : cyCode v bs a b = 0) : isSysImpl v bs = true ∧ fullB v bs = true ∧ (0 ≤ a ∧ a < v) ∧ (0 ≤ b ∧ b < v) ∧ a ≠ b := by
  unfold cyCode at h
  split at h
  · rename_i hi
    split at h
    · rename_i hp
      split at h
      · rename_i hf
        simp only [Bool.and_eq_true, inP, decide_eq_true_eq, Bool.not_eq_true', beq_eq_false_iff_ne] at hp
        exact ⟨hi, hf, hp.1.1, hp.1.2, hp.2⟩
      · cases h
    · cases h
  · cases h
theorem ResSS.kept' {w w' : World} {lo : Nat} {u : Value} {n : Nat} {F : Nat → List Int} (h : ResSS w lo u n F) {lo' : Nat} (hl : lo' ≤ lo) (he : w' = w) : ResSS w' lo' u n F := by
  subst he
  rcases h with h | ⟨G, cap, gs, caps, e, h1, hS⟩
  · exact .inl h
  · exact .inr ⟨G, cap, gs, caps, e, Nat.le_trans hl h1, ⟨hS.cell, hS.row, hS.ne, hS.inc, fun k hk => Nat.le_trans hl (hS.low k hk), hS.lt⟩⟩
theorem ResSS.form {w : World} {lo : Nat} {u : Value} {n : Nat} {F : Nat → List Int} (h : ResSS w lo u n F) : ∃ a c, u = .slice a n c := by
  rcases h with ⟨rfl, a, c, rfl⟩ | ⟨G, cap, gs, caps, rfl, _⟩ <;> exact ⟨_, _, rfl⟩
end Go.Proofs.Ytmgpmcjbnooklaa

namespace Go.Proofs
open Go.Shelf
def Try.sortI_ren : Go.Shelf.Ren := ⟨fun | 5 => 88 | 8 => 105 | 7 => 113 | 19 => 127 | 20 => 128 | 10 => 130 | 11 => 131 | 12 => 132 | 13 => 133 | 14 => 134 | 15 => 135 | 16 => 136 | 17 => 137 | 18 => 138 | 30 => 152 | 31 => 148 | 32 => 149 | 33 => 153 | 34 => 154 | 35 => 129 | 40 => 159 | n => n, fun | 23 => 26 | 25 => 2 | 3 => 3 | 32 => 114 | 22 => 26 | 0 => 0 | 44 => 139 | 46 => 104 | 4 => 4 | 36 => 132 | 35 => 131 | 41 => 136 | 5 => 5 | 9 => 9 | 53 => 152 | 57 => 156 | 63 => 162 | 64 => 163 | n => n, fun | n => n⟩
theorem Try.sortI : Go.Proofs.SlLaysM.n5 Try.prog Try.sortI_ren := {
  mixed := by kernel_rfl
  f5 := ⟨Try.f88.name, by decide, Try.func88.trans (congrArg some (by kernel_rfl))⟩
  f7 := ⟨Try.f113.name, by decide, Try.func113.trans (congrArg some (by kernel_rfl))⟩
  f8 := Try.func105.trans (congrArg some (by kernel_rfl))
  f10 := ⟨Try.f130.name, by decide, Try.func130.trans (congrArg some (by kernel_rfl))⟩
  f11 := ⟨Try.f131.name, by decide, Try.func131.trans (congrArg some (by kernel_rfl))⟩
  f12 := ⟨Try.f132.name, by decide, Try.func132.trans (congrArg some (by kernel_rfl))⟩
  f13 := ⟨Try.f133.name, by decide, Try.func133.trans (congrArg some (by kernel_rfl))⟩
  f14 := ⟨Try.f134.name, by decide, Try.func134.trans (congrArg some (by kernel_rfl))⟩
  f15 := ⟨Try.f135.name, by decide, Try.func135.trans (congrArg some (by kernel_rfl))⟩
  f16 := ⟨Try.f136.name, by decide, Try.func136.trans (congrArg some (by kernel_rfl))⟩
  f17 := ⟨Try.f137.name, by decide, Try.func137.trans (congrArg some (by kernel_rfl))⟩
  f18 := ⟨Try.f138.name, by decide, Try.func138.trans (congrArg some (by kernel_rfl))⟩
  f19 := Try.func127.trans (congrArg some (by kernel_rfl))
  f20 := Try.func128.trans (congrArg some (by kernel_rfl))
  f30 := ⟨Try.f152.name, by decide, Try.func152.trans (congrArg some (by kernel_rfl))⟩
  f31 := Try.func148.trans (congrArg some (by kernel_rfl))
  f32 := Try.func149.trans (congrArg some (by kernel_rfl))
  f33 := ⟨Try.f153.name, by decide, Try.func153.trans (congrArg some (by kernel_rfl))⟩
  f34 := ⟨Try.f154.name, by decide, Try.func154.trans (congrArg some (by kernel_rfl))⟩
  f35 := ⟨Try.f129.name, by decide, Try.func129.trans (congrArg some (by kernel_rfl))⟩
  f40 := ⟨Try.f159.name, by decide, Try.func159.trans (congrArg some (by kernel_rfl))⟩
  t0 := Try.underlying0
  a0 := Try.isAgg0
  z0 := Try.sizeOf0
  v0 := Try.zeroValue0
  t3 := Try.underlying3
  a3 := Try.isAgg3
  z3 := Try.sizeOf3
  v3 := Try.zeroValue3
  t4 := Try.underlying4
  a4 := Try.isAgg4
  z4 := Try.sizeOf4
  v4 := Try.zeroValue4
  t5 := Try.underlying5
  a5 := Try.isAgg5
  z5 := Try.sizeOf5
  v5 := Try.zeroValue5
  t9 := Try.underlying9
  a9 := Try.isAgg9
  z9 := Try.sizeOf9
  v9 := Try.zeroValue9
  t22 := Try.underlying26
  a22 := Try.isAgg26
  z22 := Try.sizeOf26
  v22 := Try.zeroValue26
  t23 := Try.underlying26
  a23 := Try.isAgg26
  z23 := Try.sizeOf26
  v23 := Try.zeroValue26
  t25 := Try.underlying2
  a25 := Try.isAgg2
  z25 := Try.sizeOf2
  v25 := Try.zeroValue2
  t32 := Try.underlying114
  a32 := Try.isAgg114
  z32 := Try.sizeOf114
  v32 := Try.zeroValue114
  t35 := Try.underlying131
  a35 := Try.isAgg131
  z35 := Try.sizeOf131
  v35 := Try.zeroValue131
  t36 := Try.underlying132
  a36 := Try.isAgg132
  z36 := Try.sizeOf132
  v36 := Try.zeroValue132
  t41 := Try.underlying136
  a41 := Try.isAgg136
  z41 := Try.sizeOf136
  v41 := Try.zeroValue136
  t44 := Try.underlying139
  a44 := Try.isAgg139
  z44 := Try.sizeOf139
  v44 := Try.zeroValue139
  t46 := Try.underlying104
  a46 := Try.isAgg104
  z46 := Try.sizeOf104
  v46 := Try.zeroValue104
  t53 := Try.underlying152
  a53 := Try.isAgg152
  z53 := Try.sizeOf152
  v53 := Try.zeroValue152
  t57 := Try.underlying156
  a57 := Try.isAgg156
  z57 := Try.sizeOf156
  v57 := Try.zeroValue156
  t63 := Try.underlying162
  a63 := Try.isAgg162
  z63 := Try.sizeOf162
  v63 := Try.zeroValue162
  t64 := Try.underlying163
  a64 := Try.isAgg163
  z64 := Try.sizeOf163
  v64 := Try.zeroValue163 }
end Go.Proofs

namespace Go.Proofs
open Go.Shelf
def Try.revI_ren : Go.Shelf.Ren := ⟨fun | 35 => 103 | n => n, fun | 22 => 26 | 23 => 2 | 3 => 3 | 4 => 4 | 0 => 0 | n => n, fun | n => n⟩
theorem Try.revI : Go.Proofs.SlLaysN.n35 Try.prog Try.revI_ren := {
  mixed := by kernel_rfl
  f35 := ⟨Try.f103.name, by decide, Try.func103.trans (congrArg some (by kernel_rfl))⟩
  t0 := Try.underlying0
  a0 := Try.isAgg0
  z0 := Try.sizeOf0
  v0 := Try.zeroValue0
  t3 := Try.underlying3
  a3 := Try.isAgg3
  z3 := Try.sizeOf3
  v3 := Try.zeroValue3
  t4 := Try.underlying4
  a4 := Try.isAgg4
  z4 := Try.sizeOf4
  v4 := Try.zeroValue4
  t22 := Try.underlying26
  a22 := Try.isAgg26
  z22 := Try.sizeOf26
  v22 := Try.zeroValue26
  t23 := Try.underlying2
  a23 := Try.isAgg2
  z23 := Try.sizeOf2
  v23 := Try.zeroValue2 }
end Go.Proofs

namespace Go.Proofs.Ytmgpmcjbnooklaa
open Go.RowKit Go.Maps Go.Sort Go.Shelf
theorem grownBy_putT {w : World} {g n : Nat} {os : Array Obj} (F : Array Int) : w.grownBy (grow (putRow (Value.int .i64) (Sort.ahead w n) g 0 F) os) (some g) := by
  refine ⟨rfl, rfl, rfl, by simp, fun k hk hne => ?_⟩
  rw [heap_grow_old _ _ (by simpa using hk)]
  have : g ≠ k := fun e => hne (by rw [e])
  simp [putRow, mapBlock, Sort.ahead, Array.getElem?_modify, this]
theorem grownBy_growT (w : World) (os : Array Obj) : w.grownBy (grow w os) none :=
  ⟨rfl, rfl, rfl, by simp, fun k hk _ => heap_grow_old _ _ hk⟩
theorem OwnJ.put {w : World} {base g n cap q : Nat} {os : Array Obj} {zs ys : List Int} (h : OwnJ w base (.slice (some ⟨g, 0, none⟩) n cap) zs) (hy : ys.length = zs.length) :
    OwnJ (grow (putRow (Value.int .i64) (Sort.ahead w q) g 0 ys.toArray) os) base (.slice (some ⟨g, 0, none⟩) n cap) ys ∧ w.grownBy (grow (putRow (Value.int .i64) (Sort.ahead w q) g 0 ys.toArray) os) (some g) := by
  have hn : n = zs.length := by
    rcases h.2 with ⟨e, _⟩ | ⟨g', cap', cur, e, _⟩
    · cases e
    · injection e
  subst hn
  refine ⟨?_, grownBy_putT _⟩
  have h1 := Lib.ownsRow_putRow (q := q) (k := zs.length) h hy (Nat.le_refl _)
  rw [List.take_of_length_le (Nat.le_of_eq hy)] at h1
  refine OwnJ.kept ?_ (grownBy_growT _ os) (by simp)
  unfold OwnJ
  rw [hy]
  exact h1
theorem OwnJ.holdsT {w : World} {base g n cap : Nat} {zs : List Int} (h : OwnJ w base (.slice (some ⟨g, 0, none⟩) n cap) zs) : Holds (Value.int .i64) w g 0 zs.toArray ∧ g < w.heap.size ∧ n = zs.length := by
  obtain ⟨_, h | ⟨g', cap', cur, e, hb, hcur, hn, hc, hsz, hx⟩⟩ := h
  · simp at h
  · simp at e
    obtain ⟨rfl, rfl, rfl⟩ := e
    refine ⟨fun j hj => ?_, (Array.getElem?_eq_some_iff.1 hcur).1, rfl⟩
    have hj' : j < zs.length := by simpa using hj
    have e : (zs.map (Value.int .i64))[j]? = some (.int .i64 zs[j]) := by simp [hj']
    rw [← hx, List.getElem?_take_of_lt (by omega)] at e
    rw [Nat.zero_add]
    refine ⟨?_, by simp [World.frozen?, hcur]⟩
    rw [getElem!_pos zs.toArray j hj]
    simp [World.cell?, hcur]
    simpa using e
theorem OwnJ.baseT {w : World} {b b' : Nat} {u : Value} {zs : List Int} (h : OwnJ w b u zs) (hb : b' ≤ b) : OwnJ w b' u zs := ⟨h.1, by
  rcases h.2 with h | ⟨g, cap, cur, e, hb', hr⟩
  · exact .inl h
  · exact .inr ⟨g, cap, cur, e, Nat.le_trans hb hb', hr⟩⟩
theorem sortJ_any (base : Nat) (u : Value) (zs : List Int) (w : World) (h : OwnJ w base u zs) (hl : zs.length ≤ 3300000) :
    Calls Try.prog 88 #[u] w (fun e w' => e = .returned (.tuple #[]) ∧ w.grownBy w' u.ownBlock ∧ OwnJ w' base u (ascL zs)) := by
  rcases h.2 with ⟨rfl, h0⟩ | ⟨g, cap, cur, rfl, _⟩
  · have e0 : zs = [] := List.length_eq_zero_iff.1 h0
    subst e0
    refine (AnyM.slices_Sort_int_none Try.sortI _ _ _).mono ?_
    rintro e w' ⟨rfl, rfl⟩
    exact ⟨rfl, only_refl _ _, by simpa [ascL] using OwnJ.nil _ _⟩
  · obtain ⟨hH, hlt, _⟩ := h.holdsT
    refine (AnyM.slices_Sort_int Try.sortI g 0 cap zs w hH hlt (by omega)).mono ?_
    rintro e w' ⟨rfl, n, os, hw⟩
    obtain ⟨h1, h2⟩ := h.put (q := n) (os := os) (ascL_len zs)
    subst hw
    exact ⟨rfl, h2, h1⟩
theorem revJ_any (base : Nat) (u : Value) (zs : List Int) (w : World) (h : OwnJ w base u zs) (hl : zs.length ≤ 3300000) :
    Calls Try.prog 103 #[u] w (fun e w' => e = .returned (.tuple #[]) ∧ w.grownBy w' u.ownBlock ∧ OwnJ w' base u zs.reverse) := by
  rcases h.2 with ⟨rfl, h0⟩ | ⟨g, cap, cur, rfl, _⟩
  · have e0 : zs = [] := List.length_eq_zero_iff.1 h0
    subst e0
    refine (AnyG.slices_Reverse_int_empty Try.revI _ _ _).mono ?_
    rintro e w' ⟨rfl, rfl⟩
    exact ⟨rfl, only_refl _ _, OwnJ.nil _ _⟩
  · obtain ⟨hH, hlt, _⟩ := h.holdsT
    refine (AnyG.slices_Reverse_int Try.revI g 0 cap zs w hH (by omega)).mono ?_
    rintro e w' ⟨rfl, n, hw⟩
    obtain ⟨h1, h2⟩ := h.put (q := n) (os := #[]) (ys := zs.reverse) (by simp)
    have e : w' = grow (putRow (Value.int .i64) (Sort.ahead w n) g 0 zs.reverse.toArray) #[] := by rw [hw]; simp only [grow, Array.append_empty]
    subst e
    exact ⟨rfl, h2, h1⟩
end Go.Proofs.Ytmgpmcjbnooklaa

namespace Go.Proofs.Ytmgpmcjbnooklaa
open Go.RowKit Go.Maps Go.Sort Go.Shelf
theorem cmpL_lexT : ∀ ps qs : List Int, decide (cmpL ps qs ≥ 0) = !(lexL ps qs)
  | [], [] => by simp [cmpL, lexL]
  | [], _ :: _ => by simp [cmpL, lexL]
  | _ :: _, [] => by simp [cmpL, lexL]
  | x :: r, y :: t => by
    have ih := cmpL_lexT r t
    unfold cmpL lexL
    rcases cmp1_cases x y with ⟨h, e⟩ | ⟨h, e⟩ | ⟨h, e⟩
    · rw [e, if_neg (by decide), if_neg (by omega)]; simp [h]
    · rw [e, if_pos rfl, if_pos h]; exact ih
    · rw [e, if_neg (by decide), if_neg (by omega)]; simp; omega
set_option maxRecDepth 100000 in
theorem CompareI_any (s t : Value) (xs ys : List Int) (w : World) (h : IB w s xs) (k : IB w t ys) : Calls Try.prog 68 #[s, t] w (RS (.int .i64 (cmpL xs ys)) w) := by
  obtain ⟨hl, h⟩ := h
  obtain ⟨kl, k⟩ := k
  rcases h with ⟨a, c, rfl, rfl⟩ | ⟨b, off, cap, rfl, hlt, hI⟩
  · obtain ⟨m, a', c', rfl, hm⟩ : ∃ m a' c', t = .slice a' m c' ∧ m = ys.length := by
      rcases k with ⟨a', c', rfl, rfl⟩ | ⟨b', off', cap', rfl, _⟩
      · exact ⟨_, _, _, rfl, rfl⟩
      · exact ⟨_, _, _, rfl, rfl⟩
    clear k
    have HV := Lib.hid (show cmpL [] ys = if m = 0 then 0 else -1 by
      cases ys with
      | nil => simp at hm; subst hm; rfl
      | cons y r => simp at hm; subst hm; simp [cmpL])
    rw [← hm] at kl
    clear hm hl
    by_cases h0 : m = 0
    · subst h0
      go_enter Try.func68, Try.ntmps68
      go_wp2
      go_loop [11] (fun i => i = .int .i64 0) (fun _ => 0)
      case atStart => rfl
      case round =>
        obtain rfl := hrel
        go_wp2
        go_ret
        exact RS_of (int_eq (by rw [HV.out]; rfl))
    · have hp : 0 < m := by omega
      have hd : decide ((0 : Int) < (m : Int)) = true := decide_eq_true (by omega)
      go_enter Try.func68, Try.ntmps68
      go_wp2
      go_loop [11] (fun i => i = .int .i64 0) (fun _ => 0)
      case atStart => rfl
      case round =>
        obtain rfl := hrel
        go_wp2
        go_ret
        exact RS_of (int_eq (by rw [HV.out, if_neg h0]))
  · rcases k with ⟨a', c', rfl, rfl⟩ | ⟨b', off', cap', rfl, klt, kI⟩
    · cases xs with
      | nil =>
        go_enter Try.func68, Try.ntmps68
        go_wp2
        go_loop [11] (fun i => i = .int .i64 0) (fun _ => 0)
        case atStart => rfl
        case round =>
          obtain rfl := hrel
          go_wp2
          go_ret
          exact RS_of rfl
      | cons x r =>
        have h0 := hI 0 (by simp)
        obtain ⟨m, hm⟩ : ∃ m, m = (x :: r).length := ⟨_, rfl⟩
        have hp : 0 < m := by rw [hm]; simp
        have hd : decide ((0 : Int) < (m : Int)) = true := decide_eq_true (by omega)
        have h0' : w.cell? ⟨b, off, none⟩ = some (.int .i64 x) := by simpa using h0
        rw [← hm] at hl ⊢
        clear hm hI h0 kl
        go_enter Try.func68, Try.ntmps68
        go_wp2
        go_loop [11] (fun i => i = .int .i64 0) (fun _ => 0)
        case atStart => rfl
        case round =>
          obtain rfl := hrel
          go_wp2
          go_ret
          exact RS_of rfl
    · exact Compare_any _ _ _ _ _ _ _ _ _ hI kI (by omega) (by omega)
/-- A row's header, and the row. -/
structure RowH where
  h : Value
  r : List Int
/-- The header leads to the row, which lies in another block than G. -/
def RowAt (W : World) (G : Nat) (x : RowH) : Prop := x.r.length ≤ 1000 ∧ ((∃ a c, x.h = .slice a 0 c ∧ x.r = []) ∨ ∃ b off cap, x.h = .slice (some ⟨b, off, none⟩) x.r.length cap ∧ b < W.heap.size ∧ b ≠ G ∧ Ints W b off x.r)
theorem RowAt.ib {W : World} {G : Nat} {x : RowH} (h : RowAt W G x) : IB W x.h x.r := by
  refine ⟨by have := h.1; omega, ?_⟩
  rcases h.2 with h2 | ⟨b, off, cap, e, h1, _, h3⟩
  · exact .inl h2
  · exact .inr ⟨b, off, cap, e, h1, h3⟩
theorem RowAt.kept {W W' : World} {G : Nat} {x : RowH} {row : Option Nat} (h : RowAt W G x) (hg : W.grownBy W' row) (hr : row = none ∨ row = some G) : RowAt W' G x := by
  refine ⟨h.1, ?_⟩
  rcases h.2 with h2 | ⟨b, off, cap, e, h1, h2, h3⟩
  · exact .inl h2
  · have hne : some b ≠ row := fun e => by
      rcases hr with hr | hr
      · rw [hr] at e; cases e
      · rw [hr] at e; injection e with e; exact h2 e
    exact .inr ⟨b, off, cap, e, Nat.lt_of_lt_of_le h1 hg.size, h2, fun k hk => (World.cell?_of_block (w := W) (a := ⟨b, _, none⟩) (hg.block b h1 hne)).trans (h3 k hk)⟩
theorem RowAt.one {W : World} {G : Nat} {x : RowH} (h : RowAt W G x) : x.h.oneCell' = true := by
  rcases h.2 with ⟨a, c, e, _⟩ | ⟨b, off, cap, e, _⟩ <;> rw [e] <;> rfl
theorem grownBy_putRH {α : Type} [Inhabited α] {enc : α → Value} {w : World} {g n : Nat} {os : Array Obj} (F : Array α) : w.grownBy (grow (putRow enc (Sort.ahead w n) g 0 F) os) (some g) := by
  refine ⟨rfl, rfl, rfl, by simp, fun k hk hne => ?_⟩
  rw [heap_grow_old _ _ (by simpa using hk)]
  have : g ≠ k := fun e => hne (by rw [e])
  simp [putRow, mapBlock, Sort.ahead, Array.getElem?_modify, this]
theorem lt_lexT {α : Type} (f : α → List Int) (x y : α) : ltOf (fun x y => cmpL (f x) (f y)) x y = lexL (f x) (f y) := by
  have h := cmpL_lexT (f x) (f y)
  unfold ltOf
  cases e : lexL (f x) (f y) with
  | true => rw [e] at h; simp at h; simpa using h
  | false => rw [e] at h; simp at h; simpa using h
theorem swoT {α : Type} (f : α → List Int) : SWO (ltOf fun x y => cmpL (f x) (f y)) where
  irrefl x := by rw [lt_lexT]; exact lexL_irr _
  trans x y z h1 h2 := by rw [lt_lexT] at *; exact lexL_trans h1 h2
  ntrans x y z h1 h2 := by
    rw [lt_lexT] at *
    cases e : lexL (f x) (f z) with
    | false => rfl
    | true =>
      by_cases hxy : f x = f y
      · rw [← hxy, e] at h2; cases h2
      · have h3 := lexL_of_ne h1 (fun e => hxy e.symm)
        rw [lexL_trans h3 e] at h2; cases h2
theorem RowsV.holds {w : World} {base g n cap : Nat} {α : Type} [Inhabited α] {enc : α → Value} {d : List α} (h : RowsV w base (.slice (some ⟨g, 0, none⟩) n cap) (d.map enc)) : Holds enc w g 0 d.toArray := by
  intro j hj
  have hj' : j < d.length := by simpa using hj
  have h2 := h.at_ (i := j) (x := enc d[j]) (by simp [hj'])
  rw [Nat.zero_add, getElem!_pos d.toArray j hj]
  exact ⟨h2.1, h2.2.2.2.2⟩
/-- The rows' list behind the sort. -/
theorem sortR_any (base G cap : Nat) (L : List RowH) (w : World) (hV : RowsV w base (.slice (some ⟨G, 0, none⟩) L.length cap) (L.map RowH.h)) (hR : ∀ x ∈ L, RowAt w G x) (hl : L.length ≤ 1100000) :
    Calls Try.prog 67 #[.slice (some ⟨G, 0, none⟩) L.length cap, .func (.func 68) #[] #[]] w (fun e w' => e = .returned (.tuple #[]) ∧
      ∃ L' : List RowH, L'.Perm L ∧ L'.Pairwise (fun x y => lexL y.r x.r = false) ∧ RowsV w' base (.slice (some ⟨G, 0, none⟩) L.length cap) (L'.map RowH.h) ∧ w.grownBy w' (some G)) := by
  cases hL : L with
  | nil =>
    subst hL
    have hS := AnyF.slices_SortFunc_none (P := Try.prog) (ρ := Try.sortR_ren) { Try.sortR with } (some ⟨G, 0, none⟩) cap (.func (.func 68) #[] #[]) w
    refine Calls.mono hS ?_
    rintro e w' ⟨rfl, rfl⟩
    exact ⟨rfl, [], .nil, List.Pairwise.nil, hV, only_refl _ _⟩
  | cons x0 R0 =>
    rw [← hL]
    have hin : x0 ∈ L := by rw [hL]; simp
    haveI : Inhabited {x : RowH // x ∈ L} := ⟨⟨x0, hin⟩⟩
    have eg : ∀ args w, (callFunc 68 args).run Try.prog w = .ok (.enter 68 args) w := enters_of Try.func68 (by kernel_rfl) rfl
    have hat : L.attach.map (fun x : {x : RowH // x ∈ L} => x.1.h) = L.map RowH.h := by
      simp
    have hV' : RowsV w base (.slice (some ⟨G, 0, none⟩) L.length cap) (L.attach.map (fun x : {x : RowH // x ∈ L} => x.1.h)) := by rw [hat]; exact hV
    have hH := hV'.holds
    have hG := (hV.at_ (i := 0) (x := x0.h) (by rw [hL]; rfl)).2.2.1
    have hcmp : CmpLays1 Try.prog 68 #[] (fun x : {x : RowH // x ∈ L} => x.1.h) (fun x y => cmpL x.1.r y.1.r) G 0 L.attach.toArray.size w := fun m os dk _ x y => by
      have hg : w.grownBy (sortWorld (fun x : {x : RowH // x ∈ L} => x.1.h) w G 0 m dk os) (some G) := grownBy_putRH dk
      refine (CompareI_any _ _ _ _ _ ((hR x.1 x.2).kept hg (.inr rfl)).ib ((hR y.1 y.2).kept hg (.inr rfl)).ib).mono ?_
      rintro e w' ⟨rfl, rfl⟩
      exact ⟨rfl, 0, #[], by rw [grow_empty]; rfl⟩
    have hS := Any.slices_SortFunc Try.sortR (fun x : {x : RowH // x ∈ L} => x.1.h) (fun x => (hR x.1 x.2).one) (fun x y => cmpL x.1.r y.1.r) (swoT fun x : {x : RowH // x ∈ L} => x.1.r) 68 #[] G 0 cap L.attach.toArray w eg hcmp hH hG (by simp; omega)
    have hsz : L.attach.toArray.size = L.length := by simp
    rw [hsz] at hS
    refine Calls.mono hS ?_
    rintro e w' ⟨rfl, d', n, os, hp, hs, rfl⟩
    obtain ⟨hsz', _, hperm⟩ := hp
    rw [hsz] at hsz'
    have e1 : d'.extract 0 L.length = d' := by rw [← hsz']; exact Array.extract_size
    have e2 : L.attach.toArray.extract 0 L.length = L.attach.toArray := by rw [← hsz]; exact Array.extract_size
    rw [e1, e2] at hperm
    refine ⟨rfl, d'.toList.map (fun x => x.1), ?_, ?_, ?_, grownBy_putRH d'⟩
    · have := hperm.map (fun x : {x : RowH // x ∈ L} => x.1)
      simpa using this
    · rw [List.pairwise_map, List.pairwise_iff_getElem]
      intro i j hi hj hij
      have hi' : i < d'.size := by simpa using hi
      have hj' : j < d'.size := by simpa using hj
      have := hs i j (Nat.zero_le _) hij (by omega)
      rw [getElem!_pos d' j hj', getElem!_pos d' i hi', lt_lexT (fun x : {x : RowH // x ∈ L} => x.1.r)] at this
      simpa using this
    · rw [List.map_map]
      have h1 := Lib.ownsRow_putRow (q := n) (k := L.length) (enc := fun x : {x : RowH // x ∈ L} => x.1.h) (zs := L.attach) (ys := d'.toList) (w := w) (base := base) (e := 26) (g := G) (n := L.length) (cap := cap) (by
        have h0 := hV'
        unfold RowsV at h0
        rw [List.length_map, List.length_attach] at h0
        exact h0) (by simpa using hsz') (Nat.le_refl _)
      rw [List.take_of_length_le (by simp; omega)] at h1
      have h2 : RowsV (putRow (fun x : {x : RowH // x ∈ L} => x.1.h) (Sort.ahead w n) G 0 d') base (.slice (some ⟨G, 0, none⟩) L.length cap) (d'.toList.map (fun x => x.1.h)) := by
        unfold RowsV
        rw [List.length_map, show d'.toList.length = L.length from by simpa using hsz']
        simpa using h1
      exact h2.kept (grownBy_growT _ os) (.inl rfl)
end Go.Proofs.Ytmgpmcjbnooklaa

namespace Go.Proofs
open Go.Shelf
def Try.sortB_ren : Go.Shelf.Ren := ⟨fun | 6 => 89 | 15 => 105 | 14 => 114 | 28 => 127 | 29 => 128 | 20 => 139 | 21 => 140 | 22 => 141 | 23 => 142 | 24 => 143 | 25 => 144 | 26 => 145 | 27 => 146 | 46 => 155 | 47 => 148 | 48 => 149 | 49 => 156 | 50 => 157 | 57 => 160 | n => n, fun | 22 => 29 | 24 => 68 | 25 => 95 | 3 => 3 | 39 => 114 | 0 => 0 | 53 => 139 | 55 => 104 | 4 => 4 | 46 => 132 | 45 => 131 | 50 => 136 | 5 => 5 | 9 => 9 | 66 => 152 | 70 => 156 | 76 => 162 | 77 => 163 | n => n, fun | n => n⟩
theorem Try.sortB : Go.Proofs.SlLaysF0.n6 Try.prog Try.sortB_ren := {
  mixed := by kernel_rfl
  f6 := ⟨Try.f89.name, by decide, Try.func89.trans (congrArg some (by kernel_rfl))⟩
  f14 := ⟨Try.f114.name, by decide, Try.func114.trans (congrArg some (by kernel_rfl))⟩
  f15 := Try.func105.trans (congrArg some (by kernel_rfl))
  f20 := ⟨Try.f139.name, by decide, Try.func139.trans (congrArg some (by kernel_rfl))⟩
  f21 := ⟨Try.f140.name, by decide, Try.func140.trans (congrArg some (by kernel_rfl))⟩
  f22 := ⟨Try.f141.name, by decide, Try.func141.trans (congrArg some (by kernel_rfl))⟩
  f23 := ⟨Try.f142.name, by decide, Try.func142.trans (congrArg some (by kernel_rfl))⟩
  f24 := ⟨Try.f143.name, by decide, Try.func143.trans (congrArg some (by kernel_rfl))⟩
  f25 := ⟨Try.f144.name, by decide, Try.func144.trans (congrArg some (by kernel_rfl))⟩
  f26 := ⟨Try.f145.name, by decide, Try.func145.trans (congrArg some (by kernel_rfl))⟩
  f27 := ⟨Try.f146.name, by decide, Try.func146.trans (congrArg some (by kernel_rfl))⟩
  f28 := Try.func127.trans (congrArg some (by kernel_rfl))
  f29 := Try.func128.trans (congrArg some (by kernel_rfl))
  f46 := ⟨Try.f155.name, by decide, Try.func155.trans (congrArg some (by kernel_rfl))⟩
  f47 := Try.func148.trans (congrArg some (by kernel_rfl))
  f48 := Try.func149.trans (congrArg some (by kernel_rfl))
  f49 := ⟨Try.f156.name, by decide, Try.func156.trans (congrArg some (by kernel_rfl))⟩
  f50 := ⟨Try.f157.name, by decide, Try.func157.trans (congrArg some (by kernel_rfl))⟩
  f57 := ⟨Try.f160.name, by decide, Try.func160.trans (congrArg some (by kernel_rfl))⟩
  t0 := Try.underlying0
  a0 := Try.isAgg0
  z0 := Try.sizeOf0
  v0 := Try.zeroValue0
  t3 := Try.underlying3
  a3 := Try.isAgg3
  z3 := Try.sizeOf3
  v3 := Try.zeroValue3
  t4 := Try.underlying4
  a4 := Try.isAgg4
  z4 := Try.sizeOf4
  v4 := Try.zeroValue4
  t5 := Try.underlying5
  a5 := Try.isAgg5
  z5 := Try.sizeOf5
  v5 := Try.zeroValue5
  t9 := Try.underlying9
  a9 := Try.isAgg9
  z9 := Try.sizeOf9
  v9 := Try.zeroValue9
  t22 := Try.underlying29
  a22 := Try.isAgg29
  z22 := Try.sizeOf29
  v22 := Try.zeroValue29
  t25 := Try.underlying95
  a25 := Try.isAgg95
  z25 := Try.sizeOf95
  v25 := Try.zeroValue95
  t39 := Try.underlying114
  a39 := Try.isAgg114
  z39 := Try.sizeOf114
  v39 := Try.zeroValue114
  t45 := Try.underlying131
  a45 := Try.isAgg131
  z45 := Try.sizeOf131
  v45 := Try.zeroValue131
  t46 := Try.underlying132
  a46 := Try.isAgg132
  z46 := Try.sizeOf132
  v46 := Try.zeroValue132
  t50 := Try.underlying136
  a50 := Try.isAgg136
  z50 := Try.sizeOf136
  v50 := Try.zeroValue136
  t53 := Try.underlying139
  a53 := Try.isAgg139
  z53 := Try.sizeOf139
  v53 := Try.zeroValue139
  t55 := Try.underlying104
  a55 := Try.isAgg104
  z55 := Try.sizeOf104
  v55 := Try.zeroValue104
  t66 := Try.underlying152
  a66 := Try.isAgg152
  z66 := Try.sizeOf152
  v66 := Try.zeroValue152
  t70 := Try.underlying156
  a70 := Try.isAgg156
  z70 := Try.sizeOf156
  v70 := Try.zeroValue156
  t76 := Try.underlying162
  a76 := Try.isAgg162
  z76 := Try.sizeOf162
  v76 := Try.zeroValue162
  t77 := Try.underlying163
  a77 := Try.isAgg163
  z77 := Try.sizeOf163
  v77 := Try.zeroValue163 }
end Go.Proofs

namespace Go.Proofs.Ytmgpmcjbnooklaa
open Go.RowKit Go.Maps Go.Sort Go.Shelf
theorem aggB (w : World) : (isAgg 68).run Try.prog w = .ok true w := by kernel_rfl
theorem szB (w : World) : (Go.sizeOf 68).run Try.prog w = .ok 3 w := by kernel_rfl
theorem one3 : ∀ x : Blk, ∀ v ∈ cells3 x, v.oneCell' = true := fun x v hv => by
  simp [cells3] at hv
  rcases hv with rfl | rfl | rfl <;> rfl
theorem cmpLays (blk off size : Nat) (w : World) : CmpLays Try.prog 80 #[] cells3 3 cmpB blk off size w := fun _ _ _ _ x y => compareBlocks_lays x y _
theorem sortFunc_any (base : Nat) (s : Value) (bs : List Blk) (w : World) (h : OwnR w base s bs) (hl : bs.length ≤ 1100000) :
    Calls Try.prog 89 #[s, .func (.func 80) #[] #[]] w fun e w' => e = .returned (.tuple #[]) ∧ OwnR w' base s (sortB bs) ∧ w.grownBy w' s.ownBlock := by
  obtain ⟨a, c, rfl⟩ : ∃ a c, s = .slice a bs.length c := by
    rcases h.res with ⟨rfl, a, c, rfl⟩ | ⟨g, cap, rfl, _⟩ <;> exact ⟨_, _, rfl⟩
  rcases h.2 with ⟨hv, h0⟩ | ⟨g, cap, cur, hv, hb, hcur, hrest⟩
  · have e0 : bs = [] := List.length_eq_zero_iff.1 h0
    subst e0
    cases hv
    have hS := AnyF.slices_SortFunc_none (P := Try.prog) (ρ := Try.sortB_ren) { Try.sortB with } none 0 (.func (.func 80) #[] #[]) w
    refine Calls.mono hS ?_
    rintro e w' ⟨rfl, rfl⟩
    exact ⟨rfl, h, only_refl _ _⟩
  · cases hv
    have hat := h.at_.2.2
    have eg : ∀ args w, (callFunc 80 args).run Try.prog w = .ok (.enter 80 args) w := enters_of Try.func80 (by kernel_rfl) rfl
    have hS := AnyQ.slices_SortFunc_total Try.sortB 3 aggB szB cells3 (fun _ => rfl) one3 cmpB swoB 80 #[] g 0 c bs.toArray w eg (cmpLays _ _ _ _) hat.holds hat.lt (by simp; omega) totB
    rw [List.size_toArray] at hS
    refine Calls.mono hS ?_
    rintro e w' ⟨rfl, n, os, rfl⟩
    have hm := mergeB bs
    have ho := h.sorted (cs := sortB bs) (sortB_length bs) n os
    rw [← hm] at ho
    rw [← hm]
    exact ⟨rfl, ho⟩
theorem OwnR.formS {w : World} {base : Nat} {s : Value} {bs : List Blk} (h : OwnR w base s bs) : ∃ a c, s = .slice a bs.length c := by
  rcases h.res with ⟨rfl, a, c, rfl⟩ | ⟨g, cap, rfl, _⟩ <;> exact ⟨_, _, rfl⟩
theorem gb_setnew {a w : World} {row : Option Nat} (h : a.grownBy w row) {p : Addr} (hp : a.heap.size ≤ p.block) (u : Value) : a.grownBy (w.setCell p u) row :=
  ⟨h.os, h.tape, h.output, by simpa [World.setCell] using h.size, fun i hi hne => (Below.heap_setCell w p u i (by omega)).trans (h.block i hi hne)⟩
set_option maxRecDepth 100000 in
theorem systemFrom_any (v : Int) (base : Nat) (s : Value) (bs : List Blk) (w : World) (h : OwnR w base s bs) (hl : bs.length ≤ 1100000) (hb : base ≤ w.heap.size) :
    Calls Try.prog 96 #[.int .i64 v, s] w fun e w' => e = .returned (.agg #[.int .i64 v, s]) ∧ OwnR w' base s (sortB bs) ∧ w.grownBy w' s.ownBlock := by
  have hS := sortFunc_any base s bs (w.alloc (.cells #[.int .i64 0, .slice none 0 0] 31)) (h.below ((Below.refl _ _).alloc (Nat.le_refl _) _) (Nat.le_refl _)) hl
  have hrow := h.row
  have hlt : ∀ r, s.ownBlock = some r → r < w.heap.size := fun r e => by
    rcases h.2 with ⟨hv, h0⟩ | ⟨g, cap, cur, hv, hb, hcur, hrest⟩
    · rw [hv] at e; simp [Value.ownBlock] at e
    · rw [hv] at e
      obtain rfl : g = r := by simpa [Value.ownBlock] using e
      exact (Array.getElem?_eq_some_iff.1 hcur).1
  have HLT := Lib.hid hlt
  have HS := Lib.hid hS
  obtain ⟨a, c, hs⟩ := h.formS
  clear hS h hrow hlt
  subst hs
  go_enter Try.func96, Try.ntmps96
  go_wp2_with fail
  refine HS.out.mono ?_
  rintro e w1 ⟨rfl, ho, hg⟩
  have hz := hg.size
  simp at hz
  have d0 : w1.cell? ⟨w.heap.size, 0, none⟩ = some (.int .i64 0) := hg.cell (by simp [go_sem]) (fun e => by have := HLT.out _ e.symm; simp at this)
  have d1 : w1.cell? ⟨w.heap.size, 1, none⟩ = some (.slice none 0 0) := hg.cell (by simp [go_sem]) (fun e => by have := HLT.out _ e.symm; simp at this)
  have hblk := hg.block w.heap.size (by simp) (fun e => by have := HLT.out _ e.symm; omega)
  have f0 : w1.frozen? ⟨w.heap.size, 0, none⟩ = false := (World.frozen?_of_block (a := ⟨w.heap.size, 0, none⟩) hblk).trans (by simp [go_sem])
  have f1 : w1.frozen? ⟨w.heap.size, 1, none⟩ = false := (World.frozen?_of_block (a := ⟨w.heap.size, 1, none⟩) hblk).trans (by simp [go_sem])
  have HO := Lib.hid (And.intro ho hg)
  clear ho hg hblk
  go_wp2
  refine bodyPost_ret (v := .agg #[.int .i64 v, .slice a bs.length c]) (by simp [results, Try.results96, go_sem, *]) rfl ⟨rfl, ?_, ?_⟩
  · exact World.ownsRow.kept HO.out.1 (gb_set2 w1 w.heap.size (.int .i64 v) (.slice a bs.length c)) (.inr fun e => by have := HLT.out w.heap.size (by first | exact e | exact e.symm); omega)
  · exact gb_setnew (p := ⟨w.heap.size, 1, none⟩) (gb_setnew (p := ⟨w.heap.size, 0, none⟩) (gb_trans (World.grownBy_alloc w _ none) HO.out.2) (Nat.le_refl _) _) (Nat.le_refl _) _
end Go.Proofs.Ytmgpmcjbnooklaa

namespace Go.Proofs.Ytmgpmcjbnooklaa
open Go.RowKit Go.Maps
/-- A row with its block and its capacity. -/
structure RowP where
  g : Nat
  c : Nat
  r : List Int
def RowP.hdr (x : RowP) : Value := .slice (some ⟨x.g, 0, none⟩) x.r.length x.c
def rowsP (Rs : List RowP) : List (List Int) := Rs.map RowP.r
/-- A list of the call's own of rows of the call's own, each in a block of its own. -/
structure RowsM (w : World) (base : Nat) (u : Value) (Rs : List RowP) : Prop where
  own : RowsV w base u (Rs.map RowP.hdr)
  row : ∀ x ∈ Rs, OwnAtI w x.g x.r
  ne : ∀ x ∈ Rs, u.ownBlock ≠ some x.g
  nd : (Rs.map RowP.g).Nodup
  low : ∀ x ∈ Rs, base ≤ x.g
theorem RowsM.below {w w' : World} {base : Nat} {u : Value} {Rs : List RowP} (h : RowsM w base u Rs) (hb : Below w.heap.size w w') : RowsM w' base u Rs :=
  ⟨h.own.below hb (Nat.le_refl _), fun x hx => (h.row x hx).kept (gb_below hb) (by simp), h.ne, h.nd, h.low⟩
theorem RowsM.nil (w : World) (base : Nat) : RowsM w base (.slice none 0 0) [] := ⟨⟨rfl, .inl ⟨rfl, rfl⟩⟩, by simp, by simp, by simp, by simp⟩
theorem RowsM.form {w : World} {base : Nat} {u : Value} {Rs : List RowP} (h : RowsM w base u Rs) : ∃ a c, u = .slice a Rs.length c := by
  rcases h.own.2 with ⟨rfl, h0⟩ | ⟨g, cap, cur, rfl, _⟩
  · rw [List.length_map] at h0
    exact ⟨none, 0, by rw [h0]⟩
  · exact ⟨_, _, by rw [List.length_map]⟩
theorem RowsM.blk {w : World} {base : Nat} {u : Value} {Rs : List RowP} (h : RowsM w base u Rs) : ∀ r, u.ownBlock = some r → base ≤ r ∧ r < w.heap.size := fun r e => by
  rcases h.own.2 with ⟨hv, h0⟩ | ⟨g, cap, cur, hv, hb, hcur, _⟩
  · rw [hv] at e; simp [Value.ownBlock] at e
  · rw [hv] at e
    obtain rfl : g = r := by simpa [Value.ownBlock] using e
    exact ⟨hb, (Array.getElem?_eq_some_iff.1 hcur).1⟩
/-- The header of a row, where it lies. -/
theorem RowsM.at_ {w : World} {base : Nat} {u : Value} {Rs : List RowP} (h : RowsM w base u Rs) {k : Nat} {x : RowP} (hx : Rs[k]? = some x) : ∃ G c, u = .slice (some ⟨G, 0, none⟩) Rs.length c ∧ w.cell? ⟨G, k, none⟩ = some x.hdr ∧ OwnAtI w x.g x.r := by
  have hk : k < Rs.length := (List.getElem?_eq_some_iff.1 hx).1
  obtain ⟨G, c, rfl⟩ := h.own.form (by rw [List.length_map]; omega)
  have := h.own.at_ (i := k) (x := x.hdr) (by rw [List.getElem?_map, hx]; rfl)
  exact ⟨G, c, by rw [List.length_map], this.1, h.row x (List.mem_of_getElem? hx)⟩
theorem RowP.ib {w : World} {x : RowP} (h : OwnAtI w x.g x.r) (hl : x.r.length ≤ 1100000) : IB w x.hdr x.r :=
  ⟨hl, .inr ⟨x.g, 0, x.c, rfl, h.lt, h.at_⟩⟩
theorem RowsM.res {w : World} {base : Nat} {u : Value} {Rs : List RowP} (h : RowsM w base u Rs) : ResSS w base u (rowsP Rs).length (rowsF (rowsP Rs)) := by
  have hlen : (rowsP Rs).length = Rs.length := by simp [rowsP]
  by_cases h0 : Rs.length = 0
  · obtain ⟨a, c, hu⟩ := h.form
    exact .inl ⟨by omega, a, c, by rw [hu, h0]⟩
  · obtain ⟨G, cap, hu⟩ := h.own.form (by rw [List.length_map]; omega)
    rw [List.length_map] at hu
    have hb := h.blk G (by rw [hu]; rfl)
    refine .inr ⟨G, cap, fun k => (Rs[k]?.getD ⟨0, 0, []⟩).g, fun k => (Rs[k]?.getD ⟨0, 0, []⟩).c, by rw [hu, hlen], hb.1, ?_⟩
    rw [hlen]
    have hx : ∀ k, k < Rs.length → Rs[k]? = some (Rs[k]?.getD ⟨0, 0, []⟩) := fun k hk => by simp [hk]
    have hr : ∀ k, k < Rs.length → rowsF (rowsP Rs) k = (Rs[k]?.getD ⟨0, 0, []⟩).r := fun k hk => by simp [rowsF, rowsP, hk]
    refine ⟨fun k hk => ?_, fun k hk => ?_, fun k hk => ?_, fun j k hjk hk => ?_, fun k hk => ?_, hb.2⟩
    · obtain ⟨G', c', e, hc, _⟩ := h.at_ (hx k hk)
      rw [hu] at e
      simp at e
      obtain ⟨rfl, _⟩ := e
      rw [hc, hr k hk]
      rfl
    · rw [hr k hk]
      exact h.row _ (List.mem_of_getElem? (hx k hk))
    · intro e
      exact h.ne _ (List.mem_of_getElem? (hx k hk)) (by rw [hu]; exact congrArg some e.symm)
    · intro e
      have hn := h.nd
      rw [List.Nodup, List.pairwise_iff_getElem] at hn
      have := hn j k (by rw [List.length_map]; omega) (by rw [List.length_map]; omega) hjk
      simp only [List.getElem_map] at this
      have e' : (Rs[j]?.getD ⟨0, 0, []⟩).g = (Rs[k]?.getD ⟨0, 0, []⟩).g := e
      rw [List.getElem?_eq_getElem (show j < Rs.length by omega), List.getElem?_eq_getElem hk] at e'
      exact this e'
    · exact h.low _ (List.mem_of_getElem? (hx k hk))
def insP (Rs : List RowP) (j : Nat) (x : RowP) : List RowP := Rs.take j ++ x :: Rs.drop j
theorem insP_hdr (Rs : List RowP) (j : Nat) (x : RowP) : (insP Rs j x).map RowP.hdr = insV (Rs.map RowP.hdr) j x.hdr := by simp [insP, insV, List.map_take, List.map_drop]
theorem insP_mem {Rs : List RowP} {j : Nat} {x y : RowP} : y ∈ insP Rs j x ↔ y = x ∨ y ∈ Rs := by
  unfold insP
  rw [List.mem_append, List.mem_cons]
  have : y ∈ Rs ↔ y ∈ Rs.take j ∨ y ∈ Rs.drop j := by
    conv => lhs; rw [← List.take_append_drop j Rs]
    rw [List.mem_append]
  rw [this]
  constructor
  · rintro (h | h | h)
    · exact .inr (.inl h)
    · exact .inl h
    · exact .inr (.inr h)
  · rintro (h | h | h)
    · exact .inr (.inl h)
    · exact .inl h
    · exact .inr (.inr h)
theorem insP_perm (Rs : List RowP) (j : Nat) (x : RowP) : (insP Rs j x).Perm (x :: Rs) := by
  unfold insP
  have h := List.perm_middle (a := x) (l₁ := Rs.take j) (l₂ := Rs.drop j)
  rw [List.take_append_drop] at h
  exact h
theorem insP_rows (Rs : List RowP) (j : Nat) (x : RowP) : rowsP (insP Rs j x) = (rowsP Rs).take j ++ x.r :: (rowsP Rs).drop j := by simp [insP, rowsP, List.map_take, List.map_drop]
theorem gb_store {a w : World} {row : Option Nat} (h : a.grownBy w row) {G : Nat} (hG : row = some G ∨ a.heap.size ≤ G) (i : Nat) (u : Value) : a.grownBy (w.setCell ⟨G, i, none⟩ u) row := by
  rcases hG with rfl | hG
  · exact only_setCell h rfl u
  · exact gb_setnew h hG u
/-- The list with one row more. -/
theorem RowsM.put {w w' : World} {base : Nat} {u : Value} {Rs : List RowP} (h : RowsM w base u Rs) {x : RowP} (hx : OwnAtI w x.g x.r) (hxu : u.ownBlock ≠ some x.g) (hxn : x.g ∉ Rs.map RowP.g) (hxl : base ≤ x.g) {G cap j : Nat}
    (hV : RowsV w' base (.slice (some ⟨G, 0, none⟩) (Rs.length + 1) cap) (insV (Rs.map RowP.hdr) j x.hdr)) (hg : w.grownBy w' u.ownBlock) (hG : u.ownBlock = some G ∨ w.heap.size ≤ G) : RowsM w' base (.slice (some ⟨G, 0, none⟩) (Rs.length + 1) cap) (insP Rs j x) := by
  have hall : ∀ y ∈ insP Rs j x, OwnAtI w y.g y.r ∧ u.ownBlock ≠ some y.g ∧ base ≤ y.g := fun y hy => by
    rcases insP_mem.1 hy with rfl | hy
    · exact ⟨hx, hxu, hxl⟩
    · exact ⟨h.row y hy, h.ne y hy, h.low y hy⟩
  refine ⟨by rw [insP_hdr]; exact hV, fun y hy => (hall y hy).1.kept hg (fun e => (hall y hy).2.1 e.symm), fun y hy e => ?_, ?_, fun y hy => (hall y hy).2.2⟩
  · have e : G = y.g := by simpa [Value.ownBlock] using e
    rcases hG with hG | hG
    · exact (hall y hy).2.1 (by rw [hG, e])
    · have := (hall y hy).1.lt
      omega
  · have hp := (insP_perm Rs j x).map RowP.g
    rw [hp.nodup_iff, List.map_cons, List.nodup_cons]
    exact ⟨hxn, h.nd⟩
end Go.Proofs.Ytmgpmcjbnooklaa

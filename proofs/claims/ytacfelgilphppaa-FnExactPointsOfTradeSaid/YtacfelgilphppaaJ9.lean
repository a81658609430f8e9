
/- The laws' own helpers for trades: sizes, copies, equality, marks. What a law over one system whose result is a system knows of the memory between two of its steps. What TakeBlock answers: plain. impl.TakeBlock answers as the plain function takeF. append of many blocks to a list of the call's own. The model's TakeBlock. -/
import Derived.Test.YtacfelgilphppaaJ8
import Derived.Deep.RegionLaw
import Derived.Deep.AppendLies
import Derived.Deep.RegionHeld3
import Derived.IntWalk
namespace Go.Proofs.Ytacfelgilphppaa
open Go.RowKit Go.Maps
set_option maxRecDepth 100000 in
theorem szTrade_any (v : Int) (so si : Value) (no ni : Nat) (hso : ∃ a c, so = .slice a no c) (hsi : ∃ a c, si = .slice a ni c) (hno : (no : Int) ≤ 9223372036854775807) (hni : (ni : Int) ≤ 9223372036854775807) (left : Int) (h0 : 0 ≤ left) (h1 : left ≤ 1048576) (w : World) :
    Calls Try.prog 62 #[.agg #[.int .i64 v, so, si], .int .i64 left] w (RV (.int .i64 (if left - ((no + ni : Nat) : Int) < 0 then -1 else left - ((no + ni : Nat) : Int))) w) := by
  obtain ⟨a, c, rfl⟩ := hso
  obtain ⟨a', c', rfl⟩ := hsi
  have hc := szBlockS_any (.slice a no c) no ⟨a, c, rfl⟩ hno left h0 h1
  by_cases h : left - no < 0
  · rw [if_pos h] at hc
    rw [if_pos (by omega)]
    have HC := Lib.hid hc
    clear hc h
    go_enter Try.func62, Try.ntmps62
    go_wp2_with (go_at_call 90; refine (HC.out _).mono ?_; rintro e w1 ⟨rfl, rfl⟩)
    go_ret
    exact RV_of rfl ((Below.refl _ _).alloc (Nat.le_refl _) _)
  · rw [if_neg h] at hc
    have hd := szBlockS_any (.slice a' ni c') ni ⟨a', c', rfl⟩ hni (left - no) (by omega) (by omega)
    by_cases k : left - no - ni < 0
    · rw [if_pos k] at hd
      rw [if_pos (by omega)]
      obtain ⟨m, hm⟩ : ∃ m, m = left - (no : Int) := ⟨_, rfl⟩
      rw [← hm] at hc hd
      have hm0 : 0 ≤ m := by omega
      have HC := Lib.hid hc
      have HD := Lib.hid hd
      clear hc hd h k hm
      go_enter Try.func62, Try.ntmps62
      go_wp2_with fail
      refine (HC.out _).mono ?_
      rintro e w1 ⟨rfl, rfl⟩
      go_wp2_with fail
      refine (HD.out _).mono ?_
      rintro e w1 ⟨rfl, rfl⟩
      go_wp2
      go_ret
      exact RV_of rfl ((Below.refl _ _).alloc (Nat.le_refl _) _)
    · rw [if_neg k] at hd
      rw [if_neg (by omega)]
      obtain ⟨n, hn⟩ : ∃ n, n = left - (no : Int) - (ni : Int) := ⟨_, rfl⟩
      rw [← hn] at hd
      rw [show left - ((no + ni : Nat) : Int) = n by omega]
      obtain ⟨m, hm⟩ : ∃ m, m = left - (no : Int) := ⟨_, rfl⟩
      rw [← hm] at hc hd
      have hm0 : 0 ≤ m := by omega
      have hn0 : 0 ≤ n := by omega
      have HC := Lib.hid hc
      have HD := Lib.hid hd
      clear hc hd h k hm hn
      go_enter Try.func62, Try.ntmps62
      go_wp2_with fail
      refine (HC.out _).mono ?_
      rintro e w1 ⟨rfl, rfl⟩
      go_wp2_with fail
      refine (HD.out _).mono ?_
      rintro e w1 ⟨rfl, rfl⟩
      go_wp2
      go_ret
      exact RV_of rfl ((Below.refl _ _).alloc (Nat.le_refl _) _)
theorem OwnB.grown1 {w w' : World} {lo g cap : Nat} {bs : List Blk} (h : OwnB w lo (.slice (some ⟨g, 0, none⟩) bs.length cap) bs) {row : Option Nat} (hg : w.grownBy w' row) (hr : ∀ r, row = some r → r < g) : OwnB w' lo (.slice (some ⟨g, 0, none⟩) bs.length cap) bs := by
  obtain ⟨g', cap', e, h1, h2, h3, h4, h5⟩ := h
  simp at e
  obtain ⟨rfl, rfl⟩ := e
  have hb := hg.block g h2 (fun e => by have := hr g e.symm; omega)
  refine ⟨g, cap, rfl, h1, Nat.lt_of_lt_of_le h2 hg.size, fun k hk => ?_, fun o => ?_, h5⟩
  · obtain ⟨p1, p2, p3⟩ := h3 k hk
    exact ⟨(World.cell?_of_block (w := w) (a := ⟨g, _, none⟩) hb).trans p1, (World.cell?_of_block (w := w) (a := ⟨g, _, none⟩) hb).trans p2, (World.cell?_of_block (w := w) (a := ⟨g, _, none⟩) hb).trans p3⟩
  · exact (World.frozen?_of_block (w := w) (a := ⟨g, o, none⟩) hb).trans (h4 o)
set_option maxRecDepth 100000 in
set_option maxHeartbeats 1000000 in
theorem toTrade_any (v : Int) (so : Value) (bo : List Blk) (si : Value) (bi : List Blk) (w : World) (h : TB w so bo si bi) : Calls Try.prog 64 #[.agg #[.int .i64 v, so, si]] w
    (fun e w' => ∃ tq ti, e = .returned (.agg #[.int .i64 v, tq, ti]) ∧ OwnT w' w.heap.size tq bo ti bi ∧ Below w.heap.size w w') := by
  have hs := h.1.slice
  have ht := h.2.slice
  have H1 := Lib.hid h.1
  have H2 := Lib.hid h.2
  clear h
  obtain ⟨a, c, rfl⟩ := hs
  obtain ⟨a', c', rfl⟩ := ht
  go_enter Try.func64, Try.ntmps64
  go_wp2_with fail
  refine (toBlockS_any _ bo _ (H1.out.below (B := w.heap.size) (by repeat (first | exact Below.refl _ _ | refine Below.setCell ?_ (by simp) _ | refine Below.alloc ?_ (by first | exact Nat.le_refl _ | simp; try omega) _)) (Nat.le_refl _))).mono ?_
  rintro e w1 ⟨s1, rfl, ho, hb1⟩
  obtain ⟨g, cap, rfl, ho1, hlt1⟩ : ∃ g cap, s1 = .slice (some ⟨g, 0, none⟩) bo.length cap ∧ w.heap.size + 1 + 1 + 1 ≤ g ∧ g < w1.heap.size := by
    obtain ⟨g, cap, e, p1, p2, _⟩ := id ho
    simp only [World.size_alloc] at p1
    exact ⟨g, cap, e, p1, p2⟩
  have HO1 := Lib.hid (ho.mono (lo' := w.heap.size) (by simp; omega))
  have hbw : Below w.heap.size w w1 := Below.trans (by repeat (first | exact Below.refl _ _ | refine Below.setCell ?_ (by simp) _ | refine Below.alloc ?_ (by first | exact Nat.le_refl _ | simp; try omega) _)) (hb1.mono (by simp; omega))
  have x2 : w1.cell? ⟨w.heap.size, 2, none⟩ = some (.slice a' bi.length c') := (hb1.cell (p := ⟨w.heap.size, 2, none⟩) (by simp <;> omega)).trans (by simp [go_sem])
  have c10 : w1.cell? ⟨w.heap.size + 1, 0, none⟩ = some (.int .i64 0) := (hb1.cell (p := ⟨w.heap.size + 1, 0, none⟩) (by simp <;> omega)).trans (by simp [go_sem])
  have c11 : w1.cell? ⟨w.heap.size + 1, 1, none⟩ = some (.slice none 0 0) := (hb1.cell (p := ⟨w.heap.size + 1, 1, none⟩) (by simp <;> omega)).trans (by simp [go_sem])
  have c12 : w1.cell? ⟨w.heap.size + 1, 2, none⟩ = some (.slice none 0 0) := (hb1.cell (p := ⟨w.heap.size + 1, 2, none⟩) (by simp <;> omega)).trans (by simp [go_sem])
  have c20 : w1.cell? ⟨w.heap.size + 1 + 1, 0, none⟩ = some (.int .i64 v) := (hb1.cell (p := ⟨w.heap.size + 1 + 1, 0, none⟩) (by simp)).trans (by simp [go_sem])
  have c21 : w1.cell? ⟨w.heap.size + 1 + 1, 1, none⟩ = some (.slice none 0 0) := (hb1.cell (p := ⟨w.heap.size + 1 + 1, 1, none⟩) (by simp)).trans (by simp [go_sem])
  have c22 : w1.cell? ⟨w.heap.size + 1 + 1, 2, none⟩ = some (.slice none 0 0) := (hb1.cell (p := ⟨w.heap.size + 1 + 1, 2, none⟩) (by simp)).trans (by simp [go_sem])
  have f10 : w1.frozen? ⟨w.heap.size + 1, 0, none⟩ = false := (hb1.frozen (p := ⟨w.heap.size + 1, 0, none⟩) (by simp <;> omega)).trans (by simp [go_sem])
  have f11 : w1.frozen? ⟨w.heap.size + 1, 1, none⟩ = false := (hb1.frozen (p := ⟨w.heap.size + 1, 1, none⟩) (by simp <;> omega)).trans (by simp [go_sem])
  have f12 : w1.frozen? ⟨w.heap.size + 1, 2, none⟩ = false := (hb1.frozen (p := ⟨w.heap.size + 1, 2, none⟩) (by simp <;> omega)).trans (by simp [go_sem])
  have f21 : w1.frozen? ⟨w.heap.size + 1 + 1, 1, none⟩ = false := (hb1.frozen (p := ⟨w.heap.size + 1 + 1, 1, none⟩) (by simp)).trans (by simp [go_sem])
  have f22 : w1.frozen? ⟨w.heap.size + 1 + 1, 2, none⟩ = false := (hb1.frozen (p := ⟨w.heap.size + 1 + 1, 2, none⟩) (by simp)).trans (by simp [go_sem])
  clear hb1 ho
  go_wp2_with fail
  have hgs : w1.grownBy (w1.setCell ⟨w.heap.size + 1 + 1, 1, none⟩ (.slice (some ⟨g, 0, none⟩) bo.length cap)) (some (w.heap.size + 1 + 1)) := only_setCell (only_refl w1 (some (w.heap.size + 1 + 1))) rfl _
  have hbs : Below w.heap.size w (w1.setCell ⟨w.heap.size + 1 + 1, 1, none⟩ (.slice (some ⟨g, 0, none⟩) bo.length cap)) := hbw.setCell (by simp; omega) _
  have HO1' := Lib.hid (HO1.out.grown1 hgs (fun r e => by cases e; omega))
  have oth : ∀ (b o : Nat), (b ≠ w.heap.size + 1 + 1 ∨ o ≠ 1) → (w1.setCell ⟨w.heap.size + 1 + 1, 1, none⟩ (.slice (some ⟨g, 0, none⟩) bo.length cap)).cell? ⟨b, o, none⟩ = w1.cell? ⟨b, o, none⟩ := fun b o hne =>
    World.cell?_setCell_other w1 _ _ _ (by intro e; simp only [Addr.mk.injEq] at e; omega)
  have d10 := (oth (w.heap.size + 1) 0 (by omega)).trans c10
  have d11 := (oth (w.heap.size + 1) 1 (by omega)).trans c11
  have d12 := (oth (w.heap.size + 1) 2 (by omega)).trans c12
  have d20 := (oth (w.heap.size + 1 + 1) 0 (by omega)).trans c20
  have d21 : (w1.setCell ⟨w.heap.size + 1 + 1, 1, none⟩ (.slice (some ⟨g, 0, none⟩) bo.length cap)).cell? ⟨w.heap.size + 1 + 1, 1, none⟩ = some (.slice (some ⟨g, 0, none⟩) bo.length cap) := World.cell?_setCell_same _ _ _ c21
  have d22 := (oth (w.heap.size + 1 + 1) 2 (by omega)).trans c22
  have fz : ∀ (b o : Nat), (w1.setCell ⟨w.heap.size + 1 + 1, 1, none⟩ (.slice (some ⟨g, 0, none⟩) bo.length cap)).frozen? ⟨b, o, none⟩ = w1.frozen? ⟨b, o, none⟩ := fun b o => World.frozen?_setCell _ _ _ _
  have e10 := (fz (w.heap.size + 1) 0).trans f10
  have e11 := (fz (w.heap.size + 1) 1).trans f11
  have e12 := (fz (w.heap.size + 1) 2).trans f12
  have e22 := (fz (w.heap.size + 1 + 1) 2).trans f22
  have hz2 : (w1.setCell ⟨w.heap.size + 1 + 1, 1, none⟩ (.slice (some ⟨g, 0, none⟩) bo.length cap)).heap.size = w1.heap.size := by simp
  obtain ⟨w2, hw2⟩ : ∃ w2, w1.setCell ⟨w.heap.size + 1 + 1, 1, none⟩ (.slice (some ⟨g, 0, none⟩) bo.length cap) = w2 := ⟨_, rfl⟩
  rw [hw2] at hbs HO1' d10 d11 d12 d20 d21 d22 e10 e11 e12 e22 hz2 ⊢
  clear hgs oth fz hw2 c10 c11 c12 c20 c21 c22 f10 f11 f12 f21 f22 x2 hbw HO1
  have hp : w.heap.size + 1 + 1 < w2.heap.size := by omega
  refine (toBlockS_any _ bi _ (H2.out.below hbs (Nat.le_refl _))).mono ?_
  rintro e w3 ⟨s3, rfl, ho3, hb3⟩
  obtain ⟨g', cap', rfl, ho3', hlt3⟩ : ∃ g' cap', s3 = .slice (some ⟨g', 0, none⟩) bi.length cap' ∧ w2.heap.size ≤ g' ∧ g' < w3.heap.size := by
    obtain ⟨g', cap', e, p1, p2, _⟩ := id ho3
    exact ⟨g', cap', e, p1, p2⟩
  have HO3 := Lib.hid (ho3.mono (lo' := w.heap.size) (by omega))
  have HO1 := Lib.hid (HO1'.out.below hb3 (Nat.le_refl _))
  have cel : ∀ (b o : Nat) (u : Value), w2.cell? ⟨b, o, none⟩ = some u → b < w2.heap.size → w3.cell? ⟨b, o, none⟩ = some u := fun b o u hu hb => (hb3.cell (p := ⟨b, o, none⟩) hb).trans hu
  have frz : ∀ (b o : Nat), w2.frozen? ⟨b, o, none⟩ = false → b < w2.heap.size → w3.frozen? ⟨b, o, none⟩ = false := fun b o hu hb => (hb3.frozen (p := ⟨b, o, none⟩) hb).trans hu
  have c10 := cel _ _ _ d10 (by omega)
  have c11 := cel _ _ _ d11 (by omega)
  have c12 := cel _ _ _ d12 (by omega)
  have c20 := cel _ _ _ d20 (by omega)
  have c21 := cel _ _ _ d21 (by omega)
  have c22 := cel _ _ _ d22 (by omega)
  have f10 := frz _ _ e10 (by omega)
  have f11 := frz _ _ e11 (by omega)
  have f12 := frz _ _ e12 (by omega)
  have f22 := frz _ _ e22 (by omega)
  have hbw := hbs.trans (hb3.mono hbs.size)
  have hz3 := hb3.size
  clear cel frz d10 d11 d12 d20 d21 d22 e10 e11 e12 e22 hb3 ho3 hbs HO1' H1 H2
  have HF := Lib.hid (show OwnT ((((w3.setCell ⟨w.heap.size + 1 + 1, 2, none⟩ (.slice (some ⟨g', 0, none⟩) bi.length cap')).setCell ⟨w.heap.size + 1, 0, none⟩ (.int .i64 v)).setCell ⟨w.heap.size + 1, 1, none⟩ (.slice (some ⟨g, 0, none⟩) bo.length cap)).setCell ⟨w.heap.size + 1, 2, none⟩ (.slice (some ⟨g', 0, none⟩) bi.length cap')) w.heap.size (.slice (some ⟨g, 0, none⟩) bo.length cap) bo (.slice (some ⟨g', 0, none⟩) bi.length cap') bi from by
    have G1 := only_setCell (only_refl w3 (some (w.heap.size + 1 + 1))) (p := ⟨w.heap.size + 1 + 1, 2, none⟩) rfl (.slice (some ⟨g', 0, none⟩) bi.length cap')
    have G2 := only_setCell (only_refl (w3.setCell ⟨w.heap.size + 1 + 1, 2, none⟩ (.slice (some ⟨g', 0, none⟩) bi.length cap')) (some (w.heap.size + 1))) (p := ⟨w.heap.size + 1, 0, none⟩) rfl (.int .i64 v)
    have G3 := only_setCell (only_setCell G2 (p := ⟨w.heap.size + 1, 1, none⟩) rfl (.slice (some ⟨g, 0, none⟩) bo.length cap)) (p := ⟨w.heap.size + 1, 2, none⟩) rfl (.slice (some ⟨g', 0, none⟩) bi.length cap')
    exact ⟨g, cap, g', cap', rfl, rfl, by omega, (HO1.out.grown1 G1 (fun r e => by cases e; omega)).grown1 G3 (fun r e => by cases e; omega), (HO3.out.grown1 G1 (fun r e => by cases e; omega)).grown1 G3 (fun r e => by cases e; omega)⟩)
  have HB := Lib.hid ((((hbw.setCell (p := ⟨w.heap.size + 1 + 1, 2, none⟩) (by show w.heap.size ≤ w.heap.size + 1 + 1; omega) (.slice (some ⟨g', 0, none⟩) bi.length cap')).setCell (p := ⟨w.heap.size + 1, 0, none⟩) (by show w.heap.size ≤ w.heap.size + 1; omega) (.int .i64 v)).setCell (p := ⟨w.heap.size + 1, 1, none⟩) (by show w.heap.size ≤ w.heap.size + 1; omega) (.slice (some ⟨g, 0, none⟩) bo.length cap)).setCell (p := ⟨w.heap.size + 1, 2, none⟩) (by show w.heap.size ≤ w.heap.size + 1; omega) (.slice (some ⟨g', 0, none⟩) bi.length cap'))
  clear HO1 HO3 hbw
  go_wp2
  exact bodyPost_ret (v := .agg #[.int .i64 v, .slice (some ⟨g, 0, none⟩) bo.length cap, .slice (some ⟨g', 0, none⟩) bi.length cap']) (by simp [results, Try.results64, go_sem, *]) rfl ⟨_, _, rfl, HF.out, HB.out⟩
set_option maxRecDepth 100000 in
set_option maxHeartbeats 1000000 in
theorem eqTrade_same (v : Int) (so si tq ti : Value) (bo bi : List Blk) (w : World) (h : TB w so bo si bi) (k : TB w tq bo ti bi) : Calls Try.prog 66 #[.agg #[.int .i64 v, so, si], .agg #[.int .i64 v, tq, ti]] w (RV (.bool true) w) := by
  have h1 := h.1.slice
  have h2 := h.2.slice
  have k1 := k.1.slice
  have k2 := k.2.slice
  have HC1 := Lib.hid fun W (hb : Below w.heap.size w W) => eqBlockS_same so tq bo W (h.1.below hb (Nat.le_refl _)) (k.1.below hb (Nat.le_refl _))
  have HC2 := Lib.hid fun W (hb : Below w.heap.size w W) => eqBlockS_same si ti bi W (h.2.below hb (Nat.le_refl _)) (k.2.below hb (Nat.le_refl _))
  clear h k
  obtain ⟨a1, c1, rfl⟩ := h1
  obtain ⟨a2, c2, rfl⟩ := h2
  obtain ⟨a3, c3, rfl⟩ := k1
  obtain ⟨a4, c4, rfl⟩ := k2
  have hnv : (v != v) = false := by simp
  go_enter Try.func66, Try.ntmps66
  go_wp2_with fail
  have hB0 : Below w.heap.size w ((w.alloc (.cells #[.int .i64 v, .slice a1 bo.length c1, .slice a2 bi.length c2] 63)).alloc (.cells #[.int .i64 v, .slice a3 bo.length c3, .slice a4 bi.length c4] 63)) := ((Below.refl _ _).alloc (Nat.le_refl _) _).alloc (by simp) _
  have p2 : ((w.alloc (.cells #[.int .i64 v, .slice a1 bo.length c1, .slice a2 bi.length c2] 63)).alloc (.cells #[.int .i64 v, .slice a3 bo.length c3, .slice a4 bi.length c4] 63)).cell? ⟨w.heap.size, 2, none⟩ = some (.slice a2 bi.length c2) := cell_past (new_at 2 rfl) (by simp)
  have q2 : ((w.alloc (.cells #[.int .i64 v, .slice a1 bo.length c1, .slice a2 bi.length c2] 63)).alloc (.cells #[.int .i64 v, .slice a3 bo.length c3, .slice a4 bi.length c4] 63)).cell? ⟨w.heap.size + 1, 2, none⟩ = some (.slice a4 bi.length c4) := by
    have := new_at (w := w.alloc (.cells #[.int .i64 v, .slice a1 bo.length c1, .slice a2 bi.length c2] 63)) (cs := #[.int .i64 v, .slice a3 bo.length c3, .slice a4 bi.length c4]) (T := 63) 2 rfl
    rw [World.size_alloc] at this
    exact this
  refine (HC1.out _ hB0).mono ?_
  rintro e w1 ⟨rfl, hb1⟩
  have r2 := (hb1.cell (p := ⟨w.heap.size, 2, none⟩) (by simp; omega)).trans p2
  have s2 := (hb1.cell (p := ⟨w.heap.size + 1, 2, none⟩) (by simp)).trans q2
  have hbw := hB0.trans (hb1.mono hB0.size)
  clear hb1 p2 q2 hB0
  go_wp2_with fail
  refine (HC2.out _ hbw).mono ?_
  rintro e w2 ⟨rfl, hb2⟩
  go_wp2
  go_ret
  exact RV_of rfl (hbw.trans (hb2.mono hbw.size))
theorem ResR.narrow {w : World} {lo hi : Nat} {s : Value} {bs : List Blk} (h : ResR w lo hi s bs) : ResR w lo (min hi w.heap.size) s bs := by
  rcases h with h | ⟨g, cap, rfl, h1, h2, ho⟩
  · exact .inl h
  · exact .inr ⟨g, cap, rfl, h1, by have := ho.lt; omega, ho⟩
set_option maxRecDepth 100000 in
set_option maxHeartbeats 1000000 in
theorem markTrade_any (lo hi : Nat) (v : Int) (so : Value) (bo : List Blk) (si : Value) (bi : List Blk) (k : Int) (w : World) (h : ResT w lo hi so bo si bi) (hl : bo.length + bi.length ≤ 1100000) (h0 : 0 ≤ k) (h1 : k ≤ 4000000) :
    Calls Try.prog 69 #[.agg #[.int .i64 v, so, si], .int .i64 k] w (fun e w' => e = .returned (.int .i64 (k + 3 * ((bo.length + bi.length : Nat) : Int))) ∧ OnlyIn lo hi w w' ∧ ResT w' lo hi so (markL k bo.length) si (markL (k + 3 * (bo.length : Int)) bi.length)) := by
  obtain ⟨ls1, ls2⟩ := h.slice
  obtain ⟨a, b, c, d, ha, hb, hc, hd, hx, r1, r2⟩ := h
  have HC1 := Lib.hid (markR a (min b w.heap.size) so bo k (w.alloc (.cells #[.int .i64 v, so, si] 63)) (r1.narrow.below ((Below.refl _ _).alloc (Nat.le_refl _) _) (Nat.le_refl _)) (by omega) h0 (by omega))
  have hr2 := r2.narrow.below ((Below.refl w.heap.size w).alloc (Nat.le_refl _) (.cells #[.int .i64 v, so, si] 63)) (Nat.le_refl _)
  have R2 := Lib.hid hr2
  clear hr2 r2 r1
  obtain ⟨m, hm⟩ : ∃ m, m = k + 3 * (bo.length : Int) := ⟨_, rfl⟩
  have HC2 := Lib.hid fun (W : World) (hW : ResR W c (min d w.heap.size) si bi) => markR c (min d w.heap.size) si bi m W hW (by omega) (by omega) (by omega)
  rw [show k + 3 * ((bo.length + bi.length : Nat) : Int) = m + 3 * (bi.length : Int) by omega]
  rw [← hm] at HC1 ⊢
  have hm0 : 0 ≤ m := by omega
  obtain ⟨n, hn⟩ : ∃ n, n = m + 3 * (bi.length : Int) := ⟨_, rfl⟩
  rw [← hn] at HC2 ⊢
  have hn0 : 0 ≤ n := by omega
  clear hm hn
  obtain ⟨a1, c1, rfl⟩ := ls1
  obtain ⟨a2, c2, rfl⟩ := ls2
  go_enter Try.func69, Try.ntmps69
  go_wp2_with fail
  refine HC1.out.mono ?_
  rintro e w1 ⟨rfl, ⟨row, hg, hrow⟩, hr1⟩
  have x2 : w1.cell? ⟨w.heap.size, 2, none⟩ = some (.slice a2 bi.length c2) := hg.cell (new_at 2 rfl) (fun e => by have := hrow _ e.symm; simp at this; omega)
  have R1 := Lib.hid hr1
  have K2 := Lib.hid (R2.out.kept hg (fun r e => by have := hrow r e; omega))
  have O1 := Lib.hid ((OnlyIn.of_below (lo := w.heap.size) ((Below.refl w.heap.size w).alloc (Nat.le_refl _) (.cells #[.int .i64 v, .slice a1 bo.length c1, .slice a2 bi.length c2] 63))))
  have hg1 := Lib.hid hg
  have hs1 := hg.size
  clear hg hr1 R2
  go_wp2_with fail
  refine (HC2.out _ K2.out).mono ?_
  rintro e w2 ⟨rfl, ⟨row2, hg2, hrow2⟩, hr2⟩
  have R2 := Lib.hid hr2
  have G2 := Lib.hid hg2
  clear hg2 hr2
  go_wp2
  go_ret
  refine ⟨rfl, ?_, ⟨a, min b w.heap.size, c, min d w.heap.size, ha, by omega, hc, by omega, by omega, ?_, R2.out⟩⟩
  · have oA : OnlyIn lo hi w (w.alloc (.cells #[.int .i64 v, .slice a1 bo.length c1, .slice a2 bi.length c2] 63)) := OnlyIn.of_grown (World.grownBy_alloc _ _ none) (by simp)
    exact (oA.trans (OnlyIn.of_grown hg1.out (fun r e => by have := hrow r e; omega))).trans (OnlyIn.of_grown G2.out (fun r e => by have := hrow2 r e; omega))
  · have := R1.out.kept G2.out (fun r e => by have := hrow2 r e; omega)
    exact this
set_option maxRecDepth 100000 in
set_option maxHeartbeats 1000000 in
theorem heldTrade_any (lo hi : Nat) (v : Int) (so : Value) (no : Nat) (si : Value) (ni : Nat) (k : Int) (w : World) (h : ResT w lo hi so (markL k no) si (markL (k + 3 * (no : Int)) ni)) (hl : no + ni ≤ 1100000) (h0 : 0 ≤ k) (h1 : k ≤ 4000000) :
    Calls Try.prog 72 #[.agg #[.int .i64 v, so, si], .int .i64 k] w (RV (.int .i64 (k + 3 * ((no + ni : Nat) : Int))) w) := by
  obtain ⟨ls1, ls2⟩ := h.slice
  obtain ⟨a, b, c, d, ha, hb, hc, hd, hx, r1, r2⟩ := h
  have HC1 := Lib.hid (heldR a b so no k (w.alloc (.cells #[.int .i64 v, so, si] 63)) (r1.below ((Below.refl _ _).alloc (Nat.le_refl _) _) (Nat.le_refl _)) (by omega) h0 (by omega))
  have hr2 := r2.below ((Below.refl w.heap.size w).alloc (Nat.le_refl _) (.cells #[.int .i64 v, so, si] 63)) (Nat.le_refl _)
  obtain ⟨m, hm⟩ : ∃ m, m = k + 3 * (no : Int) := ⟨_, rfl⟩
  rw [← hm] at hr2 HC1
  have HC2 := Lib.hid (heldR c d si ni m _ hr2 (by omega) (by omega) (by omega))
  rw [show k + 3 * ((no + ni : Nat) : Int) = m + 3 * (ni : Int) by omega]
  have hm0 : 0 ≤ m := by omega
  obtain ⟨n, hn⟩ : ∃ n, n = m + 3 * (ni : Int) := ⟨_, rfl⟩
  rw [← hn] at HC2 ⊢
  have hn0 : 0 ≤ n := by omega
  clear hm hn hr2 r1 r2
  rw [markL_length] at ls1 ls2
  obtain ⟨a1, c1, rfl⟩ := ls1
  obtain ⟨a2, c2, rfl⟩ := ls2
  go_enter Try.func72, Try.ntmps72
  go_wp2_with fail
  refine HC1.out.mono ?_
  rintro e w1 ⟨rfl, rfl⟩
  go_wp2_with fail
  refine HC2.out.mono ?_
  rintro e w1 ⟨rfl, rfl⟩
  go_wp2
  go_ret
  exact RV_of rfl ((Below.refl _ _).alloc (Nat.le_refl _) _)
end Go.Proofs.Ytacfelgilphppaa

namespace Go.Proofs.Ytacfelgilphppaa
open Go.RowKit Go.Maps
structure CS (w : World) (v p : Int) (s sW s8 sG : Value) (XW X XG i0 i1 j1 j2 k1 k2 : Nat) (LW L8 LG : List Blk) (W : World) : Prop where
  st : St1 w v s W
  o0 : w.heap.size < i0
  o1 : i0 ≤ i1
  o2 : i1 ≤ XW
  o3 : XW < j1
  o4 : j1 ≤ j2
  o5 : j2 ≤ X
  o6 : X < k1
  o7 : k1 ≤ k2
  o8 : k2 ≤ XG
  rW : ResR W i0 i1 sW LW
  vW : VarB W XW p sW
  r8 : ResR W j1 j2 s8 L8
  vX : VarB W X v s8
  rG : ResR W k1 k2 sG LG
  vG : VarB W XG p sG
section
variable {w : World} {v p : Int} {s sW s8 sG : Value} {XW X XG i0 i1 j1 j2 k1 k2 : Nat} {LW L8 LG : List Blk} {W W' : World}
theorem CS.step (h : CS w v p s sW s8 sG XW X XG i0 i1 j1 j2 k1 k2 LW L8 LG W) (hg : W.grownBy W' none) : CS w v p s sW s8 sG XW X XG i0 i1 j1 j2 k1 k2 LW L8 LG W' :=
  ⟨h.st.step hg (by simp), h.o0, h.o1, h.o2, h.o3, h.o4, h.o5, h.o6, h.o7, h.o8, h.rW.kept hg (by simp), h.vW.step hg (by simp), h.r8.kept hg (by simp), h.vX.step hg (by simp), h.rG.kept hg (by simp), h.vG.step hg (by simp)⟩
theorem CS.mark8 (h : CS w v p s sW s8 sG XW X XG i0 i1 j1 j2 k1 k2 LW L8 LG W) {row : Option Nat} (hg : W.grownBy W' row) (hr : ∀ r, row = some r → j1 ≤ r ∧ r < j2) {L : List Blk} (hn : ResR W' j1 j2 s8 L) :
    CS w v p s sW s8 sG XW X XG i0 i1 j1 j2 k1 k2 LW L LG W' := by
  obtain ⟨st, o0, o1, o2, o3, o4, o5, o6, o7, o8, rW, vW, r8, vX, rG, vG⟩ := h
  exact ⟨st.step hg (fun r e => by have := hr r e; omega), o0, o1, o2, o3, o4, o5, o6, o7, o8, rW.kept hg (fun r e => by have := hr r e; omega), vW.step hg (fun e => by have := hr _ e; omega), hn, vX.step hg (fun e => by have := hr _ e; omega), rG.kept hg (fun r e => by have := hr r e; omega), vG.step hg (fun e => by have := hr _ e; omega)⟩
theorem CS.markG (h : CS w v p s sW s8 sG XW X XG i0 i1 j1 j2 k1 k2 LW L8 LG W) {row : Option Nat} (hg : W.grownBy W' row) (hr : ∀ r, row = some r → k1 ≤ r ∧ r < k2) {L : List Blk} (hn : ResR W' k1 k2 sG L) :
    CS w v p s sW s8 sG XW X XG i0 i1 j1 j2 k1 k2 LW L8 L W' := by
  obtain ⟨st, o0, o1, o2, o3, o4, o5, o6, o7, o8, rW, vW, r8, vX, rG, vG⟩ := h
  exact ⟨st.step hg (fun r e => by have := hr r e; omega), o0, o1, o2, o3, o4, o5, o6, o7, o8, rW.kept hg (fun r e => by have := hr r e; omega), vW.step hg (fun e => by have := hr _ e; omega), r8.kept hg (fun r e => by have := hr r e; omega), vX.step hg (fun e => by have := hr _ e; omega), hn, vG.step hg (fun e => by have := hr _ e; omega)⟩
end
end Go.Proofs.Ytacfelgilphppaa

namespace Go.Proofs.Ytacfelgilphppaa
/-- A system and a code: points, blocks, code. -/
def takeF (v : Int) (bs : List Blk) (i : Int) : Int × List Blk × Int :=
  if isSysImpl v bs then (if decide (0 ≤ i) && decide (i < (bs.length : Int)) then (v, bs.take i.toNat ++ bs.drop (i.toNat + 1), 0) else (0, [], 2)) else (0, [], 1)
theorem filter_all {p : Blk → Bool} : ∀ {l : List Blk}, (∀ x ∈ l, p x = true) → l.filter p = l
  | [], _ => rfl
  | x :: r, h => by rw [List.filter_cons, if_pos (h x (by simp)), filter_all (fun y hy => h y (by simp [hy]))]
/-- The blocks that are not the i-th. -/
theorem filter_other {bs : List Blk} (h : bs.Nodup) {i : Nat} (hi : i < bs.length) : bs.filter (fun x => !decide (x = bs[i])) = bs.take i ++ bs.drop (i + 1) := by
  have e : bs = bs.take i ++ bs[i] :: bs.drop (i + 1) := by rw [← List.drop_eq_getElem_cons hi, List.take_append_drop]
  obtain ⟨y, hy⟩ : ∃ y, y = bs[i] := ⟨_, rfl⟩
  rw [← hy] at e ⊢
  clear hy
  obtain ⟨p, hp⟩ : ∃ p, p = bs.take i := ⟨_, rfl⟩
  obtain ⟨q, hq⟩ : ∃ q, q = bs.drop (i + 1) := ⟨_, rfl⟩
  rw [← hp, ← hq] at e ⊢
  clear hp hq hi
  subst e
  obtain ⟨h1, h2, h3⟩ := List.nodup_append.1 h
  rw [List.nodup_cons] at h2
  rw [List.filter_append, List.filter_cons, if_neg (by simp)]
  rw [filter_all (fun x hx => by have := h3 x hx y (by simp); simpa using this), filter_all (fun x hx => by
    have : x ≠ y := fun e => h2.1 (e ▸ hx)
    simpa using this)]
theorem takeF_sub (v : Int) (bs : List Blk) (i : Int) : ∀ x ∈ (takeF v bs i).2.1, x ∈ bs := by
  unfold takeF
  split
  · split
    · intro x hx
      rcases List.mem_append.1 hx with h | h
      · exact List.mem_of_mem_take h
      · exact List.mem_of_mem_drop h
    · simp
  · simp
theorem takeF_len (v : Int) (bs : List Blk) (i : Int) : (takeF v bs i).2.1.length ≤ bs.length := by
  unfold takeF
  split
  · split
    · simp
      omega
    · simp
  · simp
end Go.Proofs.Ytacfelgilphppaa

namespace Go.Proofs.Ytacfelgilphppaa
open Go.RowKit Go.Maps
/-- Two results: a system in new memory, and a code. -/
def RSys (r : Int × List Blk × Int) (w : World) (e : Ending) (w' : World) : Prop := ∃ s, e = .returned (.tuple #[.agg #[.int .i64 r.1, s], .int .i64 r.2.2]) ∧ ResR w' w.heap.size w'.heap.size s r.2.1 ∧ Below w.heap.size w w'
theorem boxes2 {w w1 : World} {v : Int} {s : Value} {T : TypeId} (hb : Below ((w.alloc (.cells #[.int .i64 v, s] T)).alloc (.cells #[.int .i64 0, .slice none 0 0] T)).heap.size ((w.alloc (.cells #[.int .i64 v, s] T)).alloc (.cells #[.int .i64 0, .slice none 0 0] T)) w1) :
    w1.cell? ⟨w.heap.size, 0, none⟩ = some (.int .i64 v) ∧ w1.cell? ⟨w.heap.size, 1, none⟩ = some s ∧ w1.cell? ⟨w.heap.size + 1, 0, none⟩ = some (.int .i64 0) ∧ w1.cell? ⟨w.heap.size + 1, 1, none⟩ = some (.slice none 0 0) ∧
    w1.frozen? ⟨w.heap.size + 1, 0, none⟩ = false ∧ w1.frozen? ⟨w.heap.size + 1, 1, none⟩ = false ∧ Below w.heap.size w w1 ∧ w.heap.size + 1 < w1.heap.size := by
  have hz := hb.size
  simp at hz
  refine ⟨?_, ?_, ?_, ?_, ?_, ?_, (((Below.refl _ _).alloc (Nat.le_refl _) _).alloc (by simp) _).trans (hb.mono (by simp; omega)), by omega⟩
  · exact (hb.cell (p := ⟨w.heap.size, 0, none⟩) (by simp; omega)).trans (by simp [go_sem])
  · exact (hb.cell (p := ⟨w.heap.size, 1, none⟩) (by simp; omega)).trans (by simp [go_sem])
  · exact (hb.cell (p := ⟨w.heap.size + 1, 0, none⟩) (by simp)).trans (by simp [go_sem])
  · exact (hb.cell (p := ⟨w.heap.size + 1, 1, none⟩) (by simp)).trans (by simp [go_sem])
  · exact (hb.frozen (p := ⟨w.heap.size + 1, 0, none⟩) (by simp)).trans (by simp [go_sem])
  · exact (hb.frozen (p := ⟨w.heap.size + 1, 1, none⟩) (by simp)).trans (by simp [go_sem])
theorem below2 (w : World) (v : Int) (s : Value) (T : TypeId) : Below w.heap.size w ((w.alloc (.cells #[.int .i64 v, s] T)).alloc (.cells #[.int .i64 0, .slice none 0 0] T)) := ((Below.refl _ _).alloc (Nat.le_refl _) _).alloc (by simp) _
theorem below_set2 {B : Nat} {a w : World} (h : Below B a w) {b : Nat} (hb : B ≤ b) (u v : Value) : Below B a ((w.setCell ⟨b, 0, none⟩ u).setCell ⟨b, 1, none⟩ v) := (h.setCell (p := ⟨b, 0, none⟩) hb u).setCell (p := ⟨b, 1, none⟩) hb v
theorem gb_set2 (w : World) (b : Nat) (u v : Value) : w.grownBy ((w.setCell ⟨b, 0, none⟩ u).setCell ⟨b, 1, none⟩ v) (some b) := only_setCell (only_setCell (only_refl w (some b)) rfl u) rfl v
end Go.Proofs.Ytacfelgilphppaa

namespace Go.Proofs.Ytacfelgilphppaa
open Go.RowKit Go.Maps
/-- The value is a slice of just these blocks; of the numbers nothing is said. -/
def SX (w : World) (s : Value) (bs : List Blk) : Prop := (∃ a c, s = .slice a 0 c ∧ bs = []) ∨ ∃ b off cap, s = .slice (some ⟨b, off, none⟩) bs.length cap ∧ b < w.heap.size ∧ Blks w b off bs
theorem SB.sx {w : World} {s : Value} {bs : List Blk} (h : SB w s bs) : SX w s bs := h.2.2
theorem SX.below {w w' : World} {s : Value} {bs : List Blk} (h : SX w s bs) {B : Nat} (hb : Below B w w') (hB : w.heap.size ≤ B) : SX w' s bs := by
  rcases h with h3 | ⟨b, off, cap, rfl, hl, hr⟩
  · exact .inl h3
  · exact .inr ⟨b, off, cap, rfl, by have := hb.size; omega, hr.below hb (by omega)⟩
theorem OwnR.sx {w : World} {base : Nat} {s : Value} {bs : List Blk} (h : OwnR w base s bs) : SX w s bs := by
  rcases h.res with ⟨rfl, a, c, rfl⟩ | ⟨g, cap, rfl, _, _, ho⟩
  · exact .inl ⟨a, c, rfl, rfl⟩
  · exact .inr ⟨g, 0, cap, rfl, ho.lt, ho.at_⟩
theorem OwnR.form {w : World} {base : Nat} {s : Value} {bs : List Blk} (h : OwnR w base s bs) : ∃ a c, s = .slice a bs.length c := by
  rcases h.res with ⟨rfl, a, c, rfl⟩ | ⟨g, cap, rfl, _⟩ <;> exact ⟨_, _, rfl⟩
theorem blks_flat {w : World} {b off : Nat} {bs : List Blk} (h : Blks w b off bs) (j : Nat) (u : Value) (hu : (bs.flatMap cells3)[j]? = some u) : w.cell? ⟨b, off + j, none⟩ = some u := by
  have hj : j < bs.length * 3 := by
    rw [← flat_length]
    exact (List.getElem?_eq_some_iff.1 hu).1
  obtain ⟨h0, h1, h2⟩ := h (j / 3) (by omega)
  obtain ⟨f0, f1, f2⟩ := flat_at bs (j / 3) (by omega)
  have hm : j % 3 = 0 ∨ j % 3 = 1 ∨ j % 3 = 2 := by omega
  rcases hm with hm | hm | hm
  · rw [show j / 3 * 3 = j by omega] at f0
    rw [show off + j / 3 * 3 = off + j by omega] at h0
    rw [h0, ← hu, f0]
  · rw [show j / 3 * 3 + 1 = j by omega] at f1
    rw [show off + j / 3 * 3 + 1 = off + j by omega] at h1
    rw [h1, ← hu, f1]
  · rw [show j / 3 * 3 + 2 = j by omega] at f2
    rw [show off + j / 3 * 3 + 2 = off + j by omega] at h2
    rw [h2, ← hu, f2]
theorem flat_one (bs : List Blk) : ∀ u ∈ bs.flatMap cells3, u.oneCell' = true := by
  intro u hu
  obtain ⟨x, _, hx⟩ := List.mem_flatMap.1 hu
  simp [cells3] at hx
  rcases hx with rfl | rfl | rfl <;> rfl
theorem run_append_many (w : World) (ty : TypeId) (base : Nat) (v : Value) (bs : List Blk) (hown : OwnR w base v bs) (x : Value) (cs : List Blk) (hx : SX w x cs) (hl : bs.length + cs.length ≤ 2200000) (hb : base ≤ w.heap.size) :
    ∃ v' w', (Builtin.append_ #[29, 29] ty #[v, x]).run Try.prog w = .ok v' w' ∧ OwnR w' base v' (bs ++ cs) ∧ w.grownBy w' v.ownBlock := by
  obtain ⟨i0, hi, hz0, hz1, hz2⟩ := info_parts infoBlock
  have key : ∀ (a : Addr) (m c : Nat) (news : List Value), x = .slice (some a) m c → m = cs.length → news = cs.flatMap cells3 → (∀ j u, news[j]? = some u → w.cell? (a.add j) = some u) →
      ∃ v' w', (Builtin.append_ #[29, 29] ty #[v, x]).run Try.prog w = .ok v' w' ∧ OwnR w' base v' (bs ++ cs) ∧ w.grownBy w' v.ownBlock := by
    intro a m c news ex em en hn
    subst ex
    subst en
    subst em
    obtain ⟨v', w', h1, h2, h3, _⟩ := run_append_own_at (P := Try.prog) w base 29 ty 93 i0 _ 3 24 Try.underlying29 hi hz0 hz1 hz2 rfl (by decide) v bs.length (bs.flatMap cells3) hown a cs.length c (cs.flatMap cells3) (flat_length cs) hn (flat_one cs) (by unfold maxLen; omega) (by omega) hb
    exact ⟨v', w', h1, by unfold OwnR; rw [List.length_append, List.flatMap_append]; exact h2, h3⟩
  rcases hx with ⟨a, c, rfl, rfl⟩ | ⟨b, off, cap, rfl, _, hbl⟩
  · cases a with
    | some a => exact key a 0 c [] rfl rfl rfl (by simp)
    | none =>
      refine ⟨v, w, ?_, by rw [List.append_nil]; exact hown, only_refl _ _⟩
      obtain ⟨a, c', rfl⟩ := hown.form
      have hroom : bs.length ≤ c' := by
        rcases hown.2 with ⟨h, h0⟩ | ⟨g, cap, cur, h, _, _, hn, _⟩
        · rw [h0]; exact Nat.zero_le _
        · simp at h; omega
      have hc : ∀ W : World, (Builtin.lenOf (.slice none 0 c)).run Try.prog W = .ok 0 W := fun _ => rfl
      have hc2 : ∀ W : World, (Builtin.firstCells 3 0 (.slice none 0 c)).run Try.prog W = .ok #[] W := fun _ => rfl
      simp [Builtin.append_, run_underlying Try.underlying29, sizeOf, typeInfo, hi, hz1, hc, hc2, hroom]
      cases a <;> rfl
  · refine key ⟨b, off, none⟩ cs.length cap (cs.flatMap cells3) rfl rfl rfl fun j u hu => ?_
    rw [addr_at]
    exact blks_flat hbl j u hu
theorem wp_append_many {w : World} {o : Oper} {a : Act} {K : Act → World → Prop} {Q : Exit → Act → World → Prop} (s x : Operand)
    (ho : o.op = .call { callee := .builtin .append, args := #[s, x], argTypes := #[29, 29] })
    (base : Nat) (v : Value) (bs : List Blk) (hs : a.eval s = v) (hown : OwnR w base v bs) (xv : Value) (cs : List Blk) (hxv : a.eval x = xv) (hx : SX w xv cs) (hl : bs.length + cs.length ≤ 2200000) (hb : base ≤ w.heap.size)
    (h : ∀ (a' : Option Addr) (c' : Nat) (w' : World), OwnR w' base (.slice a' (bs.length + cs.length) c') (bs ++ cs) → w.grownBy w' v.ownBlock → K (a.put o.dst (.slice a' (bs.length + cs.length) c')) w') : o.wp Try.prog a w K Q := by
  obtain ⟨v', w', hr, h2, h3⟩ := run_append_many w o.type base v bs hown xv cs hx hl hb
  obtain ⟨a', c', hv⟩ := h2.form
  rw [List.length_append] at hv
  subst hv
  unfold Oper.wp execOp
  simp only [ho, resolve, invoke, builtin, Sem.run_bind, Sem.run_pure, Result.andThen_ok, List.map_toArray, List.map_cons, List.map_nil, hs, hxv, hr]
  exact h a' c' w' h2 h3
theorem wpList_append_many {w : World} {ops : Array Oper} {rest : List Oper} {o : Oper} {a : Act} {Q : Exit → Act → World → Prop} (hgd : o.guard = none) (s x : Operand)
    (ho : o.op = .call { callee := .builtin .append, args := #[s, x], argTypes := #[29, 29] })
    (base : Nat) (v : Value) (bs : List Blk) (hs : a.eval s = v) (hown : OwnR w base v bs) (xv : Value) (cs : List Blk) (hxv : a.eval x = xv) (hx : SX w xv cs) (hl : bs.length + cs.length ≤ 2200000) (hb : base ≤ w.heap.size)
    (h : ∀ (a' : Option Addr) (c' : Nat) (w' : World), OwnR w' base (.slice a' (bs.length + cs.length) c') (bs ++ cs) → w.grownBy w' v.ownBlock → wpList Try.prog ops Q rest (a.put o.dst (.slice a' (bs.length + cs.length) c')) w') : wpList Try.prog ops Q (o :: rest) a w :=
  wpList_plain hgd fun _ hK => wp_append_many s x ho base v bs hs hown xv cs hxv hx hl hb fun a' c' w' h1 h2 => hK _ _ (h a' c' w' h1 h2)
theorem step_append_many {w : World} {ops : Array Oper} {o : Oper} {a : Act} {K : Act → World → Prop} {Q : Exit → Act → World → Prop} {E : Prop} (hgd : o.guard = none) (s x : Operand)
    (ho : o.op = .call { callee := .builtin .append, args := #[s, x], argTypes := #[29, 29] })
    (base : Nat) (v : Value) (bs : List Blk) (hs : a.eval s = v) (hown : OwnR w base v bs) (xv : Value) (cs : List Blk) (hxv : a.eval x = xv) (hx : SX w xv cs) (hl : bs.length + cs.length ≤ 2200000) (hb : base ≤ w.heap.size)
    (h : ∀ (a' : Option Addr) (c' : Nat) (w' : World), OwnR w' base (.slice a' (bs.length + cs.length) c') (bs ++ cs) → w.grownBy w' v.ownBlock → K (a.put o.dst (.slice a' (bs.length + cs.length) c')) w') :
    if Region.wanted o (yielded ops a.tmps) = true then Oper.wp Try.prog o a w K Q else E := by
  have hw : Region.wanted o (yielded ops a.tmps) = true := by simp [Region.wanted, hgd]
  rw [if_pos hw]
  exact wp_append_many s x ho base v bs hs hown xv cs hxv hx hl hb h
end Go.Proofs.Ytacfelgilphppaa

namespace Go.Proofs.Ytacfelgilphppaa
open Go.RowKit Go.Maps
theorem Blks.take {w : World} {b off : Nat} {bs : List Blk} (h : Blks w b off bs) (j : Nat) : Blks w b off (bs.take j) := fun k hk => by
  rw [List.length_take] at hk
  have := h k (by omega)
  rwa [List.getElem?_take_of_lt (by omega)]
theorem Blks.drop {w : World} {b off : Nat} {bs : List Blk} (h : Blks w b off bs) (j : Nat) : Blks w b (off + j * 3) (bs.drop j) := fun k hk => by
  rw [List.length_drop] at hk
  have := h (j + k) (by omega)
  rw [List.getElem?_drop, show off + j * 3 + k * 3 = off + (j + k) * 3 by omega]
  exact this
theorem lit_own (W : World) : OwnR (W.alloc (.cells #[] 93)) W.heap.size (.slice (some ⟨W.heap.size, 0, none⟩) 0 0) [] :=
  ⟨rfl, .inr ⟨W.heap.size, 0, #[], rfl, Nat.le_refl _, (MapKept.heap_alloc W (.cells #[] 93)).1, Nat.le_refl _, by unfold maxLen; omega, rfl, rfl⟩⟩
theorem OwnR.drew {w : World} {base : Nat} {v : Value} {bs : List Blk} (h : OwnR w base v bs) : OwnR w.drew base v bs := h
theorem SX.drew {w : World} {v : Value} {bs : List Blk} (h : SX w v bs) : SX w.drew v bs := h
theorem Blks.drew {w : World} {b off : Nat} {bs : List Blk} (h : Blks w b off bs) : Blks w.drew b off bs := h
theorem Blks.kept {w w' : World} {b off : Nat} {bs : List Blk} {row : Option Nat} (h : Blks w b off bs) (hg : w.grownBy w' row) (hne : some b ≠ row) : Blks w' b off bs := fun k hk => by
  obtain ⟨h1, h2, h3⟩ := h k hk
  exact ⟨hg.cell h1 hne, hg.cell h2 hne, hg.cell h3 hne⟩
theorem keep_cell {w w' : World} {row : Option Nat} {b o : Nat} {u : Value} (h : w.cell? ⟨b, o, none⟩ = some u) (hg : w.grownBy w' row) (hne : ∀ r, row = some r → b < r) : w'.cell? ⟨b, o, none⟩ = some u :=
  hg.cell h (fun e => by have := hne _ e.symm; simp at this)
theorem keep_frozen {w w' : World} {row : Option Nat} {b o : Nat} {u : Value} (hc : w.cell? ⟨b, o, none⟩ = some u) (h : w.frozen? ⟨b, o, none⟩ = false) (hg : w.grownBy w' row) (hne : ∀ r, row = some r → b < r) : w'.frozen? ⟨b, o, none⟩ = false :=
  (World.frozen?_of_block (w := w) (a := ⟨b, o, none⟩) (hg.block b (block_lt_of_cell hc) (fun e => by have := hne _ e.symm; omega))).trans h
theorem keep_some {w w' : World} {row : Option Nat} {b o : Nat} (h : (w.cell? ⟨b, o, none⟩).isSome = true) (hg : w.grownBy w' row) (hne : ∀ r, row = some r → b < r) : (w'.cell? ⟨b, o, none⟩).isSome = true := by
  obtain ⟨u, hu⟩ := Option.isSome_iff_exists.1 h
  rw [keep_cell hu hg hne]
  rfl
theorem keep_free {w w' : World} {row : Option Nat} {b o : Nat} (h : (w.cell? ⟨b, o, none⟩).isSome = true) (hf : w.frozen? ⟨b, o, none⟩ = false) (hg : w.grownBy w' row) (hne : ∀ r, row = some r → b < r) : w'.frozen? ⟨b, o, none⟩ = false := by
  obtain ⟨u, hu⟩ := Option.isSome_iff_exists.1 h
  exact keep_frozen hu hf hg hne
def Six (w' : World) (b : Nat) (v : Int) (s : Value) : Prop := w'.cell? ⟨b, 0, none⟩ = some (.int .i64 v) ∧ w'.cell? ⟨b, 1, none⟩ = some s ∧ w'.cell? ⟨b + 1, 0, none⟩ = some (.int .i64 0) ∧ w'.cell? ⟨b + 1, 1, none⟩ = some (.slice none 0 0) ∧ w'.frozen? ⟨b + 1, 0, none⟩ = false ∧ w'.frozen? ⟨b + 1, 1, none⟩ = false
theorem keep6 {w w' : World} {b : Nat} {v : Int} {s : Value} {row : Option Nat} (h : Six w b v s) (hg : w.grownBy w' row) (hr : ∀ r, row = some r → b + 1 < r) : Six w' b v s := by
  obtain ⟨h0, h1, h2, h3, h4, h5⟩ := h
  exact ⟨keep_cell h0 hg (fun r e => by have := hr r e; omega), keep_cell h1 hg (fun r e => by have := hr r e; omega), keep_cell h2 hg hr, keep_cell h3 hg hr, keep_frozen h2 h4 hg hr, keep_frozen h3 h5 hg hr⟩
theorem gb_drewL {w w' : World} {row : Option Nat} (h : w.drew.grownBy w' row) : w.grownBy w' row := ⟨h.os, h.tape, h.output, h.size, h.block⟩
theorem run_slice_drop (b off n cap j : Nat) (h1 : j ≤ n) (h2 : n ≤ cap) : ∃ x, (∀ W : World, (Instr.slice 29 (.slice (some ⟨b, off, none⟩) n cap) (some (.int .i64 (j : Int))) none none).run Try.prog W = .ok x W) ∧ ∀ (W : World) (bs : List Blk), bs.length = n → b < W.heap.size → Blks W b off bs → SX W x (bs.drop j) := by
  have hj0 : (0 : Int) ≤ (j : Int) := by omega
  have hj1 : (j : Int) ≤ (n : Int) := by omega
  by_cases hc : j = cap
  · refine ⟨.slice (some ⟨b, off, none⟩) 0 0, fun W => ?_, fun W bs e _ _ => .inl ⟨_, _, rfl, List.drop_eq_nil_of_le (by omega)⟩⟩
    have e1 : n = j := by omega
    subst e1
    subst hc
    simp [Instr.slice, Instr.sliceBounds, Instr.sliceBound, run_underlying Try.underlying29, go_sem, hj0]
  · refine ⟨.slice (some ⟨b, off + j * 3, none⟩) (n - j) (cap - j), fun W => ?_, fun W bs e h1 h2 => .inr ⟨b, off + j * 3, cap - j, by rw [List.length_drop, e], h1, h2.drop j⟩⟩
    have hc' : ¬ cap = j := fun e => hc e.symm
    simp [Instr.slice, Instr.sliceBounds, Instr.sliceBound, run_underlying Try.underlying29, go_sem, hj0, h1, hc', addr_at]
/-- .. and the slice is no longer than its capacity. -/
def SC (w : World) (s : Value) (bs : List Blk) : Prop := SB w s bs ∧ ∀ a n c, s = .slice a n c → n ≤ c
theorem SC.below {w w' : World} {s : Value} {bs : List Blk} (h : SC w s bs) {B : Nat} (hb : Below B w w') (hB : w.heap.size ≤ B) : SC w' s bs := ⟨h.1.below hb hB, h.2⟩
theorem OwnB.sc {w : World} {lo : Nat} {s : Value} {bs : List Blk} (h : OwnB w lo s bs) (hwf : ∀ x ∈ bs, WFB x) (hl : bs.length ≤ 1100000) : SC w s bs := by
  refine ⟨h.sb hwf hl, fun a n c e => ?_⟩
  obtain ⟨g, cap, rfl, _, _, _, _, hc⟩ := h
  cases e
  exact hc
theorem l01In_out (n lo hi : Int) (W : World) (β : Bool) (hβ : (decide (lo ≤ n) && decide (n ≤ hi)) = β) : Calls Try.prog 155 #[.int .i64 n, .int .i64 lo, .int .i64 hi] W (RS (.bool β) W) := by
  rw [← hβ]
  exact l01In_any n lo hi W
end Go.Proofs.Ytacfelgilphppaa

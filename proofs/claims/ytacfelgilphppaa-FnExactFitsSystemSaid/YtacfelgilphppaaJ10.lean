
/- The laws' own helpers for trades: sizes, copies, equality, marks. The law FnExactFitsSystem returns true. The dump's head word by word, cheaply: what every row asks of it. -/
import Derived.Test.YtacfelgilphppaaJ9
import Derived.Deep.RegionHeld3
import Derived.Deep.RegionWith
import Derived.Deep.DeepCutAuto
namespace Go.Proofs.Ytacfelgilphppaa
open Go.RowKit Go.Maps
set_option maxRecDepth 100000 in
theorem szTrade_any (v : Int) (so si : Value) (no ni : Nat) (hso : ∃ a c, so = .slice a no c) (hsi : ∃ a c, si = .slice a ni c) (hno : (no : Int) ≤ 9223372036854775807) (hni : (ni : Int) ≤ 9223372036854775807) (left : Int) (h0 : 0 ≤ left) (h1 : left ≤ 1048576) (w : World) :
    Calls Try.prog 62 #[.agg #[.int .i64 v, so, si], .int .i64 left] w (RV (.int .i64 (if left - ((no + ni : Nat) : Int) < 0 then -1 else left - ((no + ni : Nat) : Int))) w) := by
  obtain ⟨a, c, rfl⟩ := hso
  obtain ⟨a', c', rfl⟩ := hsi
  have hc := szBlockS_any (.slice a no c) no ⟨a, c, rfl⟩ hno left h0 h1
  by_cases h : left - no < 0
  · rw [if_pos h] at hc
    rw [if_pos (by omega)]
    have HC := Lib.hid hc
    clear hc h
    go_enter Try.func62, Try.ntmps62
    go_wp2_with (go_at_call 90; refine (HC.out _).mono ?_; rintro e w1 ⟨rfl, rfl⟩)
    go_ret
    exact RV_of rfl ((Below.refl _ _).alloc (Nat.le_refl _) _)
  · rw [if_neg h] at hc
    have hd := szBlockS_any (.slice a' ni c') ni ⟨a', c', rfl⟩ hni (left - no) (by omega) (by omega)
    by_cases k : left - no - ni < 0
    · rw [if_pos k] at hd
      rw [if_pos (by omega)]
      obtain ⟨m, hm⟩ : ∃ m, m = left - (no : Int) := ⟨_, rfl⟩
      rw [← hm] at hc hd
      have hm0 : 0 ≤ m := by omega
      have HC := Lib.hid hc
      have HD := Lib.hid hd
      clear hc hd h k hm
      go_enter Try.func62, Try.ntmps62
      go_wp2_with fail
      refine (HC.out _).mono ?_
      rintro e w1 ⟨rfl, rfl⟩
      go_wp2_with fail
      refine (HD.out _).mono ?_
      rintro e w1 ⟨rfl, rfl⟩
      go_wp2
      go_ret
      exact RV_of rfl ((Below.refl _ _).alloc (Nat.le_refl _) _)
    · rw [if_neg k] at hd
      rw [if_neg (by omega)]
      obtain ⟨n, hn⟩ : ∃ n, n = left - (no : Int) - (ni : Int) := ⟨_, rfl⟩
      rw [← hn] at hd
      rw [show left - ((no + ni : Nat) : Int) = n by omega]
      obtain ⟨m, hm⟩ : ∃ m, m = left - (no : Int) := ⟨_, rfl⟩
      rw [← hm] at hc hd
      have hm0 : 0 ≤ m := by omega
      have hn0 : 0 ≤ n := by omega
      have HC := Lib.hid hc
      have HD := Lib.hid hd
      clear hc hd h k hm hn
      go_enter Try.func62, Try.ntmps62
      go_wp2_with fail
      refine (HC.out _).mono ?_
      rintro e w1 ⟨rfl, rfl⟩
      go_wp2_with fail
      refine (HD.out _).mono ?_
      rintro e w1 ⟨rfl, rfl⟩
      go_wp2
      go_ret
      exact RV_of rfl ((Below.refl _ _).alloc (Nat.le_refl _) _)
theorem OwnB.grown1 {w w' : World} {lo g cap : Nat} {bs : List Blk} (h : OwnB w lo (.slice (some ⟨g, 0, none⟩) bs.length cap) bs) {row : Option Nat} (hg : w.grownBy w' row) (hr : ∀ r, row = some r → r < g) : OwnB w' lo (.slice (some ⟨g, 0, none⟩) bs.length cap) bs := by
  obtain ⟨g', cap', e, h1, h2, h3, h4, h5⟩ := h
  simp at e
  obtain ⟨rfl, rfl⟩ := e
  have hb := hg.block g h2 (fun e => by have := hr g e.symm; omega)
  refine ⟨g, cap, rfl, h1, Nat.lt_of_lt_of_le h2 hg.size, fun k hk => ?_, fun o => ?_, h5⟩
  · obtain ⟨p1, p2, p3⟩ := h3 k hk
    exact ⟨(World.cell?_of_block (w := w) (a := ⟨g, _, none⟩) hb).trans p1, (World.cell?_of_block (w := w) (a := ⟨g, _, none⟩) hb).trans p2, (World.cell?_of_block (w := w) (a := ⟨g, _, none⟩) hb).trans p3⟩
  · exact (World.frozen?_of_block (w := w) (a := ⟨g, o, none⟩) hb).trans (h4 o)
set_option maxRecDepth 100000 in
set_option maxHeartbeats 1000000 in
theorem toTrade_any (v : Int) (so : Value) (bo : List Blk) (si : Value) (bi : List Blk) (w : World) (h : TB w so bo si bi) : Calls Try.prog 64 #[.agg #[.int .i64 v, so, si]] w
    (fun e w' => ∃ tq ti, e = .returned (.agg #[.int .i64 v, tq, ti]) ∧ OwnT w' w.heap.size tq bo ti bi ∧ Below w.heap.size w w') := by
  have hs := h.1.slice
  have ht := h.2.slice
  have H1 := Lib.hid h.1
  have H2 := Lib.hid h.2
  clear h
  obtain ⟨a, c, rfl⟩ := hs
  obtain ⟨a', c', rfl⟩ := ht
  go_enter Try.func64, Try.ntmps64
  go_wp2_with fail
  refine (toBlockS_any _ bo _ (H1.out.below (B := w.heap.size) (by repeat (first | exact Below.refl _ _ | refine Below.setCell ?_ (by simp) _ | refine Below.alloc ?_ (by first | exact Nat.le_refl _ | simp; try omega) _)) (Nat.le_refl _))).mono ?_
  rintro e w1 ⟨s1, rfl, ho, hb1⟩
  obtain ⟨g, cap, rfl, ho1, hlt1⟩ : ∃ g cap, s1 = .slice (some ⟨g, 0, none⟩) bo.length cap ∧ w.heap.size + 1 + 1 + 1 ≤ g ∧ g < w1.heap.size := by
    obtain ⟨g, cap, e, p1, p2, _⟩ := id ho
    simp only [World.size_alloc] at p1
    exact ⟨g, cap, e, p1, p2⟩
  have HO1 := Lib.hid (ho.mono (lo' := w.heap.size) (by simp; omega))
  have hbw : Below w.heap.size w w1 := Below.trans (by repeat (first | exact Below.refl _ _ | refine Below.setCell ?_ (by simp) _ | refine Below.alloc ?_ (by first | exact Nat.le_refl _ | simp; try omega) _)) (hb1.mono (by simp; omega))
  have x2 : w1.cell? ⟨w.heap.size, 2, none⟩ = some (.slice a' bi.length c') := (hb1.cell (p := ⟨w.heap.size, 2, none⟩) (by simp <;> omega)).trans (by simp [go_sem])
  have c10 : w1.cell? ⟨w.heap.size + 1, 0, none⟩ = some (.int .i64 0) := (hb1.cell (p := ⟨w.heap.size + 1, 0, none⟩) (by simp <;> omega)).trans (by simp [go_sem])
  have c11 : w1.cell? ⟨w.heap.size + 1, 1, none⟩ = some (.slice none 0 0) := (hb1.cell (p := ⟨w.heap.size + 1, 1, none⟩) (by simp <;> omega)).trans (by simp [go_sem])
  have c12 : w1.cell? ⟨w.heap.size + 1, 2, none⟩ = some (.slice none 0 0) := (hb1.cell (p := ⟨w.heap.size + 1, 2, none⟩) (by simp <;> omega)).trans (by simp [go_sem])
  have c20 : w1.cell? ⟨w.heap.size + 1 + 1, 0, none⟩ = some (.int .i64 v) := (hb1.cell (p := ⟨w.heap.size + 1 + 1, 0, none⟩) (by simp)).trans (by simp [go_sem])
  have c21 : w1.cell? ⟨w.heap.size + 1 + 1, 1, none⟩ = some (.slice none 0 0) := (hb1.cell (p := ⟨w.heap.size + 1 + 1, 1, none⟩) (by simp)).trans (by simp [go_sem])
  have c22 : w1.cell? ⟨w.heap.size + 1 + 1, 2, none⟩ = some (.slice none 0 0) := (hb1.cell (p := ⟨w.heap.size + 1 + 1, 2, none⟩) (by simp)).trans (by simp [go_sem])
  have f10 : w1.frozen? ⟨w.heap.size + 1, 0, none⟩ = false := (hb1.frozen (p := ⟨w.heap.size + 1, 0, none⟩) (by simp <;> omega)).trans (by simp [go_sem])
  have f11 : w1.frozen? ⟨w.heap.size + 1, 1, none⟩ = false := (hb1.frozen (p := ⟨w.heap.size + 1, 1, none⟩) (by simp <;> omega)).trans (by simp [go_sem])
  have f12 : w1.frozen? ⟨w.heap.size + 1, 2, none⟩ = false := (hb1.frozen (p := ⟨w.heap.size + 1, 2, none⟩) (by simp <;> omega)).trans (by simp [go_sem])
  have f21 : w1.frozen? ⟨w.heap.size + 1 + 1, 1, none⟩ = false := (hb1.frozen (p := ⟨w.heap.size + 1 + 1, 1, none⟩) (by simp)).trans (by simp [go_sem])
  have f22 : w1.frozen? ⟨w.heap.size + 1 + 1, 2, none⟩ = false := (hb1.frozen (p := ⟨w.heap.size + 1 + 1, 2, none⟩) (by simp)).trans (by simp [go_sem])
  clear hb1 ho
  go_wp2_with fail
  have hgs : w1.grownBy (w1.setCell ⟨w.heap.size + 1 + 1, 1, none⟩ (.slice (some ⟨g, 0, none⟩) bo.length cap)) (some (w.heap.size + 1 + 1)) := only_setCell (only_refl w1 (some (w.heap.size + 1 + 1))) rfl _
  have hbs : Below w.heap.size w (w1.setCell ⟨w.heap.size + 1 + 1, 1, none⟩ (.slice (some ⟨g, 0, none⟩) bo.length cap)) := hbw.setCell (by simp; omega) _
  have HO1' := Lib.hid (HO1.out.grown1 hgs (fun r e => by cases e; omega))
  have oth : ∀ (b o : Nat), (b ≠ w.heap.size + 1 + 1 ∨ o ≠ 1) → (w1.setCell ⟨w.heap.size + 1 + 1, 1, none⟩ (.slice (some ⟨g, 0, none⟩) bo.length cap)).cell? ⟨b, o, none⟩ = w1.cell? ⟨b, o, none⟩ := fun b o hne =>
    World.cell?_setCell_other w1 _ _ _ (by intro e; simp only [Addr.mk.injEq] at e; omega)
  have d10 := (oth (w.heap.size + 1) 0 (by omega)).trans c10
  have d11 := (oth (w.heap.size + 1) 1 (by omega)).trans c11
  have d12 := (oth (w.heap.size + 1) 2 (by omega)).trans c12
  have d20 := (oth (w.heap.size + 1 + 1) 0 (by omega)).trans c20
  have d21 : (w1.setCell ⟨w.heap.size + 1 + 1, 1, none⟩ (.slice (some ⟨g, 0, none⟩) bo.length cap)).cell? ⟨w.heap.size + 1 + 1, 1, none⟩ = some (.slice (some ⟨g, 0, none⟩) bo.length cap) := World.cell?_setCell_same _ _ _ c21
  have d22 := (oth (w.heap.size + 1 + 1) 2 (by omega)).trans c22
  have fz : ∀ (b o : Nat), (w1.setCell ⟨w.heap.size + 1 + 1, 1, none⟩ (.slice (some ⟨g, 0, none⟩) bo.length cap)).frozen? ⟨b, o, none⟩ = w1.frozen? ⟨b, o, none⟩ := fun b o => World.frozen?_setCell _ _ _ _
  have e10 := (fz (w.heap.size + 1) 0).trans f10
  have e11 := (fz (w.heap.size + 1) 1).trans f11
  have e12 := (fz (w.heap.size + 1) 2).trans f12
  have e22 := (fz (w.heap.size + 1 + 1) 2).trans f22
  have hz2 : (w1.setCell ⟨w.heap.size + 1 + 1, 1, none⟩ (.slice (some ⟨g, 0, none⟩) bo.length cap)).heap.size = w1.heap.size := by simp
  obtain ⟨w2, hw2⟩ : ∃ w2, w1.setCell ⟨w.heap.size + 1 + 1, 1, none⟩ (.slice (some ⟨g, 0, none⟩) bo.length cap) = w2 := ⟨_, rfl⟩
  rw [hw2] at hbs HO1' d10 d11 d12 d20 d21 d22 e10 e11 e12 e22 hz2 ⊢
  clear hgs oth fz hw2 c10 c11 c12 c20 c21 c22 f10 f11 f12 f21 f22 x2 hbw HO1
  have hp : w.heap.size + 1 + 1 < w2.heap.size := by omega
  refine (toBlockS_any _ bi _ (H2.out.below hbs (Nat.le_refl _))).mono ?_
  rintro e w3 ⟨s3, rfl, ho3, hb3⟩
  obtain ⟨g', cap', rfl, ho3', hlt3⟩ : ∃ g' cap', s3 = .slice (some ⟨g', 0, none⟩) bi.length cap' ∧ w2.heap.size ≤ g' ∧ g' < w3.heap.size := by
    obtain ⟨g', cap', e, p1, p2, _⟩ := id ho3
    exact ⟨g', cap', e, p1, p2⟩
  have HO3 := Lib.hid (ho3.mono (lo' := w.heap.size) (by omega))
  have HO1 := Lib.hid (HO1'.out.below hb3 (Nat.le_refl _))
  have cel : ∀ (b o : Nat) (u : Value), w2.cell? ⟨b, o, none⟩ = some u → b < w2.heap.size → w3.cell? ⟨b, o, none⟩ = some u := fun b o u hu hb => (hb3.cell (p := ⟨b, o, none⟩) hb).trans hu
  have frz : ∀ (b o : Nat), w2.frozen? ⟨b, o, none⟩ = false → b < w2.heap.size → w3.frozen? ⟨b, o, none⟩ = false := fun b o hu hb => (hb3.frozen (p := ⟨b, o, none⟩) hb).trans hu
  have c10 := cel _ _ _ d10 (by omega)
  have c11 := cel _ _ _ d11 (by omega)
  have c12 := cel _ _ _ d12 (by omega)
  have c20 := cel _ _ _ d20 (by omega)
  have c21 := cel _ _ _ d21 (by omega)
  have c22 := cel _ _ _ d22 (by omega)
  have f10 := frz _ _ e10 (by omega)
  have f11 := frz _ _ e11 (by omega)
  have f12 := frz _ _ e12 (by omega)
  have f22 := frz _ _ e22 (by omega)
  have hbw := hbs.trans (hb3.mono hbs.size)
  have hz3 := hb3.size
  clear cel frz d10 d11 d12 d20 d21 d22 e10 e11 e12 e22 hb3 ho3 hbs HO1' H1 H2
  have HF := Lib.hid (show OwnT ((((w3.setCell ⟨w.heap.size + 1 + 1, 2, none⟩ (.slice (some ⟨g', 0, none⟩) bi.length cap')).setCell ⟨w.heap.size + 1, 0, none⟩ (.int .i64 v)).setCell ⟨w.heap.size + 1, 1, none⟩ (.slice (some ⟨g, 0, none⟩) bo.length cap)).setCell ⟨w.heap.size + 1, 2, none⟩ (.slice (some ⟨g', 0, none⟩) bi.length cap')) w.heap.size (.slice (some ⟨g, 0, none⟩) bo.length cap) bo (.slice (some ⟨g', 0, none⟩) bi.length cap') bi from by
    have G1 := only_setCell (only_refl w3 (some (w.heap.size + 1 + 1))) (p := ⟨w.heap.size + 1 + 1, 2, none⟩) rfl (.slice (some ⟨g', 0, none⟩) bi.length cap')
    have G2 := only_setCell (only_refl (w3.setCell ⟨w.heap.size + 1 + 1, 2, none⟩ (.slice (some ⟨g', 0, none⟩) bi.length cap')) (some (w.heap.size + 1))) (p := ⟨w.heap.size + 1, 0, none⟩) rfl (.int .i64 v)
    have G3 := only_setCell (only_setCell G2 (p := ⟨w.heap.size + 1, 1, none⟩) rfl (.slice (some ⟨g, 0, none⟩) bo.length cap)) (p := ⟨w.heap.size + 1, 2, none⟩) rfl (.slice (some ⟨g', 0, none⟩) bi.length cap')
    exact ⟨g, cap, g', cap', rfl, rfl, by omega, (HO1.out.grown1 G1 (fun r e => by cases e; omega)).grown1 G3 (fun r e => by cases e; omega), (HO3.out.grown1 G1 (fun r e => by cases e; omega)).grown1 G3 (fun r e => by cases e; omega)⟩)
  have HB := Lib.hid ((((hbw.setCell (p := ⟨w.heap.size + 1 + 1, 2, none⟩) (by show w.heap.size ≤ w.heap.size + 1 + 1; omega) (.slice (some ⟨g', 0, none⟩) bi.length cap')).setCell (p := ⟨w.heap.size + 1, 0, none⟩) (by show w.heap.size ≤ w.heap.size + 1; omega) (.int .i64 v)).setCell (p := ⟨w.heap.size + 1, 1, none⟩) (by show w.heap.size ≤ w.heap.size + 1; omega) (.slice (some ⟨g, 0, none⟩) bo.length cap)).setCell (p := ⟨w.heap.size + 1, 2, none⟩) (by show w.heap.size ≤ w.heap.size + 1; omega) (.slice (some ⟨g', 0, none⟩) bi.length cap'))
  clear HO1 HO3 hbw
  go_wp2
  exact bodyPost_ret (v := .agg #[.int .i64 v, .slice (some ⟨g, 0, none⟩) bo.length cap, .slice (some ⟨g', 0, none⟩) bi.length cap']) (by simp [results, Try.results64, go_sem, *]) rfl ⟨_, _, rfl, HF.out, HB.out⟩
set_option maxRecDepth 100000 in
set_option maxHeartbeats 1000000 in
theorem eqTrade_same (v : Int) (so si tq ti : Value) (bo bi : List Blk) (w : World) (h : TB w so bo si bi) (k : TB w tq bo ti bi) : Calls Try.prog 66 #[.agg #[.int .i64 v, so, si], .agg #[.int .i64 v, tq, ti]] w (RV (.bool true) w) := by
  have h1 := h.1.slice
  have h2 := h.2.slice
  have k1 := k.1.slice
  have k2 := k.2.slice
  have HC1 := Lib.hid fun W (hb : Below w.heap.size w W) => eqBlockS_same so tq bo W (h.1.below hb (Nat.le_refl _)) (k.1.below hb (Nat.le_refl _))
  have HC2 := Lib.hid fun W (hb : Below w.heap.size w W) => eqBlockS_same si ti bi W (h.2.below hb (Nat.le_refl _)) (k.2.below hb (Nat.le_refl _))
  clear h k
  obtain ⟨a1, c1, rfl⟩ := h1
  obtain ⟨a2, c2, rfl⟩ := h2
  obtain ⟨a3, c3, rfl⟩ := k1
  obtain ⟨a4, c4, rfl⟩ := k2
  have hnv : (v != v) = false := by simp
  go_enter Try.func66, Try.ntmps66
  go_wp2_with fail
  have hB0 : Below w.heap.size w ((w.alloc (.cells #[.int .i64 v, .slice a1 bo.length c1, .slice a2 bi.length c2] 63)).alloc (.cells #[.int .i64 v, .slice a3 bo.length c3, .slice a4 bi.length c4] 63)) := ((Below.refl _ _).alloc (Nat.le_refl _) _).alloc (by simp) _
  have p2 : ((w.alloc (.cells #[.int .i64 v, .slice a1 bo.length c1, .slice a2 bi.length c2] 63)).alloc (.cells #[.int .i64 v, .slice a3 bo.length c3, .slice a4 bi.length c4] 63)).cell? ⟨w.heap.size, 2, none⟩ = some (.slice a2 bi.length c2) := cell_past (new_at 2 rfl) (by simp)
  have q2 : ((w.alloc (.cells #[.int .i64 v, .slice a1 bo.length c1, .slice a2 bi.length c2] 63)).alloc (.cells #[.int .i64 v, .slice a3 bo.length c3, .slice a4 bi.length c4] 63)).cell? ⟨w.heap.size + 1, 2, none⟩ = some (.slice a4 bi.length c4) := by
    have := new_at (w := w.alloc (.cells #[.int .i64 v, .slice a1 bo.length c1, .slice a2 bi.length c2] 63)) (cs := #[.int .i64 v, .slice a3 bo.length c3, .slice a4 bi.length c4]) (T := 63) 2 rfl
    rw [World.size_alloc] at this
    exact this
  refine (HC1.out _ hB0).mono ?_
  rintro e w1 ⟨rfl, hb1⟩
  have r2 := (hb1.cell (p := ⟨w.heap.size, 2, none⟩) (by simp; omega)).trans p2
  have s2 := (hb1.cell (p := ⟨w.heap.size + 1, 2, none⟩) (by simp)).trans q2
  have hbw := hB0.trans (hb1.mono hB0.size)
  clear hb1 p2 q2 hB0
  go_wp2_with fail
  refine (HC2.out _ hbw).mono ?_
  rintro e w2 ⟨rfl, hb2⟩
  go_wp2
  go_ret
  exact RV_of rfl (hbw.trans (hb2.mono hbw.size))
theorem ResR.narrow {w : World} {lo hi : Nat} {s : Value} {bs : List Blk} (h : ResR w lo hi s bs) : ResR w lo (min hi w.heap.size) s bs := by
  rcases h with h | ⟨g, cap, rfl, h1, h2, ho⟩
  · exact .inl h
  · exact .inr ⟨g, cap, rfl, h1, by have := ho.lt; omega, ho⟩
set_option maxRecDepth 100000 in
set_option maxHeartbeats 1000000 in
theorem markTrade_any (lo hi : Nat) (v : Int) (so : Value) (bo : List Blk) (si : Value) (bi : List Blk) (k : Int) (w : World) (h : ResT w lo hi so bo si bi) (hl : bo.length + bi.length ≤ 1100000) (h0 : 0 ≤ k) (h1 : k ≤ 4000000) :
    Calls Try.prog 69 #[.agg #[.int .i64 v, so, si], .int .i64 k] w (fun e w' => e = .returned (.int .i64 (k + 3 * ((bo.length + bi.length : Nat) : Int))) ∧ OnlyIn lo hi w w' ∧ ResT w' lo hi so (markL k bo.length) si (markL (k + 3 * (bo.length : Int)) bi.length)) := by
  obtain ⟨ls1, ls2⟩ := h.slice
  obtain ⟨a, b, c, d, ha, hb, hc, hd, hx, r1, r2⟩ := h
  have HC1 := Lib.hid (markR a (min b w.heap.size) so bo k (w.alloc (.cells #[.int .i64 v, so, si] 63)) (r1.narrow.below ((Below.refl _ _).alloc (Nat.le_refl _) _) (Nat.le_refl _)) (by omega) h0 (by omega))
  have hr2 := r2.narrow.below ((Below.refl w.heap.size w).alloc (Nat.le_refl _) (.cells #[.int .i64 v, so, si] 63)) (Nat.le_refl _)
  have R2 := Lib.hid hr2
  clear hr2 r2 r1
  obtain ⟨m, hm⟩ : ∃ m, m = k + 3 * (bo.length : Int) := ⟨_, rfl⟩
  have HC2 := Lib.hid fun (W : World) (hW : ResR W c (min d w.heap.size) si bi) => markR c (min d w.heap.size) si bi m W hW (by omega) (by omega) (by omega)
  rw [show k + 3 * ((bo.length + bi.length : Nat) : Int) = m + 3 * (bi.length : Int) by omega]
  rw [← hm] at HC1 ⊢
  have hm0 : 0 ≤ m := by omega
  obtain ⟨n, hn⟩ : ∃ n, n = m + 3 * (bi.length : Int) := ⟨_, rfl⟩
  rw [← hn] at HC2 ⊢
  have hn0 : 0 ≤ n := by omega
  clear hm hn
  obtain ⟨a1, c1, rfl⟩ := ls1
  obtain ⟨a2, c2, rfl⟩ := ls2
  go_enter Try.func69, Try.ntmps69
  go_wp2_with fail
  refine HC1.out.mono ?_
  rintro e w1 ⟨rfl, ⟨row, hg, hrow⟩, hr1⟩
  have x2 : w1.cell? ⟨w.heap.size, 2, none⟩ = some (.slice a2 bi.length c2) := hg.cell (new_at 2 rfl) (fun e => by have := hrow _ e.symm; simp at this; omega)
  have R1 := Lib.hid hr1
  have K2 := Lib.hid (R2.out.kept hg (fun r e => by have := hrow r e; omega))
  have O1 := Lib.hid ((OnlyIn.of_below (lo := w.heap.size) ((Below.refl w.heap.size w).alloc (Nat.le_refl _) (.cells #[.int .i64 v, .slice a1 bo.length c1, .slice a2 bi.length c2] 63))))
  have hg1 := Lib.hid hg
  have hs1 := hg.size
  clear hg hr1 R2
  go_wp2_with fail
  refine (HC2.out _ K2.out).mono ?_
  rintro e w2 ⟨rfl, ⟨row2, hg2, hrow2⟩, hr2⟩
  have R2 := Lib.hid hr2
  have G2 := Lib.hid hg2
  clear hg2 hr2
  go_wp2
  go_ret
  refine ⟨rfl, ?_, ⟨a, min b w.heap.size, c, min d w.heap.size, ha, by omega, hc, by omega, by omega, ?_, R2.out⟩⟩
  · have oA : OnlyIn lo hi w (w.alloc (.cells #[.int .i64 v, .slice a1 bo.length c1, .slice a2 bi.length c2] 63)) := OnlyIn.of_grown (World.grownBy_alloc _ _ none) (by simp)
    exact (oA.trans (OnlyIn.of_grown hg1.out (fun r e => by have := hrow r e; omega))).trans (OnlyIn.of_grown G2.out (fun r e => by have := hrow2 r e; omega))
  · have := R1.out.kept G2.out (fun r e => by have := hrow2 r e; omega)
    exact this
set_option maxRecDepth 100000 in
set_option maxHeartbeats 1000000 in
theorem heldTrade_any (lo hi : Nat) (v : Int) (so : Value) (no : Nat) (si : Value) (ni : Nat) (k : Int) (w : World) (h : ResT w lo hi so (markL k no) si (markL (k + 3 * (no : Int)) ni)) (hl : no + ni ≤ 1100000) (h0 : 0 ≤ k) (h1 : k ≤ 4000000) :
    Calls Try.prog 72 #[.agg #[.int .i64 v, so, si], .int .i64 k] w (RV (.int .i64 (k + 3 * ((no + ni : Nat) : Int))) w) := by
  obtain ⟨ls1, ls2⟩ := h.slice
  obtain ⟨a, b, c, d, ha, hb, hc, hd, hx, r1, r2⟩ := h
  have HC1 := Lib.hid (heldR a b so no k (w.alloc (.cells #[.int .i64 v, so, si] 63)) (r1.below ((Below.refl _ _).alloc (Nat.le_refl _) _) (Nat.le_refl _)) (by omega) h0 (by omega))
  have hr2 := r2.below ((Below.refl w.heap.size w).alloc (Nat.le_refl _) (.cells #[.int .i64 v, so, si] 63)) (Nat.le_refl _)
  obtain ⟨m, hm⟩ : ∃ m, m = k + 3 * (no : Int) := ⟨_, rfl⟩
  rw [← hm] at hr2 HC1
  have HC2 := Lib.hid (heldR c d si ni m _ hr2 (by omega) (by omega) (by omega))
  rw [show k + 3 * ((no + ni : Nat) : Int) = m + 3 * (ni : Int) by omega]
  have hm0 : 0 ≤ m := by omega
  obtain ⟨n, hn⟩ : ∃ n, n = m + 3 * (ni : Int) := ⟨_, rfl⟩
  rw [← hn] at HC2 ⊢
  have hn0 : 0 ≤ n := by omega
  clear hm hn hr2 r1 r2
  rw [markL_length] at ls1 ls2
  obtain ⟨a1, c1, rfl⟩ := ls1
  obtain ⟨a2, c2, rfl⟩ := ls2
  go_enter Try.func72, Try.ntmps72
  go_wp2_with fail
  refine HC1.out.mono ?_
  rintro e w1 ⟨rfl, rfl⟩
  go_wp2_with fail
  refine HC2.out.mono ?_
  rintro e w1 ⟨rfl, rfl⟩
  go_wp2
  go_ret
  exact RV_of rfl ((Below.refl _ _).alloc (Nat.le_refl _) _)
end Go.Proofs.Ytacfelgilphppaa


namespace Go.Proofs.Ytacfelgilphppaa
open Go.RowKit Go.Maps
set_option maxRecDepth 100000 in
set_option maxHeartbeats 2000000 in
theorem FnExactFitsSystem_main (v0 : Int) (s0 : Value) (bs0 : List Blk) (v1 : Int) (so1 : Value) (bo1 : List Blk) (si1 : Value) (bi1 : List Blk) (w : World) (h0 : InB w s0 bs0) (h1 : InT w so1 bo1 si1 bi1) (hl : bs0.length + (bo1.length + bi1.length) ≤ 1048576) :
    Calls Try.prog 17 #[.agg #[.int .i64 v0, s0], .agg #[.int .i64 v1, so1, si1]] w (RV (.bool true) w) := by
  have hsl0 := h0.slice
  have hbd0 := h0.2.1
  have hsz0 := szSystem_any v0 s0 bs0.length hsl0 (by omega) 1048576 (by omega) (by omega)
  rw [if_neg (by omega)] at hsz0
  obtain ⟨m0, hm0⟩ : ∃ m, m = (1048576 : Int) - (bs0.length : Int) := ⟨_, rfl⟩
  rw [← hm0] at hsz0
  have hmp0 : 0 ≤ m0 := by omega
  have hslo1 := h1.1.slice
  have hsli1 := h1.2.slice
  have hbdo1 := h1.1.2.1
  have hbdi1 := h1.2.2.1
  have hsz1 := szTrade_any v1 so1 si1 bo1.length bi1.length hslo1 hsli1 (by omega) (by omega) (m0) (by omega) (by omega)
  rw [if_neg (by omega)] at hsz1
  obtain ⟨m1, hm1⟩ : ∃ m, m = (m0 : Int) - ((bo1.length + bi1.length : Nat) : Int) := ⟨_, rfl⟩
  rw [← hm1] at hsz1
  have hmp1 : 0 ≤ m1 := by omega
  have HSZ0 := Lib.hid hsz0
  have HSB0 := Lib.hid (h0.sb (by omega))
  have HBD0 := Lib.hid (show bs0.length ≤ 1100000 by omega)
  have HWF0 := Lib.hid h0.1
  have HSZ1 := Lib.hid hsz1
  have HSB1 := Lib.hid (h1.sb (by omega))
  have HBD1 := Lib.hid (show (bo1.length + bi1.length) ≤ 1100000 by omega)
  have HWFo1 := Lib.hid h1.1.1
  have HWFi1 := Lib.hid h1.2.1
  obtain ⟨L, hL⟩ : ∃ L, L = (fitF v0 bs0 v1 bo1 bi1).1 := ⟨_, rfl⟩
  obtain ⟨κ, hκ⟩ : ∃ κ, κ = (fitF v0 bs0 v1 bo1 bi1).2 := ⟨_, rfl⟩
  have hp : fitF v0 bs0 v1 bo1 bi1 = (L, κ) := by rw [hL, hκ]
  have HSP := Lib.hid fun (W : World) (t0 : Value) (r0 : SC W t0 bs0) (to1 ti1 : Value) (r1 : TB W to1 bo1 ti1 bi1) => specFitsSystem_any v0 t0 bs0 v1 to1 bo1 ti1 bi1 W r0.1 r1
  have HIM := Lib.hid fun (W : World) (t0 : Value) (r0 : SB W t0 bs0) (to1 ti1 : Value) (r1 : TB W to1 bo1 ti1 bi1) => FitsSystem_any v0 t0 bs0 v1 to1 bo1 ti1 bi1 W r0 r1
  rw [hp] at HSP HIM
  try unfold boolCode at HSP HIM
  try dsimp only at HSP HIM
  have hnk : (κ != κ) = false := by simp
  have hnb : (L != L) = false := by simp
  clear hsz0 hm0 hbd0 hsz1 hm1 hbdo1 hbdi1 hL hκ hp h0 h1 hl
  obtain ⟨a0, c0, rfl⟩ := hsl0
  obtain ⟨ao1, co1, rfl⟩ := hslo1
  obtain ⟨ai1, ci1, rfl⟩ := hsli1
  go_enter Try.func17, Try.ntmps17
  have hm := (((Mem.start w).pushVar v0 (.slice a0 bs0.length c0) 24).pushVarT v1 (.slice ao1 bo1.length co1) (.slice ai1 bi1.length ci1) 59)
  have fA10 := (hm.vrt 0 rfl).c0
  have fA11 := (hm.vrt 0 rfl).c1
  have fA12 := (hm.vrt 0 rfl).c2
  have fA00 := (hm.var 1 rfl).c0
  have fA01 := (hm.var 1 rfl).c1
  have HM := Lib.hid hm
  clear hm
  try simp only [World.size_alloc] at fA10 fA11 fA12 fA00 fA01
  go_wp2_with fail
  refine (HSZ0.out _).mono ?_
  rintro e w1 ⟨rfl, hbw1⟩
  have hm := HM.out.step (gb_below hbw1)
  clear fA10 fA11 fA12 fA00 fA01
  clear HM hbw1
  have fA10 := (hm.vrt 0 rfl).c0
  have fA11 := (hm.vrt 0 rfl).c1
  have fA12 := (hm.vrt 0 rfl).c2
  have fA00 := (hm.var 1 rfl).c0
  have fA01 := (hm.var 1 rfl).c1
  have HM := Lib.hid hm
  clear hm
  try simp only [World.size_alloc] at fA10 fA11 fA12 fA00 fA01
  go_wp2_with fail
  refine (HSZ1.out _).mono ?_
  rintro e w2 ⟨rfl, hbw2⟩
  have hm := HM.out.step (gb_below hbw2)
  clear fA10 fA11 fA12 fA00 fA01
  clear HM hbw2
  have fA10 := (hm.vrt 0 rfl).c0
  have fA11 := (hm.vrt 0 rfl).c1
  have fA12 := (hm.vrt 0 rfl).c2
  have fA00 := (hm.var 1 rfl).c0
  have fA01 := (hm.var 1 rfl).c1
  have HM := Lib.hid hm
  clear hm
  try simp only [World.size_alloc] at fA10 fA11 fA12 fA00 fA01
  go_upto_region 8 with fail
  go_cut [6, 7] (fun bx kv wx => bx = .bool L ∧ kv = .int .i64 κ ∧ MemOf HM.out wx)
  case first =>
    have lA1 := (HM.out.vrt 0 rfl).lt
    have lA0 := (HM.out.var 1 rfl).lt
    try simp only [World.size_alloc] at lA1 lA0
    go_region_held3 (fun w' => w'.cell? ⟨w.heap.size + 1, 0, none⟩ = some (.int .i64 v1) ∧ w'.cell? ⟨w.heap.size + 1, 1, none⟩ = some (.slice ao1 bo1.length co1) ∧ w'.cell? ⟨w.heap.size + 1, 2, none⟩ = some (.slice ai1 bi1.length ci1) ∧ w'.cell? ⟨w.heap.size, 0, none⟩ = some (.int .i64 v0) ∧ w'.cell? ⟨w.heap.size, 1, none⟩ = some (.slice a0 bs0.length c0))
      (first | exact ⟨fA10w3, fA11w3, fA12w3, fA00w3, fA01w3⟩ | exact ⟨fA10w4, fA11w4, fA12w4, fA00w4, fA01w4⟩ | exact ⟨fA10w5, fA11w5, fA12w5, fA00w5, fA01w5⟩ | go_keep)
      (first
        | (go_at_call 26; refine (toSystem_any v0 _ bs0 _ ?_).mono ?_; (first | exact HSB0.out.below HM.out.below (Nat.le_refl _) | exact HSB0.out.below HM.out.below.drew (Nat.le_refl _) | exact HSB0.out.below (HM.out.below.alloc HM.out.below.size _) (Nat.le_refl _) | exact HSB0.out.below (HM.out.below.alloc HM.out.below.size _).drew (Nat.le_refl _)); rintro e w3 ⟨tw3, rfl, how3, hbw3⟩; have hstw3 : Below w2.heap.size w2 w3 := (by first | exact hbw3 | exact ((Below.refl _ _).drew).trans (hbw3.mono (by simp)) | exact ((Below.refl _ _).alloc (Nat.le_refl _) _).trans (hbw3.mono (by simp)) | exact (((Below.refl _ _).alloc (Nat.le_refl _) _).drew).trans (hbw3.mono (by simp))); have hmw3 := HM.out.step (gb_below hstw3); have fA10w3 := (hmw3.vrt 0 rfl).c0; have fA11w3 := (hmw3.vrt 0 rfl).c1; have fA12w3 := (hmw3.vrt 0 rfl).c2; have fA00w3 := (hmw3.var 1 rfl).c0; have fA01w3 := (hmw3.var 1 rfl).c1; (try simp only [World.size_alloc] at fA10w3 fA11w3 fA12w3 fA00w3 fA01w3); have q0w3 := how3.sc HWF0.out HBD0.out; obtain ⟨gw3, capw3, hsw3, _⟩ := id how3; subst hsw3)
        | (go_at_call 64; refine (toTrade_any v1 _ bo1 _ bi1 _ ?_).mono ?_; (first | exact HSB1.out.below hmw3.below (Nat.le_refl _) | exact HSB1.out.below hmw3.below.drew (Nat.le_refl _) | exact HSB1.out.below (hmw3.below.alloc hmw3.below.size _) (Nat.le_refl _) | exact HSB1.out.below (hmw3.below.alloc hmw3.below.size _).drew (Nat.le_refl _)); rintro e w4 ⟨tow4, tiw4, rfl, how4, hbw4⟩; have hstw4 : Below w3.heap.size w3 w4 := (by first | exact hbw4 | exact ((Below.refl _ _).drew).trans (hbw4.mono (by simp)) | exact ((Below.refl _ _).alloc (Nat.le_refl _) _).trans (hbw4.mono (by simp)) | exact (((Below.refl _ _).alloc (Nat.le_refl _) _).drew).trans (hbw4.mono (by simp))); have hmw4 := hmw3.step (gb_below hstw4); have fA10w4 := (hmw4.vrt 0 rfl).c0; have fA11w4 := (hmw4.vrt 0 rfl).c1; have fA12w4 := (hmw4.vrt 0 rfl).c2; have fA00w4 := (hmw4.var 1 rfl).c0; have fA01w4 := (hmw4.var 1 rfl).c1; (try simp only [World.size_alloc] at fA10w4 fA11w4 fA12w4 fA00w4 fA01w4); have q0w4 := q0w3.below hstw4 (Nat.le_refl _); have q1w4 := how4.sb HWFo1.out HWFi1.out HBD1.out; obtain ⟨gow4, kow4, giw4, kiw4, hsow4, hsiw4, _⟩ := id how4; subst hsow4; subst hsiw4)
        | (go_at_call 73; refine (HSP.out _ _ ?_ _ _ ?_).mono ?_; (first | exact q0w4 | exact (q0w4).below ((Below.refl _ _).drew) (Nat.le_refl _) | exact (q0w4).below ((Below.refl _ _).alloc (Nat.le_refl _) _) (Nat.le_refl _) | exact (q0w4).below (((Below.refl _ _).alloc (Nat.le_refl _) _).drew) (Nat.le_refl _)); (first | exact q1w4 | exact (q1w4).below ((Below.refl _ _).drew) (Nat.le_refl _) | exact (q1w4).below ((Below.refl _ _).alloc (Nat.le_refl _) _) (Nat.le_refl _) | exact (q1w4).below (((Below.refl _ _).alloc (Nat.le_refl _) _).drew) (Nat.le_refl _)); rintro e w5 ⟨rfl, hbw5⟩; have hstw5 : Below w4.heap.size w4 w5 := (by first | exact hbw5 | exact ((Below.refl _ _).drew).trans (hbw5.mono (by simp)) | exact ((Below.refl _ _).alloc (Nat.le_refl _) _).trans (hbw5.mono (by simp)) | exact (((Below.refl _ _).alloc (Nat.le_refl _) _).drew).trans (hbw5.mono (by simp))); have hmw5 := hmw4.step (gb_below hstw5); have fA10w5 := (hmw5.vrt 0 rfl).c0; have fA11w5 := (hmw5.vrt 0 rfl).c1; have fA12w5 := (hmw5.vrt 0 rfl).c2; have fA00w5 := (hmw5.var 1 rfl).c0; have fA01w5 := (hmw5.var 1 rfl).c1; (try simp only [World.size_alloc] at fA10w5 fA11w5 fA12w5 fA00w5 fA01w5))
      )
    all_goals
      go_wp2_with fail
      go_meet
      first | exact ⟨rfl, rfl, hmw5⟩ | exact ⟨rfl, rfl, hmw5.step (gb_drew1 _)⟩
  case rest =>
  obtain ⟨rfl, rfl, hm⟩ := hcut
  unfold MemOf at hm
  obtain ⟨yW, rfl⟩ : ∃ W, W = wc := ⟨_, rfl⟩
  clear fA10 fA11 fA12 fA00 fA01
  clear HM
  have fA10 := (hm.vrt 0 rfl).c0
  have fA11 := (hm.vrt 0 rfl).c1
  have fA12 := (hm.vrt 0 rfl).c2
  have fA00 := (hm.var 1 rfl).c0
  have fA01 := (hm.var 1 rfl).c1
  have HM := Lib.hid hm
  clear hm
  try simp only [World.size_alloc] at fA10 fA11 fA12 fA00 fA01
  go_wp2_with fail
  refine (toSystem_any v0 _ bs0 _ (HSB0.out.below HM.out.below (Nat.le_refl _))).mono ?_
  rintro e w6 ⟨tw6, rfl, how6, hbw6⟩
  have hrw6 := how6.res
  obtain ⟨gw6, capw6, hsw6, _⟩ := id how6
  subst hsw6
  have hm := (HM.out.pushB hbw6 hrw6).pushVar v0 (.slice (some ⟨gw6, 0, none⟩) bs0.length capw6) 31
  clear fA10 fA11 fA12 fA00 fA01
  clear HM hbw6 hrw6 how6
  have fVX00 := (hm.var 0 rfl).c0
  have fVX01 := (hm.var 0 rfl).c1
  have fA10 := (hm.vrt 2 rfl).c0
  have fA11 := (hm.vrt 2 rfl).c1
  have fA12 := (hm.vrt 2 rfl).c2
  have fA00 := (hm.var 3 rfl).c0
  have fA01 := (hm.var 3 rfl).c1
  have HM := Lib.hid hm
  clear hm
  try simp only [World.size_alloc] at fVX00 fVX01 fA10 fA11 fA12 fA00 fA01
  go_wp2_with fail
  refine (toTrade_any v1 _ bo1 _ bi1 _ (HSB1.out.below HM.out.below (Nat.le_refl _))).mono ?_
  rintro e w7 ⟨tow7, tiw7, rfl, how7, hbw7⟩
  have hrw7 := how7.res
  obtain ⟨gow7, kow7, giw7, kiw7, hsow7, hsiw7, _⟩ := id how7
  subst hsow7
  subst hsiw7
  have hm := (HM.out.pushT hbw7 hrw7).pushVarT v1 (.slice (some ⟨gow7, 0, none⟩) bo1.length kow7) (.slice (some ⟨giw7, 0, none⟩) bi1.length kiw7) 63
  clear fVX00 fVX01 fA10 fA11 fA12 fA00 fA01
  clear HM hbw7 hrw7 how7
  have fVX10 := (hm.vrt 0 rfl).c0
  have fVX11 := (hm.vrt 0 rfl).c1
  have fVX12 := (hm.vrt 0 rfl).c2
  have fVX00 := (hm.var 2 rfl).c0
  have fVX01 := (hm.var 2 rfl).c1
  have fA10 := (hm.vrt 4 rfl).c0
  have fA11 := (hm.vrt 4 rfl).c1
  have fA12 := (hm.vrt 4 rfl).c2
  have fA00 := (hm.var 5 rfl).c0
  have fA01 := (hm.var 5 rfl).c1
  have HM := Lib.hid hm
  clear hm
  try simp only [World.size_alloc] at fVX10 fVX11 fVX12 fVX00 fVX01 fA10 fA11 fA12 fA00 fA01
  go_wp2_with fail
  refine (HIM.out _ _ ((HM.out.blks 3 rfl).sb HWF0.out HBD0.out) _ _ ((HM.out.trd 1 rfl).tb HWFo1.out HWFi1.out HBD1.out)).mono ?_
  rintro e w8 ⟨rfl, hbw8⟩
  have hm := HM.out.step (gb_below hbw8)
  clear fVX10 fVX11 fVX12 fVX00 fVX01 fA10 fA11 fA12 fA00 fA01
  clear HM hbw8
  have fVX10 := (hm.vrt 0 rfl).c0
  have fVX11 := (hm.vrt 0 rfl).c1
  have fVX12 := (hm.vrt 0 rfl).c2
  have fVX00 := (hm.var 2 rfl).c0
  have fVX01 := (hm.var 2 rfl).c1
  have fA10 := (hm.vrt 4 rfl).c0
  have fA11 := (hm.vrt 4 rfl).c1
  have fA12 := (hm.vrt 4 rfl).c2
  have fA00 := (hm.var 5 rfl).c0
  have fA01 := (hm.var 5 rfl).c1
  have HM := Lib.hid hm
  clear hm
  try simp only [World.size_alloc] at fVX10 fVX11 fVX12 fVX00 fVX01 fA10 fA11 fA12 fA00 fA01
  go_upto_region 14 with fail
  go_cut [52] (fun sq wx => sq = .bool false ∧ MemOf HM.out wx)
  case first =>
    go_region_with (first | (go_at_call 26; refine (toSystem_any v0 _ bs0 _ ?_).mono ?_; (exact HSB0.out.below HM.out.below.drew (Nat.le_refl _)); rintro e w9 ⟨tw9, rfl, how9, hbw9⟩; have hmx := (HM.out.step (gb_drew1 _)).step (gb_below hbw9); have ec0 := (hmx.var 2 rfl).c0; have ec1 := (hmx.var 2 rfl).c1; have HMX := Lib.hid hmx; clear hmx; have hsbw9 := how9.sb HWF0.out HBD0.out; obtain ⟨gw9, capw9, hsw9, _⟩ := id how9; subst hsw9) | (go_at_call 29; refine (eqSystem_same v0 _ _ bs0 _ ?_ ?_).mono ?_; (exact ((HMX.out.blks 3 rfl).sb HWF0.out HBD0.out)); (exact hsbw9); rintro e w10 ⟨rfl, hbw10⟩))
    all_goals
      go_wp2_with fail
      go_meet
      exact ⟨rfl, HMX.out.step (gb_below hbw10)⟩
  case rest =>
  obtain ⟨rfl, hm⟩ := hcut
  unfold MemOf at hm
  obtain ⟨yc0, rfl⟩ : ∃ W, W = wc := ⟨_, rfl⟩
  clear fVX10 fVX11 fVX12 fVX00 fVX01 fA10 fA11 fA12 fA00 fA01
  clear HM
  have fVX10 := (hm.vrt 0 rfl).c0
  have fVX11 := (hm.vrt 0 rfl).c1
  have fVX12 := (hm.vrt 0 rfl).c2
  have fVX00 := (hm.var 2 rfl).c0
  have fVX01 := (hm.var 2 rfl).c1
  have fA10 := (hm.vrt 4 rfl).c0
  have fA11 := (hm.vrt 4 rfl).c1
  have fA12 := (hm.vrt 4 rfl).c2
  have fA00 := (hm.var 5 rfl).c0
  have fA01 := (hm.var 5 rfl).c1
  have HM := Lib.hid hm
  clear hm
  try simp only [World.size_alloc] at fVX10 fVX11 fVX12 fVX00 fVX01 fA10 fA11 fA12 fA00 fA01
  go_upto_region 16 with fail
  go_cut [57] (fun sq wx => sq = .bool false ∧ MemOf HM.out wx)
  case first =>
    go_region_with (first | (go_at_call 64; refine (toTrade_any v1 _ bo1 _ bi1 _ ?_).mono ?_; (exact HSB1.out.below HM.out.below.drew (Nat.le_refl _)); rintro e w11 ⟨tow11, tiw11, rfl, how11, hbw11⟩; have hmx := (HM.out.step (gb_drew1 _)).step (gb_below hbw11); have ec0 := (hmx.vrt 0 rfl).c0; have ec1 := (hmx.vrt 0 rfl).c1; have ec2 := (hmx.vrt 0 rfl).c2; have HMX := Lib.hid hmx; clear hmx; have hsbw11 := how11.sb HWFo1.out HWFi1.out HBD1.out; obtain ⟨gow11, kow11, giw11, kiw11, hsow11, hsiw11, _⟩ := id how11; subst hsow11; subst hsiw11) | (go_at_call 66; refine (eqTrade_same v1 _ _ _ _ bo1 bi1 _ ?_ ?_).mono ?_; (exact ((HMX.out.trd 1 rfl).tb HWFo1.out HWFi1.out HBD1.out)); (exact hsbw11); rintro e w12 ⟨rfl, hbw12⟩))
    all_goals
      go_wp2_with fail
      go_meet
      exact ⟨rfl, HMX.out.step (gb_below hbw12)⟩
  case rest =>
  obtain ⟨rfl, hm⟩ := hcut
  unfold MemOf at hm
  obtain ⟨yc1, rfl⟩ : ∃ W, W = wc := ⟨_, rfl⟩
  clear fVX10 fVX11 fVX12 fVX00 fVX01 fA10 fA11 fA12 fA00 fA01
  clear HM
  have fVX10 := (hm.vrt 0 rfl).c0
  have fVX11 := (hm.vrt 0 rfl).c1
  have fVX12 := (hm.vrt 0 rfl).c2
  have fVX00 := (hm.var 2 rfl).c0
  have fVX01 := (hm.var 2 rfl).c1
  have fA10 := (hm.vrt 4 rfl).c0
  have fA11 := (hm.vrt 4 rfl).c1
  have fA12 := (hm.vrt 4 rfl).c2
  have fA00 := (hm.var 5 rfl).c0
  have fA01 := (hm.var 5 rfl).c1
  have HM := Lib.hid hm
  clear hm
  try simp only [World.size_alloc] at fVX10 fVX11 fVX12 fVX00 fVX01 fA10 fA11 fA12 fA00 fA01
  go_wp2
  go_ret
  exact RV_of rfl HM.out.below
set_option maxRecDepth 100000 in
theorem FnExactFitsSystem_long0 (v0 : Int) (s0 : Value) (bs0 : List Blk) (v1 : Int) (so1 : Value) (bo1 : List Blk) (si1 : Value) (bi1 : List Blk) (w : World) (h0 : InB w s0 bs0) (h1 : InT w so1 bo1 si1 bi1)  (hl : ¬ bs0.length ≤ 1048576) : Calls Try.prog 17 #[.agg #[.int .i64 v0, s0], .agg #[.int .i64 v1, so1, si1]] w (RV (.bool true) w) := by
  have hsl0 := h0.slice
  have hbd0 := h0.2.1
  have hsz0 := szSystem_any v0 s0 bs0.length hsl0 (by omega) (1048576) (by omega) (by omega)
  rw [if_pos (by omega)] at hsz0
  have HSZ0 := Lib.hid hsz0
  have hslo1 := h1.1.slice
  have hsli1 := h1.2.slice
  clear hl h0 h1 hsz0 hbd0
  obtain ⟨a0, c0, rfl⟩ := hsl0
  obtain ⟨ao1, co1, rfl⟩ := hslo1; obtain ⟨ai1, ci1, rfl⟩ := hsli1
  have HM := Lib.hid (((Mem.start w).pushVar v0 (.slice a0 bs0.length c0) 24).pushVarT v1 (.slice ao1 bo1.length co1) (.slice ai1 bi1.length ci1) 59)
  go_enter Try.func17, Try.ntmps17
  go_wp2_with fail
  refine (HSZ0.out _).mono ?_
  rintro e y0 ⟨rfl, hy0⟩
  have hm := HM.out.step (gb_below hy0)
  have fb10 := (hm.vrt 0 rfl).c0
  have fb11 := (hm.vrt 0 rfl).c1
  have fb12 := (hm.vrt 0 rfl).c2
  have fb00 := (hm.var 1 rfl).c0
  have fb01 := (hm.var 1 rfl).c1
  try simp only [World.size_alloc] at fb10 fb11 fb12 fb00 fb01
  clear HM hy0
  have HM := Lib.hid hm
  clear hm
  go_wp2
  go_ret
  exact RV_of rfl HM.out.below
set_option maxRecDepth 100000 in
theorem FnExactFitsSystem_long1 (v0 : Int) (s0 : Value) (bs0 : List Blk) (v1 : Int) (so1 : Value) (bo1 : List Blk) (si1 : Value) (bi1 : List Blk) (w : World) (h0 : InB w s0 bs0) (h1 : InT w so1 bo1 si1 bi1)  (hp : bs0.length ≤ 1048576) (hl : ¬ bs0.length + (bo1.length + bi1.length) ≤ 1048576) : Calls Try.prog 17 #[.agg #[.int .i64 v0, s0], .agg #[.int .i64 v1, so1, si1]] w (RV (.bool true) w) := by
  have hsl0 := h0.slice
  have hbd0 := h0.2.1
  have hsz0 := szSystem_any v0 s0 bs0.length hsl0 (by omega) (1048576) (by omega) (by omega)
  rw [if_neg (by omega)] at hsz0
  have HSZ0 := Lib.hid hsz0
  have hslo1 := h1.1.slice
  have hsli1 := h1.2.slice
  have hbdo1 := h1.1.2.1
  have hbdi1 := h1.2.2.1
  have hsz1 := szTrade_any v1 so1 si1 bo1.length bi1.length hslo1 hsli1 (by omega) (by omega) (1048576 - (bs0.length : Int)) (by omega) (by omega)
  rw [if_pos (by omega)] at hsz1
  have HSZ1 := Lib.hid hsz1
  have hdp : 0 ≤ 1048576 - (bs0.length : Int) := by omega
  clear hl h0 h1 hsz0 hbd0 hsz1 hbdo1 hbdi1
  obtain ⟨a0, c0, rfl⟩ := hsl0
  obtain ⟨ao1, co1, rfl⟩ := hslo1; obtain ⟨ai1, ci1, rfl⟩ := hsli1
  have HM := Lib.hid (((Mem.start w).pushVar v0 (.slice a0 bs0.length c0) 24).pushVarT v1 (.slice ao1 bo1.length co1) (.slice ai1 bi1.length ci1) 59)
  go_enter Try.func17, Try.ntmps17
  go_wp2_with fail
  refine (HSZ0.out _).mono ?_
  rintro e y0 ⟨rfl, hy0⟩
  have hm := HM.out.step (gb_below hy0)
  have fb10 := (hm.vrt 0 rfl).c0
  have fb11 := (hm.vrt 0 rfl).c1
  have fb12 := (hm.vrt 0 rfl).c2
  have fb00 := (hm.var 1 rfl).c0
  have fb01 := (hm.var 1 rfl).c1
  try simp only [World.size_alloc] at fb10 fb11 fb12 fb00 fb01
  clear HM hy0
  have HM := Lib.hid hm
  clear hm
  go_wp2_with fail
  refine (HSZ1.out _).mono ?_
  rintro e y1 ⟨rfl, hy1⟩
  have hm := HM.out.step (gb_below hy1)
  clear fb10 fb11 fb12 fb00 fb01
  have fb10 := (hm.vrt 0 rfl).c0
  have fb11 := (hm.vrt 0 rfl).c1
  have fb12 := (hm.vrt 0 rfl).c2
  have fb00 := (hm.var 1 rfl).c0
  have fb01 := (hm.var 1 rfl).c1
  try simp only [World.size_alloc] at fb10 fb11 fb12 fb00 fb01
  clear HM hy1
  have HM := Lib.hid hm
  clear hm
  go_wp2
  go_ret
  exact RV_of rfl HM.out.below
theorem FnExactFitsSystem_any (v0 : Int) (s0 : Value) (bs0 : List Blk) (v1 : Int) (so1 : Value) (bo1 : List Blk) (si1 : Value) (bi1 : List Blk) (w : World) (h0 : InB w s0 bs0) (h1 : InT w so1 bo1 si1 bi1) : Calls Try.prog 17 #[.agg #[.int .i64 v0, s0], .agg #[.int .i64 v1, so1, si1]] w (RV (.bool true) w) := by
  by_cases hs0 : bs0.length ≤ 1048576
  case neg => exact FnExactFitsSystem_long0 v0 s0 bs0 v1 so1 bo1 si1 bi1 w h0 h1   hs0
  by_cases hs1 : bs0.length + (bo1.length + bi1.length) ≤ 1048576
  case neg => exact FnExactFitsSystem_long1 v0 s0 bs0 v1 so1 bo1 si1 bi1 w h0 h1  hs0 hs1
  exact FnExactFitsSystem_main v0 s0 bs0 v1 so1 bo1 si1 bi1 w h0 h1 hs1 
end Go.Proofs.Ytacfelgilphppaa

namespace Go.Proofs.Ytacfelgilphppaa
set_option maxRecDepth 100000 in
noncomputable def iniP : { L : List Char // Try.prog.initOrder = String.ofList L } := ⟨_, by unfold Try.prog; rfl⟩
theorem iniL : Try.prog.initOrder.toList = iniP.1 := (congrArg String.toList iniP.2).trans String.toList_ofList
theorem words_cons (c : Char) (r : List Char) (h : c ≠ Char.ofNat 32) : wordsSigns (c :: r) = match wordsSigns r with | w :: ws => (c :: w) :: ws | [] => [[c]] := by
  rw [wordsSigns]
  all_goals first | rfl | exact h | (intro e; exact h e)
theorem words_word : ∀ (a b : List Char), (a.all fun c => c != Char.ofNat 32) = true → wordsSigns (a ++ Char.ofNat 32 :: b) = a :: wordsSigns b
  | [], b, _ => rfl
  | c :: a, b, h => by
    simp only [List.all_cons, Bool.and_eq_true, bne_iff_ne, ne_eq] at h
    rw [List.cons_append, words_cons _ _ h.1, words_word a b (by simpa using h.2)]
set_option maxRecDepth 100000 in
theorem split1 : iniP.1 = iniP.1.take 7 ++ Char.ofNat 32 :: iniP.1.drop 8 := by kernel_rfl
set_option maxRecDepth 100000 in
theorem split2 : iniP.1.drop 8 = (iniP.1.drop 8).take 64 ++ Char.ofNat 32 :: iniP.1.drop 73 := by kernel_rfl
set_option maxRecDepth 100000 in
theorem split3 : iniP.1.drop 73 = (iniP.1.drop 73).take 3 ++ Char.ofNat 32 :: iniP.1.drop 77 := by kernel_rfl
theorem isCut : (iniP.1.drop 73).take 3 = "cut".toList := by kernel_rfl
set_option maxRecDepth 100000 in
theorem isHead : ((iniP.1.take 7 == "harness".toList || iniP.1.take 7 == "ownmain".toList) && isSumSigns ((iniP.1.drop 8).take 64)) = true := by kernel_rfl
theorem wordsL : wordsSigns iniP.1 = iniP.1.take 7 :: (iniP.1.drop 8).take 64 :: "cut".toList :: wordsSigns (iniP.1.drop 77) := by
  rw [← isCut]
  conv => lhs; rw [split1]
  rw [words_word _ _ (by kernel_rfl)]
  conv => lhs; rw [split2]
  rw [words_word _ _ (by kernel_rfl)]
  conv => lhs; rw [split3]
  rw [words_word _ _ (by kernel_rfl)]
theorem behindL : behindMainWord (wordsSigns Try.prog.initOrder.toList) = "cut".toList :: wordsSigns (iniP.1.drop 77) := by
  rw [iniL, wordsL]
  unfold behindMainWord
  simp only [isHead, if_true]
theorem stripL (ws : List (List Char)) : stripLifts liftWords ("cut".toList :: ws) = ([], "cut".toList :: ws) := by kernel_rfl
section
variable (P : Program) (ws : List (List Char)) (h : behindMainWord (wordsSigns P.initOrder.toList) = "cut".toList :: ws)
include h
theorem head_of : P.headLifts = [] := by
  unfold Program.headLifts
  rw [h]
  simp only [stripL]
  kernel_rfl
theorem make_of : P.make = some .cut := by
  unfold Program.make
  rw [h, head_of P ws h]
  kernel_rfl
theorem lifts_of : P.liftsFinal = false := by
  unfold Program.liftsFinal
  rw [h, head_of P ws h]
  kernel_rfl
theorem enter_of (h1 : P.laysLater = false) (h2 : P.bearsReflect = false) (h3 : P.doorFits [] = true) : P.mayEnter = true := by
  unfold Program.mayEnter
  rw [h]
  simp only [stripL]
  rw [h1, h2, h3]
  kernel_rfl
end
theorem mayE : Try.pinned.checked.prog.mayEnter = true := enter_of _ _ behindL (by kernel_rfl) (by kernel_rfl) (by kernel_rfl)
theorem liftsF : Try.pinned.checked.prog.liftsFinal = false := lifts_of _ _ behindL
theorem makeF : Try.pinned.checked.prog.make = some .cut := make_of _ _ behindL
theorem both {a b : Bool} (h : a = true) (k : b = true) : (a && b) = true := by rw [h, k]; rfl
end Go.Proofs.Ytacfelgilphppaa

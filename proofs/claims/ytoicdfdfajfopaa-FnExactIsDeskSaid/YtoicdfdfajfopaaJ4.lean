
/- Desks: both predicates, and the laws' helpers. The law FnExactIsFull returns true. The law FnExactIsDesk returns true. How the laws' arguments are read. How a desk in a law's arguments is read. The dump's head word by word, cheaply: what every row asks of it. -/
import Derived.Test.YtoicdfdfajfopaaJ3
import Derived.Deep.RegionWith
import Derived.Deep.RegionHeld3
import Derived.Deep.DeepCutAuto
import Derived.Test.YtoicdfdfajfopaaRows
import Derived.ProofKit
import Derived.OpenShut
import Derived.Deep.Slices
import Derived.Lib.SmallJoins
import Derived.ChangeOld
namespace Go.Proofs.Ytoicdfdfajfopaa
open Go.RowKit Go.Maps
theorem set_gbD (w : World) (g o : Nat) (v : Value) : w.grownBy (w.setCell ⟨g, o, none⟩ v) (some g) :=
  ⟨rfl, rfl, rfl, by simp, fun k _ hne => by
    have : k ≠ g := fun e => hne (by rw [e])
    simp [World.setCell, Array.getElem?_modify, Ne.symm this]⟩
def dskB (v1 : Int) (b1 : List Blk) (v2 : Int) (b2 : List Blk) : Bool := isSysImpl v1 b1 && isSysImpl v2 b2
theorem OwnB.setC {w : World} {base : Nat} {s : Value} {bs : List Blk} (h : OwnB w base s bs) {a : Addr} (ha : a.block < base) (u : Value) : OwnB (w.setCell a u) base s bs := by
  obtain ⟨g, cap, rfl, h1, h2, h3, h4, h5⟩ := h
  refine ⟨g, cap, rfl, h1, by simpa [World.setCell] using h2, h3.setCell (by omega) u, fun o => ?_, h5⟩
  rw [World.frozen?_setCell]
  exact h4 o
set_option maxRecDepth 100000 in
theorem IsDesk_any (v1 v2 : Int) (s1 s2 : Value) (b1 b2 : List Blk) (w : World) (h1 : SB w s1 b1) (h2 : SB w s2 b2) : Calls Try.prog 54 #[.agg #[.int .i64 v1, s1, .int .i64 v2, s2]] w (RV (.bool (dskB v1 b1 v2 b2)) w) := by
  have HI1 := Lib.hid fun W (hb : Below w.heap.size w W) => IsSystem_any v1 s1 b1 W (h1.below hb (Nat.le_refl _))
  have HI2 := Lib.hid fun W (hb : Below w.heap.size w W) => IsSystem_any v2 s2 b2 W (h2.below hb (Nat.le_refl _))
  obtain ⟨a1, c1, rfl⟩ := h1.slice
  obtain ⟨a2, c2, rfl⟩ := h2.slice
  have hb0 := (Below.refl w.heap.size w).alloc (Nat.le_refl _) (.cells #[.int .i64 v1, .slice a1 b1.length c1, .int .i64 v2, .slice a2 b2.length c2] 55)
  unfold dskB
  obtain ⟨β1, e1⟩ : ∃ β, β = isSysImpl v1 b1 := ⟨_, rfl⟩
  obtain ⟨β2, e2⟩ : ∃ β, β = isSysImpl v2 b2 := ⟨_, rfl⟩
  rw [← e1] at HI1 ⊢
  rw [← e2] at HI2 ⊢
  clear h1 h2 e1 e2
  cases β1 with
  | false =>
    rw [Bool.false_and]
    go_enter Try.func54, Try.ntmps54
    go_wp2_with fail
    refine (HI1.out _ hb0).mono ?_
    rintro e w1 ⟨rfl, hb1⟩
    have hbw := below_new hb1
    clear hb1
    go_wp2
    go_ret
    exact RV_of rfl hbw
  | true =>
    rw [Bool.true_and]
    go_enter Try.func54, Try.ntmps54
    go_wp2_with fail
    refine (HI1.out _ hb0).mono ?_
    rintro e w1 ⟨rfl, hb1⟩
    have q2 := cell_new hb1 2 rfl
    have q3 := cell_new hb1 3 rfl
    have hbw := below_new hb1
    clear hb1
    go_wp2_with fail
    refine (HI2.out _ hbw).mono ?_
    rintro e w2 ⟨rfl, hb2⟩
    have hbw2 := hbw.trans (hb2.mono hbw.size)
    clear hb2
    go_wp2
    go_ret
    exact RV_of rfl hbw2
set_option maxRecDepth 100000 in
theorem specIsDesk_any (v1 v2 : Int) (s1 s2 : Value) (b1 b2 : List Blk) (w : World) (h1 : SB w s1 b1) (h2 : SB w s2 b2) : Calls Try.prog 52 #[.agg #[.int .i64 v1, s1, .int .i64 v2, s2]] w (RV (.bool (dskB v1 b1 v2 b2)) w) := by
  have HI1 := Lib.hid fun W (hb : Below w.heap.size w W) => l01Is_any v1 s1 b1 W (h1.below hb (Nat.le_refl _))
  have HI2 := Lib.hid fun W (hb : Below w.heap.size w W) => l01Is_any v2 s2 b2 W (h2.below hb (Nat.le_refl _))
  obtain ⟨a1, c1, rfl⟩ := h1.slice
  obtain ⟨a2, c2, rfl⟩ := h2.slice
  have hb0 := (Below.refl w.heap.size w).alloc (Nat.le_refl _) (.cells #[.int .i64 v1, .slice a1 b1.length c1, .int .i64 v2, .slice a2 b2.length c2] 55)
  unfold dskB
  obtain ⟨β1, e1⟩ : ∃ β, β = isSysImpl v1 b1 := ⟨_, rfl⟩
  obtain ⟨β2, e2⟩ : ∃ β, β = isSysImpl v2 b2 := ⟨_, rfl⟩
  rw [← e1] at HI1 ⊢
  rw [← e2] at HI2 ⊢
  clear h1 h2 e1 e2
  cases β1 with
  | false =>
    rw [Bool.false_and]
    go_enter Try.func52, Try.ntmps52
    go_wp2_with fail
    refine (HI1.out _ hb0).mono ?_
    rintro e w1 ⟨rfl, hb1⟩
    have hbw := below_new hb1
    clear hb1
    go_wp2
    go_ret
    exact RV_of rfl hbw
  | true =>
    rw [Bool.true_and]
    go_enter Try.func52, Try.ntmps52
    go_wp2_with fail
    refine (HI1.out _ hb0).mono ?_
    rintro e w1 ⟨rfl, hb1⟩
    have q2 := cell_new hb1 2 rfl
    have q3 := cell_new hb1 3 rfl
    have hbw := below_new hb1
    clear hb1
    go_wp2_with fail
    refine (HI2.out _ hbw).mono ?_
    rintro e w2 ⟨rfl, hb2⟩
    have hbw2 := hbw.trans (hb2.mono hbw.size)
    clear hb2
    go_wp2
    go_ret
    exact RV_of rfl hbw2
set_option maxRecDepth 100000 in
theorem szDesk_any (v1 v2 : Int) (s1 s2 : Value) (n1 n2 : Nat) (hs1 : ∃ a c, s1 = .slice a n1 c) (hs2 : ∃ a c, s2 = .slice a n2 c) (hn1 : (n1 : Int) ≤ 9223372036854775807) (hn2 : (n2 : Int) ≤ 9223372036854775807) (left : Int) (h0 : 0 ≤ left) (h1 : left ≤ 1048576) (w : World) :
    Calls Try.prog 51 #[.agg #[.int .i64 v1, s1, .int .i64 v2, s2], .int .i64 left] w (RV (.int .i64 (if left - ((n1 + n2 : Nat) : Int) < 0 then -1 else left - ((n1 + n2 : Nat) : Int))) w) := by
  have hc := szSystem_any v1 s1 n1 hs1 hn1 left h0 h1
  have hd0 := fun l h0 h1 => szSystem_any v2 s2 n2 hs2 hn2 l h0 h1
  obtain ⟨a, c, rfl⟩ := hs1
  obtain ⟨a', c', rfl⟩ := hs2
  have hb0 := (Below.refl w.heap.size w).alloc (Nat.le_refl _) (.cells #[.int .i64 v1, .slice a n1 c, .int .i64 v2, .slice a' n2 c'] 61)
  by_cases h : left - n1 < 0
  · rw [if_pos h] at hc
    rw [if_pos (by omega)]
    have HC := Lib.hid hc
    clear hc h hd0
    go_enter Try.func51, Try.ntmps51
    go_wp2_with fail
    refine (HC.out _).mono ?_
    rintro e w1 ⟨rfl, hb1⟩
    have hbw := below_new hb1
    clear hb1
    go_wp2
    go_ret
    exact RV_of rfl hbw
  · rw [if_neg h] at hc
    have hd := hd0 (left - n1) (by omega) (by omega)
    obtain ⟨m, hm⟩ : ∃ m, m = left - (n1 : Int) := ⟨_, rfl⟩
    have hm0 : 0 ≤ m := by omega
    obtain ⟨r, hr⟩ : ∃ r : Int, r = if left - ((n1 + n2 : Nat) : Int) < 0 then -1 else left - ((n1 + n2 : Nat) : Int) := ⟨_, rfl⟩
    have hr2 : (if m - (n2 : Int) < 0 then -1 else m - (n2 : Int)) = r := by
      rw [hr, hm]
      by_cases k : left - (n1 : Int) - (n2 : Int) < 0
      · rw [if_pos k, if_pos (by omega)]
      · rw [if_neg k, if_neg (by omega)]
        omega
    have hrc : r = -1 ∨ 0 ≤ r := by rw [hr]; split <;> omega
    rw [← hr]
    rw [← hm] at hc hd
    rw [hr2] at hd
    have HC := Lib.hid hc
    have HD := Lib.hid hd
    clear hc hd h hm hr hr2 hd0
    rcases hrc with rfl | hrc
    all_goals
      go_enter Try.func51, Try.ntmps51
      go_wp2_with fail
      refine (HC.out _).mono ?_
      rintro e w1 ⟨rfl, hb1⟩
      have q2 := cell_new hb1 2 rfl
      have q3 := cell_new hb1 3 rfl
      have hbw := below_new hb1
      clear hb1
      go_wp2_with fail
      refine (HD.out _).mono ?_
      rintro e w2 ⟨rfl, hb2⟩
      have hbw2 := hbw.trans (hb2.mono hbw.size)
      clear hb2
      go_wp2
      go_ret
      exact RV_of rfl hbw2
set_option maxRecDepth 100000 in
theorem eqDesk_same (v1 v2 : Int) (s1 s2 t1 t2 : Value) (b1 b2 : List Blk) (w : World) (h1 : SB w s1 b1) (h2 : SB w s2 b2) (k1 : SB w t1 b1) (k2 : SB w t2 b2) : Calls Try.prog 48 #[.agg #[.int .i64 v1, s1, .int .i64 v2, s2], .agg #[.int .i64 v1, t1, .int .i64 v2, t2]] w (RV (.bool true) w) := by
  have HC := Lib.hid fun W (hb : Below w.heap.size w W) => eqSystem_same v1 s1 t1 b1 W (h1.below hb (Nat.le_refl _)) (k1.below hb (Nat.le_refl _))
  have HD := Lib.hid fun W (hb : Below w.heap.size w W) => eqSystem_same v2 s2 t2 b2 W (h2.below hb (Nat.le_refl _)) (k2.below hb (Nat.le_refl _))
  obtain ⟨a1, c1, rfl⟩ := h1.slice
  obtain ⟨a2, c2, rfl⟩ := h2.slice
  obtain ⟨a3, c3, rfl⟩ := k1.slice
  obtain ⟨a4, c4, rfl⟩ := k2.slice
  clear h1 h2 k1 k2
  obtain ⟨W1, hW1⟩ : ∃ W1, W1 = (w.alloc (.cells #[.int .i64 v1, .slice a1 b1.length c1, .int .i64 v2, .slice a2 b2.length c2] 55)).alloc (.cells #[.int .i64 v1, .slice a3 b1.length c3, .int .i64 v2, .slice a4 b2.length c4] 55) := ⟨_, rfl⟩
  have hB1 : Below w.heap.size w W1 := by rw [hW1]; exact ((Below.refl _ _).alloc (Nat.le_refl _) _).alloc (by simp) _
  have p2 : W1.cell? ⟨w.heap.size, 2, none⟩ = some (.int .i64 v2) := by rw [hW1]; simp [go_sem]
  have p3 : W1.cell? ⟨w.heap.size, 3, none⟩ = some (.slice a2 b2.length c2) := by rw [hW1]; simp [go_sem]
  have r2 : W1.cell? ⟨w.heap.size + 1, 2, none⟩ = some (.int .i64 v2) := by rw [hW1]; simp [go_sem]
  have r3 : W1.cell? ⟨w.heap.size + 1, 3, none⟩ = some (.slice a4 b2.length c4) := by rw [hW1]; simp [go_sem]
  have hz1 : W1.heap.size = w.heap.size + 1 + 1 := by rw [hW1]; simp
  go_enter Try.func48, Try.ntmps48
  go_wp2_with fail
  rw [← hW1]
  refine (HC.out _ hB1).mono ?_
  rintro e w1 ⟨rfl, hb1⟩
  have p2 := (hb1.cell (p := ⟨w.heap.size, 2, none⟩) (show w.heap.size < W1.heap.size by omega)).trans p2
  have p3 := (hb1.cell (p := ⟨w.heap.size, 3, none⟩) (show w.heap.size < W1.heap.size by omega)).trans p3
  have r2 := (hb1.cell (p := ⟨w.heap.size + 1, 2, none⟩) (show w.heap.size + 1 < W1.heap.size by omega)).trans r2
  have r3 := (hb1.cell (p := ⟨w.heap.size + 1, 3, none⟩) (show w.heap.size + 1 < W1.heap.size by omega)).trans r3
  have hbw := hB1.trans (hb1.mono hB1.size)
  clear hb1 hW1 hB1 HC
  go_wp2_with fail
  refine (HD.out _ hbw).mono ?_
  rintro e w2 ⟨rfl, hb2⟩
  have hbw2 := hbw.trans (hb2.mono hbw.size)
  clear hb2
  go_wp2
  go_ret
  exact RV_of rfl hbw2
set_option maxRecDepth 100000 in
set_option maxHeartbeats 2000000 in
theorem toDesk_any (v1 v2 : Int) (s1 s2 : Value) (b1 b2 : List Blk) (w : World) (h1 : SB w s1 b1) (h2 : SB w s2 b2) : Calls Try.prog 53 #[.agg #[.int .i64 v1, s1, .int .i64 v2, s2]] w
    (fun e w' => ∃ t1 t2, e = .returned (.agg #[.int .i64 v1, t1, .int .i64 v2, t2]) ∧ OwnB w' w.heap.size t1 b1 ∧ OwnB w' w.heap.size t2 b2 ∧ Below w.heap.size w w') := by
  have HC := Lib.hid fun W (hb : Below w.heap.size w W) => toSystem_any v1 s1 b1 W (h1.below hb (Nat.le_refl _))
  have HD := Lib.hid fun W (hb : Below w.heap.size w W) => toSystem_any v2 s2 b2 W (h2.below hb (Nat.le_refl _))
  obtain ⟨a1, c1, rfl⟩ := h1.slice
  obtain ⟨a2, c2, rfl⟩ := h2.slice
  clear h1 h2
  obtain ⟨W1, hW1⟩ : ∃ W1, W1 = ((w.alloc (.cells #[.int .i64 v1, .slice a1 b1.length c1, .int .i64 v2, .slice a2 b2.length c2] 61)).alloc (.cells #[.int .i64 0, .slice none 0 0, .int .i64 0, .slice none 0 0] 55)).alloc (.cells #[.int .i64 0, .slice none 0 0, .int .i64 0, .slice none 0 0] 55) := ⟨_, rfl⟩
  have hB1 : Below w.heap.size w W1 := by rw [hW1]; exact (((Below.refl _ _).alloc (Nat.le_refl _) _).alloc (by simp) _).alloc (by simp <;> omega) _
  have hz1 : W1.heap.size = w.heap.size + 1 + 1 + 1 := by rw [hW1]; simp
  obtain ⟨P, hP⟩ : ∃ P, P = w.heap.size := ⟨_, rfl⟩
  obtain ⟨R, hR⟩ : ∃ R, R = w.heap.size + 1 := ⟨_, rfl⟩
  obtain ⟨S, hS⟩ : ∃ S, S = w.heap.size + 1 + 1 := ⟨_, rfl⟩
  have p2 : W1.cell? ⟨P, 2, none⟩ = some (.int .i64 v2) := by rw [hW1, hP]; simp [go_sem]
  have p3 : W1.cell? ⟨P, 3, none⟩ = some (.slice a2 b2.length c2) := by rw [hW1, hP]; simp [go_sem]
  have bR : W1.heap[R]? = some (.cells #[.int .i64 0, .slice none 0 0, .int .i64 0, .slice none 0 0] 55 (0, 0)) := by
    have := World.alloc_heap_new (w.alloc (.cells #[.int .i64 v1, .slice a1 b1.length c1, .int .i64 v2, .slice a2 b2.length c2] 61)) (.cells #[.int .i64 0, .slice none 0 0, .int .i64 0, .slice none 0 0] 55)
    rw [World.size_alloc] at this
    rw [hW1, hR, Below.heap_alloc _ _ _ (by simp)]
    exact this
  have bS : W1.heap[S]? = some (.cells #[.int .i64 0, .slice none 0 0, .int .i64 0, .slice none 0 0] 55 (0, 0)) := by
    have := World.alloc_heap_new ((w.alloc (.cells #[.int .i64 v1, .slice a1 b1.length c1, .int .i64 v2, .slice a2 b2.length c2] 61)).alloc (.cells #[.int .i64 0, .slice none 0 0, .int .i64 0, .slice none 0 0] 55)) (.cells #[.int .i64 0, .slice none 0 0, .int .i64 0, .slice none 0 0] 55)
    simp only [World.size_alloc] at this
    rw [hW1, hS]
    exact this
  go_enter Try.func53, Try.ntmps53
  go_wp2_with fail
  rw [← hW1]
  refine (HC.out W1 hB1).mono ?_
  rintro e w1 ⟨t1, rfl, ho1, hb1⟩
  have hB2 := hB1.trans (hb1.mono hB1.size)
  have p2 := (hb1.cell (p := ⟨P, 2, none⟩) (show P < W1.heap.size by omega)).trans p2
  have p3 := (hb1.cell (p := ⟨P, 3, none⟩) (show P < W1.heap.size by omega)).trans p3
  have bR := (hb1.block R (by omega)).trans bR
  have bS := (hb1.block S (by omega)).trans bS
  have hz2 := hb1.size
  clear hb1 hW1 hB1 HC
  rw [← hS, ← hR, ← hP]
  have hPR : P ≠ R := by omega
  have hPS : P ≠ S := by omega
  have hRS : R ≠ S := by omega
  have hRS1 : R < S + 1 := by omega
  have hPw : w.heap.size ≤ P := by omega
  have hRw : w.heap.size ≤ R := by omega
  have hSw : w.heap.size ≤ S := by omega
  have hSl : S < w1.heap.size := by omega
  have hRl : R < w1.heap.size := by omega
  have hPl : P < w1.heap.size := by omega
  have ho1 := ho1.mono (lo' := S + 1) (by omega)
  obtain ⟨g1, k1, rfl, o1, o2, o3, o4, o5⟩ := id ho1
  have s0 : w1.cell? ⟨S, 0, none⟩ = some (.int .i64 0) := by simp [World.cell?, bS]
  have s1 : w1.cell? ⟨S, 1, none⟩ = some (.slice none 0 0) := by simp [World.cell?, bS]
  have sf0 : w1.frozen? ⟨S, 0, none⟩ = false := by simp [World.frozen?, bS]
  have sf1 : w1.frozen? ⟨S, 1, none⟩ = false := by simp [World.frozen?, bS]
  clear hP hR hS
  obtain ⟨V, hV⟩ : ∃ V, V = (w1.setCell ⟨S, 0, none⟩ (.int .i64 v1)).setCell ⟨S, 1, none⟩ (.slice (some ⟨g1, 0, none⟩) b1.length k1) := ⟨_, rfl⟩
  have hBV : Below w.heap.size w V := by rw [hV]; exact (hB2.setCell (p := ⟨S, 0, none⟩) hSw _).setCell (p := ⟨S, 1, none⟩) hSw _
  have hgV : w1.grownBy V (some S) := by rw [hV]; exact (set_gbD w1 S 0 _).trans (set_gbD _ S 1 _)
  have bSV : V.heap[S]? = some (.cells #[.int .i64 v1, .slice (some ⟨g1, 0, none⟩) b1.length k1, .int .i64 0, .slice none 0 0] 55 (0, 0)) := by
    rw [hV]
    have := heap_setCell_same _ S 1 _ 55 (.slice (some ⟨g1, 0, none⟩) b1.length k1) (heap_setCell_same w1 S 0 _ 55 (.int .i64 v1) bS)
    simpa using this
  have bRV := (hgV.block R hRl (fun e => hRS (by cases e; rfl))).trans bR
  have p2V := hgV.cell p2 (fun e => hPS (by cases e; rfl))
  have p3V := hgV.cell p3 (fun e => hPS (by cases e; rfl))
  have hoV : OwnB V (S + 1) (.slice (some ⟨g1, 0, none⟩) b1.length k1) b1 := by rw [hV]; exact (ho1.setC (a := ⟨S, 0, none⟩) (by simp) _).setC (a := ⟨S, 1, none⟩) (by simp) _
  have hzV := hgV.size
  have HHV := Lib.hid (And.intro bSV (And.intro bRV hoV))
  clear hgV bR bS bSV bRV o1 o2 o3 o4 o5 hoV
  go_wp2_with fail
  rw [← hV]
  refine (HD.out V hBV).mono ?_
  rintro e w3 ⟨t2, rfl, ho2, hb3⟩
  have hB3 := hBV.trans (hb3.mono hBV.size)
  have bS3 := (hb3.block S (by omega)).trans HHV.out.1
  have bR3 := (hb3.block R (by omega)).trans HHV.out.2.1
  have ho13 := HHV.out.2.2.below hb3 (Nat.le_refl _)
  have ho2 := ho2.mono (lo' := S + 1) (by omega)
  obtain ⟨g2, k2, rfl, o1, o2, o3, o4, o5⟩ := id ho2
  clear hb3 HD hBV p2 p3 p2V p3V s0 s1 sf0 sf1 hV HHV hB2 ho1 o1 o2 o3 o4 o5
  have s2 : w3.cell? ⟨S, 2, none⟩ = some (.int .i64 0) := by simp [World.cell?, bS3]
  have s3 : w3.cell? ⟨S, 3, none⟩ = some (.slice none 0 0) := by simp [World.cell?, bS3]
  have s0 : w3.cell? ⟨S, 0, none⟩ = some (.int .i64 v1) := by simp [World.cell?, bS3]
  have s1 : w3.cell? ⟨S, 1, none⟩ = some (.slice (some ⟨g1, 0, none⟩) b1.length k1) := by simp [World.cell?, bS3]
  have sf2 : w3.frozen? ⟨S, 2, none⟩ = false := by simp [World.frozen?, bS3]
  have sf3 : w3.frozen? ⟨S, 3, none⟩ = false := by simp [World.frozen?, bS3]
  have r0 : w3.cell? ⟨R, 0, none⟩ = some (.int .i64 0) := by simp [World.cell?, bR3]
  have r1 : w3.cell? ⟨R, 1, none⟩ = some (.slice none 0 0) := by simp [World.cell?, bR3]
  have r2 : w3.cell? ⟨R, 2, none⟩ = some (.int .i64 0) := by simp [World.cell?, bR3]
  have r3 : w3.cell? ⟨R, 3, none⟩ = some (.slice none 0 0) := by simp [World.cell?, bR3]
  have rf0 : w3.frozen? ⟨R, 0, none⟩ = false := by simp [World.frozen?, bR3]
  have rf1 : w3.frozen? ⟨R, 1, none⟩ = false := by simp [World.frozen?, bR3]
  have rf2 : w3.frozen? ⟨R, 2, none⟩ = false := by simp [World.frozen?, bR3]
  have rf3 : w3.frozen? ⟨R, 3, none⟩ = false := by simp [World.frozen?, bR3]
  have HO1 := Lib.hid ho13
  have HO2 := Lib.hid ho2
  have HB3 := Lib.hid hB3
  clear bS3 bR3 ho13 ho2 hB3
  go_wp2
  have hSS1 : S < S + 1 := by omega
  have fin : ∀ {t : Value} {bs : List Blk}, OwnB w3 (S + 1) t bs → OwnB ((((((w3.setCell ⟨S, 2, none⟩ (.int .i64 v2)).setCell ⟨S, 3, none⟩ (.slice (some ⟨g2, 0, none⟩) b2.length k2)).setCell ⟨R, 0, none⟩ (.int .i64 v1)).setCell ⟨R, 1, none⟩ (.slice (some ⟨g1, 0, none⟩) b1.length k1)).setCell ⟨R, 2, none⟩ (.int .i64 v2)).setCell ⟨R, 3, none⟩ (.slice (some ⟨g2, 0, none⟩) b2.length k2)) w.heap.size t bs := fun h =>
    ((((((h.setC (a := ⟨S, 2, none⟩) hSS1 _).setC (a := ⟨S, 3, none⟩) hSS1 _).setC (a := ⟨R, 0, none⟩) hRS1 _).setC (a := ⟨R, 1, none⟩) hRS1 _).setC (a := ⟨R, 2, none⟩) hRS1 _).setC (a := ⟨R, 3, none⟩) hRS1 _).mono (by omega)
  have HF1 := Lib.hid (fin HO1.out)
  have HF2 := Lib.hid (fin HO2.out)
  clear fin
  refine bodyPost_ret (v := .agg #[.int .i64 v1, .slice (some ⟨g1, 0, none⟩) b1.length k1, .int .i64 v2, .slice (some ⟨g2, 0, none⟩) b2.length k2]) (by simp [results, Try.results53, go_sem, *]) rfl ⟨_, _, rfl, HF1.out, HF2.out, ?_⟩
  exact (((((HB3.out.setCell (p := ⟨S, 2, none⟩) hSw _).setCell (p := ⟨S, 3, none⟩) hSw _).setCell (p := ⟨R, 0, none⟩) hRw _).setCell (p := ⟨R, 1, none⟩) hRw _).setCell (p := ⟨R, 2, none⟩) hRw _).setCell (p := ⟨R, 3, none⟩) hRw _
end Go.Proofs.Ytoicdfdfajfopaa

namespace Go.Proofs.Ytoicdfdfajfopaa
open Go.RowKit Go.Maps
end Go.Proofs.Ytoicdfdfajfopaa

namespace Go.Proofs.Ytoicdfdfajfopaa
open Go.RowKit Go.Maps
set_option maxRecDepth 100000 in
set_option maxHeartbeats 2000000 in
theorem FnExactIsDesk_main (v1 : Int) (s1 : Value) (b1 : List Blk) (v2 : Int) (s2 : Value) (b2 : List Blk) (w : World) (h1 : InB w s1 b1) (h2 : InB w s2 b2) (hl : b1.length + b2.length ≤ 1048576) :
    Calls Try.prog 14 #[.agg #[.int .i64 v1, s1, .int .i64 v2, s2]] w (RV (.bool true) w) := by
  have hsz := szDesk_any v1 v2 s1 s2 b1.length b2.length h1.slice h2.slice (by omega) (by omega) 1048576 (by omega) (by omega)
  rw [if_neg (by omega)] at hsz
  obtain ⟨m, hm⟩ : ∃ m, m = (1048576 : Int) - ((b1.length + b2.length : Nat) : Int) := ⟨_, rfl⟩
  rw [← hm] at hsz
  have hmp : 0 ≤ m := by omega
  have HSZ := Lib.hid hsz
  have k1 := h1.sb (by omega)
  have k2 := h2.sb (by omega)
  have HTO := Lib.hid fun W (hb : Below w.heap.size w W) => toDesk_any v1 v2 s1 s2 b1 b2 W (k1.below hb (Nat.le_refl _)) (k2.below hb (Nat.le_refl _))
  have HW := Lib.hid (And.intro (And.intro k1.1 k1.2.1) (And.intro k2.1 k2.2.1))
  obtain ⟨β, hβ⟩ : ∃ β, β = dskB v1 b1 v2 b2 := ⟨_, rfl⟩
  have HSP := Lib.hid fun t1 t2 W (r1 : SB W t1 b1) (r2 : SB W t2 b2) => show Calls Try.prog 52 #[.agg #[.int .i64 v1, t1, .int .i64 v2, t2]] W (RV (.bool β) W) from by rw [hβ]; exact specIsDesk_any v1 v2 t1 t2 b1 b2 W r1 r2
  have HIM := Lib.hid fun t1 t2 W (r1 : SB W t1 b1) (r2 : SB W t2 b2) => show Calls Try.prog 54 #[.agg #[.int .i64 v1, t1, .int .i64 v2, t2]] W (RV (.bool β) W) from by rw [hβ]; exact IsDesk_any v1 v2 t1 t2 b1 b2 W r1 r2
  have hnb : (β != β) = false := by simp
  obtain ⟨a1, c1, rfl⟩ := h1.slice
  obtain ⟨a2, c2, rfl⟩ := h2.slice
  have hb0 := (Below.refl w.heap.size w).alloc (Nat.le_refl _) (.cells #[.int .i64 v1, .slice a1 b1.length c1, .int .i64 v2, .slice a2 b2.length c2] 61)
  clear hsz hm hβ h1 h2 hl k1 k2
  go_enter Try.func14, Try.ntmps14
  go_wp2_with fail
  refine (HSZ.out _).mono ?_
  rintro e w1 ⟨rfl, hb1⟩
  have q0 := cell_new hb1 0 rfl
  have q1 := cell_new hb1 1 rfl
  have q2 := cell_new hb1 2 rfl
  have q3 := cell_new hb1 3 rfl
  have hl1 := lt_new hb1
  have hB1 := below_new hb1
  clear hb1 hb0 HSZ
  go_wp2_with fail
  refine (HTO.out w1 hB1).mono ?_
  rintro e w2 ⟨t1, t2, rfl, o1, o2, hb2⟩
  obtain ⟨g1, k1, rfl, _⟩ := id o1
  obtain ⟨g2, k2, rfl, _⟩ := id o2
  have q0 := (hb2.cell (p := ⟨w.heap.size, 0, none⟩) hl1).trans q0
  have q1 := (hb2.cell (p := ⟨w.heap.size, 1, none⟩) hl1).trans q1
  have q2 := (hb2.cell (p := ⟨w.heap.size, 2, none⟩) hl1).trans q2
  have q3 := (hb2.cell (p := ⟨w.heap.size, 3, none⟩) hl1).trans q3
  have hB2 := hB1.trans (hb2.mono hB1.size)
  have hl2 := Nat.lt_of_lt_of_le hl1 hb2.size
  have H2 := Lib.hid (HSP.out _ _ w2 (o1.sb HW.out.1.1 HW.out.1.2) (o2.sb HW.out.2.1 HW.out.2.2))
  clear o1 o2 hb2 hB1 HSP
  go_wp2_with fail
  refine H2.out.mono ?_
  rintro e w3 ⟨rfl, hb3⟩
  have q0 := (hb3.cell (p := ⟨w.heap.size, 0, none⟩) hl2).trans q0
  have q1 := (hb3.cell (p := ⟨w.heap.size, 1, none⟩) hl2).trans q1
  have q2 := (hb3.cell (p := ⟨w.heap.size, 2, none⟩) hl2).trans q2
  have q3 := (hb3.cell (p := ⟨w.heap.size, 3, none⟩) hl2).trans q3
  have hB3 := hB2.trans (hb3.mono hB2.size)
  have hl3 := Nat.lt_of_lt_of_le hl2 hb3.size
  clear hb3 hB2 H2 hl1
  go_wp2_with fail
  refine (HTO.out w3 hB3).mono ?_
  rintro e w4 ⟨t3, t4, rfl, o3, o4, hb4⟩
  obtain ⟨g3, k3, rfl, _⟩ := id o3
  obtain ⟨g4, k4, rfl, _⟩ := id o4
  have q0 := (hb4.cell (p := ⟨w.heap.size, 0, none⟩) hl3).trans q0
  have q1 := (hb4.cell (p := ⟨w.heap.size, 1, none⟩) hl3).trans q1
  have q2 := (hb4.cell (p := ⟨w.heap.size, 2, none⟩) hl3).trans q2
  have q3 := (hb4.cell (p := ⟨w.heap.size, 3, none⟩) hl3).trans q3
  have hB4 := hB3.trans (hb4.mono hB3.size)
  have hl4 := Nat.lt_of_lt_of_le hl3 hb4.size
  obtain ⟨W5, hW5⟩ : ∃ W5, W5 = w4.alloc (.cells #[.int .i64 v1, .slice (some ⟨g3, 0, none⟩) b1.length k3, .int .i64 v2, .slice (some ⟨g4, 0, none⟩) b2.length k4] 55) := ⟨_, rfl⟩
  have hb5 : Below w4.heap.size w4 W5 := by rw [hW5]; exact (Below.refl _ _).alloc (Nat.le_refl _) _
  have hB5 := hB4.trans (hb5.mono hB4.size)
  have H5 := Lib.hid (And.intro ((o3.sb HW.out.1.1 HW.out.1.2).below hb5 (Nat.le_refl _)) ((o4.sb HW.out.2.1 HW.out.2.2).below hb5 (Nat.le_refl _)))
  have z0 : W5.cell? ⟨w4.heap.size, 0, none⟩ = some (.int .i64 v1) := by rw [hW5]; simp [go_sem]
  have z1 : W5.cell? ⟨w4.heap.size, 1, none⟩ = some (.slice (some ⟨g3, 0, none⟩) b1.length k3) := by rw [hW5]; simp [go_sem]
  have z2 : W5.cell? ⟨w4.heap.size, 2, none⟩ = some (.int .i64 v2) := by rw [hW5]; simp [go_sem]
  have z3 : W5.cell? ⟨w4.heap.size, 3, none⟩ = some (.slice (some ⟨g4, 0, none⟩) b2.length k4) := by rw [hW5]; simp [go_sem]
  have hz5 : W5.heap.size = w4.heap.size + 1 := by rw [hW5]; simp
  have q0 := (hb5.cell (p := ⟨w.heap.size, 0, none⟩) hl4).trans q0
  have q1 := (hb5.cell (p := ⟨w.heap.size, 1, none⟩) hl4).trans q1
  have q2 := (hb5.cell (p := ⟨w.heap.size, 2, none⟩) hl4).trans q2
  have q3 := (hb5.cell (p := ⟨w.heap.size, 3, none⟩) hl4).trans q3
  have H6 := Lib.hid (HIM.out _ _ W5 H5.out.1 H5.out.2)
  clear o3 o4 hb4 hb5 hB3 hB4 hl2 HIM
  go_wp2_with fail
  rw [← hW5]
  refine H6.out.mono ?_
  rintro e w6 ⟨rfl, hb6⟩
  have hl5 : w.heap.size < W5.heap.size := by omega
  have hz6 : w4.heap.size < W5.heap.size := by omega
  have q0 := (hb6.cell (p := ⟨w.heap.size, 0, none⟩) hl5).trans q0
  have q1 := (hb6.cell (p := ⟨w.heap.size, 1, none⟩) hl5).trans q1
  have q2 := (hb6.cell (p := ⟨w.heap.size, 2, none⟩) hl5).trans q2
  have q3 := (hb6.cell (p := ⟨w.heap.size, 3, none⟩) hl5).trans q3
  have z0 := (hb6.cell (p := ⟨w4.heap.size, 0, none⟩) hz6).trans z0
  have z1 := (hb6.cell (p := ⟨w4.heap.size, 1, none⟩) hz6).trans z1
  have z2 := (hb6.cell (p := ⟨w4.heap.size, 2, none⟩) hz6).trans z2
  have z3 := (hb6.cell (p := ⟨w4.heap.size, 3, none⟩) hz6).trans z3
  have HB6 := Lib.hid (hB5.trans (hb6.mono hB5.size))
  have H7 := Lib.hid (And.intro (H5.out.1.below hb6 (Nat.le_refl _)) (H5.out.2.below hb6 (Nat.le_refl _)))
  have hz7 : w4.heap.size < w6.heap.size := Nat.lt_of_lt_of_le hz6 hb6.size
  have hl7 : w.heap.size < w6.heap.size := Nat.lt_of_lt_of_le hl5 hb6.size
  clear hb6 hB5 H5 H6 hW5 hl3 hl4 hz5
  go_upto_region 10 with fail
  go_cut [26] (fun sq wx => sq = .bool false ∧ Hid (Below w.heap.size w wx))
  case first =>
    go_region_held3 (fun w' => w'.cell? ⟨w4.heap.size, 0, none⟩ = some (.int .i64 v1) ∧ w'.cell? ⟨w4.heap.size, 1, none⟩ = some (.slice (some ⟨g3, 0, none⟩) b1.length k3) ∧ w'.cell? ⟨w4.heap.size, 2, none⟩ = some (.int .i64 v2) ∧ w'.cell? ⟨w4.heap.size, 3, none⟩ = some (.slice (some ⟨g4, 0, none⟩) b2.length k4) ∧ w'.cell? ⟨w.heap.size, 0, none⟩ = some (.int .i64 v1) ∧ w'.cell? ⟨w.heap.size, 1, none⟩ = some (.slice a1 b1.length c1) ∧ w'.cell? ⟨w.heap.size, 2, none⟩ = some (.int .i64 v2) ∧ w'.cell? ⟨w.heap.size, 3, none⟩ = some (.slice a2 b2.length c2))
      (first | exact ⟨by assumption, by assumption, by assumption, by assumption, by assumption, by assumption, by assumption, by assumption⟩ | go_keep)
      (first
        | (go_at_call 53; refine (HTO.out _ (by first | exact HB6.out | exact HB6.out.drew)).mono ?_; rintro e w7 ⟨t5, t6, rfl, o5, o6, hb7⟩; have o51 := o5.sb HW.out.1.1 HW.out.1.2; have o61 := o6.sb HW.out.2.1 HW.out.2.2; obtain ⟨g5, k5, rfl, _⟩ := id o5; obtain ⟨g6, k6, rfl, _⟩ := id o6; have y0 := (show w7.cell? ⟨w4.heap.size, 0, none⟩ = some (.int .i64 v1) from (hb7.cell (p := ⟨w4.heap.size, 0, none⟩) hz7).trans z0); have y1 := (show w7.cell? ⟨w4.heap.size, 1, none⟩ = some (.slice (some ⟨g3, 0, none⟩) b1.length k3) from (hb7.cell (p := ⟨w4.heap.size, 1, none⟩) hz7).trans z1); have y2 := (show w7.cell? ⟨w4.heap.size, 2, none⟩ = some (.int .i64 v2) from (hb7.cell (p := ⟨w4.heap.size, 2, none⟩) hz7).trans z2); have y3 := (show w7.cell? ⟨w4.heap.size, 3, none⟩ = some (.slice (some ⟨g4, 0, none⟩) b2.length k4) from (hb7.cell (p := ⟨w4.heap.size, 3, none⟩) hz7).trans z3); have x0 := (show w7.cell? ⟨w.heap.size, 0, none⟩ = some (.int .i64 v1) from (hb7.cell (p := ⟨w.heap.size, 0, none⟩) hl7).trans q0); have x1 := (show w7.cell? ⟨w.heap.size, 1, none⟩ = some (.slice a1 b1.length c1) from (hb7.cell (p := ⟨w.heap.size, 1, none⟩) hl7).trans q1); have x2 := (show w7.cell? ⟨w.heap.size, 2, none⟩ = some (.int .i64 v2) from (hb7.cell (p := ⟨w.heap.size, 2, none⟩) hl7).trans q2); have x3 := (show w7.cell? ⟨w.heap.size, 3, none⟩ = some (.slice a2 b2.length c2) from (hb7.cell (p := ⟨w.heap.size, 3, none⟩) hl7).trans q3); have hz8 := (show w4.heap.size < w7.heap.size from Nat.lt_of_lt_of_le hz7 hb7.size); have hl8 := (show w.heap.size < w7.heap.size from Nat.lt_of_lt_of_le hl7 hb7.size); have HB7 := Lib.hid (show Below w.heap.size w w7 from by first | exact HB6.out.trans (hb7.mono HB6.out.size) | exact HB6.out.drew.trans (hb7.mono HB6.out.size)); have H8 := Lib.hid (show SB w7 (.slice (some ⟨g3, 0, none⟩) b1.length k3) b1 ∧ SB w7 (.slice (some ⟨g4, 0, none⟩) b2.length k4) b2 from by first | exact ⟨H7.out.1.below hb7 (Nat.le_refl _), H7.out.2.below hb7 (Nat.le_refl _)⟩ | exact ⟨SB.below (w := w6.drew) H7.out.1 hb7 (Nat.le_refl _), SB.below (w := w6.drew) H7.out.2 hb7 (Nat.le_refl _)⟩); have HO5 := Lib.hid (And.intro o51 o61); clear o5 o6 o51 o61 hb7)
        | (go_at_call 48; refine (eqDesk_same v1 v2 _ _ _ _ b1 b2 _ ?_ ?_ ?_ ?_).mono ?_; (exact H8.out.1); (exact H8.out.2); (exact HO5.out.1); (exact HO5.out.2); rintro e w8 ⟨rfl, hb8⟩; have m0 := (show w8.cell? ⟨w4.heap.size, 0, none⟩ = some (.int .i64 v1) from (hb8.cell (p := ⟨w4.heap.size, 0, none⟩) hz8).trans y0); have m1 := (show w8.cell? ⟨w4.heap.size, 1, none⟩ = some (.slice (some ⟨g3, 0, none⟩) b1.length k3) from (hb8.cell (p := ⟨w4.heap.size, 1, none⟩) hz8).trans y1); have m2 := (show w8.cell? ⟨w4.heap.size, 2, none⟩ = some (.int .i64 v2) from (hb8.cell (p := ⟨w4.heap.size, 2, none⟩) hz8).trans y2); have m3 := (show w8.cell? ⟨w4.heap.size, 3, none⟩ = some (.slice (some ⟨g4, 0, none⟩) b2.length k4) from (hb8.cell (p := ⟨w4.heap.size, 3, none⟩) hz8).trans y3); have n0 := (show w8.cell? ⟨w.heap.size, 0, none⟩ = some (.int .i64 v1) from (hb8.cell (p := ⟨w.heap.size, 0, none⟩) hl8).trans x0); have n1 := (show w8.cell? ⟨w.heap.size, 1, none⟩ = some (.slice a1 b1.length c1) from (hb8.cell (p := ⟨w.heap.size, 1, none⟩) hl8).trans x1); have n2 := (show w8.cell? ⟨w.heap.size, 2, none⟩ = some (.int .i64 v2) from (hb8.cell (p := ⟨w.heap.size, 2, none⟩) hl8).trans x2); have n3 := (show w8.cell? ⟨w.heap.size, 3, none⟩ = some (.slice a2 b2.length c2) from (hb8.cell (p := ⟨w.heap.size, 3, none⟩) hl8).trans x3); have HB8 := Lib.hid (show Below w.heap.size w w8 from HB7.out.trans (hb8.mono HB7.out.size)); clear hb8))
    all_goals
      go_wp2_with fail
      go_meet
      first | exact ⟨rfl, HB8⟩ | exact ⟨rfl, Lib.hid HB8.out.drew⟩
  case rest =>
    obtain ⟨rfl, HBZ⟩ := hcut
    go_wp2
    go_ret
    exact RV_of rfl HBZ.out
set_option maxRecDepth 100000 in
theorem FnExactIsDesk_long (v1 : Int) (s1 : Value) (b1 : List Blk) (v2 : Int) (s2 : Value) (b2 : List Blk) (w : World) (h1 : InB w s1 b1) (h2 : InB w s2 b2) (hl : ¬ b1.length + b2.length ≤ 1048576) :
    Calls Try.prog 14 #[.agg #[.int .i64 v1, s1, .int .i64 v2, s2]] w (RV (.bool true) w) := by
  have hbd1 := h1.2.1
  have hbd2 := h2.2.1
  have hsz := szDesk_any v1 v2 s1 s2 b1.length b2.length h1.slice h2.slice (by omega) (by omega) 1048576 (by omega) (by omega)
  rw [if_pos (by omega)] at hsz
  have HSZ := Lib.hid hsz
  obtain ⟨a1, c1, rfl⟩ := h1.slice
  obtain ⟨a2, c2, rfl⟩ := h2.slice
  clear hsz h1 h2 hl
  go_enter Try.func14, Try.ntmps14
  go_wp2_with fail
  refine (HSZ.out _).mono ?_
  rintro e w1 ⟨rfl, hb1⟩
  have hB1 := below_new hb1
  clear hb1
  go_wp2
  go_ret
  exact RV_of rfl hB1
theorem FnExactIsDesk_any (v1 : Int) (s1 : Value) (b1 : List Blk) (v2 : Int) (s2 : Value) (b2 : List Blk) (w : World) (h1 : InB w s1 b1) (h2 : InB w s2 b2) :
    Calls Try.prog 14 #[.agg #[.int .i64 v1, s1, .int .i64 v2, s2]] w (RV (.bool true) w) := by
  by_cases hl : b1.length + b2.length ≤ 1048576
  · exact FnExactIsDesk_main v1 s1 b1 v2 s2 b2 w h1 h2 hl
  · exact FnExactIsDesk_long v1 s1 b1 v2 s2 b2 w h1 h2 hl
end Go.Proofs.Ytoicdfdfajfopaa

namespace Go.Proofs.Ytoicdfdfajfopaa
open Go.ChangeShapes Go.WideShapes Go.ChangeAt Go.RowKit Go.Deep Go.Joins
theorem ownKnobs : ownKnob Try.prog.godebug = none := by kernel_rfl
section
variable {H : Type} {enc : TypeId × Value → H} {W : World} {base : Nat} {held : Bool}
theorem arrCells : Try.prog.cellsOf 70 = 3 := by kernel_rfl
set_option maxRecDepth 100000 in
theorem open_arr3 {fuel : Nat} {cs : List Value} {x : DataW H × List MemPlace} (h : DataW.trod enc Try.prog W base (fun _ => true) held fuel 70 cs = some x) :
    ∃ a b c : Int, cs = [.int .i64 a, .int .i64 b, .int .i64 c] ∧ (Lit.int .i64 a).wf = true ∧ (Lit.int .i64 b).wf = true ∧ (Lit.int .i64 c).wf = true := by
  obtain ⟨xs, m, rfl, rfl, hl, hx, hat⟩ := DataW.trod_array Try.underlying70 h
  rw [arrCells] at hl
  match cs, hl with
  | [c0, c1, c2], _ =>
    match xs, hx with
    | [x0, x1, x2], _ =>
      have h0 := hat 0 (by omega)
      have h1 := hat 1 (by omega)
      have h2 := hat 2 (by omega)
      rw [int64Cells] at h0 h1 h2
      simp at h0 h1 h2
      obtain ⟨a, ha, _, wa⟩ := DataW.trod_int Try.underlying2 h0
      obtain ⟨b, hb, _, wb⟩ := DataW.trod_int Try.underlying2 h1
      obtain ⟨c, hc, _, wc⟩ := DataW.trod_int Try.underlying2 h2
      simp at ha hb hc
      exact ⟨a, b, c, by rw [ha, hb, hc], wa, wb, wc⟩
theorem add_at (b off i : Nat) : (⟨b, off, none⟩ : Addr).add i = ⟨b, off + i, none⟩ := by
  unfold Addr.add
  split
  · subst_vars; rfl
  · rfl
set_option maxRecDepth 100000 in
theorem open_arrs {fuel : Nat} {s : Value} {x : DataW H × List MemPlace} (h : DataW.trod enc Try.prog W base (fun _ => true) held fuel 22 [s] = some x) : ∃ bs, InB W s bs := by
  rcases open_slice Try.underlying22 h with ⟨hcs, _⟩ | ⟨a, len, cap, m, n, D, Pl, hcs, hb, hl, hm, hmm, hx, hi⟩
  · simp at hcs
    exact ⟨[], by simp, by simp, .inl ⟨none, 0, hcs, rfl⟩⟩
  · simp at hcs
    subst hcs
    simp at hmm
    subst hmm
    have hm' : m ≤ 9223372036854775807 := by unfold maxLen at hm; exact hm
    by_cases h0 : len = 0
    · subst h0
      exact ⟨[], by simp, by simp, .inl ⟨_, _, rfl, rfl⟩⟩
    · have cell : ∀ i, i < m → ∃ y : Blk, WFB y ∧ ∀ j (v : Value), [Value.int .i64 y.a, Value.int .i64 y.b, Value.int .i64 y.c][j]? = some v → W.cell? (a.add (i * 3 + j)) = some v := fun i him => by
        obtain ⟨cs', hc, ht⟩ := hi i him
        obtain ⟨p, q, r, rfl, wp, wq, wr⟩ := open_arr3 ht
        rw [arrCells] at hc
        obtain ⟨_, _, hat⟩ := World.cells?_some hc
        refine ⟨⟨p, q, r⟩, ⟨wp, wq, wr⟩, fun j v hv => ?_⟩
        have hj : j < 3 := by
          have := (List.getElem?_eq_some_iff.1 hv).1
          simpa using this
        rw [← Go.Deep.add_add, hat j hj]
        exact hv
      obtain ⟨F, hF⟩ := choose_lt (α := Blk) cell
      obtain ⟨b, off, spot⟩ := a
      have hc0 := (hF 0 (by omega)).2 0 _ rfl
      have hspot : spot = none := by simpa [Addr.add] using World.cell?_spot hc0
      subst hspot
      refine ⟨(List.range len).map F, ?_, by simp; omega, .inr ⟨b, off, m, by simp, ?_, ?_⟩⟩
      · intro y hy
        obtain ⟨i, hi', rfl⟩ := List.mem_map.1 hy
        exact (hF i (by have := List.mem_range.1 hi'; omega)).1
      · exact block_lt_of_cell hc0
      · intro k hk
        simp at hk
        have e : ((List.range len).map F)[k]?.getD default = F k := by simp [hk]
        rw [e]
        have := (hF k (by omega)).2
        refine ⟨?_, ?_, ?_⟩
        · have h0 := this 0 _ rfl
          rw [add_at] at h0
          exact h0
        · have h1 := this 1 _ rfl
          rw [add_at, ← Nat.add_assoc] at h1
          exact h1
        · have h2 := this 2 _ rfl
          rw [add_at, ← Nat.add_assoc] at h2
          exact h2
theorem isSys : ∃ f0 f1 : Field, Try.prog.underlying 24 = some (.struct #[f0, f1]) ∧ f0.type = 2 ∧ f1.type = 22 ∧ oneCellFields Try.prog #[f0, f1] = true :=
  ⟨_, _, Try.underlying24, rfl, rfl, by kernel_rfl⟩
theorem sysCells : Try.prog.cellsOf 24 = 2 := by kernel_rfl
set_option maxRecDepth 100000 in
theorem open_system {r : Reach} {b0 : Nat} {v : Value} {d : DataW H} {p : List MemPlace} (hv : Value.okWide Try.prog W r b0 24 v) (h : DataW.Trod enc Try.prog W base (fun _ => true) held 24 v d p) :
    ∃ (n : Int) (s : Value) (bs : List Blk), v = .agg #[.int .i64 n, s] ∧ WF n ∧ InB W s bs := by
  obtain ⟨f0, f1, hu, e0, e1, hone⟩ := isSys
  obtain ⟨v0, v1, y0, y1, n, rfl, _, _, h0, h1⟩ := open_agg2 hu hone sysCells hv h
  rw [e0] at h0
  rw [e1] at h1
  obtain ⟨k, hk, _, wk⟩ := DataW.trod_int Try.underlying2 h0
  simp at hk
  subst hk
  obtain ⟨bs, hbs⟩ := open_arrs h1
  exact ⟨k, v1, bs, rfl, wk, hbs⟩
end
end Go.Proofs.Ytoicdfdfajfopaa

namespace Go.Proofs.Ytoicdfdfajfopaa
open Go.ChangeShapes Go.WideShapes Go.ChangeAt Go.RowKit Go.Deep Go.Joins
section
variable {H : Type} {enc : TypeId × Value → H} {W : World} {base : Nat} {held : Bool}
theorem isDsk : ∃ f0 f1 : Field, Try.prog.underlying 61 = some (.struct #[f0, f1]) ∧ f0.type = 24 ∧ f1.type = 24 ∧ f0.offset = 0 ∧ f1.offset = 2 :=
  ⟨_, _, Try.underlying61, rfl, rfl, rfl, rfl⟩
theorem dskCells : Try.prog.cellsOf 61 = 4 := by kernel_rfl
theorem isSysO : ∃ f0 f1 : Field, Try.prog.underlying 24 = some (.struct #[f0, f1]) ∧ f0.type = 2 ∧ f1.type = 22 ∧ f0.offset = 0 ∧ f1.offset = 1 :=
  ⟨_, _, Try.underlying24, rfl, rfl, rfl, rfl⟩
theorem cellsI : Try.prog.cellsOf 2 = 1 := by kernel_rfl
theorem cellsS : Try.prog.cellsOf 22 = 1 := by kernel_rfl
set_option maxRecDepth 100000 in
theorem open_sys2 {fuel : Nat} {c0 c1 : Value} {x : DataW H × List MemPlace} (h : DataW.trod enc Try.prog W base (fun _ => true) held fuel 24 [c0, c1] = some x) :
    ∃ (n : Int) (bs : List Blk), c0 = .int .i64 n ∧ InB W c1 bs := by
  obtain ⟨f0, f1, hu, e0, e1, o0, o1⟩ := isSysO
  obtain ⟨y0, y1, n, hx, _, h0, h1⟩ := trod_struct2 hu h
  rw [e0, o0, cellsI] at h0
  rw [e1, o1, cellsS] at h1
  have h0' : DataW.trod enc Try.prog W base (fun _ => true) held n 2 [c0] = some y0 := h0
  have h1' : DataW.trod enc Try.prog W base (fun _ => true) held n 22 [c1] = some y1 := h1
  obtain ⟨k, hk, _, wk⟩ := DataW.trod_int Try.underlying2 h0'
  simp at hk
  obtain ⟨bs, hbs⟩ := open_arrs h1'
  exact ⟨k, bs, hk, hbs⟩
set_option maxRecDepth 100000 in
theorem open_desk {r : Reach} {b0 : Nat} {v : Value} {d : DataW H} {p : List MemPlace} (hv : Value.okWide Try.prog W r b0 61 v) (h : DataW.Trod enc Try.prog W base (fun _ => true) held 61 v d p) :
    ∃ (n1 : Int) (s1 : Value) (b1 : List Blk) (n2 : Int) (s2 : Value) (b2 : List Blk), v = .agg #[.int .i64 n1, s1, .int .i64 n2, s2] ∧ InB W s1 b1 ∧ InB W s2 b2 := by
  obtain ⟨f0, f1, hu, e0, e1, o0, o1⟩ := isDsk
  obtain ⟨cs, rfl, hsz⟩ := okWide_struct hu hv
  obtain ⟨c0, c1, c2, c3, rfl⟩ := array4 (hsz.trans dskCells)
  obtain ⟨fuel, hf⟩ := h
  obtain ⟨y0, y1, n, hx, _, h0, h1⟩ := trod_struct2 hu hf
  rw [e0, o0, sysCells] at h0
  rw [e1, o1, sysCells] at h1
  have h0' : DataW.trod enc Try.prog W base (fun _ => true) held n 24 [c0, c1] = some y0 := h0
  have h1' : DataW.trod enc Try.prog W base (fun _ => true) held n 24 [c2, c3] = some y1 := h1
  obtain ⟨k0, b0, rfl, hb0⟩ := open_sys2 h0'
  obtain ⟨k1, b1, rfl, hb1⟩ := open_sys2 h1'
  exact ⟨k0, c1, b0, k1, c3, b1, rfl, hb0, hb1⟩
end
end Go.Proofs.Ytoicdfdfajfopaa

namespace Go.Proofs.Ytoicdfdfajfopaa
set_option maxRecDepth 100000 in
noncomputable def iniP : { L : List Char // Try.prog.initOrder = String.ofList L } := ⟨_, by unfold Try.prog; rfl⟩
theorem iniL : Try.prog.initOrder.toList = iniP.1 := (congrArg String.toList iniP.2).trans String.toList_ofList
theorem words_cons (c : Char) (r : List Char) (h : c ≠ Char.ofNat 32) : wordsSigns (c :: r) = match wordsSigns r with | w :: ws => (c :: w) :: ws | [] => [[c]] := by
  rw [wordsSigns]
  all_goals first | rfl | exact h | (intro e; exact h e)
theorem words_word : ∀ (a b : List Char), (a.all fun c => c != Char.ofNat 32) = true → wordsSigns (a ++ Char.ofNat 32 :: b) = a :: wordsSigns b
  | [], b, _ => rfl
  | c :: a, b, h => by
    simp only [List.all_cons, Bool.and_eq_true, bne_iff_ne, ne_eq] at h
    rw [List.cons_append, words_cons _ _ h.1, words_word a b (by simpa using h.2)]
set_option maxRecDepth 100000 in
theorem split1 : iniP.1 = iniP.1.take 7 ++ Char.ofNat 32 :: iniP.1.drop 8 := by kernel_rfl
set_option maxRecDepth 100000 in
theorem split2 : iniP.1.drop 8 = (iniP.1.drop 8).take 64 ++ Char.ofNat 32 :: iniP.1.drop 73 := by kernel_rfl
set_option maxRecDepth 100000 in
theorem split3 : iniP.1.drop 73 = (iniP.1.drop 73).take 3 ++ Char.ofNat 32 :: iniP.1.drop 77 := by kernel_rfl
theorem isCut : (iniP.1.drop 73).take 3 = "cut".toList := by kernel_rfl
set_option maxRecDepth 100000 in
theorem isHead : ((iniP.1.take 7 == "harness".toList || iniP.1.take 7 == "ownmain".toList) && isSumSigns ((iniP.1.drop 8).take 64)) = true := by kernel_rfl
theorem wordsL : wordsSigns iniP.1 = iniP.1.take 7 :: (iniP.1.drop 8).take 64 :: "cut".toList :: wordsSigns (iniP.1.drop 77) := by
  rw [← isCut]
  conv => lhs; rw [split1]
  rw [words_word _ _ (by kernel_rfl)]
  conv => lhs; rw [split2]
  rw [words_word _ _ (by kernel_rfl)]
  conv => lhs; rw [split3]
  rw [words_word _ _ (by kernel_rfl)]
theorem behindL : behindMainWord (wordsSigns Try.prog.initOrder.toList) = "cut".toList :: wordsSigns (iniP.1.drop 77) := by
  rw [iniL, wordsL]
  unfold behindMainWord
  simp only [isHead, if_true]
theorem stripL (ws : List (List Char)) : stripLifts liftWords ("cut".toList :: ws) = ([], "cut".toList :: ws) := by kernel_rfl
section
variable (P : Program) (ws : List (List Char)) (h : behindMainWord (wordsSigns P.initOrder.toList) = "cut".toList :: ws)
include h
theorem head_of : P.headLifts = [] := by
  unfold Program.headLifts
  rw [h]
  simp only [stripL]
  kernel_rfl
theorem make_of : P.make = some .cut := by
  unfold Program.make
  rw [h, head_of P ws h]
  kernel_rfl
theorem lifts_of : P.liftsFinal = false := by
  unfold Program.liftsFinal
  rw [h, head_of P ws h]
  kernel_rfl
theorem enter_of (h1 : P.laysLater = false) (h2 : P.bearsReflect = false) (h3 : P.doorFits [] = true) : P.mayEnter = true := by
  unfold Program.mayEnter
  rw [h]
  simp only [stripL]
  rw [h1, h2, h3]
  kernel_rfl
end
theorem mayE : Try.pinned.checked.prog.mayEnter = true := enter_of _ _ behindL (by kernel_rfl) (by kernel_rfl) (by kernel_rfl)
theorem liftsF : Try.pinned.checked.prog.liftsFinal = false := lifts_of _ _ behindL
theorem makeF : Try.pinned.checked.prog.make = some .cut := make_of _ _ behindL
theorem both {a b : Bool} (h : a = true) (k : b = true) : (a && b) = true := by rw [h, k]; rfl
end Go.Proofs.Ytoicdfdfajfopaa


/- The model's renumberings between two full systems. The model's answers over one full system's automorphisms: the code and the list. The model's number of automorphisms. The program's DegreesOf. The program's number of automorphisms. The codes of two systems, the program's and the model's. -/
import Derived.Test.YtoicdfdfajfopaaJ17
import Derived.Deep.RegionHeld3
namespace Go.Proofs.Ytoicdfdfajfopaa
open Go.RowKit Go.Maps
theorem btw_end {w Wf : World} {X g1 g2 n most : Nat} {ar : Bool} {bs1 bs2 : List Blk} (hb : Below w.heap.size w Wf) (hT : TabL Wf w.heap.size (.slice (some ⟨X, 0, none⟩) 0 0) [] []) (h1 : OwnJ Wf w.heap.size (.slice (some ⟨g1, 0, none⟩) 256 256) (tabT bs1)) (h2 : OwnJ Wf w.heap.size (.slice (some ⟨g2, 0, none⟩) 256 256) (tabT bs2)) :
    ∀ P W, P = Wf.heap.size → W = (Wf.alloc (.cells #[.slice (some ⟨g1, 0, none⟩) 256 256, .slice (some ⟨g2, 0, none⟩) 256 256, .int .i64 (n : Int), .int .i64 (most : Int), .slice (some ⟨X, 0, none⟩) 0 0, .bool ar] 107)).alloc (.cells #[] 2) →
      SeaS W P g1 g2 n most (.slice (some ⟨X, 0, none⟩) 0 0) ar ∧ TabL W w.heap.size (.slice (some ⟨X, 0, none⟩) 0 0) [] [] ∧ (Value.slice (some ⟨X, 0, none⟩) 0 0).ownBlock ≠ some P ∧ LstI P (.slice (some ⟨X, 0, none⟩) 0 0) W (.slice (some ⟨P + 1, 0, none⟩) 0 0) (castN []) ∧
      LstI P (.slice (some ⟨X, 0, none⟩) 0 0) W (.slice (some ⟨g1, 0, none⟩) 256 256) (tabT bs1) ∧ LstI P (.slice (some ⟨X, 0, none⟩) 0 0) W (.slice (some ⟨g2, 0, none⟩) 256 256) (tabT bs2) ∧ Below w.heap.size w W := by
  intro P W hPe hW
  subst hPe
  have hX := (hT.own.blkP X rfl).2
  have hbf : Below Wf.heap.size Wf W := by rw [hW]; exact ((Below.refl _ _).alloc (Nat.le_refl _) _).alloc (by simp) _
  have hne : ∀ {g : Nat} {zs : List Int}, OwnJ Wf w.heap.size (.slice (some ⟨g, 0, none⟩) 256 256) zs → X ≠ g := fun {g zs} h e => by
    subst e
    have a := hT.own.2
    have b := h.2
    rcases a with ⟨hv, _⟩ | ⟨x1, x2, cur1, hv1, _, hc1, _⟩
    · simp at hv
    rcases b with ⟨hv, _⟩ | ⟨y1, y2, cur2, hv2, _, hc2, _⟩
    · simp at hv
    simp at hv1 hv2
    obtain ⟨rfl, _⟩ := hv1
    obtain ⟨rfl, _⟩ := hv2
    rw [hc1] at hc2
    simp at hc2
  have hl : ∀ {g : Nat} {bs : List Blk}, OwnJ Wf w.heap.size (.slice (some ⟨g, 0, none⟩) 256 256) (tabT bs) → LstI Wf.heap.size (.slice (some ⟨X, 0, none⟩) 0 0) W (.slice (some ⟨g, 0, none⟩) 256 256) (tabT bs) := fun {g bs} h => by
    have hg := (h.blkP g rfl).2
    obtain ⟨i1, i2, i3, _⟩ := h.ints0 (by rw [tabT_len]; omega)
    exact ⟨g, 0, 256, by rw [tabT_len], by have := hbf.size; omega, by omega, fun e => hne h (by simpa [Value.ownBlock] using e), i1.below hbf i3⟩
  refine ⟨?_, hT.below hbf, ?_, ⟨Wf.heap.size + 1, 0, 0, rfl, by rw [hW]; simp, by omega, ?_, fun k hk => by simp [castN] at hk⟩, hl h1, hl h2, hb.trans (hbf.mono hb.size)⟩
  · unfold SeaS
    rw [hW, Below.heap_alloc _ _ _ (by simp), World.alloc_heap_new]
  · intro e
    have : X = Wf.heap.size := by simpa [Value.ownBlock] using e
    omega
  · intro e
    have : X = Wf.heap.size + 1 := by simpa [Value.ownBlock] using e
    omega
set_option maxRecDepth 100000 in
set_option maxHeartbeats 4000000 in
theorem l06Between_any (n most : Nat) (s1 s2 : Value) (bs1 bs2 : List Blk) (ar : Bool) (PP : List Nat → Bool) (w : World) (hs1 : SB w s1 bs1) (hs2 : SB w s2 bs2) (h1 : isSysImpl (n : Int) bs1 = true) (f1 : fullB (n : Int) bs1 = true) (h2 : isSysImpl (n : Int) bs2 = true) (f2 : fullB (n : Int) bs2 = true) (hm0 : 0 < most) (hmost : most ≤ 1000000)
    (hPP : (ar = false ∧ ∀ l, PP l = true) ∨ (ar = true ∧ ∀ (l : List Nat) s W, l.length = n → (∀ i ∈ l, i < n) → IA W s (castN l) → Calls Try.prog 118 #[s] W (RV (.bool (PP l)) W))) :
    Calls Try.prog 65 #[.agg #[.int .i64 (n : Int), s1], .agg #[.int .i64 (n : Int), s2], .int .i64 (most : Int), .bool ar] w (fun e w' => ∃ u us, e = .returned u ∧ TabL w' w.heap.size u us ((goS n (T3 bs1) (T3 bs2) PP most n [] []).map castN) ∧ (∃ a c, u = .slice a (goS n (T3 bs1) (T3 bs2) PP most n [] []).length c) ∧ Below w.heap.size w w') := by
  have hn15 : n ≤ 15 := by have := (sys_size h1).2.1; omega
  have HT1 := Lib.hid fun W (hb : Below w.heap.size w W) => l06Table_any n s1 bs1 W (hs1.below hb (Nat.le_refl _)) h1
  have HT2 := Lib.hid fun W (hb : Below w.heap.size w W) => l06Table_any n s2 bs2 W (hs2.below hb (Nat.le_refl _)) h2
  have hgo := fun P g1 g2 lo => l06Go_any P g1 g2 n most lo bs1 bs2 ar PP hn15 h1 f1 h2 f2 hmost hPP n []
  simp only [show ((mkN [] : Nat) : Int) = 0 from rfl] at hgo
  have HGO := Lib.hid hgo
  obtain ⟨a1, c1, rfl⟩ := hs1.slice
  obtain ⟨a2, c2, rfl⟩ := hs2.slice
  clear hs1 hs2 h1 f1 h2 f2 hPP hgo
  go_enter Try.func65, Try.ntmps65
  go_wp2
  obtain ⟨W0, hW0⟩ : ∃ W0, W0 = (w.alloc (.cells #[.int .i64 n, .slice a1 bs1.length c1] 31)).alloc (.cells #[.int .i64 n, .slice a2 bs2.length c2] 31) := ⟨_, rfl⟩
  have hB0 : Below w.heap.size w W0 := by rw [hW0]; exact ((Below.refl _ _).alloc (Nat.le_refl _) _).alloc (by simp) _
  have q0 : W0.cell? ⟨w.heap.size, 0, none⟩ = some (.int .i64 n) := by rw [hW0]; simp [go_sem]
  have q1 : W0.cell? ⟨w.heap.size, 1, none⟩ = some (.slice a1 bs1.length c1) := by rw [hW0]; simp [go_sem]
  have r0 : W0.cell? ⟨w.heap.size + 1, 0, none⟩ = some (.int .i64 n) := by rw [hW0]; simp [go_sem]
  have r1 : W0.cell? ⟨w.heap.size + 1, 1, none⟩ = some (.slice a2 bs2.length c2) := by rw [hW0]; simp [go_sem]
  have hz0 : W0.heap.size = w.heap.size + 1 + 1 := by rw [hW0]; simp
  rw [← hW0]
  clear hW0
  have HB0 := Lib.hid hB0
  have hx : w.heap.size < W0.heap.size := by omega
  have hy : w.heap.size + 1 < W0.heap.size := by omega
  clear hB0
  have HR0 := Lib.hid (Below.refl W0.heap.size W0)
  have HR0 := Lib.hid (Below.refl W0.heap.size W0)
  go_region_held3 (fun w' => w'.cell? ⟨w.heap.size, 0, none⟩ = some (.int .i64 (n : Int)) ∧ w'.cell? ⟨w.heap.size, 1, none⟩ = some (.slice a1 bs1.length c1) ∧ w'.cell? ⟨w.heap.size + 1, 0, none⟩ = some (.int .i64 (n : Int)) ∧ w'.cell? ⟨w.heap.size + 1, 1, none⟩ = some (.slice a2 bs2.length c2))
    (first | exact ⟨by assumption, by assumption, by assumption, by assumption⟩ | go_keep)
    (first
      | (go_at_call_of 97 (Value.slice a1 bs1.length c1); refine (HT1.out _ (by first | exact HB2.out | exact HB2.out.drew | exact HB2.out.alloc HB2.out.size _ | exact (HB2.out.alloc HB2.out.size _).drew | exact HB0.out.drew | exact HB0.out.drew.alloc HB0.out.size _ | exact HB0.out | exact HB0.out.alloc HB0.out.size _ | exact (HB0.out.alloc HB0.out.size _).drew)).mono ?_; rintro e w3 ⟨g1, rfl, ho1, hb1⟩; have HB1 := Lib.hid (show Below w.heap.size w w3 from by first | exact HB2.out.trans (hb1.mono HB2.out.size) | exact (HB2.out.alloc HB2.out.size _).trans (hb1.mono (HB2.out.alloc HB2.out.size _).size) | exact HB0.out.drew.trans (hb1.mono HB0.out.size) | exact (HB0.out.drew.alloc HB0.out.size _).trans (hb1.mono (HB0.out.drew.alloc HB0.out.size _).size) | exact (HB0.out.alloc HB0.out.size _).trans (hb1.mono (HB0.out.alloc HB0.out.size _).size) | exact HB0.out.trans (hb1.mono HB0.out.size)); have HR1 := Lib.hid (show Below W0.heap.size W0 w3 from by first | exact HR2.out.trans (hb1.mono HR2.out.size) | exact (HR2.out.alloc HR2.out.size _).trans (hb1.mono (HR2.out.alloc HR2.out.size _).size) | exact HR0.out.drew.trans (hb1.mono HR0.out.size) | exact (HR0.out.drew.alloc HR0.out.size _).trans (hb1.mono (HR0.out.drew.alloc HR0.out.size _).size) | exact (HR0.out.alloc HR0.out.size _).trans (hb1.mono (HR0.out.alloc HR0.out.size _).size) | exact HR0.out.trans (hb1.mono HR0.out.size)); have HO1 := Lib.hid (show OwnJ w3 w.heap.size (.slice (some ⟨g1, 0, none⟩) 256 256) (tabT bs1) from ownsRow_base ho1 (by first | exact HB2.out.size | exact HB0.out.size | (have := HB2.out.size; simp; omega) | (have := HB0.out.size; simp; omega))); (try (have HP2 := Lib.hid (show OwnJ w3 w.heap.size (.slice (some ⟨g2, 0, none⟩) 256 256) (tabT bs2) from by first | exact HO2.out.below hb1 (Nat.le_refl _) | exact (HO2.out.below ((Below.refl _ _).alloc (Nat.le_refl _) _) (Nat.le_refl _)).below hb1 (Nat.le_refl _)))); have HC1 := Lib.hid hb1; clear ho1; have E0 := (HR1.out.cell (p := ⟨w.heap.size, 0, none⟩) hx).trans q0; have E1 := (HR1.out.cell (p := ⟨w.heap.size, 1, none⟩) hx).trans q1; have E2 := (HR1.out.cell (p := ⟨w.heap.size + 1, 0, none⟩) hy).trans r0; have E3 := (HR1.out.cell (p := ⟨w.heap.size + 1, 1, none⟩) hy).trans r1; clear hb1)
      | (go_at_call_of 97 (Value.slice a2 bs2.length c2); refine (HT2.out _ (by first | exact HB1.out | exact HB1.out.drew | exact HB1.out.alloc HB1.out.size _ | exact (HB1.out.alloc HB1.out.size _).drew | exact HB0.out.drew | exact HB0.out.drew.alloc HB0.out.size _ | exact HB0.out | exact HB0.out.alloc HB0.out.size _ | exact (HB0.out.alloc HB0.out.size _).drew)).mono ?_; rintro e w4 ⟨g2, rfl, ho2, hb2⟩; have HB2 := Lib.hid (show Below w.heap.size w w4 from by first | exact HB1.out.trans (hb2.mono HB1.out.size) | exact (HB1.out.alloc HB1.out.size _).trans (hb2.mono (HB1.out.alloc HB1.out.size _).size) | exact HB0.out.drew.trans (hb2.mono HB0.out.size) | exact (HB0.out.drew.alloc HB0.out.size _).trans (hb2.mono (HB0.out.drew.alloc HB0.out.size _).size) | exact (HB0.out.alloc HB0.out.size _).trans (hb2.mono (HB0.out.alloc HB0.out.size _).size) | exact HB0.out.trans (hb2.mono HB0.out.size)); have HR2 := Lib.hid (show Below W0.heap.size W0 w4 from by first | exact HR1.out.trans (hb2.mono HR1.out.size) | exact (HR1.out.alloc HR1.out.size _).trans (hb2.mono (HR1.out.alloc HR1.out.size _).size) | exact HR0.out.drew.trans (hb2.mono HR0.out.size) | exact (HR0.out.drew.alloc HR0.out.size _).trans (hb2.mono (HR0.out.drew.alloc HR0.out.size _).size) | exact (HR0.out.alloc HR0.out.size _).trans (hb2.mono (HR0.out.alloc HR0.out.size _).size) | exact HR0.out.trans (hb2.mono HR0.out.size)); have HO2 := Lib.hid (show OwnJ w4 w.heap.size (.slice (some ⟨g2, 0, none⟩) 256 256) (tabT bs2) from ownsRow_base ho2 (by first | exact HB1.out.size | exact HB0.out.size | (have := HB1.out.size; simp; omega) | (have := HB0.out.size; simp; omega))); (try (have HP1 := Lib.hid (show OwnJ w4 w.heap.size (.slice (some ⟨g1, 0, none⟩) 256 256) (tabT bs1) from by first | exact HO1.out.below hb2 (Nat.le_refl _) | exact (HO1.out.below ((Below.refl _ _).alloc (Nat.le_refl _) _) (Nat.le_refl _)).below hb2 (Nat.le_refl _)))); have HC2 := Lib.hid hb2; clear ho2; have F0 := (HR2.out.cell (p := ⟨w.heap.size, 0, none⟩) hx).trans q0; have F1 := (HR2.out.cell (p := ⟨w.heap.size, 1, none⟩) hx).trans q1; have F2 := (HR2.out.cell (p := ⟨w.heap.size + 1, 0, none⟩) hy).trans r0; have F3 := (HR2.out.cell (p := ⟨w.heap.size + 1, 1, none⟩) hy).trans r1; clear hb2))
  · have hend := btw_end (n := n) (most := most) (ar := ar) (HB2.out.alloc HB2.out.size (.cells #[] 25)) (TabL.new0 w4 HB2.out.size) (HP1.out.below ((Below.refl _ _).alloc (Nat.le_refl _) _) (Nat.le_refl _)) (HO2.out.below ((Below.refl _ _).alloc (Nat.le_refl _) _) (Nat.le_refl _))
    go_wp2_with fail
    obtain ⟨W9, hW9⟩ : ∃ W, W = ((w4.alloc (.cells #[] 25)).alloc (.cells #[.slice (some ⟨g1, 0, none⟩) 256 256, .slice (some ⟨g2, 0, none⟩) 256 256, .int .i64 (n : Int), .int .i64 (most : Int), .slice (some ⟨w4.heap.size, 0, none⟩) 0 0, .bool ar] 107)).alloc (.cells #[] 2) := ⟨_, rfl⟩
    obtain ⟨e1, e2, e3, e4, e5, e6, e7⟩ := hend (w4.heap.size + 1) W9 (by first | rfl | simp) hW9
    rw [← hW9]
    clear hW9 hend
    have HC := Lib.hid (HGO.out _ g1 g2 w.heap.size _ _ [] [] W9 (by simp) (fun i hi => by cases hi) e1 e2 e3 (fun x hx => by cases hx) ⟨_, _, _, rfl, rfl⟩ e4 e5 e6 e7.size hm0)
    have HB9 := Lib.hid e7
    clear e1 e2 e3 e4 e5 e6 e7
    refine HC.out.mono ?_
    rintro e w9 ⟨⟨v9, rfl⟩, u9, us9, f1, f2, f3, f4, ⟨a9, m9, c9, rfl, f5⟩, f6⟩
    have hk4 := f1.cells.2.2.2.2.1
    have HF2 := Lib.hid f2
    have HF5 := Lib.hid f5
    have HF6 := Lib.hid (f6.below (lo := w.heap.size) (by first | exact HB2.out.size | (have := HB2.out.size; simp; omega)) (fun r e => by (have e : w4.heap.size = r := by simpa [Value.ownBlock] using e); subst e; first | exact HB2.out.size | exact HB1.out.size | exact HB0.out.size | omega) HB9.out.size)
    clear f1 f2 f3 f4 f5 f6
    go_wp2
    go_ret
    exact ⟨_, us9, rfl, HF2.out, ⟨a9, c9, by rw [HF5.out]; rfl⟩, HB9.out.trans (HF6.out.mono (Nat.le_refl _))⟩
  · have hend := btw_end (n := n) (most := most) (ar := ar) HB2.out ((TabL.new0 w3 HB1.out.size).below HC2.out) HP1.out HO2.out
    go_wp2_with fail
    obtain ⟨W9, hW9⟩ : ∃ W, W = (w4.alloc (.cells #[.slice (some ⟨g1, 0, none⟩) 256 256, .slice (some ⟨g2, 0, none⟩) 256 256, .int .i64 (n : Int), .int .i64 (most : Int), .slice (some ⟨w3.heap.size, 0, none⟩) 0 0, .bool ar] 107)).alloc (.cells #[] 2) := ⟨_, rfl⟩
    obtain ⟨e1, e2, e3, e4, e5, e6, e7⟩ := hend (w4.heap.size) W9 (by first | rfl | simp) hW9
    rw [← hW9]
    clear hW9 hend
    have HC := Lib.hid (HGO.out _ g1 g2 w.heap.size _ _ [] [] W9 (by simp) (fun i hi => by cases hi) e1 e2 e3 (fun x hx => by cases hx) ⟨_, _, _, rfl, rfl⟩ e4 e5 e6 e7.size hm0)
    have HB9 := Lib.hid e7
    clear e1 e2 e3 e4 e5 e6 e7
    refine HC.out.mono ?_
    rintro e w9 ⟨⟨v9, rfl⟩, u9, us9, f1, f2, f3, f4, ⟨a9, m9, c9, rfl, f5⟩, f6⟩
    have hk4 := f1.cells.2.2.2.2.1
    have HF2 := Lib.hid f2
    have HF5 := Lib.hid f5
    have HF6 := Lib.hid (f6.below (lo := w.heap.size) (by first | exact HB2.out.size | (have := HB2.out.size; simp; omega)) (fun r e => by (have e : w3.heap.size = r := by simpa [Value.ownBlock] using e); subst e; first | exact HB2.out.size | exact HB1.out.size | exact HB0.out.size | omega) HB9.out.size)
    clear f1 f2 f3 f4 f5 f6
    go_wp2
    go_ret
    exact ⟨_, us9, rfl, HF2.out, ⟨a9, c9, by rw [HF5.out]; rfl⟩, HB9.out.trans (HF6.out.mono (Nat.le_refl _))⟩
  · have hend := (by have h := btw_end (n := n) (most := most) (ar := ar) HB2.out ((((TabL.new0 W0 HB0.out.size).below ((Below.refl _ _).drew)).below HC1.out).below HC2.out) HP1.out HO2.out; rw [hz0] at h; exact h)
    go_wp2_with fail
    obtain ⟨W9, hW9⟩ : ∃ W, W = (w4.alloc (.cells #[.slice (some ⟨g1, 0, none⟩) 256 256, .slice (some ⟨g2, 0, none⟩) 256 256, .int .i64 (n : Int), .int .i64 (most : Int), .slice (some ⟨w.heap.size + 1 + 1, 0, none⟩) 0 0, .bool ar] 107)).alloc (.cells #[] 2) := ⟨_, rfl⟩
    obtain ⟨e1, e2, e3, e4, e5, e6, e7⟩ := hend (w4.heap.size) W9 (by first | rfl | simp) hW9
    rw [← hW9]
    clear hW9 hend
    have HC := Lib.hid (HGO.out _ g1 g2 w.heap.size _ _ [] [] W9 (by simp) (fun i hi => by cases hi) e1 e2 e3 (fun x hx => by cases hx) ⟨_, _, _, rfl, rfl⟩ e4 e5 e6 e7.size hm0)
    have HB9 := Lib.hid e7
    clear e1 e2 e3 e4 e5 e6 e7
    refine HC.out.mono ?_
    rintro e w9 ⟨⟨v9, rfl⟩, u9, us9, f1, f2, f3, f4, ⟨a9, m9, c9, rfl, f5⟩, f6⟩
    have hk4 := f1.cells.2.2.2.2.1
    have HF2 := Lib.hid f2
    have HF5 := Lib.hid f5
    have HF6 := Lib.hid (f6.below (lo := w.heap.size) (by first | exact HB2.out.size | (have := HB2.out.size; simp; omega)) (fun r e => by (have e : w.heap.size + 1 + 1 = r := by simpa [Value.ownBlock] using e); subst e; first | exact HB2.out.size | exact HB1.out.size | exact HB0.out.size | omega) HB9.out.size)
    clear f1 f2 f3 f4 f5 f6
    go_wp2
    go_ret
    exact ⟨_, us9, rfl, HF2.out, ⟨a9, c9, by rw [HF5.out]; rfl⟩, HB9.out.trans (HF6.out.mono (Nat.le_refl _))⟩
end Go.Proofs.Ytoicdfdfajfopaa

namespace Go.Proofs.Ytoicdfdfajfopaa
open Go.RowKit Go.Maps
theorem fullC_ok {v : Int} {bs : List Blk} (h : fullC v bs = 0) : isSysImpl v bs = true ∧ fullB v bs = true := by
  unfold fullC at h
  cases hi : isSysImpl v bs
  · simp [hi] at h
  · cases hf : fullB v bs
    · simp [hi, hf] at h
    · exact ⟨rfl, rfl⟩
set_option maxRecDepth 100000 in
theorem l06Code_one (B : Nat) (v : Int) (s : Value) (bs : List Blk) (w : World) (h : SB w s bs) (c0 : w.cell? ⟨B, 0, none⟩ = some (.int .i64 v)) (c1 : w.cell? ⟨B, 1, none⟩ = some s) :
    Calls Try.prog 64 #[.slice (some ⟨B, 0, none⟩) 1 1] w (RV (.int .i64 (fullC v bs)) w) := by
  have HC := Lib.hid (l01Is_any v s bs w h)
  have hs := h.slice
  have hlen := h.2.1
  have hlt := block_lt_of_cell c0
  clear h
  obtain ⟨a0, c, rfl⟩ := hs
  cases hi : isSysImpl v bs with
  | false =>
    have hv : fullC v bs = 1 := by simp [fullC, hi]
    rw [hv]
    rw [hi] at HC
    clear hv hi
    go_enter Try.func64, Try.ntmps64
    go_wp2
    refine wp_loop_rounds 2 ?_
    rw [rounds_succ]
    go_wp2_with fail
    refine HC.out.mono ?_
    rintro e w1 ⟨rfl, hb1⟩
    go_wp2
    go_ret
    exact RV_of rfl hb1
  | true =>
    obtain ⟨v3, v15, _⟩ := sys_size hi
    have HFL := Lib.hid fun W => l01Full_any v (.slice a0 bs.length c) bs W ⟨_, _, rfl⟩ v3 v15 hlen
    rw [hi] at HC
    obtain ⟨r, hr, hrc⟩ : ∃ r, fullB v bs = r ∧ fullC v bs = if r then 0 else 5 := ⟨_, rfl, by simp [fullC, hi]⟩
    rw [hr] at HFL
    rw [hrc]
    clear hi v3 v15 hr hrc
    obtain ⟨κ, hκ⟩ : ∃ κ : Int, κ = if r then 0 else 5 := ⟨_, rfl⟩
    rw [← hκ]
    have HK := Lib.hid hκ
    clear hκ
    go_enter Try.func64, Try.ntmps64
    go_wp2
    refine wp_loop_rounds 2 ?_
    rw [rounds_succ]
    go_wp2_with fail
    refine HC.out.mono ?_
    rintro e w1 ⟨rfl, hb1⟩
    have d0 := (hb1.cell (p := ⟨B, 0, none⟩) hlt).trans c0
    have d1 := (hb1.cell (p := ⟨B, 1, none⟩) hlt).trans c1
    clear HC
    go_wp2
    rw [rounds_succ]
    go_wp2
    refine wp_loop_rounds 2 ?_
    rw [rounds_succ]
    go_wp2_with fail
    refine (HFL.out _).mono ?_
    rintro e w2 ⟨rfl, hb2⟩
    have hbw := hb1.trans (hb2.mono hb1.size)
    cases r
    · obtain rfl : κ = 5 := HK.out
      go_wp2
      go_ret
      exact RV_of rfl hbw
    · obtain rfl : κ = 0 := HK.out
      go_wp2
      rw [rounds_succ]
      go_wp2
      go_ret
      exact RV_of rfl hbw
theorem TabL.base {W : World} {lo lo' : Nat} {u : Value} {us : List Value} {Rs : List (List Int)} (h : TabL W lo u us Rs) (hl : lo' ≤ lo) : TabL W lo' u us Rs :=
  ⟨ownsRow_base h.own hl, h.len, fun k x hx => (h.row k x hx).baseP hl, h.ne, h.inc⟩
/-- All automorphisms, as the model lists them. -/
def autL (n : Nat) (bs : List Blk) : List (List Int) := (goM n (T3 bs) (T3 bs) n []).map castN
theorem autL_iso (n : Nat) (bs : List Blk) : autL n bs = isoL n (T3 bs) (T3 bs) := rfl
set_option maxRecDepth 100000 in
theorem l06All_any (n : Nat) (s : Value) (bs : List Blk) (w : World) (hs : SB w s bs) (h : isSysImpl (n : Int) bs = true) (f : fullB (n : Int) bs = true) :
    Calls Try.prog 69 #[.agg #[.int .i64 (n : Int), s]] w (fun e w' => ∃ u us, e = .returned u ∧ TabL w' w.heap.size u us (autL n bs) ∧ (∃ a c, u = .slice a (autL n bs).length c) ∧ (autL n bs).length ≤ 50625 ∧ Below w.heap.size w w') := by
  have h3 := (sys_size h).1
  have h15 := (sys_size h).2.1
  have hT := thdS h f
  have hall := goS_all (most := 1000000) hT hT (by omega) (by omega) (by omega)
  have HL := Lib.hid (isoL_len (T1 := T3 bs) (T2 := T3 bs) hT hT (n := n) (by omega) (by omega))
  have hbt := fun W (hb : Below w.heap.size w W) => l06Between_any n 1000000 s s bs bs false (fun _ => true) W (hs.below hb (Nat.le_refl _)) (hs.below hb (Nat.le_refl _)) h f h f (by omega) (by omega) (.inl ⟨rfl, fun _ => rfl⟩)
  rw [hall] at hbt
  have HB := Lib.hid hbt
  obtain ⟨a0, c0, rfl⟩ := hs.slice
  clear hs h f hT hall hbt
  go_enter Try.func69, Try.ntmps69
  have hb0 := (Below.refl w.heap.size w).alloc (Nat.le_refl _) (.cells #[.int .i64 (n : Int), .slice a0 bs.length c0] 31)
  go_wp2_with fail
  refine (HB.out _ hb0).mono ?_
  rintro e w2 ⟨u, us, rfl, hT2, hf2, hb2⟩
  obtain ⟨a5, c5, rfl⟩ := hf2
  have HT := Lib.hid hT2
  clear hT2
  go_wp2
  go_ret
  exact ⟨_, us, rfl, HT.out.base (by simp), ⟨a5, c5, by simp [autL]⟩, HL.out, hb0.trans (hb2.mono (by simp))⟩
end Go.Proofs.Ytoicdfdfajfopaa

namespace Go.Proofs.Ytoicdfdfajfopaa
open Go.RowKit Go.Maps
def autV (v : Int) (bs : List Blk) : Value := if fullC v bs = 0 then .tuple #[.int .i64 ((autL v.toNat bs).length : Int), .int .i64 0] else .tuple #[.int .i64 0, .int .i64 (fullC v bs)]
theorem fullC_or (v : Int) (bs : List Blk) : fullC v bs = 0 ∨ fullC v bs = 5 ∨ fullC v bs = 1 := by
  unfold fullC
  cases isSysImpl v bs
  · simp
  · cases fullB v bs <;> simp
set_option maxRecDepth 100000 in
theorem specCountAut_any (v : Int) (s : Value) (bs : List Blk) (w : World) (h : SB w s bs) : Calls Try.prog 29 #[.agg #[.int .i64 v, s]] w (RV (autV v bs) w) := by
  have HFC := Lib.hid fun (B : Nat) W (hb : Below w.heap.size w W) c0 c1 => l06Code_one B v s bs W (h.below hb (Nat.le_refl _)) c0 c1
  have hs := h.slice
  have hb0 : Below w.heap.size w ((w.alloc (.cells #[.int .i64 v, s] 31)).alloc (.cells #[.int .i64 v, s] 31)) := ((Below.refl _ _).alloc (Nat.le_refl _) _).alloc (by simp) _
  by_cases hc : fullC v bs = 0
  · have HV := Lib.hid (show autV v bs = .tuple #[.int .i64 ((autL v.toNat bs).length : Int), .int .i64 0] by simp [autV, hc])
    obtain ⟨hi, hf⟩ := fullC_ok hc
    obtain ⟨n, rfl⟩ : ∃ n : Nat, v = (n : Int) := ⟨v.toNat, by have := (sys_size hi).1; omega⟩
    have HA := Lib.hid fun W (hb : Below w.heap.size w W) => l06All_any n s bs W (h.below hb (Nat.le_refl _)) hi hf
    rw [hc] at HFC
    rw [HV.out, Int.toNat_natCast]
    obtain ⟨m, hm⟩ : ∃ m, m = (autL n bs).length := ⟨_, rfl⟩
    rw [← hm]
    have HM := Lib.hid hm
    clear hi hf h hc hm
    obtain ⟨a0, c0, rfl⟩ := hs
    have HFI := Lib.hid (HFC.out (w.heap.size + 1) _ hb0 (by simp [go_sem]) (by simp [go_sem]))
    go_enter Try.func29, Try.ntmps29
    go_wp2_with fail
    refine HFI.out.mono ?_
    rintro e w1 ⟨rfl, hb1⟩
    have q0 : w1.cell? ⟨w.heap.size, 0, none⟩ = some (.int .i64 (n : Int)) := (hb1.cell (p := ⟨w.heap.size, 0, none⟩) (by simp <;> omega)).trans (by simp [go_sem])
    have q1 : w1.cell? ⟨w.heap.size, 1, none⟩ = some (.slice a0 bs.length c0) := (hb1.cell (p := ⟨w.heap.size, 1, none⟩) (by simp <;> omega)).trans (by simp [go_sem])
    have hbw := hb0.trans (hb1.mono (by simp <;> omega))
    clear hb1 HFI
    go_wp2_with fail
    refine (HA.out _ hbw).mono ?_
    rintro e w2 ⟨u, us, rfl, hT, hu, hle, hb2⟩
    obtain ⟨a5, c5, rfl⟩ := hu
    rw [← HM.out] at hle ⊢
    have hz := hbw.size
    clear hT
    go_wp2
    go_ret2
    exact RV_of rfl (hbw.trans (hb2.mono hz))
  · have HV := Lib.hid (show autV v bs = .tuple #[.int .i64 0, .int .i64 (fullC v bs)] by simp [autV, hc])
    rw [HV.out]
    obtain ⟨k, hk⟩ : ∃ k, k = fullC v bs := ⟨_, rfl⟩
    rw [← hk] at HFC hc ⊢
    have hk0 : (k == 0) = false := by simpa using hc
    have hk1 : (k != 0) = true := by simpa using hc
    clear h hk
    obtain ⟨a0, c0, rfl⟩ := hs
    have HFI := Lib.hid (HFC.out (w.heap.size + 1) _ hb0 (by simp [go_sem]) (by simp [go_sem]))
    go_enter Try.func29, Try.ntmps29
    go_wp2_with fail
    refine HFI.out.mono ?_
    rintro e w1 ⟨rfl, hb1⟩
    have hbw := hb0.trans (hb1.mono (by simp <;> omega))
    clear hb1 HFI
    go_wp2
    go_ret2
    exact RV_of rfl hbw
end Go.Proofs.Ytoicdfdfajfopaa

namespace Go.Proofs.Ytoicdfdfajfopaa
open Go.RowKit Go.Maps Go.Shelf
attribute [local go_sem] Oper.semAt_some
end Go.Proofs.Ytoicdfdfajfopaa

namespace Go.Proofs.Ytoicdfdfajfopaa
open Go.RowKit Go.Maps Go.Shelf
attribute [local go_sem] Oper.semAt_some
/-- All renumberings between two full systems, in the program's order. -/
def renL (n : Nat) (T1 T2 : Nat → Nat → Nat) : List (List (Option Nat)) := rens n T1 T2 n (nonR n)
theorem encM_R (m : List (Option Nat)) : encM m = encR m := by
  unfold encM encR
  refine List.map_congr_left fun x _ => ?_
  cases x <;> rfl
theorem renL_enc {n : Nat} {T1 T2 : Nat → Nat → Nat} (h1 : Thd n T1) (h2 : Thd n T2) : (renL n T1 T2).map encM = isoL n T1 T2 := by
  rw [← rens_goM h1 h2]
  exact List.map_congr_left fun x _ => encM_R x
theorem renL_aut {n : Nat} {bs : List Blk} (h : isSysImpl (n : Int) bs = true) (hf : fullB (n : Int) bs = true) : (renL n (T3 bs) (T3 bs)).map encM = autL n bs := renL_enc (thdS h hf) (thdS h hf)
theorem renL_len {n : Nat} {bs : List Blk} (h : isSysImpl (n : Int) bs = true) (hf : fullB (n : Int) bs = true) : (renL n (T3 bs) (T3 bs)).length = (autL n bs).length := by rw [← renL_aut h hf, List.length_map]
/-- The iterator's contract, out of what it holds. -/
theorem RenD.seq {W : World} {lo n Bi Bt Bf : Nat} {v : Value} {T1 T2 : Nat → Nat → Nat} {E : Nat → Prop} (h : RenD W lo n Bi Bt Bf v T1 T2) (h1 : Thd n T1) (h2 : Thd n T2) (hn1 : 1 < n) (hn : n ≤ 15) (hE : ∀ i, E i → i < lo) (hlo : lo ≤ W.heap.size) (k : Nat) :
    ∀ W', Below W.heap.size W W' → SeqR Fence.wide k Try.prog 121 #[.pointer (some ⟨Bi, 0, none⟩), .pointer (some ⟨Bt, 0, none⟩), .pointer (some ⟨Bf, 0, none⟩)] (RenR E n T1 T2) E (fun xs => xs = renL n T1 T2) (fun pre => pre <+: renL n T1 T2) (renL n T1 T2).length lo W' := fun W' hb => by
  have hck : CK E W W' := CK.of_below hb
  have hO : OwnE W E lo v (encM (nonR n)) := ⟨h.2.2.1, fun r e he => by have := (h.2.2.1.blkP r e).1; have := hE r he; omega⟩
  have hEi : ¬ E Bi := fun e => by have := hE _ e; have := h.2.1; omega
  exact (ren_any n E T1 T2 h1 h2 hn1 hn n (nonR n) lo Bi Bt Bf v W' (cl_non) (Nat.le_of_eq unk_non) (hck.boxed h.1 hEi) hEi (hO.ck hck) ((h.2.2.2.1.fewer hE).ck hck) ((h.2.2.2.2.fewer hE).ck hck) (fun i e => by have := hE i e; have := hb.size; omega) (Nat.le_trans hlo hb.size)).any
set_option maxRecDepth 100000 in
set_option maxHeartbeats 4000000 in
theorem CountAut_main (n : Nat) (s : Value) (bs : List Blk) (w : World) (h : SB w s bs) (hi : isSysImpl (n : Int) bs = true) (hf : fullB (n : Int) bs = true) : Calls Try.prog 30 #[.agg #[.int .i64 (n : Int), s]] w (RV (.tuple #[.int .i64 ((autL n bs).length : Int), .int .i64 0]) w) := by
  have h3 := (sys_size hi).1
  have h15 := (sys_size hi).2.1
  have hb0 : Below w.heap.size w ((w.alloc (.cells #[.int .i64 (n : Int), s] 31)).alloc (.cells #[.int .i64 (n : Int), s] 31)) := ((Below.refl _ _).alloc (Nat.le_refl _) _).alloc (by simp) _
  have HA := Lib.hid fun W (hb : Below w.heap.size w W) => automorphisms_any n s bs W (h.below hb (Nat.le_refl _)) hi hf
  have hc0 : fullC (n : Int) bs = 0 := by simp [fullC, hi, hf]
  have hfc := fun W hb B c0 c1 => fullCode_one B (n : Int) s bs W (h.below (w' := W) hb (Nat.le_refl _)) c0 c1
  rw [hc0] at hfc
  have HFI := Lib.hid (hfc _ hb0 (w.heap.size + 1) (by obtain ⟨a0, c0, rfl⟩ := h.slice; simp [go_sem]) (by obtain ⟨a0, c0, rfl⟩ := h.slice; simp [go_sem]))
  have HT := Lib.hid (thdS hi hf)
  rw [← renL_len hi hf]
  obtain ⟨m, hm⟩ : ∃ m, m = (renL n (T3 bs) (T3 bs)).length := ⟨_, rfl⟩
  rw [← hm]
  have HM := Lib.hid hm
  have hml : m ≤ 50625 := by
    have := isoL_len (T1 := T3 bs) (T2 := T3 bs) (thdS hi hf) (thdS hi hf) (n := n) (by omega) (by omega)
    rw [← renL_enc (thdS hi hf) (thdS hi hf), List.length_map] at this
    omega
  obtain ⟨a0, c0, rfl⟩ := h.slice
  clear h hi hf hfc hc0 hm
  have hro : Fence.wide.round = none := rfl
  refine (callsIn_wide (n := 9)).1 ?_
  refine callsIn_of_wp_marks Try.func30 rfl trivial ?_ hro
  simp only [Try.ntmps30, List.size_toArray, List.length_cons, List.length_nil, Nat.reduceAdd, Nat.reduceSub, Array.replicate_succ, Array.replicate_zero, List.push_toArray, List.append_toArray, List.nil_append, List.cons_append]
  gi_wp2_with (first
    | (refine ⟨trivial, ?_⟩; gi_at_call 66; refine (callsIn_wide.2 HFI.out).mono ?_; rintro e w1 ⟨rfl, hb1⟩; have hbw := hb0.trans (hb1.mono (by simp <;> omega)); have q0 := (show w1.cell? ⟨w.heap.size, 0, none⟩ = some (.int .i64 (n : Int)) from (hb1.cell (p := ⟨w.heap.size, 0, none⟩) (by simp <;> omega)).trans (by simp [go_sem])); have q1 := (show w1.cell? ⟨w.heap.size, 1, none⟩ = some (.slice a0 bs.length c0) from (hb1.cell (p := ⟨w.heap.size, 1, none⟩) (by simp <;> omega)).trans (by simp [go_sem])); have hz1 := (show w.heap.size < w1.heap.size from by have := hb1.size; simp at this; omega); clear hb1))
  obtain ⟨w2, hw2⟩ : ∃ w2, w2 = w1.alloc (.cells #[.int .i64 0] 2) := ⟨_, rfl⟩
  have hB2 : Below w.heap.size w w2 := by rw [hw2]; exact hbw.alloc hbw.size _
  have hx2 : Boxed w2 w1.heap.size 2 (.int .i64 0) := by rw [hw2]; exact Boxed.new w1 _ _
  have hz2 : w2.heap.size = w1.heap.size + 1 := by rw [hw2]; simp
  rw [← hw2]
  clear hw2 hbw q0 q1 hb0 HFI
  refine ⟨trivial, (callsIn_wide.2 (HA.out w2 hB2)).mono ?_⟩
  rintro e w3 ⟨Bi, Bt, Bf, v, rfl, hD, hb3⟩
  have hx3 : Boxed w3 w1.heap.size 2 (.int .i64 0) := (hb3.block w1.heap.size (by omega)).trans hx2
  have hB3 := hB2.trans (hb3.mono hB2.size)
  have hz3 := hb3.size
  clear hx2 hB2 HA
  have HSQ := Lib.hid (hD.seq (E := fun i => i = w1.heap.size) HT.out HT.out (by omega) (by omega) (fun i e => by omega) hz3 (9 - 1))
  clear hD hb3 HT
  gi_wp2
  refine wpIn_rangeFunc_R hro (by omega) (gf := 121) (lb := #[.pointer (some ⟨Bi, 0, none⟩), .pointer (some ⟨Bt, 0, none⟩), .pointer (some ⟨Bf, 0, none⟩)]) rfl trivial (enters_of Try.func121 (by kernel_rfl) rfl) rfl (fun i e => by omega) HSQ.out
    (fun pre _ W => Boxed W w1.heap.size 2 (.int .i64 (pre.length : Int)) ∧ Below w.heap.size w W)
    (fun _ _ _ _ => False)
    (fun pre k u X Y row hs hg hr => ⟨hs.1.kept hg (fun e => by have := (hr _ e.symm).1; omega), hs.2.grown hg hs.2.size (fun r e => by have := (hr r e).1; omega)⟩)
    (fun _ _ _ _ _ _ _ hs _ _ => hs)
    ⟨hx3, hB3⟩
    (fun x k vx a' W' => (∃ (y0 y1 y2 y3 y4 y6 y7 y8 y9 y10 y11 y12 y13 y14 y15 y16 y17 : Value), a' = { tmps := #[y0, y1, y2, y3, y4, .pointer (some ⟨w1.heap.size, 0, none⟩), y6, y7, y8, y9, y10, y11, y12, y13, y14, y15, y16, y17], defers := [] }))
    (fun x k vx a' u X Y row hs hg hr => hs) ?assign ?body ?done ?stop
  case assign =>
    intro l' pre x k vx W' K hi hRx hK
    simp only [List.zip_toArray, List.zip_cons_cons, List.zip_nil_right, List.size_toArray, List.length_cons, List.length_nil, List.foldl_toArray', List.foldl_cons, List.foldl_nil, List.setIfInBounds_toArray, List.set_cons_succ, List.set_cons_zero]
    gi_wp2
    exact hK _ _ (Kept.refl _ _ _) hi ⟨_, _, _, _, _, _, _, _, _, _, _, _, _, _, _, _, _, rfl⟩
  case body =>
    rintro l' pre x k vx a' W' hl' hloop ⟨i1, i2⟩ ⟨y0, y1, y2, y3, y4, y6, y7, y8, y9, y10, y11, y12, y13, y14, y15, y16, y17, rfl⟩ hlen
    have x1 := i1.cell
    have hfz := i1.frozen
    rw [← HM.out] at hlen
    have hwr : IntKind.i64.wrap ((pre.length : Int) + 1) = (pre.length : Int) + 1 := IntWalk.i64_in _ (by omega)
    have hKK : Kept w3.heap.size (fun i => i = w1.heap.size) W' (W'.setCell ⟨w1.heap.size, 0, none⟩ (.int .i64 ((pre.length : Int) + 1))) := Kept.grown (set_gb W' w1.heap.size 0 _) (fun r e => by cases e; rfl)
    have hI2 : Boxed (W'.setCell ⟨w1.heap.size, 0, none⟩ (.int .i64 ((pre.length : Int) + 1))) w1.heap.size 2 (.int .i64 ((pre ++ [x]).length : Int)) ∧ Below w.heap.size w (W'.setCell ⟨w1.heap.size, 0, none⟩ (.int .i64 ((pre.length : Int) + 1))) := by
      refine ⟨?_, i2.setCell (p := ⟨w1.heap.size, 0, none⟩) (Nat.le_of_lt hz1) _⟩
      rw [show ((pre ++ [x]).length : Int) = (pre.length : Int) + 1 by simp]
      exact i1.set _
    have HKK := Lib.hid hKK
    have HI2 := Lib.hid hI2
    clear hKK hI2 HSQ i2 hx3 hB3
    gi_wp2
    exact ⟨HKK.out, HI2.out⟩
  case done =>
    rintro D ys k W' hD hys ⟨i1, i2⟩ hK
    have x1 := i1.cell
    rw [hys, ← HM.out] at x1
    have hM5 : Marks w.heap.size W' W'.heap.size [{ target := .collected D, args := #[] }] := ⟨D, rfl, by omega, (Array.getElem?_eq_some_iff.1 hK).1, hK, trivial⟩
    clear HSQ hx3 hB3 i1 hK
    gi_wp2
    refine leaves_marks (n0 := w.heap.size) (fun W => Below w.heap.size w W) ?_ ?_ _ W'.heap.size W' hM5 i2
    · rintro W D h2 hD hK
      exact h2.trans (belowK_b (w := w) (Nat.le_refl _) W D _ _ hD hK rfl rfl)
    · rintro W h2
      exact ⟨_, by simp [results, Try.f30, go_sem], RV_of rfl h2⟩
  case stop =>
    rintro D c pre k W' hD hSp h hK
    exact h.elim
set_option maxRecDepth 100000 in
theorem CountAut_any (v : Int) (s : Value) (bs : List Blk) (w : World) (h : SB w s bs) : Calls Try.prog 30 #[.agg #[.int .i64 v, s]] w (RV (autV v bs) w) := by
  by_cases hc : fullC v bs = 0
  · obtain ⟨hi, hf⟩ := fullC_ok hc
    obtain ⟨n, rfl⟩ : ∃ n : Nat, v = (n : Int) := ⟨v.toNat, by have := (sys_size hi).1; omega⟩
    have := CountAut_main n s bs w h hi hf
    unfold autV
    rw [if_pos hc, Int.toNat_natCast]
    exact this
  · have HV := Lib.hid (show autV v bs = .tuple #[.int .i64 0, .int .i64 (fullC v bs)] by simp [autV, hc])
    rw [HV.out]
    have HFC := Lib.hid fun (B : Nat) W (hb : Below w.heap.size w W) c0 c1 => fullCode_one B v s bs W (h.below hb (Nat.le_refl _)) c0 c1
    have hb0 : Below w.heap.size w ((w.alloc (.cells #[.int .i64 v, s] 31)).alloc (.cells #[.int .i64 v, s] 31)) := ((Below.refl _ _).alloc (Nat.le_refl _) _).alloc (by simp) _
    obtain ⟨k, hk⟩ : ∃ k, k = fullC v bs := ⟨_, rfl⟩
    rw [← hk] at HFC hc ⊢
    have hk0 : (k == 0) = false := by simpa using hc
    have hk1 : (k != 0) = true := by simpa using hc
    obtain ⟨a0, c0, rfl⟩ := h.slice
    clear h hk
    have HFI := Lib.hid (HFC.out (w.heap.size + 1) _ hb0 (by simp [go_sem]) (by simp [go_sem]))
    go_enter Try.func30, Try.ntmps30
    go_wp2_with fail
    refine HFI.out.mono ?_
    rintro e w1 ⟨rfl, hb1⟩
    have hbw := hb0.trans (hb1.mono (by simp <;> omega))
    clear hb1 HFI
    go_wp2
    go_ret2
    exact RV_of rfl hbw
end Go.Proofs.Ytoicdfdfajfopaa

namespace Go.Proofs.Ytoicdfdfajfopaa
open Go.RowKit Go.Maps
def code2 (v1 : Int) (bs1 : List Blk) (v2 : Int) (bs2 : List Blk) : Int := if isSysImpl v1 bs1 && isSysImpl v2 bs2 then (if fullB v1 bs1 && fullB v2 bs2 then 0 else 5) else 1
theorem code2_of (v1 : Int) (bs1 : List Blk) (v2 : Int) (bs2 : List Blk) : code2 v1 bs1 v2 bs2 = if fullC v1 bs1 = 1 then 1 else if fullC v2 bs2 = 1 then 1 else if fullC v1 bs1 = 0 ∧ fullC v2 bs2 = 0 then 0 else 5 := by
  unfold code2 fullC
  cases isSysImpl v1 bs1 <;> cases isSysImpl v2 bs2 <;> cases fullB v1 bs1 <;> cases fullB v2 bs2 <;> simp
theorem code2_ok {v1 : Int} {bs1 : List Blk} {v2 : Int} {bs2 : List Blk} (h : code2 v1 bs1 v2 bs2 = 0) : isSysImpl v1 bs1 = true ∧ fullB v1 bs1 = true ∧ isSysImpl v2 bs2 = true ∧ fullB v2 bs2 = true := by
  unfold code2 at h
  cases h1 : isSysImpl v1 bs1 <;> cases h2 : isSysImpl v2 bs2 <;> cases h3 : fullB v1 bs1 <;> cases h4 : fullB v2 bs2 <;> simp_all
theorem code2_or (v1 : Int) (bs1 : List Blk) (v2 : Int) (bs2 : List Blk) : code2 v1 bs1 v2 bs2 = 0 ∨ code2 v1 bs1 v2 bs2 = 5 ∨ code2 v1 bs1 v2 bs2 = 1 := by
  unfold code2
  cases isSysImpl v1 bs1 <;> cases isSysImpl v2 bs2 <;> cases fullB v1 bs1 <;> cases fullB v2 bs2 <;> simp
set_option maxRecDepth 100000 in
set_option maxHeartbeats 4000000 in
theorem fullCode_two (B : Nat) (v1 v2 : Int) (s1 s2 : Value) (bs1 bs2 : List Blk) (w : World) (h1 : SB w s1 bs1) (h2 : SB w s2 bs2) (c0 : w.cell? ⟨B, 0, none⟩ = some (.int .i64 v1)) (c1 : w.cell? ⟨B, 1, none⟩ = some s1) (c2 : w.cell? ⟨B, 2, none⟩ = some (.int .i64 v2)) (c3 : w.cell? ⟨B, 3, none⟩ = some s2) :
    Calls Try.prog 66 #[.slice (some ⟨B, 0, none⟩) 2 2] w (RV (.int .i64 (code2 v1 bs1 v2 bs2)) w) := by
  have HI1 := Lib.hid fun W (hb : Below w.heap.size w W) => IsFull_any v1 s1 bs1 W (h1.below hb (Nat.le_refl _))
  have HI2 := Lib.hid fun W (hb : Below w.heap.size w W) => IsFull_any v2 s2 bs2 W (h2.below hb (Nat.le_refl _))
  have hlt := block_lt_of_cell c0
  obtain ⟨a1, n1, rfl⟩ := h1.slice
  obtain ⟨a2, n2, rfl⟩ := h2.slice
  have hk := code2_of v1 bs1 v2 bs2
  clear h1 h2
  rcases fullV_cases v1 bs1 with ⟨e1, f1⟩ | ⟨e1, f1⟩ | ⟨e1, f1⟩
  case inr.inr =>
    rw [f1] at hk
    rw [show code2 v1 bs1 v2 bs2 = 1 by rw [hk]; rfl]
    rw [e1] at HI1
    unfold boolCode at HI1
    clear e1 f1 hk HI2 c2 c3
    go_enter Try.func66, Try.ntmps66
    go_wp2
    refine wp_loop_rounds 3 ?_
    rw [rounds_succ]
    go_wp2_with fail
    refine (HI1.out _ ((Below.refl _ _).alloc (Nat.le_refl _) _)).mono ?_
    rintro e w1 ⟨rfl, hb1⟩
    have hB1 := ((Below.refl w.heap.size w).alloc (Nat.le_refl _) (.cells #[.int .i64 v1, .slice a1 bs1.length n1] 31)).trans (hb1.mono (by simp))
    clear hb1
    go_wp2
    go_ret
    exact RV_of rfl hB1
  all_goals
    rw [e1] at HI1
    rw [f1] at hk
    unfold boolCode at HI1
    clear e1 f1
    rcases fullV_cases v2 bs2 with ⟨e2, f2⟩ | ⟨e2, f2⟩ | ⟨e2, f2⟩
    all_goals
      rw [e2] at HI2
      rw [f2] at hk
      simp only [Int.reduceEq, if_false, if_true, and_true, and_false, true_and, false_and, and_self] at hk
      rw [hk]
      unfold boolCode at HI2
      clear e2 f2 hk
      go_enter Try.func66, Try.ntmps66
      go_wp2
      refine wp_loop_rounds 3 ?_
      rw [rounds_succ]
      go_wp2_with fail
      refine (HI1.out _ ((Below.refl _ _).alloc (Nat.le_refl _) _)).mono ?_
      rintro e w1 ⟨rfl, hb1⟩
      have hB1 := ((Below.refl w.heap.size w).alloc (Nat.le_refl _) (.cells #[.int .i64 v1, .slice a1 bs1.length n1] 31)).trans (hb1.mono (by simp))
      have d2 := (hB1.cell (p := ⟨B, 2, none⟩) hlt).trans c2
      have d3 := (hB1.cell (p := ⟨B, 3, none⟩) hlt).trans c3
      clear hb1
      go_wp2
      rw [rounds_succ]
      go_wp2_with fail
      refine (HI2.out _ (hB1.alloc hB1.size _)).mono ?_
      rintro e w2 ⟨rfl, hb2⟩
      have hB2 := (hB1.alloc hB1.size (.cells #[.int .i64 v2, .slice a2 bs2.length n2] 31)).trans (hb2.mono (by have := hB1.size; simp; omega))
      clear hb2
      go_wp2
      first
        | (go_ret; exact RV_of rfl hB2)
        | (rw [rounds_succ]; go_wp2; go_ret; exact RV_of rfl hB2)
set_option maxRecDepth 100000 in
set_option maxHeartbeats 4000000 in
theorem l06Code_two (B : Nat) (v1 v2 : Int) (s1 s2 : Value) (bs1 bs2 : List Blk) (w : World) (h1 : SB w s1 bs1) (h2 : SB w s2 bs2) (c0 : w.cell? ⟨B, 0, none⟩ = some (.int .i64 v1)) (c1 : w.cell? ⟨B, 1, none⟩ = some s1) (c2 : w.cell? ⟨B, 2, none⟩ = some (.int .i64 v2)) (c3 : w.cell? ⟨B, 3, none⟩ = some s2) :
    Calls Try.prog 64 #[.slice (some ⟨B, 0, none⟩) 2 2] w (RV (.int .i64 (code2 v1 bs1 v2 bs2)) w) := by
  have HC1 := Lib.hid fun W (hb : Below w.heap.size w W) => l01Is_any v1 s1 bs1 W (h1.below hb (Nat.le_refl _))
  have HC2 := Lib.hid fun W (hb : Below w.heap.size w W) => l01Is_any v2 s2 bs2 W (h2.below hb (Nat.le_refl _))
  have hlt := block_lt_of_cell c0
  have hl1 := h1.2.1
  have hl2 := h2.2.1
  obtain ⟨a1, n1, rfl⟩ := h1.slice
  obtain ⟨a2, n2, rfl⟩ := h2.slice
  clear h1 h2
  cases i1 : isSysImpl v1 bs1 with
  | false =>
    rw [show code2 v1 bs1 v2 bs2 = 1 by simp [code2, i1]]
    rw [i1] at HC1
    clear i1 HC2 c2 c3
    go_enter Try.func64, Try.ntmps64
    go_wp2
    refine wp_loop_rounds 3 ?_
    rw [rounds_succ]
    go_wp2_with fail
    refine (HC1.out _ (Below.refl _ _)).mono ?_
    rintro e w1 ⟨rfl, hb1⟩
    go_wp2
    go_ret
    exact RV_of rfl hb1
  | true =>
    cases i2 : isSysImpl v2 bs2 with
    | false =>
      rw [show code2 v1 bs1 v2 bs2 = 1 by simp [code2, i1, i2]]
      rw [i1] at HC1
      rw [i2] at HC2
      clear i1 i2
      go_enter Try.func64, Try.ntmps64
      go_wp2
      refine wp_loop_rounds 3 ?_
      rw [rounds_succ]
      go_wp2_with fail
      refine (HC1.out _ (Below.refl _ _)).mono ?_
      rintro e w1 ⟨rfl, hb1⟩
      have d2 := (hb1.cell (p := ⟨B, 2, none⟩) hlt).trans c2
      have d3 := (hb1.cell (p := ⟨B, 3, none⟩) hlt).trans c3
      go_wp2
      rw [rounds_succ]
      go_wp2_with fail
      refine (HC2.out _ hb1).mono ?_
      rintro e w2 ⟨rfl, hb2⟩
      have hB2 := hb1.trans (hb2.mono hb1.size)
      clear hb2 hb1
      go_wp2
      go_ret
      exact RV_of rfl hB2
    | true =>
      obtain ⟨p3, p15, _⟩ := sys_size i1
      obtain ⟨r3, r15, _⟩ := sys_size i2
      have HF1 := Lib.hid fun W => l01Full_any v1 (.slice a1 bs1.length n1) bs1 W ⟨_, _, rfl⟩ p3 p15 hl1
      have HF2 := Lib.hid fun W => l01Full_any v2 (.slice a2 bs2.length n2) bs2 W ⟨_, _, rfl⟩ r3 r15 hl2
      obtain ⟨κ, hκ⟩ : ∃ κ, κ = code2 v1 bs1 v2 bs2 := ⟨_, rfl⟩
      have hk : κ = if fullB v1 bs1 && fullB v2 bs2 then 0 else 5 := by rw [hκ]; simp [code2, i1, i2]
      rw [← hκ]
      rw [i1] at HC1
      rw [i2] at HC2
      clear i1 i2 hκ p3 p15 r3 r15
      cases g1 : fullB v1 bs1 <;> cases g2 : fullB v2 bs2
      all_goals
        rw [g1] at HF1 hk
        rw [g2] at HF2 hk
        simp at hk
        subst hk
        clear g1 g2
        go_enter Try.func64, Try.ntmps64
        go_wp2
        refine wp_loop_rounds 3 ?_
        rw [rounds_succ]
        go_wp2_with fail
        refine (HC1.out _ (Below.refl _ _)).mono ?_
        rintro e w1 ⟨rfl, hb1⟩
        have d0 := (hb1.cell (p := ⟨B, 0, none⟩) hlt).trans c0
        have d1 := (hb1.cell (p := ⟨B, 1, none⟩) hlt).trans c1
        have d2 := (hb1.cell (p := ⟨B, 2, none⟩) hlt).trans c2
        have d3 := (hb1.cell (p := ⟨B, 3, none⟩) hlt).trans c3
        go_wp2
        rw [rounds_succ]
        go_wp2_with fail
        refine (HC2.out _ hb1).mono ?_
        rintro e w2 ⟨rfl, hb2⟩
        have hB2 := hb1.trans (hb2.mono hb1.size)
        have hlt1 : B < w1.heap.size := Nat.lt_of_lt_of_le hlt hb1.size
        have d0 := (hb2.cell (p := ⟨B, 0, none⟩) hlt1).trans d0
        have d1 := (hb2.cell (p := ⟨B, 1, none⟩) hlt1).trans d1
        have d2 := (hb2.cell (p := ⟨B, 2, none⟩) hlt1).trans d2
        have d3 := (hb2.cell (p := ⟨B, 3, none⟩) hlt1).trans d3
        clear hb2 hb1 HC1 HC2
        go_wp2
        rw [rounds_succ]
        go_wp2
        refine wp_loop_rounds 3 ?_
        rw [rounds_succ]
        go_wp2_with fail
        refine (HF1.out _).mono ?_
        rintro e w3 ⟨rfl, hb3⟩
        have hlt2 : B < w2.heap.size := Nat.lt_of_lt_of_le hlt hB2.size
        have d2 := (hb3.cell (p := ⟨B, 2, none⟩) hlt2).trans d2
        have d3 := (hb3.cell (p := ⟨B, 3, none⟩) hlt2).trans d3
        have hB3 := hB2.trans (hb3.mono hB2.size)
        clear hb3 HF1
        go_wp2
        first
          | (go_ret; exact RV_of rfl hB3)
          | (rw [rounds_succ]
             go_wp2_with fail
             refine (HF2.out _).mono ?_
             rintro e w4 ⟨rfl, hb4⟩
             have hB4 := hB3.trans (hb4.mono hB3.size)
             clear hb4
             go_wp2
             first
               | (go_ret; exact RV_of rfl hB4)
               | (rw [rounds_succ]; go_wp2; go_ret; exact RV_of rfl hB4))
end Go.Proofs.Ytoicdfdfajfopaa

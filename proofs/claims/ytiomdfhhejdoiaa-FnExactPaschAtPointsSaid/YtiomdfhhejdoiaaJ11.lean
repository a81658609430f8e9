
/- The model's l01Order. The model's cycles. The outline's CyclesOf answers as the plain function cyF. The outline's type of two points. The outline's list of types: what its two lists hold while it is made. -/
import Derived.Test.YtiomdfhhejdoiaaJ10
namespace Go.Proofs.Ytiomdfhhejdoiaa
open Go.RowKit Go.Maps
theorem infoBoolT : (Try.prog.info? 4).map (fun i => (i.zero, i.size, i.bytes)) = some (some (.bool false), 1, 1) := by kernel_rfl
theorem mkBoolsR (n : Nat) (hn : n ≤ 1100000) (W : World) : (Instr.makeSlice 154 (.int .i64 (n : Int)) (.int .i64 (n : Int))).run Try.prog W = .ok (.slice (some ⟨W.heap.size, 0, none⟩) n n) (W.alloc (.cells (madeCells #[.bool false] n) 4)) := by
  obtain ⟨i0, hi, hz0, hz1, hz2⟩ := info_parts infoBoolT
  have hr := run_make (P := Try.prog) W 154 4 i0 (.bool false) Try.underlying154 hi hz0 .i64 .i64 n n (by omega) (by omega) (by rw [hz2]; omega) (by omega)
  simp only [Int.toNat_natCast, hz1, Nat.mul_one] at hr
  exact hr
/-- A row of bools. -/
structure BoolsAt (w : World) (g n : Nat) (f : Nat → Bool) : Prop where
  lt : g < w.heap.size
  cell : ∀ q, q < n → w.cell? ⟨g, q, none⟩ = some (.bool (f q))
  free : ∀ o, w.frozen? ⟨g, o, none⟩ = false
theorem BoolsAt.made (w : World) (n : Nat) (T : TypeId) : BoolsAt (w.alloc (.cells (madeCells #[.bool false] n) T)) w.heap.size n (fun _ => false) := by
  refine ⟨by simp, fun k hk => ?_, fun o => by simp⟩
  rw [World.cell?_alloc_at _ _ _ _ rfl]
  simp [madeCells, hk, Nat.mod_one]
theorem BoolsAt.set {w : World} {g n : Nat} {f : Nat → Bool} (h : BoolsAt w g n f) {i : Nat} (hi : i < n) : BoolsAt (w.setCell ⟨g, i, none⟩ (.bool true)) g n (fun q => if q = i then true else f q) := by
  refine ⟨by simpa [World.setCell] using h.lt, fun q hq => ?_, fun o => by rw [World.frozen?_setCell]; exact h.free o⟩
  by_cases e : q = i
  · subst e
    rw [World.cell?_setCell_same' _ _ _ (by rw [h.cell q hq]; rfl)]
    simp
  · rw [World.cell?_setCell_other _ _ _ _ (by simp <;> omega), h.cell q hq, if_neg e]
theorem BoolsAt.congr {w : World} {g n : Nat} {f f' : Nat → Bool} (h : BoolsAt w g n f) (e : ∀ q, q < n → f q = f' q) : BoolsAt w g n f' := ⟨h.lt, fun q hq => by rw [← e q hq]; exact h.cell q hq, h.free⟩
theorem BoolsAt.kept {w w' : World} {g n : Nat} {f : Nat → Bool} {row : Option Nat} (h : BoolsAt w g n f) (hg : w.grownBy w' row) (hne : some g ≠ row) : BoolsAt w' g n f :=
  ⟨Nat.lt_of_lt_of_le h.lt hg.size, fun q hq => (World.cell?_of_block (w := w) (a := ⟨g, _, none⟩) (hg.block g h.lt hne)).trans (h.cell q hq), fun o => (World.frozen?_of_block (w := w) (a := ⟨g, o, none⟩) (hg.block g h.lt hne)).trans (h.free o)⟩
theorem take_snoc2 {l : List Int} {k : Nat} (h : k < l.length) : l.take (k + 1) = l.take k ++ [l[k]?.getD 0] := by
  rw [List.take_succ_eq_append_getElem h]; simp [h]
end Go.Proofs.Ytiomdfhhejdoiaa

namespace Go.Proofs.Ytiomdfhhejdoiaa
open Go.RowKit Go.Maps
theorem BoolsAt.below {w w' : World} {g n : Nat} {f : Nat → Bool} (h : BoolsAt w g n f) {B : Nat} (hb : Below B w w') (hB : w.heap.size ≤ B) : BoolsAt w' g n f :=
  h.kept (only_of_below (hb.mono hB) none) (by simp)
/-- The model's memory: the row of what is met, the rows. -/
structure CM (z : Nat) (W1 w : World) (n : Nat) (f : Nat → Bool) (ov : Value) (m : Nat) (gs caps : Nat → Nat) (F : Nat → List Int) : Prop where
  below : Below (z + 1) W1 w
  met : BoolsAt w (z + 1) n f
  acc : AccS w (z + 2) ov m gs caps F
theorem CM.set {z : Nat} {W1 w : World} {n : Nat} {f : Nat → Bool} {ov : Value} {m : Nat} {gs caps : Nat → Nat} {F : Nat → List Int} (h : CM z W1 w n f ov m gs caps F) {i : Nat} (hi : i < n) :
    CM z W1 (w.setCell ⟨z + 1, i, none⟩ (.bool true)) n (fun q => if q = i then true else f q) ov m gs caps F := by
  have hg := only_setCell (p := ⟨z + 1, i, none⟩) (only_refl w (some (z + 1))) rfl (.bool true)
  refine ⟨h.below.setCell (p := ⟨z + 1, i, none⟩) (Nat.le_refl _) _, h.met.set hi, h.acc.kept hg (.inr fun e => ?_) (fun k hk e => ?_)⟩
  · have := (ownsRow_lt h.acc.own _ e).1; omega
  · have := h.acc.low k hk; simp at e; omega
theorem CM.step {z : Nat} {W1 w w' : World} {n : Nat} {f : Nat → Bool} {ov : Value} {m : Nat} {gs caps : Nat → Nat} {F : Nat → List Int} (h : CM z W1 w n f ov m gs caps F) (hz : z + 1 ≤ w.heap.size) (hb : Below w.heap.size w w') : CM z W1 w' n f ov m gs caps F :=
  ⟨h.below.trans (hb.mono hz), h.met.below hb (Nat.le_refl _), h.acc.below hb (Nat.le_refl _)⟩
theorem CM.grow {z : Nat} {W1 w w' : World} {n : Nat} {f : Nat → Bool} {ov : Value} {m : Nat} {gs caps : Nat → Nat} {F : Nat → List Int} {row : Option Nat} (h : CM z W1 w n f ov m gs caps F) (hg : w.grownBy w' row) (hz : z + 1 ≤ w.heap.size)
    (hr : ∀ r, row = some r → z + 2 ≤ r ∧ ov.ownBlock ≠ some r ∧ ∀ k, k < m → gs k ≠ r) : CM z W1 w' n f ov m gs caps F :=
  ⟨h.below.grown hg hz (fun r e => by have := (hr r e).1; omega), h.met.kept hg (fun e => by have := (hr _ e.symm).1; omega), h.acc.kept hg (by
    cases row with
    | none => exact .inl rfl
    | some r => exact .inr (hr r rfl).2.1) (fun k hk e => (hr _ e.symm).2.2 k hk rfl)⟩
theorem CM.congr {z : Nat} {W1 w : World} {n : Nat} {f f' : Nat → Bool} {ov : Value} {m : Nat} {gs caps : Nat → Nat} {F : Nat → List Int} (h : CM z W1 w n f ov m gs caps F) (e : ∀ q, q < n → f q = f' q) : CM z W1 w n f' ov m gs caps F :=
  ⟨h.below, h.met.congr e, h.acc⟩
set_option maxRecDepth 100000 in
set_option maxHeartbeats 8000000 in
theorem l03Cycles_any (n : Nat) (s : Value) (bs : List Blk) (a b : Nat) (w : World) (h : SB w s bs) (hi : isSysImpl (n : Int) bs = true) (hf : fullB (n : Int) bs = true) (ha : a < n) (hb : b < n) (hab : a ≠ b) :
    Calls Try.prog 120 #[.agg #[.int .i64 (n : Int), s], .int .i64 (a : Int), .int .i64 (b : Int)] w (fun e w' => ∃ u, e = .returned u ∧ ResSS w' w.heap.size u (cyS bs a b n).length (rowsF (cyS bs a b n)) ∧ Below w.heap.size w w') := by
  have hn15 := (sys_size hi).2.1
  have hgood := sys_good hi
  have HTH := Lib.hid fun W (hb2 : Below w.heap.size w W) (p q : Int) p0 p1 q0 q1 => l01Third_any (n : Int) s bs p q W (h.below hb2 (Nat.le_refl _)) hgood hn15 p0 p1 q0 q1
  have hs := h.slice
  have HI := Lib.hid hi
  have HF := Lib.hid hf
  have htri := tri_third hi hf (a := (a : Int)) (b := (b : Int)) (by omega) (by omega) (by omega)
  have htr := htri.range hi
  obtain ⟨t, ht⟩ := Int.eq_ofNat_of_zero_le htr.1
  have htn : t < n := by omega
  have HT3 := Lib.hid ht
  have hmb := mkBoolsR n (by omega)
  clear h hi hf htri htr hgood
  obtain ⟨a0, c0, rfl⟩ := hs
  go_enter Try.func120, Try.ntmps120
  obtain ⟨W0, rfl⟩ : ∃ W0, W0 = w := ⟨_, rfl⟩
  obtain ⟨W1, hW1⟩ : ∃ W1, W1 = W0.alloc (.cells #[.int .i64 (n : Int), .slice a0 bs.length c0] 31) := ⟨_, rfl⟩
  have hz1 : W1.heap.size = W0.heap.size + 1 := by rw [hW1]; simp
  have p0 : W1.cell? ⟨W0.heap.size, 0, none⟩ = some (.int .i64 (n : Int)) := by rw [hW1]; simp [go_sem]
  have p1 : W1.cell? ⟨W0.heap.size, 1, none⟩ = some (.slice a0 bs.length c0) := by rw [hW1]; simp [go_sem]
  have HB1 := Lib.hid (show Below W0.heap.size W0 W1 by rw [hW1]; exact (Below.refl _ _).alloc (Nat.le_refl _) _)
  obtain ⟨W2, hW2⟩ : ∃ W2, W2 = (W1.alloc (.cells (madeCells #[.bool false] n) 4)).alloc (.cells #[] 26) := ⟨_, rfl⟩
  have hz2 : W2.heap.size = W0.heap.size + 3 := by rw [hW2]; simp [hz1]
  have hM2 : BoolsAt W2 (W0.heap.size + 1) n (fun _ => false) := by
    rw [hW2, ← hz1]
    exact (BoolsAt.made W1 n _).kept (World.grownBy_alloc _ _ none) (by simp)
  have hA2 : AccS W2 (W0.heap.size + 2) (.slice (some ⟨W0.heap.size + 2, 0, none⟩) 0 0) 0 (fun _ => 0) (fun _ => 0) (rowsF (cyS bs a b n)) := by
    have := AccS.new0 (W1.alloc (.cells (madeCells #[.bool false] n) 4)) (fun _ => 0) (fun _ => 0) (rowsF (cyS bs a b n)) (Nat.le_refl _)
    rw [hW2]
    simpa [hz1] using this
  have hB2 : Below (W0.heap.size + 1) W1 W2 := by rw [hW2, ← hz1]; exact ((Below.refl _ _).alloc (Nat.le_refl _) _).alloc (by simp) _
  go_upto_region 2 with (fail)
  rw [← hW1, ← hW2]
  have C2 : CM W0.heap.size W1 W2 n (fun _ => false) (.slice (some ⟨W0.heap.size + 2, 0, none⟩) 0 0) 0 (fun _ => 0) (fun _ => 0) (rowsF (cyS bs a b n)) := ⟨hB2, hM2, hA2⟩
  have g0 : (0 : Int) ≤ (a : Int) := by omega
  have g1 : (a : Int) < (n : Int) := by omega
  have g2 : (0 : Int) ≤ (b : Int) := by omega
  have g3 : (b : Int) < (n : Int) := by omega
  have g4 : (t : Int) < (n : Int) := by omega
  have C3 := C2.set ha
  have m1 := C2.met.cell a ha
  have f1 := C2.met.free a
  obtain ⟨V3, hV3⟩ : ∃ V, V = W2.setCell ⟨W0.heap.size + 1, a, none⟩ (.bool true) := ⟨_, rfl⟩
  have HC2 := Lib.hid C2
  clear hW1 hW2 hM2 hA2 hB2 C2
  have HC3 := Lib.hid C3
  clear C3
  go_upto_region 3 with (fail)
  rw [← hV3] at HC3 ⊢
  have m2 := HC3.out.met.cell b hb
  have f2 := HC3.out.met.free b
  have hz3 : V3.heap.size = W0.heap.size + 3 := by rw [hV3]; simpa [World.setCell] using hz2
  clear hV3 m1 f1
  have HC4 := Lib.hid (HC3.out.set hb)
  obtain ⟨V4, hV4⟩ : ∃ V, V = V3.setCell ⟨W0.heap.size + 1, b, none⟩ (.bool true) := ⟨_, rfl⟩
  go_upto_region 4 with (fail)
  rw [← hV4] at HC4 ⊢
  have hz4 : V4.heap.size = W0.heap.size + 3 := by rw [hV4]; simpa [World.setCell] using hz3
  clear hV4 m2 f2
  have q0 := (HC4.out.below.cell (p := ⟨W0.heap.size, 0, none⟩) (by simp)).trans p0
  have q1 := (HC4.out.below.cell (p := ⟨W0.heap.size, 1, none⟩) (by simp)).trans p1
  go_wp2_with fail
  refine (HTH.out _ (HB1.out.trans (HC4.out.below.mono (by omega))) _ _ (by omega) (by omega) (by omega) (by omega)).mono ?_
  rintro e w5 ⟨rfl, hb5⟩
  rw [HT3.out]
  have hz5 := hb5.size
  have HC5 := Lib.hid (HC4.out.step (by omega) hb5)
  have m5 := HC5.out.met.cell t htn
  have f5 := HC5.out.met.free t
  have HC6 := Lib.hid (HC5.out.set htn)
  clear hb5 q0 q1
  obtain ⟨V6, hV6⟩ : ∃ V, V = w5.setCell ⟨W0.heap.size + 1, t, none⟩ (.bool true) := ⟨_, rfl⟩
  go_upto_region 5 with (fail)
  rw [← hV6] at HC6 ⊢
  have hz6 : W0.heap.size + 3 ≤ V6.heap.size := by rw [hV6]; simp [World.setCell]; omega
  clear hV6 m5 f5
  have HC := Lib.hid (HC6.out.congr (f' := fun q => decide ((q : Int) ∈ seen0 bs a b ++ (cyS bs a b 0).flatten)) (fun q _ => by
    rw [Bool.eq_iff_iff]
    simp only [seen0, HT3.out, cyS, List.flatten_nil, List.append_nil, List.mem_cons, List.not_mem_nil, or_false, decide_eq_true_eq]
    by_cases e1 : q = t
    · simp [e1]
    · by_cases e2 : q = b
      · simp [e2]
      · by_cases e3 : q = a
        · simp [e3]
        · simp only [if_neg e1, if_neg e2, if_neg e3]
          constructor
          · intro h; cases h
          · intro h; omega))
  clear HC2 HC3 HC4 HC5 HC6
  have HPO := Lib.hid fun (k : Nat) (hk : Beyond n bs (a : Int) (b : Int) (k : Int)) => perN_ok HI.out HF.out ha hb hab hk
  have HBY := Lib.hid fun (k : Nat) (hk : Beyond n bs (a : Int) (b : Int) (k : Int)) j => (two_thirds HI.out HF.out (a := (a : Int)) (b := (b : Int)) (by omega) (by omega) (by omega)).mem hk j
  have HNI := Lib.hid fun (k : Nat) (hk : k ≤ n) (hs : Beyond n bs (a : Int) (b : Int) (k : Int)) hn j => wk_notin HI.out HF.out ha hb hab hk hs hn j
  go_wp2_with fail
  go_loopw [8, 9] (fun ov i wr => ∃ (k : Nat) (gs caps : Nat → Nat), k ≤ n ∧ i = .int .i64 k ∧ CM W0.heap.size W1 wr n (fun q => decide ((q : Int) ∈ seen0 bs a b ++ (cyS bs a b k).flatten)) ov (cyS bs a b k).length gs caps (rowsF (cyS bs a b n)) ∧ W0.heap.size + 3 ≤ wr.heap.size ∧ ∃ x y, ov = .slice x (cyS bs a b k).length y) (fun _ i _ => n - (intOf i).toNat)
  case atStart => exact ⟨0, _, _, Nat.zero_le _, rfl, HC.out, hz6, _, _, rfl⟩
  case round =>
    obtain ⟨k, gs, caps, hk, rfl, hM, hzr, x0, y0, rfl⟩ := hrel
    have HM := Lib.hid hM
    have hcl := cyS_len (bs := bs) (a := a) (b := b) k
    obtain ⟨sl, hsl'⟩ : ∃ sl, sl = seen0 bs a b ++ (cyS bs a b k).flatten := ⟨_, rfl⟩
    obtain ⟨m, hm⟩ : ∃ m, m = (cyS bs a b k).length := ⟨_, rfl⟩
    have hm15 : m ≤ 15 := by omega
    rw [← hsl', ← hm] at HM
    rw [← hm]
    have r0 := (HM.out.below.cell (p := ⟨W0.heap.size, 0, none⟩) (by simp)).trans p0
    have r1 := (HM.out.below.cell (p := ⟨W0.heap.size, 1, none⟩) (by simp)).trans p1
    clear hM hcl
    by_cases hkl : k < n
    · have mk := HM.out.met.cell k hkl
      have k0 : (0 : Int) ≤ (k : Int) := by omega
      have k1 : (k : Int) < (n : Int) := by omega
      by_cases hin : (k : Int) ∈ sl
      · have dk : decide ((k : Int) ∈ sl) = true := decide_eq_true hin
        rw [dk] at mk
        have HN := Lib.hid (cyS_next_in (bs := bs) (a := a) (b := b) (k := k) (by rw [← hsl']; exact hin))
        have HSL := Lib.hid hsl'
        have HMM := Lib.hid hm
        clear hin hsl' hm dk
        go_wp2_with fail
        go_roundw
        case rel => exact ⟨k + 1, gs, caps, by omega, by go_num, by rw [HN.out, ← HSL.out, ← HMM.out]; exact HM.out, hzr, x0, y0, by rw [HN.out, ← HMM.out]⟩
        case measure => simp [intOf]; omega
      · have dk : decide ((k : Int) ∈ sl) = false := decide_eq_false hin
        rw [dk] at mk
        have hnot : ¬ (k : Int) ∈ seen0 bs a b ++ (cyS bs a b k).flatten := by rw [← hsl']; exact hin
        have HN := Lib.hid (cyS_next_out hnot)
        obtain ⟨hbey, hnin⟩ := beyond_of hkl hnot
        have hok := HPO.out k hbey
        obtain ⟨N, hNe⟩ : ∃ N, N = perN bs a b (k : Int) := ⟨_, rfl⟩
        rw [← hNe] at hok
        obtain ⟨hN0, hN2, hN15, hfr, hNs⟩ := hok
        have HBE := Lib.hid (show ∀ j, Beyond n bs (a : Int) (b : Int) (wk bs a b (k : Int) j) from HBY.out k hbey)
        have HNF := Lib.hid (show ∀ j, j < N → ¬ wk bs a b (k : Int) j ∈ sl ++ wkL bs a b (k : Int) j from fun j hj hmm => by
          rcases List.mem_append.1 hmm with h1 | h1
          · rw [hsl', List.mem_append] at h1
            rcases h1 with h1 | h1
            · have hb2 := HBE.out j
              simp only [seen0, List.mem_cons, List.not_mem_nil, or_false] at h1
              rcases h1 with h1 | h1 | h1
              · exact hb2.2.1 h1
              · exact hb2.2.2.1 h1
              · exact hb2.2.2.2 h1
            · exact HNI.out k hk hbey hnin j h1
          · obtain ⟨i, hi, e⟩ := List.mem_map.1 h1
            exact hfr i j (List.mem_range.1 hi) hj e)
        have HNY := Lib.hid (show wk bs a b (k : Int) N ∈ sl ++ wkL bs a b (k : Int) N from List.mem_append_right _ (List.mem_map.2 ⟨0, List.mem_range.2 hN0, hNs.symm⟩))
        obtain ⟨R, hR⟩ := cyS_pre (bs := bs) (a := a) (b := b) (show k + 1 ≤ n by omega)
        have HFM := Lib.hid (show rowsF (cyS bs a b n) m = wkL bs a b (k : Int) N by
          unfold rowsF
          rw [hR, HN.out, hm, List.append_assoc, List.getElem?_append_right (Nat.le_refl _), Nat.sub_self, hNe]
          rfl)
        have HNC := Lib.hid (show cyS bs a b (k + 1) = cyS bs a b k ++ [wkL bs a b (k : Int) N] by rw [HN.out, hNe]; rfl)
        have HSL := Lib.hid hsl'
        have HMM := Lib.hid hm
        have HXL := Lib.hid (show ∀ r, (Value.slice x0 m y0).ownBlock = some r → W0.heap.size + 2 ≤ r ∧ r < wr.heap.size from fun r e => ownsRow_lt HM.out.acc.own r e)
        have HGL := Lib.hid (show ∀ j, j < m → gs j < wr.heap.size from fun j hj => (HM.out.acc.row j hj).lt)
        have HM7 := Lib.hid (HM.out.step (by omega) ((Below.refl wr.heap.size wr).alloc (Nat.le_refl _) (.cells #[] 2)))
        have HO7 := Lib.hid (OwnJ.new0 wr (Nat.le_refl _))
        have HW0 := Lib.hid (show wk bs a b (k : Int) 0 = (k : Int) from rfl)
        clear hin hsl' hm dk hnot hbey hnin hNe hfr hNs hR
        obtain ⟨Wk, rfl⟩ : ∃ W, W = wr := ⟨_, rfl⟩
        go_wp2_with fail
        go_loopw [10, 11, 12] (fun o at_ by_ wx => ∃ j : Nat, j ≤ N ∧ at_ = .int .i64 (wk bs a b (k : Int) j) ∧ by_ = .int .i64 (if j % 2 = 0 then (a : Int) else (b : Int)) ∧ CM W0.heap.size W1 wx n (fun q => decide ((q : Int) ∈ sl ++ wkL bs a b (k : Int) j)) (.slice x0 m y0) m gs caps (rowsF (cyS bs a b n)) ∧ OwnJ wx Wk.heap.size o (wkL bs a b (k : Int) j) ∧ Wk.heap.size < wx.heap.size ∧ ∃ x y, o = .slice x j y) (fun o _ _ _ => N - lenOf o)
        case atStart => exact ⟨0, Nat.zero_le _, by rw [HW0.out], rfl, HM7.out.congr (fun q _ => by simp [wkL]), HO7.out, by simp, _, _, rfl⟩
        case round =>
          obtain ⟨j, hj, rfl, rfl, hC, hO, hzx, x1, y1, rfl⟩ := hrel
          have HCj := Lib.hid hC
          have HOj := Lib.hid hO
          have hP := (HBE.out j).1
          obtain ⟨P, hPn⟩ := Int.eq_ofNat_of_zero_le hP.1
          rw [hPn] at hP
          have hPl : P < n := by omega
          have mP := hC.met.cell P hPl
          have fP := hC.met.free P
          have P0 : (0 : Int) ≤ (P : Int) := by omega
          have P1 : (P : Int) < (n : Int) := by omega
          rw [hPn]
          clear hC hO
          by_cases hjl : j < N
          · have dP : decide ((P : Int) ∈ sl ++ wkL bs a b (k : Int) j) = false := decide_eq_false (by rw [← hPn]; exact HNF.out j hjl)
            rw [dP] at mP
            obtain ⟨Y, hY⟩ : ∃ Y : Nat, Y = if j % 2 = 0 then a else b := ⟨_, rfl⟩
            have hYn : Y < n := by rw [hY]; split <;> assumption
            have hYi : (if j % 2 = 0 then (a : Int) else (b : Int)) = (Y : Int) := by rw [hY]; split <;> rfl
            have hYs : (a : Int) + (b : Int) - (Y : Int) = if (j + 1) % 2 = 0 then (a : Int) else (b : Int) := by
              rw [hY]
              by_cases e : j % 2 = 0
              · rw [if_pos e, if_neg (by omega)]; omega
              · rw [if_neg e, if_pos (by omega)]; omega
            have hth : third1 bs (Y : Int) (P : Int) = wk bs a b (k : Int) (j + 1) := by
              rw [← hPn]
              show _ = (if j % 2 = 0 then _ else _)
              rw [hY]
              split <;> rfl
            have hS : wkL bs a b (k : Int) (j + 1) = wkL bs a b (k : Int) j ++ [(P : Int)] := by rw [← hPn]; simp [wkL, List.range_succ]
            have hwl : (wkL bs a b (k : Int) j).length ≤ 15 := by rw [wkL_len]; omega
            have HS := Lib.hid hS
            have HYS := Lib.hid hYs
            have HTHJ := Lib.hid hth
            have HWL := Lib.hid (wkL_len bs a b (k : Int) j)
            obtain ⟨T, hTn⟩ := Int.eq_ofNat_of_zero_le (HBE.out (j + 1)).1.1
            have hCs := HCj.out.set hPl
            obtain ⟨V8, hV8⟩ : ∃ V, V = wr.setCell ⟨W0.heap.size + 1, P, none⟩ (.bool true) := ⟨_, rfl⟩
            have hst := only_setCell (p := ⟨W0.heap.size + 1, P, none⟩) (only_refl wr (some (W0.heap.size + 1))) rfl (.bool true)
            have hO8 : OwnJ V8 Wk.heap.size (.slice x1 j y1) (wkL bs a b (k : Int) j) := by
              rw [hV8]
              exact ownsRow_kept HOj.out hst (.inr fun e => by have := HOj.out.row _ e; omega)
            have hz8 : V8.heap.size = wr.heap.size := by rw [hV8]; simp [World.setCell]
            have HC8 := Lib.hid hCs
            have HO8 := Lib.hid hO8
            have HHV := Lib.hid hV8
            have HTN := Lib.hid hTn
            have HPN := Lib.hid hPn
            rw [hYi]
            clear hCs hO8 hst hV8 hS hYs hth hY hTn hYi hPn
            go_upto_region 12 with (fail)
            rw [← HHV.out]
            rw [← HHV.out] at HC8
            have hzb : Wk.heap.size ≤ V8.heap.size := by omega
            have h8le := Nat.le_of_eq hz8
            have h8ge := Nat.le_of_eq hz8.symm
            clear hz8
            clear mP fP dP
            have hO8a := HO8.out.below ((Below.refl V8.heap.size V8).alloc (Nat.le_refl _) (.cells #[.int .i64 (P : Int)] 2)) (Nat.le_refl _)
            have hc8 : (V8.alloc (.cells #[.int .i64 (P : Int)] 2)).cell? ⟨V8.heap.size, 0, none⟩ = some (.int .i64 (P : Int)) := by simp [go_sem]
            have hz8a : Wk.heap.size ≤ (V8.alloc (.cells #[.int .i64 (P : Int)] 2)).heap.size := by simp; omega
            have HA8 := Lib.hid (And.intro hO8a (And.intro hc8 hz8a))
            clear hO8a hc8 hz8a
            go_upto_region 13 with (at_builtin; refine wpList_append_int rfl _ _ rfl Wk.heap.size _ (wkL bs a b (k : Int) j) rfl HA8.out.1 V8.heap.size 1 (P : Int) rfl HA8.out.2.1 (by omega) HA8.out.2.2 ?_; intro g' cap' w9 hO9 hg9)
            have hgo : V8.grownBy w9 (Value.slice x1 j y1).ownBlock := gb_trans (World.grownBy_alloc _ _ none) hg9
            have hz9 := hgo.size
            have HC9 := Lib.hid (HC8.out.grow hgo (by omega) (fun r e => by
              have h1 := HO8.out.row r e
              exact ⟨by omega, fun e2 => by have := (HXL.out r e2).2; omega, fun q hq e2 => by have := HGL.out q hq; omega⟩))
            have q0 := (HC9.out.below.cell (p := ⟨W0.heap.size, 0, none⟩) (by simp)).trans p0
            have q1 := (HC9.out.below.cell (p := ⟨W0.heap.size, 1, none⟩) (by simp)).trans p1
            have HO9 := Lib.hid hO9
            clear hO9 hg9 hgo
            go_wp2_with fail
            refine (HTH.out _ (HB1.out.trans (HC9.out.below.mono (by omega))) _ _ (by omega) (by omega) (by omega) (by omega)).mono ?_
            rintro e w10 ⟨rfl, hb10⟩
            rw [HTHJ.out]
            have hz10 := hb10.size
            have HC10 := Lib.hid (HC9.out.step (by omega) hb10)
            have HO10 := Lib.hid (HO9.out.below hb10 (Nat.le_refl _))
            clear hb10 q0 q1
            obtain ⟨Z, hZ⟩ : ∃ Z, Z = wk bs a b (k : Int) (j + 1) := ⟨_, rfl⟩
            rw [← hZ]
            have HZ := Lib.hid hZ
            clear hZ
            go_wp2_with fail
            go_roundw
            case rel =>
              refine ⟨j + 1, by omega, by rw [HZ.out], by rw [HYS.out], HC10.out.congr (fun q _ => ?_), by rw [HS.out]; have := HO10.out; exact this, by omega, some ⟨g', 0, none⟩, cap', by rw [HWL.out]⟩
              rw [HS.out, Bool.eq_iff_iff]
              simp only [List.mem_append, List.mem_singleton, decide_eq_true_eq]
              by_cases e : q = P
              · simp [e]
              · simp only [if_neg e, decide_eq_true_eq]
                constructor
                · intro h; rcases h with h | h; exact .inl h; exact .inr (.inl h)
                · intro h
                  rcases h with h | h | h
                  · exact .inl h
                  · exact .inr h
                  · omega
            case measure => rw [HWL.out]; simp [lenOf]; omega
          · have e : j = N := by omega
            have dP : decide ((P : Int) ∈ sl ++ wkL bs a b (k : Int) j) = true := decide_eq_true (by rw [← hPn, e]; exact HNY.out)
            rw [dP] at mP
            rw [e] at HCj HOj ⊢
            have hNl : (wkL bs a b (k : Int) N).length = N := wkL_len _ _ _ _ _
            obtain ⟨g3, cap3, hu3, hg3lo, hg3hi, hoA⟩ : ∃ g cap, (Value.slice x1 N y1) = .slice (some ⟨g, 0, none⟩) (wkL bs a b (k : Int) N).length cap ∧ Wk.heap.size ≤ g ∧ g < wr.heap.size ∧ OwnAtI wr g (wkL bs a b (k : Int) N) := by
              rcases HOj.out.res (by rw [hNl]; omega) with ⟨e, _⟩ | h
              · rw [e] at hNl; simp at hNl; omega
              · exact h
            rw [hNl] at hu3
            simp at hu3
            obtain ⟨rfl, rfl⟩ := hu3
            have HOA := Lib.hid hoA
            have HNL := Lib.hid hNl
            clear hoA hNl hjl hj e dP hPn
            go_wp2_with (at_builtin; refine wpList_append_row_at rfl _ _ rfl (W0.heap.size + 2) _ m gs caps (rowsF (cyS bs a b n)) rfl (HCj.out.acc.below ((Below.refl _ _).alloc (Nat.le_refl _) _) (Nat.le_refl _)) wr.heap.size 1 rfl g3 y1 (by rw [HFM.out, HNL.out]; simp [go_sem]) (by rw [HFM.out]; exact HOA.out.kept (World.grownBy_alloc _ _ none) (by simp)) (fun i hi => by have := HGL.out i hi; omega) (fun e => by have := (HXL.out g3 e).2; omega) (by omega) (by omega) (by simp <;> omega) ?_; intro gC capC w9 haC hgC heC)
            have hgo : wr.grownBy w9 (Value.slice x0 m y0).ownBlock := gb_trans (World.grownBy_alloc _ _ none) hgC
            have hz9 := hgo.size
            have hB9 : Below (W0.heap.size + 1) W1 w9 := HCj.out.below.grown hgo (by omega) (fun r e => by have := (HXL.out r e).1; omega)
            have hM9 := HCj.out.met.kept hgo (fun e => by have := (HXL.out _ e.symm).1; omega)
            have hln : (cyS bs a b (k + 1)).length = m + 1 := by rw [HNC.out, List.length_append, ← HMM.out]; rfl
            have HLN := Lib.hid hln
            have HFL := Lib.hid (show seen0 bs a b ++ (cyS bs a b (k + 1)).flatten = sl ++ wkL bs a b (k : Int) N by rw [HNC.out, List.flatten_append, ← List.append_assoc, ← HSL.out]; simp)
            have HC9 := Lib.hid (show CM W0.heap.size W1 w9 n _ _ (m + 1) _ _ _ from ⟨hB9, hM9, haC⟩)
            clear hln hgo hB9 hM9 haC hgC heC
            go_roundw
            case rel => exact ⟨k + 1, _, _, by omega, by go_num, by rw [HFL.out, HLN.out]; exact HC9.out, by omega, some ⟨gC, 0, none⟩, capC, by rw [HLN.out]⟩
            case measure => simp [intOf]; omega
    · have e : k = n := by omega
      subst e
      have hr := HM.out.acc.res
      have hB := HB1.out.trans (HM.out.below.mono (by omega))
      rw [hm] at hr ⊢
      go_wp2
      go_ret
      exact ⟨_, rfl, hr.kept' (by omega) rfl, hB⟩
end Go.Proofs.Ytiomdfhhejdoiaa

namespace Go.Proofs.Ytiomdfhhejdoiaa
open Go.RowKit Go.Maps
/-- The sizes of the answer. -/
theorem tot_short {F : Nat → List Int} {c : Nat} : ∀ n, (∀ k, k < n → (F k).length ≤ c) → tot F n ≤ c * n
  | 0, _ => Nat.zero_le _
  | n + 1, h => by
    have h1 := tot_short n fun k hk => h k (by omega)
    have h2 := h n (by omega)
    show tot F n + (F n).length ≤ c * (n + 1)
    rw [Nat.mul_add]
    omega
theorem cyF_len (v : Int) (bs : List Blk) (a b : Int) : (cyF v bs a b).1.length ≤ 15 := by
  unfold cyF
  split
  · rename_i hc
    obtain ⟨hi, _, _, _, _⟩ := cyCode_good hc
    obtain ⟨h3, h15, _⟩ := sys_size hi
    have := cyS_len (bs := bs) (a := a.toNat) (b := b.toNat) v.toNat
    show (cyS bs a.toNat b.toNat v.toNat).length ≤ 15
    omega
  · exact Nat.zero_le _
theorem cyF_tot (v : Int) (bs : List Blk) (a b : Int) : tot (rowsF (cyF v bs a b).1) (cyF v bs a b).1.length ≤ 1100000 := by
  have hl := cyF_len v bs a b
  have h1 : ∀ k, k < (cyF v bs a b).1.length → (rowsF (cyF v bs a b).1 k).length ≤ 15 := by
    intro k hk
    have hm : rowsF (cyF v bs a b).1 k ∈ (cyF v bs a b).1 := by
      unfold rowsF
      rw [List.getElem?_eq_getElem hk]
      exact List.getElem_mem hk
    revert hm
    generalize rowsF (cyF v bs a b).1 k = r
    clear hk hl
    unfold cyF
    split
    · rename_i hc
      obtain ⟨hi, hf, ha, hb, hab⟩ := cyCode_good hc
      obtain ⟨h3, h15, _⟩ := sys_size hi
      intro hm
      obtain ⟨n, rfl⟩ := Int.eq_ofNat_of_zero_le (show 0 ≤ v by omega)
      exact cyS_rows hi hf (by omega) (by omega) (by omega) _ (Nat.le_refl _) r hm
    · intro hm
      simp at hm
  have := tot_short _ h1
  omega
end Go.Proofs.Ytiomdfhhejdoiaa

namespace Go.Proofs.Ytiomdfhhejdoiaa
open Go.RowKit Go.Maps
def negL (l : List Int) : List Int := l.map fun x => -x
def mixL (l : List Int) (k : Nat) : List Int := negL (l.take k) ++ l.drop k
theorem negL_len (l : List Int) : (negL l).length = l.length := by simp [negL]
theorem mixL_len (l : List Int) (k : Nat) : (mixL l k).length = l.length := by
  unfold mixL
  rw [List.length_append, negL_len, List.length_take, List.length_drop]
  omega
theorem mixL_at {l : List Int} {k : Nat} (h : k < l.length) : (mixL l k)[k]?.getD 0 = l[k]?.getD 0 := by
  have e : (negL (l.take k)).length = k := by rw [negL_len, List.length_take]; omega
  unfold mixL
  rw [List.getElem?_append_right (by omega), e, Nat.sub_self, List.getElem?_drop, Nat.add_zero]
theorem mixL_set {l : List Int} {k : Nat} (h : k < l.length) : (mixL l k).set k (-(l[k]?.getD 0)) = mixL l (k + 1) := by
  have e : (negL (l.take k)).length = k := by rw [negL_len, List.length_take]; omega
  unfold mixL
  rw [List.set_append_right _ _ (by omega), e, Nat.sub_self, List.drop_eq_getElem_cons h, List.set_cons_zero, List.take_add_one, List.getElem?_eq_getElem h]
  unfold negL
  rw [List.map_append, List.append_assoc]
  rfl
theorem mixL_end (l : List Int) : mixL l l.length = negL l := by
  unfold mixL
  rw [List.take_length, List.drop_length, List.append_nil]
set_option maxRecDepth 100000 in
set_option maxHeartbeats 2000000 in
theorem l03TypeS_any (n : Nat) (s : Value) (bs : List Blk) (a b : Nat) (w : World) (h : SB w s bs) (hi : isSysImpl (n : Int) bs = true) (hf : fullB (n : Int) bs = true) (ha : a < n) (hb : b < n) (hab : a ≠ b) :
    Calls Try.prog 93 #[.agg #[.int .i64 (n : Int), s], .int .i64 (a : Int), .int .i64 (b : Int)] w (fun e w' => ∃ u, e = .returned u ∧ (∃ g c, u = .slice (some ⟨g, 0, none⟩) (typL (cyS bs a b n)).length c) ∧ OwnJ w' w.heap.size u (typL (cyS bs a b n)) ∧ Below w.heap.size w w') := by
  have hb0 : Below w.heap.size w (w.alloc (.cells #[.int .i64 n, s] 31)) := (Below.refl _ _).alloc (Nat.le_refl _) _
  have HC := Lib.hid (l03Cycles_any n s bs a b _ (h.below hb0 (Nat.le_refl _)) hi hf ha hb hab)
  have hl15 := cyS_len (bs := bs) (a := a) (b := b) n
  have hn15 := (sys_size hi).2.1
  have hlr := cyS_rows hi hf ha hb hab n (Nat.le_refl _)
  obtain ⟨L, hL⟩ : ∃ L, L = cyS bs a b n := ⟨_, rfl⟩
  rw [← hL] at HC hl15 hlr ⊢
  have hL15 : L.length ≤ 15 := by omega
  have HR := Lib.hid hlr
  have hs := h.slice
  clear h hi hf ha hb hab hL hl15 hn15 hlr hb0
  obtain ⟨a1, c1, rfl⟩ := hs
  obtain ⟨W0, rfl⟩ : ∃ W0, W0 = w := ⟨_, rfl⟩
  go_enter Try.func93, Try.ntmps93
  go_wp2_with fail
  refine HC.out.mono ?_
  rintro e w1 ⟨u, rfl, hr, hb1⟩
  have hbw := below_new hb1
  have hz1 := hbw.size
  clear hb1 HC
  obtain ⟨m, hm⟩ : ∃ m, m = L.length := ⟨_, rfl⟩
  have hfu : ∃ a0 c0, u = .slice a0 m c0 ∧ ∀ k, k < m → ∃ G1, a0 = some ⟨G1, 0, none⟩ ∧ G1 < w1.heap.size ∧ ∃ g cp, w1.cell? ⟨G1, k, none⟩ = some (.slice (some ⟨g, 0, none⟩) (rowsF L k).length cp) := by
    rcases hr.cells with ⟨e, a0, c0, rfl⟩ | ⟨G1, cap1, gs, caps, rfl, hlo, hS⟩
    · rw [e] at hm
      simp at hm
      subst hm
      exact ⟨a0, c0, rfl, fun k hk => absurd hk (Nat.not_lt_zero _)⟩
    · rw [← hm]
      exact ⟨_, _, rfl, fun k hk => ⟨G1, rfl, hS.lt, _, _, hS.cell k (by omega)⟩⟩
  obtain ⟨a0, c0, rfl, hce⟩ := hfu
  have HCE := Lib.hid hce
  have HRL := Lib.hid fun k (hk : k < m) => show (rowsF L k).length ≤ 15 from HR.out _ (by unfold rowsF; rw [List.getElem?_eq_getElem (by omega)]; exact List.getElem_mem _)
  have HSL := Lib.hid fun k (hk : k < m) => show negL (lensL (L.take (k + 1))) = negL (lensL (L.take k)) ++ [-((rowsF L k).length : Int)] from by rw [lensL_take (L := L) (k := k) (by omega)]; unfold negL; rw [List.map_append]; rfl
  have HLL := Lib.hid fun k (hk : k ≤ m) => show (negL (lensL (L.take k))).length = k from by rw [negL_len, lensL_len, List.length_take]; omega
  have HFU := Lib.hid (show negL (lensL (L.take m)) = negL (lensL L) by rw [hm, List.take_length])
  have hm15 : m ≤ 15 := by omega
  have HMEM := Lib.hid fun (x : Int) (hx : x ∈ ascL (negL (lensL L))) => show -15 ≤ x ∧ x ≤ 0 by
    have h1 := (ascL_perm _).mem_iff.1 hx
    unfold negL lensL at h1
    rw [List.map_map] at h1
    obtain ⟨r, hr, rfl⟩ := List.mem_map.1 h1
    have := HR.out r hr
    simp
    omega
  have HB1 := Lib.hid hbw
  clear hr hce hbw HR hL15 hm
  go_wp2_with fail
  go_loopw [8, 9] (fun o i wr => ∃ k g c : Nat, k ≤ m ∧ i = .int .i64 k ∧ o = .slice (some ⟨g, 0, none⟩) k c ∧ Below w1.heap.size w1 wr ∧ OwnJ wr w1.heap.size (.slice (some ⟨g, 0, none⟩) k c) (negL (lensL (L.take k)))) (fun _ i _ => m - (intOf i).toNat)
  case atStart => exact ⟨0, _, _, Nat.zero_le _, rfl, rfl, (Below.refl _ _).alloc (Nat.le_refl _) _, OwnJ.new0 _ (Nat.le_refl _)⟩
  case round =>
    obtain ⟨k, g, c, hk, rfl, rfl, hB, hO⟩ := hrel
    have hz := hB.size
    have HO := Lib.hid hO
    have HB := Lib.hid hB
    by_cases hkl : k < m
    · obtain ⟨G1, rfl, hlt1, g1, cp1, hc1⟩ := HCE.out k hkl
      have q := (hB.cell (p := ⟨G1, k, none⟩) hlt1).trans hc1
      have hS := HSL.out k hkl
      have hrl := HRL.out k hkl
      obtain ⟨z, hz'⟩ : ∃ z, z = (rowsF L k).length := ⟨_, rfl⟩
      rw [← hz'] at q hS hrl
      have HS := Lib.hid hS
      clear hB hO hS hz' hc1
      have e0 := HLL.out k hk
      go_wp2_with (at_builtin; refine wpList_append_int rfl _ _ rfl w1.heap.size _ (negL (lensL (L.take k))) rfl (HO.out.below ((Below.refl _ _).alloc (Nat.le_refl _) _) (Nat.le_refl _)) _ _ (-(z : Int)) rfl (by simp [go_sem]) (by rw [HLL.out k hk]; omega) (by simp; omega) ?_; intro g' cap' w4 hO4 hg4)
      have hgo : wr.grownBy w4 (some g) := ⟨hg4.os, hg4.tape, hg4.output, by have := hg4.size; simp at this; omega, fun i hi hne => by
        rw [hg4.block i (by simp; omega) hne, Below.heap_alloc _ _ _ hi]⟩
      clear hg4
      go_roundw
      case rel => exact ⟨k + 1, g', cap', by omega, by go_num, rfl, HB.out.grown hgo hz (fun j e => by cases e; exact HO.out.row _ rfl), by have h4 := hO4; rw [HLL.out k hk] at h4; rw [HS.out]; exact h4⟩
      case measure => simp [intOf]; omega
    · have e : k = m := by omega
      subst e
      have hO2 := HO.out
      have hN : (negL (lensL L)).length = k := by rw [← HFU.out]; exact HLL.out k (Nat.le_refl _)
      rw [HFU.out] at hO2
      have hty : negL (ascL (negL (lensL L))) = typL L := typL_neg L
      obtain ⟨N, hNN⟩ : ∃ N, N = negL (lensL L) := ⟨_, rfl⟩
      rw [← hNN] at hO2 hN hty HMEM
      obtain ⟨hI, hkN, hlt2, hlo2⟩ := hO2.ints0 (by omega)
      clear hkN
      have hcall := l03Ascending_any g 0 c N wr hI hlt2 (by omega)
      rw [hN] at hcall
      have hA : (ascL N).length = k := by rw [ascL_len, hN]
      have HCALL := Lib.hid hcall
      have HTY := Lib.hid hty
      have HA := Lib.hid hA
      clear hcall hty hA hN hNN hO2 hI hB hO
      go_wp2_with fail
      refine HCALL.out.mono ?_
      rintro e w5 ⟨u5, rfl, ⟨g5, c5, rfl⟩, hO5, hb5⟩
      have hz5 := hb5.size
      have hb15 := (HB1.out.trans (HB.out.mono hz1)).trans (hb5.mono (by omega))
      have HB15 := Lib.hid hb15
      have HO5 := Lib.hid hO5
      clear HCALL hb5 hb15 hO5
      obtain ⟨Wr, rfl⟩ : ∃ W, W = wr := ⟨_, rfl⟩
      go_wp2_with fail
      go_loopw [10] (fun i wr2 => ∃ j : Nat, j ≤ k ∧ i = .int .i64 j ∧ Below W0.heap.size W0 wr2 ∧ OwnJ wr2 Wr.heap.size (.slice (some ⟨g5, 0, none⟩) k c5) (mixL (ascL N) j)) (fun i _ => k - (intOf i).toNat)
      case atStart => exact ⟨0, Nat.zero_le _, rfl, HB15.out, HO5.out⟩
      case round =>
        obtain ⟨j, hj, rfl, hB6, hO6⟩ := hrel
        have hz6 := hB6.size
        have HB6 := Lib.hid hB6
        have HO6 := Lib.hid hO6
        by_cases hjk : j < k
        · have hat := hO6.at_ (i := j) (by rw [mixL_len, HA.out]; exact hjk)
          have q6 := hat.1
          have fz6 := hat.2.2.2.2
          have hlo6 := hat.2.1
          rw [mixL_at (by rw [HA.out]; exact hjk)] at q6
          have hset := (hO6.setT (i := j) (x := -((ascL N)[j]?.getD 0)) (by rw [mixL_len, HA.out]; exact hjk))
          rw [mixL_set (by rw [HA.out]; exact hjk)] at hset
          obtain ⟨hx0, hx1⟩ := HMEM.out ((ascL N)[j]?.getD 0) (by rw [List.getElem?_eq_getElem (by rw [HA.out]; exact hjk)]; exact List.getElem_mem _)
          generalize (ascL N)[j]?.getD 0 = x at q6 hset hx0 hx1
          have HSET := Lib.hid hset
          clear hset hat hB6 hO6
          have g0 : (0 : Int) ≤ (j : Int) := by omega
          have g1 : (j : Int) < (k : Int) := by omega
          go_wp2
          go_roundw
          case rel => exact ⟨j + 1, by omega, by go_num, HB6.out.grown HSET.out.2 hz6 (fun r e => by cases e; omega), HSET.out.1⟩
          case measure => simp [intOf]; omega
        · have e : j = k := by omega
          subst e
          have hO7 := hO6
          rw [(congrArg (mixL (ascL N)) HA.out.symm).trans ((mixL_end _).trans HTY.out)] at hO7
          have HO7 := Lib.hid hO7
          clear hO7 hO6 hB6
          go_wp2
          go_ret
          have hfm := HO7.out.holdsT.2.2
          refine ⟨_, rfl, ?_, HO7.out.baseT (by omega), HB6.out⟩
          exact ⟨g5, c5, congrArg (fun z => Value.slice (some ⟨g5, 0, none⟩) z c5) hfm⟩
theorem l03Type_any (n : Nat) (s : Value) (bs : List Blk) (a b : Nat) (w : World) (h : SB w s bs) (hi : isSysImpl (n : Int) bs = true) (hf : fullB (n : Int) bs = true) (ha : a < n) (hb : b < n) (hab : a ≠ b) :
    Calls Try.prog 93 #[.agg #[.int .i64 (n : Int), s], .int .i64 (a : Int), .int .i64 (b : Int)] w (fun e w' => ∃ u, e = .returned u ∧ OwnJ w' w.heap.size u (typL (cyS bs a b n)) ∧ Below w.heap.size w w') :=
  (l03TypeS_any n s bs a b w h hi hf ha hb hab).mono fun _ _ ⟨u, e, _, hO, hB⟩ => ⟨u, e, hO, hB⟩
end Go.Proofs.Ytiomdfhhejdoiaa

namespace Go.Proofs.Ytiomdfhhejdoiaa
open Go.RowKit Go.Maps
/-- How often each row of T came among the rows of L, while row i of L is held beside row k of T. -/
def cntRT (T L : List (List Int)) (i k : Nat) : List Int := (List.range T.length).map fun q => (((L.take (if q < k then i + 1 else i)).count (T[q]?.getD []) : Nat) : Int)
def cntTT (T L : List (List Int)) : List Int := T.map fun r => ((L.count r : Nat) : Int)
theorem cntRT_len (T L : List (List Int)) (i k : Nat) : (cntRT T L i k).length = T.length := by simp [cntRT]
theorem cntRT_at (T L : List (List Int)) {i k : Nat} (hk : k < T.length) : (cntRT T L i k)[k]?.getD 0 = (((L.take i).count (T[k]?.getD []) : Nat) : Int) := by simp [cntRT, hk]
theorem cntRT_yes {T L : List (List Int)} {i k : Nat} (_hk : k < T.length) (hi : i < L.length) (he : T[k]?.getD [] = L[i]?.getD []) : (cntRT T L i k).set k ((((L.take i).count (T[k]?.getD []) : Nat) : Int) + 1) = cntRT T L i (k + 1) := by
  apply List.ext_getElem
  · simp [cntRT]
  · intro q h1 h2
    rw [List.getElem_set]
    by_cases e : k = q
    · subst e
      have : L.take (i + 1) = L.take i ++ [T[k]?.getD []] := by rw [he, List.take_add_one, List.getElem?_eq_getElem hi]; simp
      simp only [cntRT, if_pos, List.getElem_map, List.getElem_range, Nat.lt_succ_self, this, List.count_append]
      simp
    · rw [if_neg e]
      simp only [cntRT, List.getElem_map, List.getElem_range]
      by_cases hq : q < k
      · rw [if_pos hq, if_pos (by omega)]
      · rw [if_neg hq, if_neg (by omega)]
theorem cntRT_no {T L : List (List Int)} {i k : Nat} (hi : i < L.length) (he : T[k]?.getD [] ≠ L[i]?.getD []) : cntRT T L i k = cntRT T L i (k + 1) := by
  apply List.map_congr_left
  intro q _
  by_cases e : q = k
  · subst e
    have : L.take (i + 1) = L.take i ++ [L[i]?.getD []] := by rw [List.take_add_one, List.getElem?_eq_getElem hi]; simp
    rw [if_neg (by omega), if_pos (by omega), this, List.count_append, List.count_eq_zero_of_not_mem (l := [L[i]?.getD []]) (by simp; exact he)]
    simp
  · by_cases hq : q < k
    · rw [if_pos hq, if_pos (by omega)]
    · rw [if_neg hq, if_neg (by omega)]
theorem cntRT_next (T L : List (List Int)) (i : Nat) : cntRT T L i T.length = cntRT T L (i + 1) 0 := by
  apply List.map_congr_left
  intro q hq
  rw [if_pos (List.mem_range.1 hq), if_neg (by omega)]
theorem cntRT_start (T L : List (List Int)) : cntRT T L 0 0 = List.replicate T.length 0 := by
  apply List.ext_getElem
  · simp [cntRT]
  · intro q h1 h2
    simp [cntRT]
theorem cntRT_end (T L : List (List Int)) : cntRT T L L.length 0 = cntTT T L := by
  apply List.ext_getElem
  · simp [cntRT, cntTT]
  · intro q h1 h2
    have hq : q < T.length := by simpa [cntTT] using h2
    simp [cntRT, cntTT, hq]
theorem cntRT_le (T L : List (List Int)) (i k : Nat) : ((L.take i).count (T[k]?.getD [])) ≤ L.length := Nat.le_trans List.count_le_length (by rw [List.length_take]; omega)
/-- The types of the pairs a, b with b before a, of the first points a. -/
noncomputable def tyT (bs : List Blk) (n a b : Nat) : List Int := typL (cyS bs a b n)
noncomputable def tyRow (bs : List Blk) (n a b : Nat) : List (List Int) := (List.range b).map fun j => tyT bs n a j
noncomputable def tyAll (bs : List Blk) (n a : Nat) : List (List Int) := (List.range a).flatMap fun i => tyRow bs n i i
noncomputable def tyTo (bs : List Blk) (n a b : Nat) : List (List Int) := tyAll bs n a ++ tyRow bs n a b
theorem tyTo_succ (bs : List Blk) (n a b : Nat) : tyTo bs n a (b + 1) = tyTo bs n a b ++ [tyT bs n a b] := by simp [tyTo, tyRow, List.range_succ]
theorem tyTo_next (bs : List Blk) (n a : Nat) : tyTo bs n a a = tyTo bs n (a + 1) 0 := by simp [tyTo, tyAll, tyRow, List.range_succ]
theorem tyTo_end (bs : List Blk) (n a : Nat) : tyTo bs n a 0 = tyAll bs n a := by simp [tyTo, tyRow]
theorem tyAll_len (bs : List Blk) (n : Nat) : ∀ a, (tyAll bs n a).length ≤ a * a
  | 0 => by simp [tyAll]
  | a + 1 => by
    have := tyAll_len bs n a
    have e : tyAll bs n (a + 1) = tyAll bs n a ++ tyRow bs n a a := by simp [tyAll, List.range_succ]
    rw [e, List.length_append]
    simp only [tyRow, List.length_map, List.length_range]
    have : (a + 1) * (a + 1) = a * a + a + a + 1 := by rw [Nat.add_mul, Nat.mul_add]; omega
    omega
theorem tyTo_len (bs : List Blk) {n a b : Nat} (ha : a ≤ 15) (hb : b ≤ 15) : (tyTo bs n a b).length ≤ 300 := by
  have h1 := tyAll_len bs n a
  have h2 : a * a ≤ 15 * 15 := Nat.mul_le_mul ha ha
  simp only [tyTo, List.length_append, tyRow, List.length_map, List.length_range]
  omega
theorem tyT_len (bs : List Blk) {n a b : Nat} (hn : n ≤ 15) : (tyT bs n a b).length ≤ 15 := by
  have := cyS_len (bs := bs) (a := a) (b := b) n
  unfold tyT
  rw [typL_len]
  omega
theorem tyTo_row {bs : List Blk} {n a b : Nat} (hn : n ≤ 15) : ∀ r ∈ tyTo bs n a b, r.length ≤ 15 := by
  intro r hr
  rcases List.mem_append.1 hr with h | h
  · obtain ⟨i, _, h⟩ := List.mem_flatMap.1 h
    obtain ⟨j, _, rfl⟩ := List.mem_map.1 h
    exact tyT_len bs hn
  · obtain ⟨j, _, rfl⟩ := List.mem_map.1 h
    exact tyT_len bs hn
theorem RowsM.kept {w w' : World} {base : Nat} {u : Value} {Rs : List RowP} {row : Option Nat} (h : RowsM w base u Rs) (hg : w.grownBy w' row) (hr : ∀ r, row = some r → u.ownBlock ≠ some r ∧ ∀ x ∈ Rs, x.g ≠ r) : RowsM w' base u Rs :=
  ⟨h.own.kept hg (by
    cases row with
    | none => exact .inl rfl
    | some r => exact .inr (hr r rfl).1), fun x hx => (h.row x hx).kept hg (fun e => (hr x.g e.symm).2 x hx rfl), h.ne, h.nd, h.low⟩
theorem RowsM.lt {w : World} {base : Nat} {u : Value} {Rs : List RowP} (h : RowsM w base u Rs) : ∀ x ∈ Rs, x.g < w.heap.size := fun x hx => (h.row x hx).lt
/-- The two lists of the outline: the types, each once, and the types of all pairs. -/
structure TwoL (W : World) (B : Nat) (u4 u5 : Value) (Rs Ls : List RowP) : Prop where
  m4 : RowsM W B u4 Rs
  m5 : RowsM W B u5 Ls
  d45 : ∀ r, u4.ownBlock = some r → u5.ownBlock ≠ some r
  d5 : ∀ x ∈ Rs, u5.ownBlock ≠ some x.g
  d4 : ∀ x ∈ Ls, u4.ownBlock ≠ some x.g
theorem TwoL.below {W W' : World} {B : Nat} {u4 u5 : Value} {Rs Ls : List RowP} (h : TwoL W B u4 u5 Rs Ls) (hb : Below W.heap.size W W') : TwoL W' B u4 u5 Rs Ls :=
  ⟨h.m4.below hb, h.m5.below hb, h.d45, h.d5, h.d4⟩
/-- What l03Put gives, in one. -/
theorem PutQ.one {base : Nat} {u : Value} {Rs : List RowP} {x : RowP} {w w' : World} {e : Ending} (h : PutQ base u Rs x w e w') (hM : RowsM w base u Rs) :
    ∃ u' Rs', e = .returned u' ∧ RowsM w' base u' Rs' ∧ rowsP Rs' = putL (rowsP Rs) x.r ∧ w.grownBy w' u.ownBlock ∧ (∀ r, u'.ownBlock = some r → u.ownBlock = some r ∨ w.heap.size ≤ r) ∧ (∀ y ∈ Rs', y = x ∨ y ∈ Rs) := by
  rcases h with ⟨hp, rfl, n, rfl⟩ | ⟨hp, G, cap, rfl, hM', hg, hG⟩
  · refine ⟨u, Rs, rfl, hM.below (below_drewN (Below.refl _ _) n), by unfold putL; rw [if_pos hp], only_of_below (below_drewN (Below.refl _ _) n) _, fun r e => .inl e, fun y hy => .inr hy⟩
  · refine ⟨_, _, rfl, hM', ?_, hg, fun r e => ?_, fun y hy => insP_mem.1 hy⟩
    · rw [insP_rows]
      unfold putL
      rw [hp, if_neg (by decide)]
      have : (rowsP Rs).length = Rs.length := by simp [rowsP]
      rw [this]
    · have e : G = r := by simpa [Value.ownBlock] using e
      rw [← e]
      exact hG
/-- One pair more: the type is put into the one list and stands at the end of the other. -/
theorem TwoL.step {W W2 W3 : World} {B : Nat} {u4 u5 u4' : Value} {Rs Ls Rs' : List RowP} {x : RowP} {G cap : Nat} (h : TwoL W B u4 u5 Rs Ls) (hx : OwnAtI W x.g x.r) (hn4 : u4.ownBlock ≠ some x.g) (hn5 : u5.ownBlock ≠ some x.g) (hnR : ∀ y ∈ Rs, y.g ≠ x.g) (hnL : x.g ∉ Ls.map RowP.g) (hlo : B ≤ x.g)
    (hM : RowsM W2 B u4' Rs') (hg : W.grownBy W2 u4.ownBlock) (hG4 : ∀ r, u4'.ownBlock = some r → u4.ownBlock = some r ∨ W.heap.size ≤ r) (hsub : ∀ y ∈ Rs', y = x ∨ y ∈ Rs)
    (hV : RowsV W3 B (.slice (some ⟨G, 0, none⟩) (Ls.length + 1) cap) (Ls.map RowP.hdr ++ [x.hdr])) (hg3 : W2.grownBy W3 u5.ownBlock) (hG5 : u5.ownBlock = some G ∨ W2.heap.size ≤ G) :
    TwoL W3 B u4' (.slice (some ⟨G, 0, none⟩) (Ls.length + 1) cap) Rs' (Ls ++ [x]) ∧ rowsP (Ls ++ [x]) = rowsP Ls ++ [x.r] := by
  have hsz := hg.size
  have hx2 : OwnAtI W2 x.g x.r := hx.kept hg (fun e => hn4 e.symm)
  have h52 : RowsM W2 B u5 Ls := h.m5.kept hg fun r e => ⟨h.d45 r e, fun y hy e' => h.d4 y hy (by rw [e, e'])⟩
  have hlt5 := fun r (e : u5.ownBlock = some r) => (h.m5.blk r e).2
  have hxlt := hx.lt
  have hG2 : ∀ r, u4'.ownBlock = some r → r ≠ G := by
    intro r e e'
    subst e'
    have hr2 := (hM.blk r e).2
    rcases hG5 with h5 | h5
    · rcases hG4 r e with h4 | h4
      · exact h.d45 r h4 h5
      · have := hlt5 r h5
        omega
    · omega
  have hR5 : ∀ y ∈ Rs', u5.ownBlock ≠ some y.g := fun y hy => by
    rcases hsub y hy with rfl | hy
    · exact hn5
    · exact h.d5 y hy
  have hRG : ∀ y ∈ Rs', y.g ≠ G := fun y hy e => by
    rcases hG5 with h5 | h5
    · exact hR5 y hy (by rw [h5, e])
    · have := hM.lt y hy
      omega
  have hLG : ∀ y ∈ Ls ++ [x], y.g ≠ G ∧ u4'.ownBlock ≠ some y.g ∧ OwnAtI W3 y.g y.r ∧ B ≤ y.g := fun y hy => by
    rcases List.mem_append.1 hy with hy | hy
    · have hy2 := h52.lt y hy
      have hy0 := h.m5.lt y hy
      refine ⟨fun e => ?_, fun e => ?_, (h52.row y hy).kept hg3 (fun e => h.m5.ne y hy e.symm), h.m5.low y hy⟩
      · rcases hG5 with h5 | h5
        · exact h.m5.ne y hy (by rw [h5, e])
        · omega
      · rcases hG4 _ e with h4 | h4
        · exact h.d4 y hy h4
        · omega
    · obtain rfl : y = x := by simpa using hy
      refine ⟨fun e => ?_, fun e => ?_, hx2.kept hg3 (fun e => hn5 e.symm), hlo⟩
      · rcases hG5 with h5 | h5
        · exact hn5 (by rw [h5, e])
        · have := hx2.lt
          omega
      · rcases hG4 _ e with h4 | h4
        · exact hn4 h4
        · omega
  refine ⟨⟨hM.kept hg3 fun r e => ⟨fun e' => ?_, fun y hy e' => hR5 y hy (by rw [e, e'])⟩, ⟨?_, fun y hy => (hLG y hy).2.2.1, fun y hy e => ?_, ?_, fun y hy => (hLG y hy).2.2.2⟩, fun r e e' => ?_, fun y hy e => ?_, fun y hy => (hLG y hy).2.1⟩, by simp [rowsP]⟩
  · rcases hG4 r e' with h4 | h4
    · exact h.d45 r h4 e
    · have := hlt5 r e
      omega
  · have e : (Ls ++ [x]).map RowP.hdr = Ls.map RowP.hdr ++ [x.hdr] := by simp
    rw [e]
    exact hV
  · have e : G = y.g := by simpa [Value.ownBlock] using e
    exact (hLG y hy).1 e.symm
  · rw [List.map_append, List.nodup_append]
    refine ⟨h.m5.nd, by simp, fun a ha b hb e => ?_⟩
    simp at hb
    subst e
    exact hnL (by rw [← hb]; exact ha)
  · have e' : G = r := by simpa [Value.ownBlock] using e'
    exact hG2 r e e'.symm
  · have e : G = y.g := by simpa [Value.ownBlock] using e
    exact hRG y hy e.symm
/-- Where the outline stands at the pair a, b. -/
def TyI (bs : List Blk) (n : Nat) (w1 W : World) (B : Nat) (u4 u5 : Value) (a b : Nat) : Prop := Below B w1 W ∧ ∃ Rs Ls : List RowP, TwoL W B u4 u5 Rs Ls ∧ rowsP Ls = tyTo bs n a b ∧ rowsP Rs = setR (tyTo bs n a b)
theorem TyI.forms {bs : List Blk} {n : Nat} {w1 W : World} {B : Nat} {u4 u5 : Value} {a b : Nat} (h : TyI bs n w1 W B u4 u5 a b) (ha : a ≤ 15) (hb : b ≤ 15) :
    ∃ Rs Ls a4 c4 a5 c5, u4 = .slice a4 Rs.length c4 ∧ u5 = .slice a5 Ls.length c5 ∧ Rs.length ≤ 300 ∧ Ls.length ≤ 300 ∧ Below B w1 W ∧ TwoL W B u4 u5 Rs Ls ∧ rowsP Ls = tyTo bs n a b ∧ rowsP Rs = setR (tyTo bs n a b) := by
  obtain ⟨hB, Rs, Ls, hT, h1, h2⟩ := h
  obtain ⟨a4, c4, e4⟩ := hT.m4.form
  obtain ⟨a5, c5, e5⟩ := hT.m5.form
  have l1 : Ls.length = (tyTo bs n a b).length := by rw [← h1]; simp [rowsP]
  have l2 : Rs.length = (setR (tyTo bs n a b)).length := by rw [← h2]; simp [rowsP]
  have := tyTo_len bs (n := n) ha hb
  have := setR_len (tyTo bs n a b)
  exact ⟨Rs, Ls, a4, c4, a5, c5, e4, e5, by omega, by omega, hB, hT, h1, h2⟩
theorem TyI.next {bs : List Blk} {n : Nat} {w1 W : World} {B : Nat} {u4 u5 : Value} {a : Nat} (h : TyI bs n w1 W B u4 u5 a a) : TyI bs n w1 W B u4 u5 (a + 1) 0 := by
  unfold TyI at h ⊢
  rw [tyTo_next] at h
  exact h
theorem rows_len {bs : List Blk} {n a b : Nat} (hn : n ≤ 15) {Rs : List RowP} (h : rowsP Rs = setR (tyTo bs n a b)) : ∀ y ∈ Rs, y.r.length ≤ 1100000 := fun y hy => by
  have : y.r ∈ rowsP Rs := List.mem_map.2 ⟨y, hy, rfl⟩
  rw [h, setR_mem] at this
  have := tyTo_row hn _ this
  omega
theorem OwnJ.atI {w : World} {base g n cap : Nat} {zs : List Int} (h : OwnJ w base (.slice (some ⟨g, 0, none⟩) n cap) zs) (hl : zs.length ≤ 1100000) : OwnAtI w g zs ∧ base ≤ g := by
  obtain ⟨h1, _, h3, h4⟩ := h.ints0 hl
  refine ⟨⟨h3, h1, ?_⟩, h4⟩
  obtain ⟨_, h | ⟨g', cap', cur, e, hb, hcur, _⟩⟩ := h
  · simp at h
  · simp at e
    obtain ⟨rfl, rfl, rfl⟩ := e
    intro o
    simp [World.frozen?, hcur]
theorem OwnJ.made1 (W : World) {base : Nat} (n : Nat) (hn : n ≤ 1100000) (hb : base ≤ W.heap.size) : OwnJ (W.alloc (.cells (madeCells #[.int .i64 0] n) 2)) base (.slice (some ⟨W.heap.size, 0, none⟩) n n) (List.replicate n 0) := by
  have hml : 1100000 ≤ maxLen := by decide
  unfold OwnJ World.ownsRow
  refine ⟨by simp, .inr ⟨W.heap.size, n, madeCells #[.int .i64 0] n, by simp, hb, World.alloc_heap_new W _, by simp, by omega, by simp [madeCells], ?_⟩⟩
  apply List.ext_getElem
  · simp [madeCells]
  · intro i h1 h2
    simp [madeCells, Nat.mod_one]
/-- The header of a row and what it holds, in a later world. -/
theorem RowsM.hdr {w W : World} {base : Nat} {a : Option Addr} {m c : Nat} {Rs : List RowP} (h : RowsM w base (.slice a m c) Rs) (hb : Below w.heap.size w W) (hl : ∀ y ∈ Rs, y.r.length ≤ 1100000) {k : Nat} (hk : k < Rs.length) :
    ∃ G g l cp, a = some ⟨G, 0, none⟩ ∧ m = Rs.length ∧ W.cell? ⟨G, k, none⟩ = some (.slice (some ⟨g, 0, none⟩) l cp) ∧ IB W (.slice (some ⟨g, 0, none⟩) l cp) ((rowsP Rs)[k]?.getD []) := by
  have h' := h.below hb
  have hx : Rs[k]? = some Rs[k] := List.getElem?_eq_getElem hk
  obtain ⟨G, c', e, hc, ho⟩ := h'.at_ hx
  simp at e
  obtain ⟨e1, e2, _⟩ := e
  refine ⟨G, Rs[k].g, Rs[k].r.length, Rs[k].c, e1, e2, hc, ?_⟩
  have : (rowsP Rs)[k]?.getD [] = Rs[k].r := by simp [rowsP, hx]
  rw [this]
  exact RowP.ib ho (hl _ (List.getElem_mem hk))
theorem RowsM.base {w : World} {b b' : Nat} {u : Value} {Rs : List RowP} (h : RowsM w b u Rs) (hb : b' ≤ b) : RowsM w b' u Rs :=
  ⟨⟨h.own.1, by
    rcases h.own.2 with h2 | ⟨g, cap, cur, e1, e2, e3⟩
    · exact .inl h2
    · exact .inr ⟨g, cap, cur, e1, by omega, e3⟩⟩, h.row, h.ne, h.nd, fun x hx => Nat.le_trans hb (h.low x hx)⟩
theorem RowsM.new0 (W : World) {base : Nat} (hb : base ≤ W.heap.size) : RowsM (W.alloc (.cells #[] 26)) base (.slice (some ⟨W.heap.size, 0, none⟩) 0 0) [] :=
  ⟨⟨rfl, .inr ⟨W.heap.size, 0, #[], rfl, hb, World.alloc_heap_new W _, Nat.le_refl _, Nat.zero_le _, rfl, rfl⟩⟩, by simp, by simp, by simp, by simp⟩
end Go.Proofs.Ytiomdfhhejdoiaa

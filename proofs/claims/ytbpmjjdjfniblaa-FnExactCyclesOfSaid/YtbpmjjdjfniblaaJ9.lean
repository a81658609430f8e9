
/- The model's cycles. The outline's CyclesOf answers as the plain function cyF. How the laws' arguments are read. How the laws' other arguments are read: slices of integers, slices of blocks, a block, rows. What a law over one system whose result is a system knows of the memory between two of its steps. The law FnExactCyclesOf returns true. The dump's head word by word, cheaply: what every row asks of it. -/
import Derived.Test.YtbpmjjdjfniblaaJ8
import Derived.Test.YtbpmjjdjfniblaaRows
import Derived.ProofKit
import Derived.OpenShut
import Derived.Deep.Slices
import Derived.Lib.SmallJoins
import Derived.ChangeOld
import Derived.Deep.RegionWith
import Derived.Deep.DeepCutAuto
namespace Go.Proofs.Ytbpmjjdjfniblaa
open Go.RowKit Go.Maps
theorem BoolsAt.below {w w' : World} {g n : Nat} {f : Nat → Bool} (h : BoolsAt w g n f) {B : Nat} (hb : Below B w w') (hB : w.heap.size ≤ B) : BoolsAt w' g n f :=
  h.kept (only_of_below (hb.mono hB) none) (by simp)
/-- The model's memory: the row of what is met, the rows. -/
structure CM (z : Nat) (W1 w : World) (n : Nat) (f : Nat → Bool) (ov : Value) (m : Nat) (gs caps : Nat → Nat) (F : Nat → List Int) : Prop where
  below : Below (z + 1) W1 w
  met : BoolsAt w (z + 1) n f
  acc : AccS w (z + 2) ov m gs caps F
theorem CM.set {z : Nat} {W1 w : World} {n : Nat} {f : Nat → Bool} {ov : Value} {m : Nat} {gs caps : Nat → Nat} {F : Nat → List Int} (h : CM z W1 w n f ov m gs caps F) {i : Nat} (hi : i < n) :
    CM z W1 (w.setCell ⟨z + 1, i, none⟩ (.bool true)) n (fun q => if q = i then true else f q) ov m gs caps F := by
  have hg := only_setCell (p := ⟨z + 1, i, none⟩) (only_refl w (some (z + 1))) rfl (.bool true)
  refine ⟨h.below.setCell (p := ⟨z + 1, i, none⟩) (Nat.le_refl _) _, h.met.set hi, h.acc.kept hg (.inr fun e => ?_) (fun k hk e => ?_)⟩
  · have := (ownsRow_lt h.acc.own _ e).1; omega
  · have := h.acc.low k hk; simp at e; omega
theorem CM.step {z : Nat} {W1 w w' : World} {n : Nat} {f : Nat → Bool} {ov : Value} {m : Nat} {gs caps : Nat → Nat} {F : Nat → List Int} (h : CM z W1 w n f ov m gs caps F) (hz : z + 1 ≤ w.heap.size) (hb : Below w.heap.size w w') : CM z W1 w' n f ov m gs caps F :=
  ⟨h.below.trans (hb.mono hz), h.met.below hb (Nat.le_refl _), h.acc.below hb (Nat.le_refl _)⟩
theorem CM.grow {z : Nat} {W1 w w' : World} {n : Nat} {f : Nat → Bool} {ov : Value} {m : Nat} {gs caps : Nat → Nat} {F : Nat → List Int} {row : Option Nat} (h : CM z W1 w n f ov m gs caps F) (hg : w.grownBy w' row) (hz : z + 1 ≤ w.heap.size)
    (hr : ∀ r, row = some r → z + 2 ≤ r ∧ ov.ownBlock ≠ some r ∧ ∀ k, k < m → gs k ≠ r) : CM z W1 w' n f ov m gs caps F :=
  ⟨h.below.grown hg hz (fun r e => by have := (hr r e).1; omega), h.met.kept hg (fun e => by have := (hr _ e.symm).1; omega), h.acc.kept hg (by
    cases row with
    | none => exact .inl rfl
    | some r => exact .inr (hr r rfl).2.1) (fun k hk e => (hr _ e.symm).2.2 k hk rfl)⟩
theorem CM.congr {z : Nat} {W1 w : World} {n : Nat} {f f' : Nat → Bool} {ov : Value} {m : Nat} {gs caps : Nat → Nat} {F : Nat → List Int} (h : CM z W1 w n f ov m gs caps F) (e : ∀ q, q < n → f q = f' q) : CM z W1 w n f' ov m gs caps F :=
  ⟨h.below, h.met.congr e, h.acc⟩
set_option maxRecDepth 100000 in
set_option maxHeartbeats 8000000 in
theorem l03Cycles_any (n : Nat) (s : Value) (bs : List Blk) (a b : Nat) (w : World) (h : SB w s bs) (hi : isSysImpl (n : Int) bs = true) (hf : fullB (n : Int) bs = true) (ha : a < n) (hb : b < n) (hab : a ≠ b) :
    Calls Try.prog 64 #[.agg #[.int .i64 (n : Int), s], .int .i64 (a : Int), .int .i64 (b : Int)] w (fun e w' => ∃ u, e = .returned u ∧ ResSS w' w.heap.size u (cyS bs a b n).length (rowsF (cyS bs a b n)) ∧ Below w.heap.size w w') := by
  have hn15 := (sys_size hi).2.1
  have hgood := sys_good hi
  have HTH := Lib.hid fun W (hb2 : Below w.heap.size w W) (p q : Int) p0 p1 q0 q1 => l01Third_any (n : Int) s bs p q W (h.below hb2 (Nat.le_refl _)) hgood hn15 p0 p1 q0 q1
  have hs := h.slice
  have HI := Lib.hid hi
  have HF := Lib.hid hf
  have htri := tri_third hi hf (a := (a : Int)) (b := (b : Int)) (by omega) (by omega) (by omega)
  have htr := htri.range hi
  obtain ⟨t, ht⟩ := Int.eq_ofNat_of_zero_le htr.1
  have htn : t < n := by omega
  have HT3 := Lib.hid ht
  have hmb := mkBools n (by omega)
  clear h hi hf htri htr hgood
  obtain ⟨a0, c0, rfl⟩ := hs
  go_enter Try.func64, Try.ntmps64
  obtain ⟨W0, rfl⟩ : ∃ W0, W0 = w := ⟨_, rfl⟩
  obtain ⟨W1, hW1⟩ : ∃ W1, W1 = W0.alloc (.cells #[.int .i64 (n : Int), .slice a0 bs.length c0] 34) := ⟨_, rfl⟩
  have hz1 : W1.heap.size = W0.heap.size + 1 := by rw [hW1]; simp
  have p0 : W1.cell? ⟨W0.heap.size, 0, none⟩ = some (.int .i64 (n : Int)) := by rw [hW1]; simp [go_sem]
  have p1 : W1.cell? ⟨W0.heap.size, 1, none⟩ = some (.slice a0 bs.length c0) := by rw [hW1]; simp [go_sem]
  have HB1 := Lib.hid (show Below W0.heap.size W0 W1 by rw [hW1]; exact (Below.refl _ _).alloc (Nat.le_refl _) _)
  obtain ⟨W2, hW2⟩ : ∃ W2, W2 = (W1.alloc (.cells (madeCells #[.bool false] n) 4)).alloc (.cells #[] 27) := ⟨_, rfl⟩
  have hz2 : W2.heap.size = W0.heap.size + 3 := by rw [hW2]; simp [hz1]
  have hM2 : BoolsAt W2 (W0.heap.size + 1) n (fun _ => false) := by
    rw [hW2, ← hz1]
    exact (BoolsAt.made W1 n _).kept (World.grownBy_alloc _ _ none) (by simp)
  have hA2 : AccS W2 (W0.heap.size + 2) (.slice (some ⟨W0.heap.size + 2, 0, none⟩) 0 0) 0 (fun _ => 0) (fun _ => 0) (rowsF (cyS bs a b n)) := by
    have := AccS.new0 (W1.alloc (.cells (madeCells #[.bool false] n) 4)) (fun _ => 0) (fun _ => 0) (rowsF (cyS bs a b n)) (Nat.le_refl _)
    rw [hW2]
    simpa [hz1] using this
  have hB2 : Below (W0.heap.size + 1) W1 W2 := by rw [hW2, ← hz1]; exact ((Below.refl _ _).alloc (Nat.le_refl _) _).alloc (by simp) _
  go_upto_region 2 with (fail)
  rw [← hW1, ← hW2]
  have C2 : CM W0.heap.size W1 W2 n (fun _ => false) (.slice (some ⟨W0.heap.size + 2, 0, none⟩) 0 0) 0 (fun _ => 0) (fun _ => 0) (rowsF (cyS bs a b n)) := ⟨hB2, hM2, hA2⟩
  have g0 : (0 : Int) ≤ (a : Int) := by omega
  have g1 : (a : Int) < (n : Int) := by omega
  have g2 : (0 : Int) ≤ (b : Int) := by omega
  have g3 : (b : Int) < (n : Int) := by omega
  have g4 : (t : Int) < (n : Int) := by omega
  have C3 := C2.set ha
  have m1 := C2.met.cell a ha
  have f1 := C2.met.free a
  obtain ⟨V3, hV3⟩ : ∃ V, V = W2.setCell ⟨W0.heap.size + 1, a, none⟩ (.bool true) := ⟨_, rfl⟩
  have HC2 := Lib.hid C2
  clear hW1 hW2 hM2 hA2 hB2 C2
  have HC3 := Lib.hid C3
  clear C3
  go_upto_region 3 with (fail)
  rw [← hV3] at HC3 ⊢
  have m2 := HC3.out.met.cell b hb
  have f2 := HC3.out.met.free b
  have hz3 : V3.heap.size = W0.heap.size + 3 := by rw [hV3]; simpa [World.setCell] using hz2
  clear hV3 m1 f1
  have HC4 := Lib.hid (HC3.out.set hb)
  obtain ⟨V4, hV4⟩ : ∃ V, V = V3.setCell ⟨W0.heap.size + 1, b, none⟩ (.bool true) := ⟨_, rfl⟩
  go_upto_region 4 with (fail)
  rw [← hV4] at HC4 ⊢
  have hz4 : V4.heap.size = W0.heap.size + 3 := by rw [hV4]; simpa [World.setCell] using hz3
  clear hV4 m2 f2
  have q0 := (HC4.out.below.cell (p := ⟨W0.heap.size, 0, none⟩) (by simp)).trans p0
  have q1 := (HC4.out.below.cell (p := ⟨W0.heap.size, 1, none⟩) (by simp)).trans p1
  go_wp2_with fail
  refine (HTH.out _ (HB1.out.trans (HC4.out.below.mono (by omega))) _ _ (by omega) (by omega) (by omega) (by omega)).mono ?_
  rintro e w5 ⟨rfl, hb5⟩
  rw [HT3.out]
  have hz5 := hb5.size
  have HC5 := Lib.hid (HC4.out.step (by omega) hb5)
  have m5 := HC5.out.met.cell t htn
  have f5 := HC5.out.met.free t
  have HC6 := Lib.hid (HC5.out.set htn)
  clear hb5 q0 q1
  obtain ⟨V6, hV6⟩ : ∃ V, V = w5.setCell ⟨W0.heap.size + 1, t, none⟩ (.bool true) := ⟨_, rfl⟩
  go_upto_region 5 with (fail)
  rw [← hV6] at HC6 ⊢
  have hz6 : W0.heap.size + 3 ≤ V6.heap.size := by rw [hV6]; simp [World.setCell]; omega
  clear hV6 m5 f5
  have HC := Lib.hid (HC6.out.congr (f' := fun q => decide ((q : Int) ∈ seen0 bs a b ++ (cyS bs a b 0).flatten)) (fun q _ => by
    rw [Bool.eq_iff_iff]
    simp only [seen0, HT3.out, cyS, List.flatten_nil, List.append_nil, List.mem_cons, List.not_mem_nil, or_false, decide_eq_true_eq]
    by_cases e1 : q = t
    · simp [e1]
    · by_cases e2 : q = b
      · simp [e2]
      · by_cases e3 : q = a
        · simp [e3]
        · simp only [if_neg e1, if_neg e2, if_neg e3]
          constructor
          · intro h; cases h
          · intro h; omega))
  clear HC2 HC3 HC4 HC5 HC6
  have HPO := Lib.hid fun (k : Nat) (hk : Beyond n bs (a : Int) (b : Int) (k : Int)) => perN_ok HI.out HF.out ha hb hab hk
  have HBY := Lib.hid fun (k : Nat) (hk : Beyond n bs (a : Int) (b : Int) (k : Int)) j => (two_thirds HI.out HF.out (a := (a : Int)) (b := (b : Int)) (by omega) (by omega) (by omega)).mem hk j
  have HNI := Lib.hid fun (k : Nat) (hk : k ≤ n) (hs : Beyond n bs (a : Int) (b : Int) (k : Int)) hn j => wk_notin HI.out HF.out ha hb hab hk hs hn j
  go_wp2_with fail
  go_loopw [8, 9] (fun ov i wr => ∃ (k : Nat) (gs caps : Nat → Nat), k ≤ n ∧ i = .int .i64 k ∧ CM W0.heap.size W1 wr n (fun q => decide ((q : Int) ∈ seen0 bs a b ++ (cyS bs a b k).flatten)) ov (cyS bs a b k).length gs caps (rowsF (cyS bs a b n)) ∧ W0.heap.size + 3 ≤ wr.heap.size ∧ ∃ x y, ov = .slice x (cyS bs a b k).length y) (fun _ i _ => n - (intOf i).toNat)
  case atStart => exact ⟨0, _, _, Nat.zero_le _, rfl, HC.out, hz6, _, _, rfl⟩
  case round =>
    obtain ⟨k, gs, caps, hk, rfl, hM, hzr, x0, y0, rfl⟩ := hrel
    have HM := Lib.hid hM
    have hcl := cyS_len (bs := bs) (a := a) (b := b) k
    obtain ⟨sl, hsl'⟩ : ∃ sl, sl = seen0 bs a b ++ (cyS bs a b k).flatten := ⟨_, rfl⟩
    obtain ⟨m, hm⟩ : ∃ m, m = (cyS bs a b k).length := ⟨_, rfl⟩
    have hm15 : m ≤ 15 := by omega
    rw [← hsl', ← hm] at HM
    rw [← hm]
    have r0 := (HM.out.below.cell (p := ⟨W0.heap.size, 0, none⟩) (by simp)).trans p0
    have r1 := (HM.out.below.cell (p := ⟨W0.heap.size, 1, none⟩) (by simp)).trans p1
    clear hM hcl
    by_cases hkl : k < n
    · have mk := HM.out.met.cell k hkl
      have k0 : (0 : Int) ≤ (k : Int) := by omega
      have k1 : (k : Int) < (n : Int) := by omega
      by_cases hin : (k : Int) ∈ sl
      · have dk : decide ((k : Int) ∈ sl) = true := decide_eq_true hin
        rw [dk] at mk
        have HN := Lib.hid (cyS_next_in (bs := bs) (a := a) (b := b) (k := k) (by rw [← hsl']; exact hin))
        have HSL := Lib.hid hsl'
        have HMM := Lib.hid hm
        clear hin hsl' hm dk
        go_wp2_with fail
        go_roundw
        case rel => exact ⟨k + 1, gs, caps, by omega, by go_num, by rw [HN.out, ← HSL.out, ← HMM.out]; exact HM.out, hzr, x0, y0, by rw [HN.out, ← HMM.out]⟩
        case measure => simp [intOf]; omega
      · have dk : decide ((k : Int) ∈ sl) = false := decide_eq_false hin
        rw [dk] at mk
        have hnot : ¬ (k : Int) ∈ seen0 bs a b ++ (cyS bs a b k).flatten := by rw [← hsl']; exact hin
        have HN := Lib.hid (cyS_next_out hnot)
        obtain ⟨hbey, hnin⟩ := beyond_of hkl hnot
        have hok := HPO.out k hbey
        obtain ⟨N, hNe⟩ : ∃ N, N = perN bs a b (k : Int) := ⟨_, rfl⟩
        rw [← hNe] at hok
        obtain ⟨hN0, hN2, hN15, hfr, hNs⟩ := hok
        have HBE := Lib.hid (show ∀ j, Beyond n bs (a : Int) (b : Int) (wk bs a b (k : Int) j) from HBY.out k hbey)
        have HNF := Lib.hid (show ∀ j, j < N → ¬ wk bs a b (k : Int) j ∈ sl ++ wkL bs a b (k : Int) j from fun j hj hmm => by
          rcases List.mem_append.1 hmm with h1 | h1
          · rw [hsl', List.mem_append] at h1
            rcases h1 with h1 | h1
            · have hb2 := HBE.out j
              simp only [seen0, List.mem_cons, List.not_mem_nil, or_false] at h1
              rcases h1 with h1 | h1 | h1
              · exact hb2.2.1 h1
              · exact hb2.2.2.1 h1
              · exact hb2.2.2.2 h1
            · exact HNI.out k hk hbey hnin j h1
          · obtain ⟨i, hi, e⟩ := List.mem_map.1 h1
            exact hfr i j (List.mem_range.1 hi) hj e)
        have HNY := Lib.hid (show wk bs a b (k : Int) N ∈ sl ++ wkL bs a b (k : Int) N from List.mem_append_right _ (List.mem_map.2 ⟨0, List.mem_range.2 hN0, hNs.symm⟩))
        obtain ⟨R, hR⟩ := cyS_pre (bs := bs) (a := a) (b := b) (show k + 1 ≤ n by omega)
        have HFM := Lib.hid (show rowsF (cyS bs a b n) m = wkL bs a b (k : Int) N by
          unfold rowsF
          rw [hR, HN.out, hm, List.append_assoc, List.getElem?_append_right (Nat.le_refl _), Nat.sub_self, hNe]
          rfl)
        have HNC := Lib.hid (show cyS bs a b (k + 1) = cyS bs a b k ++ [wkL bs a b (k : Int) N] by rw [HN.out, hNe]; rfl)
        have HSL := Lib.hid hsl'
        have HMM := Lib.hid hm
        have HXL := Lib.hid (show ∀ r, (Value.slice x0 m y0).ownBlock = some r → W0.heap.size + 2 ≤ r ∧ r < wr.heap.size from fun r e => ownsRow_lt HM.out.acc.own r e)
        have HGL := Lib.hid (show ∀ j, j < m → gs j < wr.heap.size from fun j hj => (HM.out.acc.row j hj).lt)
        have HM7 := Lib.hid (HM.out.step (by omega) ((Below.refl wr.heap.size wr).alloc (Nat.le_refl _) (.cells #[] 2)))
        have HO7 := Lib.hid (OwnJ.new0 wr (Nat.le_refl _))
        have HW0 := Lib.hid (show wk bs a b (k : Int) 0 = (k : Int) from rfl)
        clear hin hsl' hm dk hnot hbey hnin hNe hfr hNs hR
        obtain ⟨Wk, rfl⟩ : ∃ W, W = wr := ⟨_, rfl⟩
        go_wp2_with fail
        go_loopw [10, 11, 12] (fun o at_ by_ wx => ∃ j : Nat, j ≤ N ∧ at_ = .int .i64 (wk bs a b (k : Int) j) ∧ by_ = .int .i64 (if j % 2 = 0 then (a : Int) else (b : Int)) ∧ CM W0.heap.size W1 wx n (fun q => decide ((q : Int) ∈ sl ++ wkL bs a b (k : Int) j)) (.slice x0 m y0) m gs caps (rowsF (cyS bs a b n)) ∧ OwnJ wx Wk.heap.size o (wkL bs a b (k : Int) j) ∧ Wk.heap.size < wx.heap.size ∧ ∃ x y, o = .slice x j y) (fun o _ _ _ => N - lenOf o)
        case atStart => exact ⟨0, Nat.zero_le _, by rw [HW0.out], rfl, HM7.out.congr (fun q _ => by simp [wkL]), HO7.out, by simp, _, _, rfl⟩
        case round =>
          obtain ⟨j, hj, rfl, rfl, hC, hO, hzx, x1, y1, rfl⟩ := hrel
          have HCj := Lib.hid hC
          have HOj := Lib.hid hO
          have hP := (HBE.out j).1
          obtain ⟨P, hPn⟩ := Int.eq_ofNat_of_zero_le hP.1
          rw [hPn] at hP
          have hPl : P < n := by omega
          have mP := hC.met.cell P hPl
          have fP := hC.met.free P
          have P0 : (0 : Int) ≤ (P : Int) := by omega
          have P1 : (P : Int) < (n : Int) := by omega
          rw [hPn]
          clear hC hO
          by_cases hjl : j < N
          · have dP : decide ((P : Int) ∈ sl ++ wkL bs a b (k : Int) j) = false := decide_eq_false (by rw [← hPn]; exact HNF.out j hjl)
            rw [dP] at mP
            obtain ⟨Y, hY⟩ : ∃ Y : Nat, Y = if j % 2 = 0 then a else b := ⟨_, rfl⟩
            have hYn : Y < n := by rw [hY]; split <;> assumption
            have hYi : (if j % 2 = 0 then (a : Int) else (b : Int)) = (Y : Int) := by rw [hY]; split <;> rfl
            have hYs : (a : Int) + (b : Int) - (Y : Int) = if (j + 1) % 2 = 0 then (a : Int) else (b : Int) := by
              rw [hY]
              by_cases e : j % 2 = 0
              · rw [if_pos e, if_neg (by omega)]; omega
              · rw [if_neg e, if_pos (by omega)]; omega
            have hth : third1 bs (Y : Int) (P : Int) = wk bs a b (k : Int) (j + 1) := by
              rw [← hPn]
              show _ = (if j % 2 = 0 then _ else _)
              rw [hY]
              split <;> rfl
            have hS : wkL bs a b (k : Int) (j + 1) = wkL bs a b (k : Int) j ++ [(P : Int)] := by rw [← hPn]; simp [wkL, List.range_succ]
            have hwl : (wkL bs a b (k : Int) j).length ≤ 15 := by rw [wkL_len]; omega
            have HS := Lib.hid hS
            have HYS := Lib.hid hYs
            have HTHJ := Lib.hid hth
            have HWL := Lib.hid (wkL_len bs a b (k : Int) j)
            obtain ⟨T, hTn⟩ := Int.eq_ofNat_of_zero_le (HBE.out (j + 1)).1.1
            have hCs := HCj.out.set hPl
            obtain ⟨V8, hV8⟩ : ∃ V, V = wr.setCell ⟨W0.heap.size + 1, P, none⟩ (.bool true) := ⟨_, rfl⟩
            have hst := only_setCell (p := ⟨W0.heap.size + 1, P, none⟩) (only_refl wr (some (W0.heap.size + 1))) rfl (.bool true)
            have hO8 : OwnJ V8 Wk.heap.size (.slice x1 j y1) (wkL bs a b (k : Int) j) := by
              rw [hV8]
              exact ownsRow_kept HOj.out hst (.inr fun e => by have := HOj.out.row _ e; omega)
            have hz8 : V8.heap.size = wr.heap.size := by rw [hV8]; simp [World.setCell]
            have HC8 := Lib.hid hCs
            have HO8 := Lib.hid hO8
            have HHV := Lib.hid hV8
            have HTN := Lib.hid hTn
            have HPN := Lib.hid hPn
            rw [hYi]
            clear hCs hO8 hst hV8 hS hYs hth hY hTn hYi hPn
            go_upto_region 12 with (fail)
            rw [← HHV.out]
            rw [← HHV.out] at HC8
            have hzb : Wk.heap.size ≤ V8.heap.size := by omega
            have h8le := Nat.le_of_eq hz8
            have h8ge := Nat.le_of_eq hz8.symm
            clear hz8
            clear mP fP dP
            have hO8a := HO8.out.below ((Below.refl V8.heap.size V8).alloc (Nat.le_refl _) (.cells #[.int .i64 (P : Int)] 2)) (Nat.le_refl _)
            have hc8 : (V8.alloc (.cells #[.int .i64 (P : Int)] 2)).cell? ⟨V8.heap.size, 0, none⟩ = some (.int .i64 (P : Int)) := by simp [go_sem]
            have hz8a : Wk.heap.size ≤ (V8.alloc (.cells #[.int .i64 (P : Int)] 2)).heap.size := by simp; omega
            have HA8 := Lib.hid (And.intro hO8a (And.intro hc8 hz8a))
            clear hO8a hc8 hz8a
            go_upto_region 13 with (at_builtin; refine wpList_append_int rfl _ _ rfl Wk.heap.size _ (wkL bs a b (k : Int) j) rfl HA8.out.1 V8.heap.size 1 (P : Int) rfl HA8.out.2.1 (by omega) HA8.out.2.2 ?_; intro g' cap' w9 hO9 hg9)
            have hgo : V8.grownBy w9 (Value.slice x1 j y1).ownBlock := gb_trans (World.grownBy_alloc _ _ none) hg9
            have hz9 := hgo.size
            have HC9 := Lib.hid (HC8.out.grow hgo (by omega) (fun r e => by
              have h1 := HO8.out.row r e
              exact ⟨by omega, fun e2 => by have := (HXL.out r e2).2; omega, fun q hq e2 => by have := HGL.out q hq; omega⟩))
            have q0 := (HC9.out.below.cell (p := ⟨W0.heap.size, 0, none⟩) (by simp)).trans p0
            have q1 := (HC9.out.below.cell (p := ⟨W0.heap.size, 1, none⟩) (by simp)).trans p1
            have HO9 := Lib.hid hO9
            clear hO9 hg9 hgo
            go_wp2_with fail
            refine (HTH.out _ (HB1.out.trans (HC9.out.below.mono (by omega))) _ _ (by omega) (by omega) (by omega) (by omega)).mono ?_
            rintro e w10 ⟨rfl, hb10⟩
            rw [HTHJ.out]
            have hz10 := hb10.size
            have HC10 := Lib.hid (HC9.out.step (by omega) hb10)
            have HO10 := Lib.hid (HO9.out.below hb10 (Nat.le_refl _))
            clear hb10 q0 q1
            obtain ⟨Z, hZ⟩ : ∃ Z, Z = wk bs a b (k : Int) (j + 1) := ⟨_, rfl⟩
            rw [← hZ]
            have HZ := Lib.hid hZ
            clear hZ
            go_wp2_with fail
            go_roundw
            case rel =>
              refine ⟨j + 1, by omega, by rw [HZ.out], by rw [HYS.out], HC10.out.congr (fun q _ => ?_), by rw [HS.out]; have := HO10.out; exact this, by omega, some ⟨g', 0, none⟩, cap', by rw [HWL.out]⟩
              rw [HS.out, Bool.eq_iff_iff]
              simp only [List.mem_append, List.mem_singleton, decide_eq_true_eq]
              by_cases e : q = P
              · simp [e]
              · simp only [if_neg e, decide_eq_true_eq]
                constructor
                · intro h; rcases h with h | h; exact .inl h; exact .inr (.inl h)
                · intro h
                  rcases h with h | h | h
                  · exact .inl h
                  · exact .inr h
                  · omega
            case measure => rw [HWL.out]; simp [lenOf]; omega
          · have e : j = N := by omega
            have dP : decide ((P : Int) ∈ sl ++ wkL bs a b (k : Int) j) = true := decide_eq_true (by rw [← hPn, e]; exact HNY.out)
            rw [dP] at mP
            rw [e] at HCj HOj ⊢
            have hNl : (wkL bs a b (k : Int) N).length = N := wkL_len _ _ _ _ _
            obtain ⟨g3, cap3, hu3, hg3lo, hg3hi, hoA⟩ : ∃ g cap, (Value.slice x1 N y1) = .slice (some ⟨g, 0, none⟩) (wkL bs a b (k : Int) N).length cap ∧ Wk.heap.size ≤ g ∧ g < wr.heap.size ∧ OwnAtI wr g (wkL bs a b (k : Int) N) := by
              rcases HOj.out.res (by rw [hNl]; omega) with ⟨e, _⟩ | h
              · rw [e] at hNl; simp at hNl; omega
              · exact h
            rw [hNl] at hu3
            simp at hu3
            obtain ⟨rfl, rfl⟩ := hu3
            have HOA := Lib.hid hoA
            have HNL := Lib.hid hNl
            clear hoA hNl hjl hj e dP hPn
            go_wp2_with (at_builtin; refine wpList_append_row_at rfl _ _ rfl (W0.heap.size + 2) _ m gs caps (rowsF (cyS bs a b n)) rfl (HCj.out.acc.below ((Below.refl _ _).alloc (Nat.le_refl _) _) (Nat.le_refl _)) wr.heap.size 1 rfl g3 y1 (by rw [HFM.out, HNL.out]; simp [go_sem]) (by rw [HFM.out]; exact HOA.out.kept (World.grownBy_alloc _ _ none) (by simp)) (fun i hi => by have := HGL.out i hi; omega) (fun e => by have := (HXL.out g3 e).2; omega) (by omega) (by omega) (by simp <;> omega) ?_; intro gC capC w9 haC hgC heC)
            have hgo : wr.grownBy w9 (Value.slice x0 m y0).ownBlock := gb_trans (World.grownBy_alloc _ _ none) hgC
            have hz9 := hgo.size
            have hB9 : Below (W0.heap.size + 1) W1 w9 := HCj.out.below.grown hgo (by omega) (fun r e => by have := (HXL.out r e).1; omega)
            have hM9 := HCj.out.met.kept hgo (fun e => by have := (HXL.out _ e.symm).1; omega)
            have hln : (cyS bs a b (k + 1)).length = m + 1 := by rw [HNC.out, List.length_append, ← HMM.out]; rfl
            have HLN := Lib.hid hln
            have HFL := Lib.hid (show seen0 bs a b ++ (cyS bs a b (k + 1)).flatten = sl ++ wkL bs a b (k : Int) N by rw [HNC.out, List.flatten_append, ← List.append_assoc, ← HSL.out]; simp)
            have HC9 := Lib.hid (show CM W0.heap.size W1 w9 n _ _ (m + 1) _ _ _ from ⟨hB9, hM9, haC⟩)
            clear hln hgo hB9 hM9 haC hgC heC
            go_roundw
            case rel => exact ⟨k + 1, _, _, by omega, by go_num, by rw [HFL.out, HLN.out]; exact HC9.out, by omega, some ⟨gC, 0, none⟩, capC, by rw [HLN.out]⟩
            case measure => simp [intOf]; omega
    · have e : k = n := by omega
      subst e
      have hr := HM.out.acc.res
      have hB := HB1.out.trans (HM.out.below.mono (by omega))
      rw [hm] at hr ⊢
      go_wp2
      go_ret
      exact ⟨_, rfl, hr.kept' (by omega) rfl, hB⟩
end Go.Proofs.Ytbpmjjdjfniblaa

namespace Go.Proofs.Ytbpmjjdjfniblaa
open Go.RowKit Go.Maps
set_option maxRecDepth 100000 in
set_option maxHeartbeats 2000000 in
theorem l03Code_any (v : Int) (s : Value) (bs : List Blk) (a b : Int) (w : World) (h : SB w s bs) :
    Calls Try.prog 63 #[.agg #[.int .i64 v, s], .int .i64 a, .int .i64 b] w (RV (.int .i64 (cyCode v bs a b)) w) := by
  have hs := h.slice
  have HPT := Lib.hid fun W b0 c (hb : Below w.heap.size w W) (hI : Ints W b0 0 [a, b]) (hl : b0 < W.heap.size) => l01Points_any v s bs b0 0 c [a, b] W (h.below hb (Nat.le_refl _)) hI hl (by simp)
  have hcode : pointsCode v bs [a, b] = if isSysImpl v bs then (if inP v a && inP v b then 0 else 2) else 1 := by simp [pointsCode]
  obtain ⟨a0, c0, rfl⟩ := hs
  have hlen := h.2.1
  have hb1' := ((Below.refl w.heap.size w).alloc (Nat.le_refl _) (.cells #[.int .i64 v, .slice a0 bs.length c0] 34)).alloc (by simp) (.cells #[.int .i64 a, .int .i64 b] 2)
  clear h
  obtain ⟨κ, hκ⟩ : ∃ κ, κ = cyCode v bs a b := ⟨_, rfl⟩
  rw [← hκ]
  unfold cyCode at hκ
  by_cases hi : isSysImpl v bs = true
  · rw [if_pos hi] at hcode hκ
    by_cases hp : (inP v a && inP v b) = true
    · rw [if_pos hp] at hcode
      rw [hp, Bool.true_and] at hκ
      rw [hcode] at HPT
      by_cases hab : a = b
      · have e1 : (a == b) = true := by simp [hab]
        rw [e1] at hκ
        simp at hκ
        subst hκ
        clear hcode hi hp hab
        go_enter Try.func63, Try.ntmps63
        go_wp2_with (go_at_call 93; refine (HPT.out _ _ _ hb1' (ints2 (by simp) (by simp)) (by simp)).mono ?_; rintro e w1 ⟨rfl, hb1⟩)
        go_ret
        exact RV_of rfl (hb1'.trans (hb1.mono (by simp; omega)))
      · have e1 : (a == b) = false := by simp [hab]
        rw [e1] at hκ
        obtain ⟨v3, v15, _⟩ := sys_size hi
        have HFL := Lib.hid fun W => l01Full_any v (.slice a0 bs.length c0) bs W ⟨_, _, rfl⟩ v3 v15 hlen
        obtain ⟨β, hβ⟩ : ∃ β, β = fullB v bs := ⟨_, rfl⟩
        rw [← hβ] at HFL hκ
        clear hcode hi hp hab hβ v3 v15 hlen
        cases β
        all_goals
          simp at hκ
          subst hκ
          go_enter Try.func63, Try.ntmps63
          go_wp2_with fail
          refine (HPT.out _ _ _ hb1' (ints2 (by simp) (by simp)) (by simp)).mono ?_
          rintro e w1 ⟨rfl, hb1⟩
          have hbw := hb1'.trans (hb1.mono (by simp; omega))
          have d0 := (hb1.cell (p := ⟨w.heap.size, 0, none⟩) (by simp; omega)).trans (by simp [go_sem] : _ = some (Value.int .i64 v))
          have d1 := (hb1.cell (p := ⟨w.heap.size, 1, none⟩) (by simp; omega)).trans (by simp [go_sem] : _ = some (Value.slice a0 bs.length c0))
          clear hb1
          go_wp2_with fail
          refine (HFL.out _).mono ?_
          rintro e w2 ⟨rfl, hb2⟩
          go_wp2
          go_ret
          exact RV_of rfl (hbw.trans (hb2.mono hbw.size))
    · rw [if_neg hp] at hcode
      have hp' : (inP v a && inP v b) = false := by simpa using hp
      rw [hp', Bool.false_and] at hκ
      rw [hcode] at HPT
      simp at hκ
      subst hκ
      clear hcode hi hp hp'
      go_enter Try.func63, Try.ntmps63
      go_wp2_with (go_at_call 93; refine (HPT.out _ _ _ hb1' (ints2 (by simp) (by simp)) (by simp)).mono ?_; rintro e w1 ⟨rfl, hb1⟩)
      go_ret
      exact RV_of rfl (hb1'.trans (hb1.mono (by simp; omega)))
  · rw [if_neg hi] at hcode hκ
    rw [hcode] at HPT
    subst hκ
    clear hcode hi
    go_enter Try.func63, Try.ntmps63
    go_wp2_with (go_at_call 93; refine (HPT.out _ _ _ hb1' (ints2 (by simp) (by simp)) (by simp)).mono ?_; rintro e w1 ⟨rfl, hb1⟩)
    go_ret
    exact RV_of rfl (hb1'.trans (hb1.mono (by simp; omega)))
set_option maxRecDepth 100000 in
set_option maxHeartbeats 2000000 in
theorem specCyclesOf_any (v : Int) (s : Value) (bs : List Blk) (a b : Int) (w : World) (h : SB w s bs) :
    Calls Try.prog 28 #[.agg #[.int .i64 v, s], .int .i64 a, .int .i64 b] w (RRows (cyF v bs a b) w) := by
  have hb0 : Below w.heap.size w (w.alloc (.cells #[.int .i64 v, s] 34)) := (Below.refl _ _).alloc (Nat.le_refl _) _
  have HC := Lib.hid (l03Code_any v s bs a b _ (h.below hb0 (Nat.le_refl _)))
  have HS := Lib.hid fun W (hb : Below w.heap.size w W) => h.below hb (Nat.le_refl _)
  obtain ⟨a0, c0, rfl⟩ := h.slice
  clear h hb0
  by_cases hc : cyCode v bs a b = 0
  · obtain ⟨hi, hf, ha, hb, hab⟩ := cyCode_good hc
    obtain ⟨h3, h15, _⟩ := sys_size hi
    have hval : cyF v bs a b = (cyS bs a.toNat b.toNat v.toNat, 0) := by unfold cyF; rw [if_pos hc]
    rw [hc] at HC
    obtain ⟨n, rfl⟩ := Int.eq_ofNat_of_zero_le (show 0 ≤ v by omega)
    obtain ⟨na, rfl⟩ := Int.eq_ofNat_of_zero_le ha.1
    obtain ⟨nb, rfl⟩ := Int.eq_ofNat_of_zero_le hb.1
    rw [hval]
    simp only [Int.toNat_natCast]
    have HCY := Lib.hid fun W (hb2 : Below w.heap.size w W) => l03Cycles_any n (.slice a0 bs.length c0) bs na nb W (HS.out W hb2) hi hf (by omega) (by omega) (by omega)
    obtain ⟨L, hL⟩ : ∃ L, L = cyS bs na nb n := ⟨_, rfl⟩
    rw [← hL] at HCY ⊢
    clear hval hc hi hf ha hb hab h3 h15 hL HS
    go_enter Try.func28, Try.ntmps28
    go_wp2_with fail
    refine HC.out.mono ?_
    rintro e w1 ⟨rfl, hb1⟩
    have d0 := cell_new hb1 0 rfl
    have d1 := cell_new hb1 1 rfl
    have hbw := below_new hb1
    clear hb1
    go_wp2_with fail
    refine (HCY.out _ hbw).mono ?_
    rintro e w3 ⟨u3, rfl, hr3, hb3⟩
    obtain ⟨a3, c3, hu3⟩ := hr3.form
    subst hu3
    have hB3 := hbw.trans (hb3.mono hbw.size)
    have hz := hbw.size
    clear hb3
    go_wp2
    exact bodyPost_ret (v := .tuple #[.slice a3 L.length c3, .int .i64 0]) (by simp [results, Try.results28, go_sem, *]) rfl ⟨_, rfl, hr3.kept' hz rfl, hB3⟩
  · have hval : cyF v bs a b = ([], cyCode v bs a b) := by unfold cyF; rw [if_neg hc]
    rw [hval]
    obtain ⟨κ, hκ⟩ : ∃ κ, κ = cyCode v bs a b := ⟨_, rfl⟩
    rw [← hκ] at HC hc ⊢
    have hne : (κ != 0) = true := by simpa using hc
    clear hκ hval hc HS
    go_enter Try.func28, Try.ntmps28
    go_wp2_with fail
    refine HC.out.mono ?_
    rintro e w1 ⟨rfl, hb1⟩
    have hbw := below_new hb1
    clear hb1
    go_wp2
    exact bodyPost_ret (v := .tuple #[.slice none 0 0, .int .i64 κ]) (by simp [results, Try.results28, go_sem, *]) rfl ⟨_, rfl, .inl ⟨rfl, _, _, rfl⟩, hbw⟩
/-- The sizes of the answer. -/
theorem tot_short {F : Nat → List Int} {c : Nat} : ∀ n, (∀ k, k < n → (F k).length ≤ c) → tot F n ≤ c * n
  | 0, _ => Nat.zero_le _
  | n + 1, h => by
    have h1 := tot_short n fun k hk => h k (by omega)
    have h2 := h n (by omega)
    show tot F n + (F n).length ≤ c * (n + 1)
    rw [Nat.mul_add]
    omega
theorem cyF_len (v : Int) (bs : List Blk) (a b : Int) : (cyF v bs a b).1.length ≤ 15 := by
  unfold cyF
  split
  · rename_i hc
    obtain ⟨hi, _, _, _, _⟩ := cyCode_good hc
    obtain ⟨h3, h15, _⟩ := sys_size hi
    have := cyS_len (bs := bs) (a := a.toNat) (b := b.toNat) v.toNat
    show (cyS bs a.toNat b.toNat v.toNat).length ≤ 15
    omega
  · exact Nat.zero_le _
theorem cyF_tot (v : Int) (bs : List Blk) (a b : Int) : tot (rowsF (cyF v bs a b).1) (cyF v bs a b).1.length ≤ 1100000 := by
  have hl := cyF_len v bs a b
  have h1 : ∀ k, k < (cyF v bs a b).1.length → (rowsF (cyF v bs a b).1 k).length ≤ 15 := by
    intro k hk
    have hm : rowsF (cyF v bs a b).1 k ∈ (cyF v bs a b).1 := by
      unfold rowsF
      rw [List.getElem?_eq_getElem hk]
      exact List.getElem_mem hk
    revert hm
    generalize rowsF (cyF v bs a b).1 k = r
    clear hk hl
    unfold cyF
    split
    · rename_i hc
      obtain ⟨hi, hf, ha, hb, hab⟩ := cyCode_good hc
      obtain ⟨h3, h15, _⟩ := sys_size hi
      intro hm
      obtain ⟨n, rfl⟩ := Int.eq_ofNat_of_zero_le (show 0 ≤ v by omega)
      exact cyS_rows hi hf (by omega) (by omega) (by omega) _ (Nat.le_refl _) r hm
    · intro hm
      simp at hm
  have := tot_short _ h1
  omega
end Go.Proofs.Ytbpmjjdjfniblaa

namespace Go.Proofs.Ytbpmjjdjfniblaa
open Go.ChangeShapes Go.WideShapes Go.ChangeAt Go.RowKit Go.Deep Go.Joins
theorem ownKnobs : ownKnob Try.prog.godebug = none := by kernel_rfl
section
variable {H : Type} {enc : TypeId × Value → H} {W : World} {base : Nat} {held : Bool}
theorem arrCells : Try.prog.cellsOf 61 = 3 := by kernel_rfl
set_option maxRecDepth 100000 in
theorem open_arr3 {fuel : Nat} {cs : List Value} {x : DataW H × List MemPlace} (h : DataW.trod enc Try.prog W base (fun _ => true) held fuel 61 cs = some x) :
    ∃ a b c : Int, cs = [.int .i64 a, .int .i64 b, .int .i64 c] ∧ (Lit.int .i64 a).wf = true ∧ (Lit.int .i64 b).wf = true ∧ (Lit.int .i64 c).wf = true := by
  obtain ⟨xs, m, rfl, rfl, hl, hx, hat⟩ := DataW.trod_array Try.underlying61 h
  rw [arrCells] at hl
  match cs, hl with
  | [c0, c1, c2], _ =>
    match xs, hx with
    | [x0, x1, x2], _ =>
      have h0 := hat 0 (by omega)
      have h1 := hat 1 (by omega)
      have h2 := hat 2 (by omega)
      rw [int64Cells] at h0 h1 h2
      simp at h0 h1 h2
      obtain ⟨a, ha, _, wa⟩ := DataW.trod_int Try.underlying2 h0
      obtain ⟨b, hb, _, wb⟩ := DataW.trod_int Try.underlying2 h1
      obtain ⟨c, hc, _, wc⟩ := DataW.trod_int Try.underlying2 h2
      simp at ha hb hc
      exact ⟨a, b, c, by rw [ha, hb, hc], wa, wb, wc⟩
theorem add_at (b off i : Nat) : (⟨b, off, none⟩ : Addr).add i = ⟨b, off + i, none⟩ := by
  unfold Addr.add
  split
  · subst_vars; rfl
  · rfl
set_option maxRecDepth 100000 in
theorem open_arrs {fuel : Nat} {s : Value} {x : DataW H × List MemPlace} (h : DataW.trod enc Try.prog W base (fun _ => true) held fuel 39 [s] = some x) : ∃ bs, InB W s bs := by
  rcases open_slice Try.underlying39 h with ⟨hcs, _⟩ | ⟨a, len, cap, m, n, D, Pl, hcs, hb, hl, hm, hmm, hx, hi⟩
  · simp at hcs
    exact ⟨[], by simp, by simp, .inl ⟨none, 0, hcs, rfl⟩⟩
  · simp at hcs
    subst hcs
    simp at hmm
    subst hmm
    have hm' : m ≤ 9223372036854775807 := by unfold maxLen at hm; exact hm
    by_cases h0 : len = 0
    · subst h0
      exact ⟨[], by simp, by simp, .inl ⟨_, _, rfl, rfl⟩⟩
    · have cell : ∀ i, i < m → ∃ y : Blk, WFB y ∧ ∀ j (v : Value), [Value.int .i64 y.a, Value.int .i64 y.b, Value.int .i64 y.c][j]? = some v → W.cell? (a.add (i * 3 + j)) = some v := fun i him => by
        obtain ⟨cs', hc, ht⟩ := hi i him
        obtain ⟨p, q, r, rfl, wp, wq, wr⟩ := open_arr3 ht
        rw [arrCells] at hc
        obtain ⟨_, _, hat⟩ := World.cells?_some hc
        refine ⟨⟨p, q, r⟩, ⟨wp, wq, wr⟩, fun j v hv => ?_⟩
        have hj : j < 3 := by
          have := (List.getElem?_eq_some_iff.1 hv).1
          simpa using this
        rw [← Go.Deep.add_add, hat j hj]
        exact hv
      obtain ⟨F, hF⟩ := choose_lt (α := Blk) cell
      obtain ⟨b, off, spot⟩ := a
      have hc0 := (hF 0 (by omega)).2 0 _ rfl
      have hspot : spot = none := by simpa [Addr.add] using World.cell?_spot hc0
      subst hspot
      refine ⟨(List.range len).map F, ?_, by simp; omega, .inr ⟨b, off, m, by simp, ?_, ?_⟩⟩
      · intro y hy
        obtain ⟨i, hi', rfl⟩ := List.mem_map.1 hy
        exact (hF i (by have := List.mem_range.1 hi'; omega)).1
      · exact block_lt_of_cell hc0
      · intro k hk
        simp at hk
        have e : ((List.range len).map F)[k]?.getD default = F k := by simp [hk]
        rw [e]
        have := (hF k (by omega)).2
        refine ⟨?_, ?_, ?_⟩
        · have h0 := this 0 _ rfl
          rw [add_at] at h0
          exact h0
        · have h1 := this 1 _ rfl
          rw [add_at, ← Nat.add_assoc] at h1
          exact h1
        · have h2 := this 2 _ rfl
          rw [add_at, ← Nat.add_assoc] at h2
          exact h2
theorem isSys : ∃ f0 f1 : Field, Try.prog.underlying 41 = some (.struct #[f0, f1]) ∧ f0.type = 2 ∧ f1.type = 39 ∧ oneCellFields Try.prog #[f0, f1] = true :=
  ⟨_, _, Try.underlying41, rfl, rfl, by kernel_rfl⟩
theorem sysCells : Try.prog.cellsOf 41 = 2 := by kernel_rfl
set_option maxRecDepth 100000 in
theorem open_system {r : Reach} {b0 : Nat} {v : Value} {d : DataW H} {p : List MemPlace} (hv : Value.okWide Try.prog W r b0 41 v) (h : DataW.Trod enc Try.prog W base (fun _ => true) held 41 v d p) :
    ∃ (n : Int) (s : Value) (bs : List Blk), v = .agg #[.int .i64 n, s] ∧ WF n ∧ InB W s bs := by
  obtain ⟨f0, f1, hu, e0, e1, hone⟩ := isSys
  obtain ⟨v0, v1, y0, y1, n, rfl, _, _, h0, h1⟩ := open_agg2 hu hone sysCells hv h
  rw [e0] at h0
  rw [e1] at h1
  obtain ⟨k, hk, _, wk⟩ := DataW.trod_int Try.underlying2 h0
  simp at hk
  subst hk
  obtain ⟨bs, hbs⟩ := open_arrs h1
  exact ⟨k, v1, bs, rfl, wk, hbs⟩
end
end Go.Proofs.Ytbpmjjdjfniblaa

namespace Go.Proofs.Ytbpmjjdjfniblaa
open Go.ChangeShapes Go.WideShapes Go.ChangeAt Go.RowKit Go.Deep Go.Joins
/-- The value is a slice of just these integers, however many. -/
def InZ (w : World) (s : Value) (zs : List Int) : Prop :=
  (∀ z ∈ zs, WF z) ∧ zs.length ≤ 9223372036854775807 ∧ ((∃ a c, s = .slice a 0 c ∧ zs = []) ∨ ∃ b off cap, s = .slice (some ⟨b, off, none⟩) zs.length cap ∧ b < w.heap.size ∧ Ints w b off zs)
theorem InZ.slice {w : World} {s : Value} {zs : List Int} (h : InZ w s zs) : ∃ a c, s = .slice a zs.length c := by
  rcases h.2.2 with ⟨a, c, rfl, rfl⟩ | ⟨b, off, cap, rfl, _⟩ <;> exact ⟨_, _, rfl⟩
theorem InZ.ib {w : World} {s : Value} {zs : List Int} (h : InZ w s zs) (hl : zs.length ≤ 1048576) : IB w s zs := ⟨by omega, h.2.2⟩
/-- The value is a slice of just these rows, however many. -/
def InSS (w : World) (s : Value) (n : Nat) (F : Nat → List Int) : Prop :=
  n ≤ 9223372036854775807 ∧ ((n = 0 ∧ ∃ a c, s = .slice a 0 c) ∨ ∃ b off cap, s = .slice (some ⟨b, off, none⟩) n cap ∧ b < w.heap.size ∧ ∀ k, k < n → ∃ u, w.cell? ⟨b, off + k, none⟩ = some u ∧ InZ w u (F k))
theorem okWide_array {P : Program} {w : World} {r : Reach} {base : Nat} {t : TypeId} {v : Value} {n : Nat} {e : TypeId} (ht : P.underlying t = some (.array n e)) (h : Value.okWide P w r base t v) : ∃ cs, v = .agg cs ∧ cs.size = P.cellsOf t := by
  simp only [Value.okWide, ht] at h
  obtain ⟨cs, h1, h2, _⟩ := h
  exact ⟨cs, h1, h2⟩
section
variable {H : Type} {enc : TypeId × Value → H} {W : World} {base : Nat} {held : Bool}
set_option maxRecDepth 100000 in
theorem open_zs {fuel : Nat} {s : Value} {x : DataW H × List MemPlace} (h : DataW.trod enc Try.prog W base (fun _ => true) held fuel 27 [s] = some x) : ∃ zs, InZ W s zs := by
  rcases open_slice1 Try.underlying27 int64Cells h with ⟨hcs, _⟩ | ⟨a, len, cap, m, n, V, D, Pl, hcs, hb, hl, hm, hmm, hx, hi⟩
  · simp at hcs
    exact ⟨[], by simp, by simp, .inl ⟨none, 0, hcs, rfl⟩⟩
  · simp at hcs
    subst hcs
    simp at hmm
    subst hmm
    have hm' : m ≤ 9223372036854775807 := by unfold maxLen at hm; exact hm
    by_cases h0 : len = 0
    · subst h0
      exact ⟨[], by simp, by simp, .inl ⟨_, _, rfl, rfl⟩⟩
    · have cell : ∀ i, i < m → ∃ y : Int, WF y ∧ W.cell? (a.add i) = some (.int .i64 y) := fun i him => by
        obtain ⟨hc, ht⟩ := hi i him
        obtain ⟨k, hk, _, wk⟩ := DataW.trod_int Try.underlying2 ht
        simp at hk
        exact ⟨k, wk, by rw [hc, hk]⟩
      obtain ⟨F, hF⟩ := choose_lt (α := Int) cell
      obtain ⟨b, off, spot⟩ := a
      have hc0 := (hF 0 (by omega)).2
      have hspot : spot = none := by simpa [Addr.add] using World.cell?_spot hc0
      subst hspot
      refine ⟨(List.range len).map F, ?_, by simp; omega, .inr ⟨b, off, m, by simp, ?_, ?_⟩⟩
      · intro y hy
        obtain ⟨i, hi', rfl⟩ := List.mem_map.1 hy
        exact (hF i (by have := List.mem_range.1 hi'; omega)).1
      · exact block_lt_of_cell hc0
      · intro k hk
        simp at hk
        have e : ((List.range len).map F)[k]?.getD 0 = F k := by simp [hk]
        rw [e]
        have h1 := (hF k (by omega)).2
        rw [add_at] at h1
        exact h1
set_option maxRecDepth 100000 in
theorem open_ints64 {r : Reach} {b0 : Nat} {v : Value} {d : DataW H} {p : List MemPlace} (hv : Value.okWide Try.prog W r b0 27 v) (h : DataW.Trod enc Try.prog W base (fun _ => true) held 27 v d p) : ∃ zs, InZ W v zs := by
  obtain ⟨a, len, cap, rfl⟩ := okWide_slice Try.underlying27 hv
  obtain ⟨fuel, hf⟩ := h
  exact open_zs hf
set_option maxRecDepth 100000 in
theorem open_blocks {r : Reach} {b0 : Nat} {v : Value} {d : DataW H} {p : List MemPlace} (hv : Value.okWide Try.prog W r b0 39 v) (h : DataW.Trod enc Try.prog W base (fun _ => true) held 39 v d p) : ∃ bs, InB W v bs := by
  obtain ⟨a, len, cap, rfl⟩ := okWide_slice Try.underlying39 hv
  obtain ⟨fuel, hf⟩ := h
  exact open_arrs hf
theorem sliceCells : Try.prog.cellsOf 27 = 1 := by kernel_rfl
set_option maxRecDepth 100000 in
theorem open_rows {r : Reach} {b0 : Nat} {v : Value} {d : DataW H} {p : List MemPlace} (hv : Value.okWide Try.prog W r b0 22 v) (h : DataW.Trod enc Try.prog W base (fun _ => true) held 22 v d p) : ∃ n F, InSS W v n F := by
  obtain ⟨A0, L0, C0, rfl⟩ := okWide_slice Try.underlying22 hv
  obtain ⟨fuel, hf⟩ := h
  have hf' : DataW.trod enc Try.prog W base (fun _ => true) held fuel 22 [.slice A0 L0 C0] = some (d, p) := hf
  rcases open_slice1 Try.underlying22 sliceCells hf' with ⟨hcs, _⟩ | ⟨a, len, cap, m, n, V, D, Pl, hcs, hb, hl, hm, hmm, hx, hi⟩
  · simp at hcs
    obtain ⟨rfl, rfl, rfl⟩ := hcs
    exact ⟨0, fun _ => [], by omega, .inl ⟨rfl, _, _, rfl⟩⟩
  · simp at hcs
    obtain ⟨e1, e2, e3⟩ := hcs
    subst e1
    subst e2
    subst e3
    simp at hmm
    subst hmm
    have hm' : m ≤ 9223372036854775807 := by unfold maxLen at hm; exact hm
    by_cases h0 : L0 = 0
    · subst h0
      exact ⟨0, fun _ => [], by omega, .inl ⟨rfl, _, _, rfl⟩⟩
    · have cell : ∀ i, i < m → ∃ y : List Int, ∃ u, W.cell? (a.add i) = some u ∧ InZ W u y := fun i him => by
        obtain ⟨hc, ht⟩ := hi i him
        obtain ⟨zs, hz⟩ := open_zs ht
        exact ⟨zs, _, hc, hz⟩
      obtain ⟨F, hF⟩ := choose_lt (α := List Int) cell
      obtain ⟨b, off, spot⟩ := a
      obtain ⟨u0, hc0, _⟩ := hF 0 (by omega)
      have hspot : spot = none := by simpa [Addr.add] using World.cell?_spot hc0
      subst hspot
      refine ⟨L0, F, by omega, .inr ⟨b, off, m, rfl, block_lt_of_cell hc0, fun k hk => ?_⟩⟩
      obtain ⟨u, h1, h2⟩ := hF k (by omega)
      rw [add_at] at h1
      exact ⟨u, h1, h2⟩
set_option maxRecDepth 100000 in
theorem open_blk {r : Reach} {b0 : Nat} {v : Value} {d : DataW H} {p : List MemPlace} (hv : Value.okWide Try.prog W r b0 61 v) (h : DataW.Trod enc Try.prog W base (fun _ => true) held 61 v d p) : ∃ x, v = bv x ∧ WFB x := by
  obtain ⟨cs, rfl, hsz⟩ := okWide_array Try.underlying61 hv
  obtain ⟨fuel, hf⟩ := h
  obtain ⟨a, b, c, e, wa, wb, wc⟩ := open_arr3 hf
  have : cs.toList = [.int .i64 a, .int .i64 b, .int .i64 c] := e
  refine ⟨⟨a, b, c⟩, ?_, wa, wb, wc⟩
  unfold bv
  rw [← this]
end
end Go.Proofs.Ytbpmjjdjfniblaa

namespace Go.Proofs.Ytbpmjjdjfniblaa
open Go.RowKit Go.Maps
structure CS (w : World) (v p : Int) (s sW s8 sG : Value) (XW X XG i0 i1 j1 j2 k1 k2 : Nat) (LW L8 LG : List Blk) (W : World) : Prop where
  st : St1 w v s W
  o0 : w.heap.size < i0
  o1 : i0 ≤ i1
  o2 : i1 ≤ XW
  o3 : XW < j1
  o4 : j1 ≤ j2
  o5 : j2 ≤ X
  o6 : X < k1
  o7 : k1 ≤ k2
  o8 : k2 ≤ XG
  rW : ResR W i0 i1 sW LW
  vW : VarB W XW p sW
  r8 : ResR W j1 j2 s8 L8
  vX : VarB W X v s8
  rG : ResR W k1 k2 sG LG
  vG : VarB W XG p sG
section
variable {w : World} {v p : Int} {s sW s8 sG : Value} {XW X XG i0 i1 j1 j2 k1 k2 : Nat} {LW L8 LG : List Blk} {W W' : World}
theorem CS.step (h : CS w v p s sW s8 sG XW X XG i0 i1 j1 j2 k1 k2 LW L8 LG W) (hg : W.grownBy W' none) : CS w v p s sW s8 sG XW X XG i0 i1 j1 j2 k1 k2 LW L8 LG W' :=
  ⟨h.st.step hg (by simp), h.o0, h.o1, h.o2, h.o3, h.o4, h.o5, h.o6, h.o7, h.o8, h.rW.kept hg (by simp), h.vW.step hg (by simp), h.r8.kept hg (by simp), h.vX.step hg (by simp), h.rG.kept hg (by simp), h.vG.step hg (by simp)⟩
theorem CS.mark8 (h : CS w v p s sW s8 sG XW X XG i0 i1 j1 j2 k1 k2 LW L8 LG W) {row : Option Nat} (hg : W.grownBy W' row) (hr : ∀ r, row = some r → j1 ≤ r ∧ r < j2) {L : List Blk} (hn : ResR W' j1 j2 s8 L) :
    CS w v p s sW s8 sG XW X XG i0 i1 j1 j2 k1 k2 LW L LG W' := by
  obtain ⟨st, o0, o1, o2, o3, o4, o5, o6, o7, o8, rW, vW, r8, vX, rG, vG⟩ := h
  exact ⟨st.step hg (fun r e => by have := hr r e; omega), o0, o1, o2, o3, o4, o5, o6, o7, o8, rW.kept hg (fun r e => by have := hr r e; omega), vW.step hg (fun e => by have := hr _ e; omega), hn, vX.step hg (fun e => by have := hr _ e; omega), rG.kept hg (fun r e => by have := hr r e; omega), vG.step hg (fun e => by have := hr _ e; omega)⟩
theorem CS.markG (h : CS w v p s sW s8 sG XW X XG i0 i1 j1 j2 k1 k2 LW L8 LG W) {row : Option Nat} (hg : W.grownBy W' row) (hr : ∀ r, row = some r → k1 ≤ r ∧ r < k2) {L : List Blk} (hn : ResR W' k1 k2 sG L) :
    CS w v p s sW s8 sG XW X XG i0 i1 j1 j2 k1 k2 LW L8 L W' := by
  obtain ⟨st, o0, o1, o2, o3, o4, o5, o6, o7, o8, rW, vW, r8, vX, rG, vG⟩ := h
  exact ⟨st.step hg (fun r e => by have := hr r e; omega), o0, o1, o2, o3, o4, o5, o6, o7, o8, rW.kept hg (fun r e => by have := hr r e; omega), vW.step hg (fun e => by have := hr _ e; omega), r8.kept hg (fun r e => by have := hr r e; omega), vX.step hg (fun e => by have := hr _ e; omega), hn, vG.step hg (fun e => by have := hr _ e; omega)⟩
end
end Go.Proofs.Ytbpmjjdjfniblaa


namespace Go.Proofs.Ytbpmjjdjfniblaa
open Go.RowKit Go.Maps
set_option maxRecDepth 100000 in
set_option maxHeartbeats 2000000 in
theorem FnExactCyclesOf_main (v0 : Int) (s0 : Value) (bs0 : List Blk) (p1 : Int) (p2 : Int) (w : World) (h0 : InB w s0 bs0) (h1 : WF p1) (h2 : WF p2) (hl : bs0.length ≤ 1048576) :
    Calls Try.prog 6 #[.agg #[.int .i64 v0, s0], .int .i64 p1, .int .i64 p2] w (RV (.bool true) w) := by
  have hsl0 := h0.slice
  have hbd0 := h0.2.1
  have hsz0 := szSystem_any v0 s0 bs0.length hsl0 (by omega) 1048576 (by omega) (by omega)
  rw [if_neg (by omega)] at hsz0
  obtain ⟨m0, hm0⟩ : ∃ m, m = (1048576 : Int) - (bs0.length : Int) := ⟨_, rfl⟩
  rw [← hm0] at hsz0
  have hmp0 : 0 ≤ m0 := by omega
  have HSZ0 := Lib.hid hsz0
  have HSB0 := Lib.hid (h0.sb (by omega))
  have HBD0 := Lib.hid (show bs0.length ≤ 1100000 by omega)
  have HWF0 := Lib.hid h0.1
  have HWF1 := Lib.hid h1
  have HWF2 := Lib.hid h2
  obtain ⟨L, hL⟩ : ∃ L, L = (cyF v0 bs0 p1 p2).1 := ⟨_, rfl⟩
  obtain ⟨κ, hκ⟩ : ∃ κ, κ = (cyF v0 bs0 p1 p2).2 := ⟨_, rfl⟩
  have hp : cyF v0 bs0 p1 p2 = (L, κ) := by rw [hL, hκ]
  have LBD := Lib.hid (show L.length ≤ 1100000 by rw [hL]; exact Nat.le_trans (cyF_len v0 bs0 p1 p2) (by omega))
  have LTT := Lib.hid (show tot (rowsF L) L.length ≤ 1100000 by rw [hL]; exact cyF_tot v0 bs0 p1 p2)
  have LRW := Lib.hid (rowsF_len LTT.out)
  have HSP := Lib.hid fun (W : World) (t0 : Value) (r0 : SC W t0 bs0) => specCyclesOf_any v0 t0 bs0 p1 p2 W r0.1
  have HIM := Lib.hid fun (W : World) (t0 : Value) (r0 : SB W t0 bs0) => CyclesOf_any v0 t0 bs0 p1 p2 W r0
  rw [hp] at HSP HIM
  have hnk : (κ != κ) = false := by simp
  clear hsz0 hm0 hbd0 hL hκ hp h0 h1 h2 hl
  obtain ⟨a0, c0, rfl⟩ := hsl0
  go_enter Try.func6, Try.ntmps6
  have hm := ((Mem.start w).pushVar v0 (.slice a0 bs0.length c0) 41)
  have fA00 := (hm.var 0 rfl).c0
  have fA01 := (hm.var 0 rfl).c1
  have HM := Lib.hid hm
  clear hm
  go_wp2_with fail
  refine (HSZ0.out _).mono ?_
  rintro e w1 ⟨rfl, hbw1⟩
  have hm := HM.out.step (gb_below hbw1)
  clear fA00 fA01
  clear HM hbw1
  have fA00 := (hm.var 0 rfl).c0
  have fA01 := (hm.var 0 rfl).c1
  have HM := Lib.hid hm
  clear hm
  go_wp2_with fail
  refine (toSystem_any v0 _ bs0 _ (HSB0.out.below HM.out.below (Nat.le_refl _))).mono ?_
  rintro e w2 ⟨tw2, rfl, how2, hbw2⟩
  have r3 := how2.sc HWF0.out HBD0.out
  obtain ⟨gw2, capw2, hsw2, _⟩ := id how2
  subst hsw2
  have hm := HM.out.step (gb_below hbw2)
  clear fA00 fA01
  clear HM hbw2 how2
  have fA00 := (hm.var 0 rfl).c0
  have fA01 := (hm.var 0 rfl).c1
  have HM := Lib.hid hm
  clear hm
  go_wp2_with fail
  refine (HSP.out _ _ r3).mono ?_
  rintro e w4 ⟨uw4, rfl, hrow4, hbw4⟩
  have hrw4 := (show ResSS _ _ _ L.length (rowsF L) from hrow4).resH
  clear hrow4
  obtain ⟨aW, nW, hsw4⟩ := hrw4.slice
  subst hsw4
  clear r3
  have hm := (HM.out.pushH hbw4 hrw4)
  clear fA00 fA01
  clear HM hbw4 hrw4
  have fA00 := (hm.var 1 rfl).c0
  have fA01 := (hm.var 1 rfl).c1
  have HM := Lib.hid hm
  clear hm
  go_wp2_with fail
  refine (toSystem_any v0 _ bs0 _ (HSB0.out.below HM.out.below (Nat.le_refl _))).mono ?_
  rintro e w5 ⟨tw5, rfl, how5, hbw5⟩
  have hrw5 := how5.res
  obtain ⟨gw5, capw5, hsw5, _⟩ := id how5
  subst hsw5
  have hm := (HM.out.pushB hbw5 hrw5).pushVar v0 (.slice (some ⟨gw5, 0, none⟩) bs0.length capw5) 34
  clear fA00 fA01
  clear HM hbw5 hrw5 how5
  have fVX00 := (hm.var 0 rfl).c0
  have fVX01 := (hm.var 0 rfl).c1
  have fA00 := (hm.var 3 rfl).c0
  have fA01 := (hm.var 3 rfl).c1
  have HM := Lib.hid hm
  clear hm
  go_wp2_with fail
  refine (HIM.out _ _ ((HM.out.blks 1 rfl).sb HWF0.out HBD0.out)).mono ?_
  rintro e w6 ⟨uw6, rfl, hrow6, hbw6⟩
  have hrw6 := (show ResSS _ _ _ L.length (rowsF L) from hrow6).resH
  clear hrow6
  obtain ⟨aG, nG, hsw6⟩ := hrw6.slice
  subst hsw6
  have hm := (HM.out.pushH hbw6 hrw6)
  clear fVX00 fVX01 fA00 fA01
  clear HM hbw6 hrw6
  have fVX00 := (hm.var 1 rfl).c0
  have fVX01 := (hm.var 1 rfl).c1
  have fA00 := (hm.var 4 rfl).c0
  have fA01 := (hm.var 4 rfl).c1
  have HM := Lib.hid hm
  clear hm
  go_wp2_with fail
  refine (eqInt64SS_same _ _ L.length (rowsF L) _ ((HM.out.rows 0 rfl).sb LBD.out LRW.out) ((HM.out.rows 3 rfl).sb LBD.out LRW.out)).mono ?_
  rintro e w7 ⟨rfl, hbw7⟩
  have hm := HM.out.step (gb_below hbw7)
  clear fVX00 fVX01 fA00 fA01
  clear HM hbw7
  have fVX00 := (hm.var 1 rfl).c0
  have fVX01 := (hm.var 1 rfl).c1
  have fA00 := (hm.var 4 rfl).c0
  have fA01 := (hm.var 4 rfl).c1
  have HM := Lib.hid hm
  clear hm
  go_upto_region 10 with fail
  go_cut [53] (fun sq wx => sq = .bool false ∧ MemOf HM.out wx)
  case first =>
    go_region_with (first | (go_at_call 29; refine (toSystem_any v0 _ bs0 _ ?_).mono ?_; (exact HSB0.out.below HM.out.below.drew (Nat.le_refl _)); rintro e w8 ⟨tw8, rfl, how8, hbw8⟩; have hmx := (HM.out.step (gb_drew1 _)).step (gb_below hbw8); have ec0 := (hmx.var 1 rfl).c0; have ec1 := (hmx.var 1 rfl).c1; have HMX := Lib.hid hmx; clear hmx; have hsbw8 := how8.sb HWF0.out HBD0.out; obtain ⟨gw8, capw8, hsw8, _⟩ := id how8; subst hsw8) | (go_at_call 24; refine (eqSystem_same v0 _ _ bs0 _ ?_ ?_).mono ?_; (exact ((HMX.out.blks 2 rfl).sb HWF0.out HBD0.out)); (exact hsbw8); rintro e w9 ⟨rfl, hbw9⟩))
    all_goals
      go_wp2_with fail
      go_meet
      exact ⟨rfl, HMX.out.step (gb_below hbw9)⟩
  case rest =>
  obtain ⟨rfl, hm⟩ := hcut
  unfold MemOf at hm
  obtain ⟨yc0, rfl⟩ : ∃ W, W = wc := ⟨_, rfl⟩
  clear fVX00 fVX01 fA00 fA01
  clear HM
  have fVX00 := (hm.var 1 rfl).c0
  have fVX01 := (hm.var 1 rfl).c1
  have fA00 := (hm.var 4 rfl).c0
  have fA01 := (hm.var 4 rfl).c1
  have HM := Lib.hid hm
  clear hm
  go_wp2_with fail
  refine (markSystem_any _ _ v0 _ bs0 1 _ (HM.out.blks 2 rfl) HBD0.out (by omega) (by omega)).mono ?_
  rintro e w10 ⟨rfl, hww10, hrw10⟩
  have hm := HM.out.markB 2 rfl hww10 hrw10
  clear fVX00 fVX01 fA00 fA01
  clear HM hww10 hrw10
  have fVX00 := (hm.var 1 rfl).c0
  have fVX01 := (hm.var 1 rfl).c1
  have fA00 := (hm.var 4 rfl).c0
  have fA01 := (hm.var 4 rfl).c1
  have HM := Lib.hid hm
  clear hm
  obtain ⟨kw10, hkw10⟩ : ∃ m, m = 1 + 3 * (bs0.length : Int) := ⟨_, rfl⟩
  rw [← hkw10]
  have h0kw10 : 0 ≤ kw10 := by have := HBD0.out; omega
  have h1kw10 : kw10 ≤ 3300001 := by have := HBD0.out; omega
  clear hkw10
  go_wp2_with fail
  refine (eqInt64SS_same _ _ L.length (rowsF L) _ ((HM.out.rows 0 rfl).sb LBD.out LRW.out) ((HM.out.rows 3 rfl).sb LBD.out LRW.out)).mono ?_
  rintro e w11 ⟨rfl, hbw11⟩
  have hm := HM.out.step (gb_below hbw11)
  clear fVX00 fVX01 fA00 fA01
  clear HM hbw11
  have fVX00 := (hm.var 1 rfl).c0
  have fVX01 := (hm.var 1 rfl).c1
  have fA00 := (hm.var 4 rfl).c0
  have fA01 := (hm.var 4 rfl).c1
  have HM := Lib.hid hm
  clear hm
  go_wp2_with fail
  refine (ResH.mark (HM.out.rows 0 rfl) LBD.out LTT.out 1 (by omega) (by omega)).mono ?_
  rintro e w12 ⟨rfl, hww12, hrw12⟩
  have hm := HM.out.markH 0 rfl hww12 hrw12
  clear fVX00 fVX01 fA00 fA01
  clear HM hww12 hrw12
  have fVX00 := (hm.var 1 rfl).c0
  have fVX01 := (hm.var 1 rfl).c1
  have fA00 := (hm.var 4 rfl).c0
  have fA01 := (hm.var 4 rfl).c1
  have HM := Lib.hid hm
  clear hm
  have hheld := fun lo hi W (h : ResH W lo hi (Value.slice aG L.length nG) L.length (markSS 1 (rowsF L))) => ResH.held 1 h LBD.out LTT.out (by omega) (by omega)
  obtain ⟨m5, hm5⟩ : ∃ m5, m5 = 1 + ((tot (rowsF L) L.length : Nat) : Int) := ⟨_, rfl⟩
  rw [← hm5] at hheld ⊢
  have HHELD := Lib.hid hheld
  have m50 : 0 ≤ m5 := by omega
  have hn5 : (m5 != m5) = false := by simp
  clear hm5 hheld
  go_wp2_with fail
  refine (HHELD.out _ _ _ (HM.out.rows 0 rfl)).mono ?_
  rintro e w13 ⟨rfl, rfl⟩
  go_wp2_with fail
  refine (toSystem_any v0 _ bs0 _ (HSB0.out.below HM.out.below (Nat.le_refl _))).mono ?_
  rintro e w14 ⟨tw14, rfl, how14, hbw14⟩
  have r15 := how14.sb HWF0.out HBD0.out
  obtain ⟨gw14, capw14, hsw14, _⟩ := id how14
  subst hsw14
  have hm := HM.out.step (gb_below hbw14)
  clear fVX00 fVX01 fA00 fA01
  clear HM hbw14 how14
  have fVX00 := (hm.var 1 rfl).c0
  have fVX01 := (hm.var 1 rfl).c1
  have fA00 := (hm.var 4 rfl).c0
  have fA01 := (hm.var 4 rfl).c1
  have HM := Lib.hid hm
  clear hm
  go_wp2_with fail
  refine (HIM.out _ _ r15).mono ?_
  rintro e w16 ⟨uw16, rfl, hrow16, hbw16⟩
  have hrw16 := (show ResSS _ _ _ L.length (rowsF L) from hrow16).resH
  clear hrow16
  obtain ⟨aH, nH, hsw16⟩ := hrw16.slice
  subst hsw16
  clear r15
  have hm := (HM.out.pushH hbw16 hrw16)
  clear fVX00 fVX01 fA00 fA01
  clear HM hbw16 hrw16
  have fVX00 := (hm.var 2 rfl).c0
  have fVX01 := (hm.var 2 rfl).c1
  have fA00 := (hm.var 5 rfl).c0
  have fA01 := (hm.var 5 rfl).c1
  have HM := Lib.hid hm
  clear hm
  go_wp2_with fail
  refine (eqInt64SS_same _ _ L.length (rowsF L) _ ((HM.out.rows 0 rfl).sb LBD.out LRW.out) ((HM.out.rows 4 rfl).sb LBD.out LRW.out)).mono ?_
  rintro e w17 ⟨rfl, hbw17⟩
  have hm := HM.out.step (gb_below hbw17)
  clear fVX00 fVX01 fA00 fA01
  clear HM hbw17
  have fVX00 := (hm.var 2 rfl).c0
  have fVX01 := (hm.var 2 rfl).c1
  have fA00 := (hm.var 5 rfl).c0
  have fA01 := (hm.var 5 rfl).c1
  have HM := Lib.hid hm
  clear hm
  go_wp2_with fail
  refine (HHELD.out _ _ _ (HM.out.rows 1 rfl)).mono ?_
  rintro e w18 ⟨rfl, rfl⟩
  go_wp2
  go_ret
  exact RV_of rfl HM.out.below
set_option maxRecDepth 100000 in
theorem FnExactCyclesOf_long0 (v0 : Int) (s0 : Value) (bs0 : List Blk) (p1 : Int) (p2 : Int) (w : World) (h0 : InB w s0 bs0) (h1 : WF p1) (h2 : WF p2)  (hl : ¬ bs0.length ≤ 1048576) : Calls Try.prog 6 #[.agg #[.int .i64 v0, s0], .int .i64 p1, .int .i64 p2] w (RV (.bool true) w) := by
  have hsl0 := h0.slice
  have hbd0 := h0.2.1
  have hsz0 := szSystem_any v0 s0 bs0.length hsl0 (by omega) (1048576) (by omega) (by omega)
  rw [if_pos (by omega)] at hsz0
  have HSZ0 := Lib.hid hsz0
  clear hl h0 h1 h2 hsz0 hbd0
  obtain ⟨a0, c0, rfl⟩ := hsl0
  go_enter Try.func6, Try.ntmps6
  go_wp2_with fail
  refine (HSZ0.out _).mono ?_
  rintro e y0 ⟨rfl, hy0⟩
  go_wp2
  go_ret
  exact RV_of rfl (((Below.refl _ _).alloc (by simp <;> omega) _).trans (hy0.mono (by first | (simp <;> omega) | (have := ((Below.refl _ _).alloc (by simp <;> omega) _).size; omega))))
theorem FnExactCyclesOf_any (v0 : Int) (s0 : Value) (bs0 : List Blk) (p1 : Int) (p2 : Int) (w : World) (h0 : InB w s0 bs0) (h1 : WF p1) (h2 : WF p2) : Calls Try.prog 6 #[.agg #[.int .i64 v0, s0], .int .i64 p1, .int .i64 p2] w (RV (.bool true) w) := by
  by_cases hs0 : bs0.length ≤ 1048576
  case neg => exact FnExactCyclesOf_long0 v0 s0 bs0 p1 p2 w h0 h1 h2   hs0
  exact FnExactCyclesOf_main v0 s0 bs0 p1 p2 w h0 h1 h2 hs0 
end Go.Proofs.Ytbpmjjdjfniblaa

namespace Go.Proofs.Ytbpmjjdjfniblaa
set_option maxRecDepth 100000 in
noncomputable def iniP : { L : List Char // Try.prog.initOrder = String.ofList L } := ⟨_, by unfold Try.prog; rfl⟩
theorem iniL : Try.prog.initOrder.toList = iniP.1 := (congrArg String.toList iniP.2).trans String.toList_ofList
theorem words_cons (c : Char) (r : List Char) (h : c ≠ Char.ofNat 32) : wordsSigns (c :: r) = match wordsSigns r with | w :: ws => (c :: w) :: ws | [] => [[c]] := by
  rw [wordsSigns]
  all_goals first | rfl | exact h | (intro e; exact h e)
theorem words_word : ∀ (a b : List Char), (a.all fun c => c != Char.ofNat 32) = true → wordsSigns (a ++ Char.ofNat 32 :: b) = a :: wordsSigns b
  | [], b, _ => rfl
  | c :: a, b, h => by
    simp only [List.all_cons, Bool.and_eq_true, bne_iff_ne, ne_eq] at h
    rw [List.cons_append, words_cons _ _ h.1, words_word a b (by simpa using h.2)]
set_option maxRecDepth 100000 in
theorem split1 : iniP.1 = iniP.1.take 7 ++ Char.ofNat 32 :: iniP.1.drop 8 := by kernel_rfl
set_option maxRecDepth 100000 in
theorem split2 : iniP.1.drop 8 = (iniP.1.drop 8).take 64 ++ Char.ofNat 32 :: iniP.1.drop 73 := by kernel_rfl
set_option maxRecDepth 100000 in
theorem split3 : iniP.1.drop 73 = (iniP.1.drop 73).take 3 ++ Char.ofNat 32 :: iniP.1.drop 77 := by kernel_rfl
theorem isCut : (iniP.1.drop 73).take 3 = "cut".toList := by kernel_rfl
set_option maxRecDepth 100000 in
theorem isHead : ((iniP.1.take 7 == "harness".toList || iniP.1.take 7 == "ownmain".toList) && isSumSigns ((iniP.1.drop 8).take 64)) = true := by kernel_rfl
theorem wordsL : wordsSigns iniP.1 = iniP.1.take 7 :: (iniP.1.drop 8).take 64 :: "cut".toList :: wordsSigns (iniP.1.drop 77) := by
  rw [← isCut]
  conv => lhs; rw [split1]
  rw [words_word _ _ (by kernel_rfl)]
  conv => lhs; rw [split2]
  rw [words_word _ _ (by kernel_rfl)]
  conv => lhs; rw [split3]
  rw [words_word _ _ (by kernel_rfl)]
theorem behindL : behindMainWord (wordsSigns Try.prog.initOrder.toList) = "cut".toList :: wordsSigns (iniP.1.drop 77) := by
  rw [iniL, wordsL]
  unfold behindMainWord
  simp only [isHead, if_true]
theorem stripL (ws : List (List Char)) : stripLifts liftWords ("cut".toList :: ws) = ([], "cut".toList :: ws) := by kernel_rfl
section
variable (P : Program) (ws : List (List Char)) (h : behindMainWord (wordsSigns P.initOrder.toList) = "cut".toList :: ws)
include h
theorem head_of : P.headLifts = [] := by
  unfold Program.headLifts
  rw [h]
  simp only [stripL]
  kernel_rfl
theorem make_of : P.make = some .cut := by
  unfold Program.make
  rw [h, head_of P ws h]
  kernel_rfl
theorem lifts_of : P.liftsFinal = false := by
  unfold Program.liftsFinal
  rw [h, head_of P ws h]
  kernel_rfl
theorem enter_of (h1 : P.laysLater = false) (h2 : P.bearsReflect = false) (h3 : P.doorFits [] = true) : P.mayEnter = true := by
  unfold Program.mayEnter
  rw [h]
  simp only [stripL]
  rw [h1, h2, h3]
  kernel_rfl
end
theorem mayE : Try.pinned.checked.prog.mayEnter = true := enter_of _ _ behindL (by kernel_rfl) (by kernel_rfl) (by kernel_rfl)
theorem liftsF : Try.pinned.checked.prog.liftsFinal = false := lifts_of _ _ behindL
theorem makeF : Try.pinned.checked.prog.make = some .cut := make_of _ _ behindL
theorem both {a b : Bool} (h : a = true) (k : b = true) : (a && b) = true := by rw [h, k]; rfl
end Go.Proofs.Ytbpmjjdjfniblaa

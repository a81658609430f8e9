
/- The model's search for a colouring. FirstColouring and FirstStrict of the model, whole. -/
import Derived.Test.YtkpnlecmfmbkaaaJ8
import Derived.Deep.Cut
namespace Go.Proofs.Ytkpnlecmfmbkaaa
open Go.RowKit Go.Maps Go.Shelf
theorem least_true (k : Nat) : leastOf true k = k := rfl
theorem least_false (k : Nat) : leastOf false k = 1 := rfl
set_option maxRecDepth 100000 in
set_option maxHeartbeats 64000000 in
theorem l07Find_any (strict : Bool) (v k : Nat) (s : Value) (bs : List Blk) (hok : ∀ x ∈ bs, okB x) (hv : v ≤ 15) (hk : k ≤ 6) : ∀ (d : Nat) (L : List Int) (used : Nat) (w : World) (base g0 cap0 : Nat) (_ : SB w s bs) (_ : OwnJ w base (.slice (some ⟨g0, 0, none⟩) L.length cap0) L) (_ : base ≤ w.heap.size) (_ : L.length + d = v) (_ : goodN strict (L.length : Int) L bs = true) (_ : 1 ≤ used + d) (_ : used ≤ 15),
    Calls Try.prog 134 #[.agg #[.int .i64 (v : Int), s], .int .i64 (k : Int), .slice (some ⟨g0, 0, none⟩) L.length cap0, .int .i64 (used : Int), .bool strict] w (FindQ (findC strict bs k (leastOf strict k) d L used) w base) := by
  intro d
  induction d with
  | zero =>
    intro L used w base g0 cap0 h ho hbase hL hg hu hu15
    have hs := h.slice
    obtain ⟨a0, c0, rfl⟩ := hs
    have hb0 : Below w.heap.size w (w.alloc (.cells #[.int .i64 (v : Int), .slice a0 bs.length c0] 32)) := (Below.refl _ _).alloc (Nat.le_refl _) _
    have HO := Lib.hid (ho.below hb0 (Nat.le_refl _))
    have HB0 := Lib.hid hb0
    have hLv : L.length = v := by omega
    have e1 : ((L.length : Int) == (v : Int)) = true := by simp; omega
    have e2 : decide ((L.length : Int) = (v : Int)) = true := by simp; omega
    by_cases hpr : used < leastOf strict k
    · have HV := Lib.hid (show findC strict bs k (leastOf strict k) 0 L used = none by simp [findC, hpr])
      rw [HV.out]
      cases strict with
      | false => exfalso; rw [least_false] at hpr; omega
      | true =>
        rw [least_true] at hpr
        have e3 : decide ((v : Int) - (L.length : Int) < (k : Int) - (used : Int)) = true := by simp; omega
        clear hok h ho hg hb0 HO
        go_enter Try.func134, Try.ntmps134
        go_wp2
        go_ret2
        exact ⟨HB0.out, rfl⟩
    · have HV := Lib.hid (show findC strict bs k (leastOf strict k) 0 L used = some L by simp [findC, hpr])
      rw [HV.out]
      cases strict with
      | false =>
        clear hok h ho hg hb0
        go_enter Try.func134, Try.ntmps134
        go_wp2
        go_ret2
        exact ⟨HB0.out, _, _, rfl, HO.out⟩
      | true =>
        rw [least_true] at hpr
        have e3 : decide ((v : Int) - (L.length : Int) < (k : Int) - (used : Int)) = false := by simp; omega
        clear hok h ho hg hb0
        go_enter Try.func134, Try.ntmps134
        go_wp2
        go_ret2
        exact ⟨HB0.out, _, _, rfl, HO.out⟩
  | succ d ih =>
    intro L used w base g0 cap0 h ho hbase hL hg hu hu15
    have hs := h.slice
    obtain ⟨a0, c0, rfl⟩ := hs
    have e1 : ((L.length : Int) == (v : Int)) = false := by simp; omega
    have e2 : decide ((L.length : Int) = (v : Int)) = false := by simp; omega
    by_cases hpr : used + (d + 1) < leastOf strict k
    · have HV := Lib.hid (show findC strict bs k (leastOf strict k) (d + 1) L used = none by simp [findC, hpr])
      have hb0 : Below w.heap.size w (w.alloc (.cells #[.int .i64 (v : Int), .slice a0 bs.length c0] 32)) := (Below.refl _ _).alloc (Nat.le_refl _) _
      rw [HV.out]
      cases strict with
      | false => exfalso; rw [least_false] at hpr; omega
      | true =>
        rw [least_true] at hpr
        have e3 : decide ((v : Int) - (L.length : Int) < (k : Int) - (used : Int)) = true := by simp; omega
        clear hok h ho hg ih
        go_enter Try.func134, Try.ntmps134
        go_wp2
        go_ret2
        exact ⟨hb0, rfl⟩
    · have HOW := Lib.hid ho
      have HSB := Lib.hid h
      have HG := Lib.hid hg
      have HOK := Lib.hid hok
      have IH := Lib.hid ih
      obtain ⟨f, hf⟩ : ∃ f, f = fun c => if goodE strict bs (L ++ [((c : Nat) : Int)]) then findC strict bs k (leastOf strict k) d (L ++ [(c : Int)]) (max used (c + 1)) else none := ⟨_, rfl⟩
      have HF := Lib.hid hf
      obtain ⟨M, hM⟩ : ∃ M, M = min (used + 1) k := ⟨_, rfl⟩
      have HV := Lib.hid (show findC strict bs k (leastOf strict k) (d + 1) L used = tryN f 0 M by rw [hf, hM]; simp [findC, hpr])
      rw [HV.out]
      have HAH := Lib.hid fun (c : Nat) t W (hb : SB W (.slice a0 bs.length c0) bs) (ht : IB W t (L ++ [(c : Int)])) => (good_step hok hg (c := (c : Int)) ▸ l07Ahead_any strict (v : Int) _ bs t (L ++ [(c : Int)]) W hb ht (fun x hx hc => okB_in3 (hok x hx) hc))
      have hMk : M ≤ k := by omega
      have hMu : M ≤ used + 1 := by omega
      have hM2 : M = k ∨ M = used + 1 := by omega
      have hl15 : L.length ≤ 15 := by omega
      clear ho h hg hok ih hf hM HV
      cases strict with
      | false =>
        rw [least_false] at hpr
        go_enter Try.func134, Try.ntmps134
        go_wp2
        obtain ⟨w2, hw2⟩ : ∃ w2, w2 = w.alloc (.cells #[.int .i64 (v : Int), .slice a0 bs.length c0] 32) := ⟨_, rfl⟩
        have hB0 : Below w.heap.size w w2 := by rw [hw2]; exact (Below.refl _ _).alloc (Nat.le_refl _) _
        have hz2 : w2.heap.size = w.heap.size + 1 := by rw [hw2]; simp
        have hc0 : w2.cell? ⟨w.heap.size, 0, none⟩ = some (.int .i64 (v : Int)) := by rw [hw2]; simp
        have hc2 : w2.cell? ⟨w.heap.size, 1, none⟩ = some (.slice a0 bs.length c0) := by rw [hw2]; simp
        rw [← hw2]
        clear hw2
        go_loopw [13] (fun i wr => ∃ j : Nat, j ≤ M ∧ i = .int .i64 j ∧ Below (w.heap.size + 1) w2 wr ∧ Hid (tryN f 0 M = tryN f j (M - j))) (fun i _ => M - (intOf i).toNat)
        case atStart => exact ⟨0, Nat.zero_le _, rfl, Below.refl _ _, Lib.hid rfl⟩
        case round =>
          obtain ⟨j, hj, rfl, hB, HR⟩ := hrel
          have hz := hB.size
          have p0 : wr.cell? ⟨w.heap.size, 0, none⟩ = some (.int .i64 (v : Int)) := by rw [hB.cell (by simp)]; exact hc0
          have p1 : wr.cell? ⟨w.heap.size, 1, none⟩ = some (.slice a0 bs.length c0) := by rw [hB.cell (by simp)]; exact hc2
          have hBw : Below w.heap.size w wr := hB0.trans (hB.mono (by omega))
          by_cases hjl : j < M
          · have t1 : decide ((j : Int) < (k : Int)) = true := by simp; omega
            have t2 : decide ((j : Int) ≤ (used : Int)) = true := by simp; omega
            have HO1 := Lib.hid (HOW.out.below hBw (Nat.le_refl _))
            have HIA := Lib.hid (HO1.out.ia (by omega))
            have HFJ := Lib.hid (show f j = if goodE false bs (L ++ [(j : Int)]) then findC false bs k (leastOf false k) d (L ++ [(j : Int)]) (max used (j + 1)) else none by rw [HF.out])
            go_wp2_with fail
            refine (l01Own_any _ L wr HIA.out (by omega)).mono ?_
            rintro e w3 ⟨g1, cap1, rfl, hO3, hb3⟩
            have HB3 := Lib.hid (hB.trans (hb3.mono (by omega)))
            have HW3 := Lib.hid (hBw.trans (hb3.mono hBw.size))
            have HO3 := Lib.hid hO3
            have hz3 := hb3.size
            clear hO3 hb3
            go_upto_region 10 with (at_builtin; refine wpList_append_int rfl _ _ rfl wr.heap.size (.slice (some ⟨g1, 0, none⟩) L.length cap1) L rfl (by exact HO3.out.below ((Below.refl _ _).alloc (Nat.le_refl _) _) (Nat.le_refl _)) _ _ (j : Int) rfl (by simp [go_sem]) (by omega) (by simp; omega) ?_; intro g cap w4 hO4 hg4)
            have HB4 := Lib.hid ((HB3.out.alloc (by omega) _).grown hg4 (by simp; omega) (fun r e => by have := HO3.out.row r e; omega))
            have HW4 := Lib.hid (hB0.trans (HB4.out.mono (by omega)))
            have HO4 : Hid (OwnJ w4 wr.heap.size (.slice (some ⟨g, 0, none⟩) (L ++ [(j : Int)]).length cap) (L ++ [(j : Int)])) := Lib.hid (by rw [List.length_append, List.length_singleton]; exact hO4)
            have hz4 : wr.heap.size ≤ w4.heap.size := by have := hg4.size; simp at this; omega
            have q0 : w4.cell? ⟨w.heap.size, 0, none⟩ = some (.int .i64 (v : Int)) := by rw [HB4.out.cell (by simp)]; exact hc0
            have q1 : w4.cell? ⟨w.heap.size, 1, none⟩ = some (.slice a0 bs.length c0) := by rw [HB4.out.cell (by simp)]; exact hc2
            have HSB4 := Lib.hid (HSB.out.below HW4.out (Nat.le_refl _))
            have HA := Lib.hid (HAH.out j _ w4 HSB4.out (HO4.out.ib (by rw [List.length_append, List.length_singleton]; omega)))
            have hln : (L ++ [(j : Int)]).length = L.length + 1 := by simp
            rw [hln] at HA HO4
            clear hO4 hg4 HB3 HW3 HO3 hz3 p0 p1 hln
            cases hge : goodE false bs (L ++ [(j : Int)]) with
            | false =>
              rw [hge] at HA HFJ
              have HN := Lib.hid (show tryN f 0 M = tryN f (j + 1) (M - (j + 1)) by rw [HR.out, tryN_miss HFJ.out (by omega)]; congr 1)
              clear hge HFJ
              go_wp2_with fail
              refine HA.out.mono ?_
              rintro e w5 ⟨rfl, hb5⟩
              have hB5 := HB4.out.trans (hb5.mono (by omega))
              clear hb5
              go_wp2
              go_roundw
              case rel => exact ⟨j + 1, by omega, by go_num, hB5, HN⟩
              case measure => simp [intOf]; omega
            | true =>
              rw [hge] at HA HFJ
              have HGN := Lib.hid (show goodN false ((L ++ [(j : Int)]).length : Int) (L ++ [(j : Int)]) bs = true by rw [good_step HOK.out HG.out]; exact hge)
              obtain ⟨r, hr⟩ : ∃ r, r = findC false bs k (leastOf false k) d (L ++ [(j : Int)]) (max used (j + 1)) := ⟨_, rfl⟩
              rw [if_pos rfl, ← hr] at HFJ
              have HRR := Lib.hid hr
              clear hge hr
              go_wp2_with fail
              refine HA.out.mono ?_
              rintro e w5 ⟨rfl, hb5⟩
              have HB5 := Lib.hid (HB4.out.trans (hb5.mono (by omega)))
              have HW5 := Lib.hid (hB0.trans (HB5.out.mono (by omega)))
              have q0 := (hb5.cell (p := ⟨w.heap.size, 0, none⟩) (by show w.heap.size < _; omega)).trans q0
              have q1 := (hb5.cell (p := ⟨w.heap.size, 1, none⟩) (by show w.heap.size < _; omega)).trans q1
              have HO5 : Hid (OwnJ w5 wr.heap.size (.slice (some ⟨g, 0, none⟩) (L ++ [(j : Int)]).length cap) (L ++ [(j : Int)])) := Lib.hid (by have := HO4.out.below hb5 (Nat.le_refl _); rw [List.length_append, List.length_singleton]; exact this)
              have hz5 := hb5.size
              have HI := Lib.hid (IH.out (L ++ [(j : Int)]) (max used (j + 1)) w5 wr.heap.size g cap (HSB.out.below HW5.out (Nat.le_refl _)) HO5.out (by omega) (by rw [List.length_append, List.length_singleton]; omega) HGN.out (by omega) (by omega))
              have hln : (L ++ [(j : Int)]).length = L.length + 1 := by simp
              rw [hln, ← HRR.out] at HI
              clear hb5 HO4 HO5 HB4 HW4 HSB4 hln
              by_cases hmx : used ≤ j
              · rw [show max used (j + 1) = j + 1 by omega] at HI
                cases hrr : r with
                | none =>
                  rw [hrr] at HI HFJ
                  have HN := Lib.hid (show tryN f 0 M = tryN f (j + 1) (M - (j + 1)) by rw [HR.out, tryN_miss HFJ.out (by omega)]; congr 1)
                  clear hrr HFJ HRR
                  go_wp2_with fail
                  all_goals try (exfalso; omega)
                  refine HI.out.mono ?_
                  rintro e w6 ⟨hb6, rfl⟩
                  have hB6 := HB5.out.trans (hb6.mono (by omega))
                  clear hb6
                  go_wp2
                  go_roundw
                  case rel => exact ⟨j + 1, by omega, by go_num, hB6, HN⟩
                  case measure => simp [intOf]; omega
                | some R =>
                  rw [hrr] at HI HFJ
                  have HN := Lib.hid (show tryN f 0 M = some R by rw [HR.out, tryN_hit HFJ.out (by omega)])
                  clear hrr HFJ HRR
                  go_wp2_with fail
                  all_goals try (exfalso; omega)
                  refine HI.out.mono ?_
                  rintro e w6 ⟨hb6, g6, cap6, rfl, hO6⟩
                  have hB6 := HB5.out.trans (hb6.mono (by omega))
                  clear hb6
                  go_wp2
                  go_ret2
                  rw [HN.out]
                  exact ⟨hB0.trans (hB6.mono (by omega)), g6, cap6, rfl, ownsRow_base hO6 (by omega)⟩
              · rw [show max used (j + 1) = used by omega] at HI
                cases hrr : r with
                | none =>
                  rw [hrr] at HI HFJ
                  have HN := Lib.hid (show tryN f 0 M = tryN f (j + 1) (M - (j + 1)) by rw [HR.out, tryN_miss HFJ.out (by omega)]; congr 1)
                  clear hrr HFJ HRR
                  go_wp2_with fail
                  all_goals try (exfalso; omega)
                  refine HI.out.mono ?_
                  rintro e w6 ⟨hb6, rfl⟩
                  have hB6 := HB5.out.trans (hb6.mono (by omega))
                  clear hb6
                  go_wp2
                  go_roundw
                  case rel => exact ⟨j + 1, by omega, by go_num, hB6, HN⟩
                  case measure => simp [intOf]; omega
                | some R =>
                  rw [hrr] at HI HFJ
                  have HN := Lib.hid (show tryN f 0 M = some R by rw [HR.out, tryN_hit HFJ.out (by omega)])
                  clear hrr HFJ HRR
                  go_wp2_with fail
                  all_goals try (exfalso; omega)
                  refine HI.out.mono ?_
                  rintro e w6 ⟨hb6, g6, cap6, rfl, hO6⟩
                  have hB6 := HB5.out.trans (hb6.mono (by omega))
                  clear hb6
                  go_wp2
                  go_ret2
                  rw [HN.out]
                  exact ⟨hB0.trans (hB6.mono (by omega)), g6, cap6, rfl, ownsRow_base hO6 (by omega)⟩
          · have HN := Lib.hid (show tryN f 0 M = none by rw [HR.out, show M - j = 0 by omega]; rfl)
            have hjM : j = M := by omega
            rcases hM2 with hk2 | hk2
            · have t1 : decide ((j : Int) < (k : Int)) = false := by simp; omega
              go_wp2
              go_ret2
              rw [HN.out]
              exact ⟨hBw, rfl⟩
            · have hk4 : used < j := by omega
              clear hk2
              by_cases hk3 : j < k
              · have t1 : decide ((j : Int) < (k : Int)) = true := by simp; omega
                have t2 : decide ((j : Int) ≤ (used : Int)) = false := by simp; omega
                go_wp2
                go_ret2
                rw [HN.out]
                exact ⟨hBw, rfl⟩
              · have t1 : decide ((j : Int) < (k : Int)) = false := by simp; omega
                go_wp2
                go_ret2
                rw [HN.out]
                exact ⟨hBw, rfl⟩
      | true =>
        rw [least_true] at hpr
        have e3 : decide ((v : Int) - (L.length : Int) < (k : Int) - (used : Int)) = false := by simp; omega
        go_enter Try.func134, Try.ntmps134
        go_wp2
        obtain ⟨w2, hw2⟩ : ∃ w2, w2 = w.alloc (.cells #[.int .i64 (v : Int), .slice a0 bs.length c0] 32) := ⟨_, rfl⟩
        have hB0 : Below w.heap.size w w2 := by rw [hw2]; exact (Below.refl _ _).alloc (Nat.le_refl _) _
        have hz2 : w2.heap.size = w.heap.size + 1 := by rw [hw2]; simp
        have hc0 : w2.cell? ⟨w.heap.size, 0, none⟩ = some (.int .i64 (v : Int)) := by rw [hw2]; simp
        have hc2 : w2.cell? ⟨w.heap.size, 1, none⟩ = some (.slice a0 bs.length c0) := by rw [hw2]; simp
        rw [← hw2]
        clear hw2
        go_loopw [13] (fun i wr => ∃ j : Nat, j ≤ M ∧ i = .int .i64 j ∧ Below (w.heap.size + 1) w2 wr ∧ Hid (tryN f 0 M = tryN f j (M - j))) (fun i _ => M - (intOf i).toNat)
        case atStart => exact ⟨0, Nat.zero_le _, rfl, Below.refl _ _, Lib.hid rfl⟩
        case round =>
          obtain ⟨j, hj, rfl, hB, HR⟩ := hrel
          have hz := hB.size
          have p0 : wr.cell? ⟨w.heap.size, 0, none⟩ = some (.int .i64 (v : Int)) := by rw [hB.cell (by simp)]; exact hc0
          have p1 : wr.cell? ⟨w.heap.size, 1, none⟩ = some (.slice a0 bs.length c0) := by rw [hB.cell (by simp)]; exact hc2
          have hBw : Below w.heap.size w wr := hB0.trans (hB.mono (by omega))
          by_cases hjl : j < M
          · have t1 : decide ((j : Int) < (k : Int)) = true := by simp; omega
            have t2 : decide ((j : Int) ≤ (used : Int)) = true := by simp; omega
            have HO1 := Lib.hid (HOW.out.below hBw (Nat.le_refl _))
            have HIA := Lib.hid (HO1.out.ia (by omega))
            have HFJ := Lib.hid (show f j = if goodE true bs (L ++ [(j : Int)]) then findC true bs k (leastOf true k) d (L ++ [(j : Int)]) (max used (j + 1)) else none by rw [HF.out])
            go_wp2_with fail
            refine (l01Own_any _ L wr HIA.out (by omega)).mono ?_
            rintro e w3 ⟨g1, cap1, rfl, hO3, hb3⟩
            have HB3 := Lib.hid (hB.trans (hb3.mono (by omega)))
            have HW3 := Lib.hid (hBw.trans (hb3.mono hBw.size))
            have HO3 := Lib.hid hO3
            have hz3 := hb3.size
            clear hO3 hb3
            go_upto_region 10 with (at_builtin; refine wpList_append_int rfl _ _ rfl wr.heap.size (.slice (some ⟨g1, 0, none⟩) L.length cap1) L rfl (by exact HO3.out.below ((Below.refl _ _).alloc (Nat.le_refl _) _) (Nat.le_refl _)) _ _ (j : Int) rfl (by simp [go_sem]) (by omega) (by simp; omega) ?_; intro g cap w4 hO4 hg4)
            have HB4 := Lib.hid ((HB3.out.alloc (by omega) _).grown hg4 (by simp; omega) (fun r e => by have := HO3.out.row r e; omega))
            have HW4 := Lib.hid (hB0.trans (HB4.out.mono (by omega)))
            have HO4 : Hid (OwnJ w4 wr.heap.size (.slice (some ⟨g, 0, none⟩) (L ++ [(j : Int)]).length cap) (L ++ [(j : Int)])) := Lib.hid (by rw [List.length_append, List.length_singleton]; exact hO4)
            have hz4 : wr.heap.size ≤ w4.heap.size := by have := hg4.size; simp at this; omega
            have q0 : w4.cell? ⟨w.heap.size, 0, none⟩ = some (.int .i64 (v : Int)) := by rw [HB4.out.cell (by simp)]; exact hc0
            have q1 : w4.cell? ⟨w.heap.size, 1, none⟩ = some (.slice a0 bs.length c0) := by rw [HB4.out.cell (by simp)]; exact hc2
            have HSB4 := Lib.hid (HSB.out.below HW4.out (Nat.le_refl _))
            have HA := Lib.hid (HAH.out j _ w4 HSB4.out (HO4.out.ib (by rw [List.length_append, List.length_singleton]; omega)))
            have hln : (L ++ [(j : Int)]).length = L.length + 1 := by simp
            rw [hln] at HA HO4
            clear hO4 hg4 HB3 HW3 HO3 hz3 p0 p1 hln
            cases hge : goodE true bs (L ++ [(j : Int)]) with
            | false =>
              rw [hge] at HA HFJ
              have HN := Lib.hid (show tryN f 0 M = tryN f (j + 1) (M - (j + 1)) by rw [HR.out, tryN_miss HFJ.out (by omega)]; congr 1)
              clear hge HFJ
              go_wp2_with fail
              refine HA.out.mono ?_
              rintro e w5 ⟨rfl, hb5⟩
              have hB5 := HB4.out.trans (hb5.mono (by omega))
              clear hb5
              go_wp2
              go_roundw
              case rel => exact ⟨j + 1, by omega, by go_num, hB5, HN⟩
              case measure => simp [intOf]; omega
            | true =>
              rw [hge] at HA HFJ
              have HGN := Lib.hid (show goodN true ((L ++ [(j : Int)]).length : Int) (L ++ [(j : Int)]) bs = true by rw [good_step HOK.out HG.out]; exact hge)
              obtain ⟨r, hr⟩ : ∃ r, r = findC true bs k (leastOf true k) d (L ++ [(j : Int)]) (max used (j + 1)) := ⟨_, rfl⟩
              rw [if_pos rfl, ← hr] at HFJ
              have HRR := Lib.hid hr
              clear hge hr
              go_wp2_with fail
              refine HA.out.mono ?_
              rintro e w5 ⟨rfl, hb5⟩
              have HB5 := Lib.hid (HB4.out.trans (hb5.mono (by omega)))
              have HW5 := Lib.hid (hB0.trans (HB5.out.mono (by omega)))
              have q0 := (hb5.cell (p := ⟨w.heap.size, 0, none⟩) (by show w.heap.size < _; omega)).trans q0
              have q1 := (hb5.cell (p := ⟨w.heap.size, 1, none⟩) (by show w.heap.size < _; omega)).trans q1
              have HO5 : Hid (OwnJ w5 wr.heap.size (.slice (some ⟨g, 0, none⟩) (L ++ [(j : Int)]).length cap) (L ++ [(j : Int)])) := Lib.hid (by have := HO4.out.below hb5 (Nat.le_refl _); rw [List.length_append, List.length_singleton]; exact this)
              have hz5 := hb5.size
              have HI := Lib.hid (IH.out (L ++ [(j : Int)]) (max used (j + 1)) w5 wr.heap.size g cap (HSB.out.below HW5.out (Nat.le_refl _)) HO5.out (by omega) (by rw [List.length_append, List.length_singleton]; omega) HGN.out (by omega) (by omega))
              have hln : (L ++ [(j : Int)]).length = L.length + 1 := by simp
              rw [hln, ← HRR.out] at HI
              clear hb5 HO4 HO5 HB4 HW4 HSB4 hln
              by_cases hmx : used ≤ j
              · rw [show max used (j + 1) = j + 1 by omega] at HI
                cases hrr : r with
                | none =>
                  rw [hrr] at HI HFJ
                  have HN := Lib.hid (show tryN f 0 M = tryN f (j + 1) (M - (j + 1)) by rw [HR.out, tryN_miss HFJ.out (by omega)]; congr 1)
                  clear hrr HFJ HRR
                  go_wp2_with fail
                  all_goals try (exfalso; omega)
                  refine HI.out.mono ?_
                  rintro e w6 ⟨hb6, rfl⟩
                  have hB6 := HB5.out.trans (hb6.mono (by omega))
                  clear hb6
                  go_wp2
                  go_roundw
                  case rel => exact ⟨j + 1, by omega, by go_num, hB6, HN⟩
                  case measure => simp [intOf]; omega
                | some R =>
                  rw [hrr] at HI HFJ
                  have HN := Lib.hid (show tryN f 0 M = some R by rw [HR.out, tryN_hit HFJ.out (by omega)])
                  clear hrr HFJ HRR
                  go_wp2_with fail
                  all_goals try (exfalso; omega)
                  refine HI.out.mono ?_
                  rintro e w6 ⟨hb6, g6, cap6, rfl, hO6⟩
                  have hB6 := HB5.out.trans (hb6.mono (by omega))
                  clear hb6
                  go_wp2
                  go_ret2
                  rw [HN.out]
                  exact ⟨hB0.trans (hB6.mono (by omega)), g6, cap6, rfl, ownsRow_base hO6 (by omega)⟩
              · rw [show max used (j + 1) = used by omega] at HI
                cases hrr : r with
                | none =>
                  rw [hrr] at HI HFJ
                  have HN := Lib.hid (show tryN f 0 M = tryN f (j + 1) (M - (j + 1)) by rw [HR.out, tryN_miss HFJ.out (by omega)]; congr 1)
                  clear hrr HFJ HRR
                  go_wp2_with fail
                  all_goals try (exfalso; omega)
                  refine HI.out.mono ?_
                  rintro e w6 ⟨hb6, rfl⟩
                  have hB6 := HB5.out.trans (hb6.mono (by omega))
                  clear hb6
                  go_wp2
                  go_roundw
                  case rel => exact ⟨j + 1, by omega, by go_num, hB6, HN⟩
                  case measure => simp [intOf]; omega
                | some R =>
                  rw [hrr] at HI HFJ
                  have HN := Lib.hid (show tryN f 0 M = some R by rw [HR.out, tryN_hit HFJ.out (by omega)])
                  clear hrr HFJ HRR
                  go_wp2_with fail
                  all_goals try (exfalso; omega)
                  refine HI.out.mono ?_
                  rintro e w6 ⟨hb6, g6, cap6, rfl, hO6⟩
                  have hB6 := HB5.out.trans (hb6.mono (by omega))
                  clear hb6
                  go_wp2
                  go_ret2
                  rw [HN.out]
                  exact ⟨hB0.trans (hB6.mono (by omega)), g6, cap6, rfl, ownsRow_base hO6 (by omega)⟩
          · have HN := Lib.hid (show tryN f 0 M = none by rw [HR.out, show M - j = 0 by omega]; rfl)
            have hjM : j = M := by omega
            rcases hM2 with hk2 | hk2
            · have t1 : decide ((j : Int) < (k : Int)) = false := by simp; omega
              go_wp2
              go_ret2
              rw [HN.out]
              exact ⟨hBw, rfl⟩
            · have hk4 : used < j := by omega
              clear hk2
              by_cases hk3 : j < k
              · have t1 : decide ((j : Int) < (k : Int)) = true := by simp; omega
                have t2 : decide ((j : Int) ≤ (used : Int)) = false := by simp; omega
                go_wp2
                go_ret2
                rw [HN.out]
                exact ⟨hBw, rfl⟩
              · have t1 : decide ((j : Int) < (k : Int)) = false := by simp; omega
                go_wp2
                go_ret2
                rw [HN.out]
                exact ⟨hBw, rfl⟩
end Go.Proofs.Ytkpnlecmfmbkaaa

namespace Go.Proofs.Ytkpnlecmfmbkaaa
open Go.RowKit Go.Maps Go.Shelf
def colK (v : Int) (bs : List Blk) (k : Int) : Int := if isSysImpl v bs then (if (decide (1 ≤ k) && decide (k ≤ 6)) = true then 0 else 2) else 1
set_option maxRecDepth 100000 in
theorem l07Code_any (v : Int) (s : Value) (bs : List Blk) (k : Int) (w : World) (h : SB w s bs) : Calls Try.prog 133 #[.agg #[.int .i64 v, s], .int .i64 k] w (RV (.int .i64 (colK v bs k)) w) := by
  have HI := Lib.hid fun W (hb : Below w.heap.size w W) => l01Is_any v s bs W (h.below hb (Nat.le_refl _))
  have HN := Lib.hid fun W => l01In_any k 1 6 W
  have HC := Lib.hid (show colK v bs k = if isSysImpl v bs then (if (decide (1 ≤ k) && decide (k ≤ 6)) = true then 0 else 2) else 1 from rfl)
  have hb0 := (Below.refl w.heap.size w).alloc (Nat.le_refl _) (.cells #[.int .i64 v, s] 32)
  obtain ⟨a0, c0, rfl⟩ := h.slice
  obtain ⟨κ, hκ⟩ : ∃ κ, κ = colK v bs k := ⟨_, rfl⟩
  rw [← hκ] at HC ⊢
  clear h hκ
  cases hi : isSysImpl v bs with
  | false =>
    rw [hi] at HI HC
    clear hi
    go_enter Try.func133, Try.ntmps133
    go_wp2_with fail
    refine (HI.out _ hb0).mono ?_
    rintro e w1 ⟨rfl, hb1⟩
    have hbw := below_new hb1
    clear hb1
    go_wp2
    go_ret
    exact RV_of (int_eq (by rw [HC.out]; rfl)) hbw
  | true =>
    rw [hi] at HI HC
    clear hi
    obtain ⟨β, hβ⟩ : ∃ β, β = (decide (1 ≤ k) && decide (k ≤ 6)) := ⟨_, rfl⟩
    rw [← hβ] at HN HC
    clear hβ
    cases β with
    | false =>
      go_enter Try.func133, Try.ntmps133
      go_wp2_with fail
      refine (HI.out _ hb0).mono ?_
      rintro e w1 ⟨rfl, hb1⟩
      have hbw := below_new hb1
      clear hb1
      go_wp2_with fail
      refine (HN.out _).mono ?_
      rintro e w2 ⟨rfl, rfl⟩
      go_wp2
      go_ret
      exact RV_of (int_eq (by rw [HC.out]; rfl)) hbw
    | true =>
      go_enter Try.func133, Try.ntmps133
      go_wp2_with fail
      refine (HI.out _ hb0).mono ?_
      rintro e w1 ⟨rfl, hb1⟩
      have hbw := below_new hb1
      clear hb1
      go_wp2_with fail
      refine (HN.out _).mono ?_
      rintro e w2 ⟨rfl, rfl⟩
      go_wp2
      go_ret
      exact RV_of (int_eq (by rw [HC.out]; rfl)) hbw
theorem colK_zero {v : Int} {bs : List Blk} {k : Int} (h : colK v bs k = 0) : isSysImpl v bs = true ∧ 1 ≤ k ∧ k ≤ 6 := by
  unfold colK at h
  cases hi : isSysImpl v bs with
  | false => rw [hi] at h; simp at h
  | true =>
    rw [hi, if_pos rfl] at h
    by_cases hc : (decide (1 ≤ k) && decide (k ≤ 6)) = true
    · simp at hc; exact ⟨rfl, hc.1, hc.2⟩
    · rw [if_neg hc] at h; simp at h
theorem firF_code {strict : Bool} {v : Int} {bs : List Blk} {k : Int} (h : colK v bs k ≠ 0) : firF strict v bs k = ([], colK v bs k) := by
  unfold firF
  unfold colK at *
  cases hi : isSysImpl v bs with
  | false => rfl
  | true =>
    rw [hi, if_pos rfl] at h
    by_cases hc : (decide (1 ≤ k) && decide (k ≤ 6)) = true
    · rw [if_pos hc] at h; simp at h
    · rw [if_pos rfl, if_neg hc, if_pos rfl, if_neg hc]
theorem firF_find {strict : Bool} {n k : Nat} {bs : List Blk} (h : colK (n : Int) bs (k : Int) = 0) : firF strict (n : Int) bs (k : Int) = firR (findC strict bs k (leastOf strict k) n [] 0) := by
  obtain ⟨hi, h1, h6⟩ := colK_zero h
  unfold firF
  rw [if_pos hi, if_pos (by simp; omega), Int.toNat_natCast, Int.toNat_natCast]
set_option maxRecDepth 100000 in
set_option maxHeartbeats 1000000 in
theorem specFirstColouring_any (v : Int) (s : Value) (bs : List Blk) (k : Int) (w : World) (h : SB w s bs) :
    Calls Try.prog 72 #[.agg #[.int .i64 v, s], .int .i64 k] w (RJ (firF false v bs k) w) := by
  have HPC := Lib.hid fun W (hb : Below w.heap.size w W) => l07Code_any v s bs k W (h.below hb (Nat.le_refl _))
  have hb0 := (Below.refl w.heap.size w).alloc (Nat.le_refl _) (.cells #[.int .i64 v, s] 32)
  have HSB := Lib.hid h
  obtain ⟨a0, c0, rfl⟩ := h.slice
  clear h
  by_cases hc : colK v bs k = 0
  · obtain ⟨hi, k1, k6⟩ := colK_zero hc
    obtain ⟨v3, v15, _⟩ := sys_size hi
    have hok := sys_ok hi
    obtain ⟨n, rfl⟩ : ∃ n : Nat, v = n := ⟨v.toNat, by omega⟩
    obtain ⟨kn, rfl⟩ : ∃ n : Nat, k = n := ⟨k.toNat, by omega⟩
    have HV := Lib.hid (firF_find (strict := false) hc)
    have HF := Lib.hid fun W g0 (hb : Below w.heap.size w W) ho => l07Find_any false n kn (.slice a0 bs.length c0) bs hok (by omega) (by omega) n [] 0 W W.heap.size g0 0 (HSB.out.below hb (Nat.le_refl _)) ho (Nat.le_refl _) (by simp) (good_nil false hok) (by omega) (by omega)
    obtain ⟨r, hr⟩ : ∃ r, r = findC false bs kn (leastOf false kn) n [] 0 := ⟨_, rfl⟩
    rw [← hr] at HV HF
    rw [hc] at HPC
    have HF2 := Lib.hid fun W (hb : Below w.heap.size w W) => l07Find_any false n kn (.slice a0 bs.length c0) bs hok (by omega) (by omega) n [] 0 (W.alloc (.cells #[] 2)) W.heap.size W.heap.size 0 (HSB.out.below (hb.trans (((Below.refl _ _).alloc (Nat.le_refl _) _).mono hb.size)) (Nat.le_refl _)) (OwnJ.new0 W (Nat.le_refl _)) (by simp) (by simp) (good_nil false hok) (by omega) (by omega)
    rw [← hr] at HF2
    clear hc hi hok hr HF HSB
    go_enter Try.func72, Try.ntmps72
    go_wp2_with fail
    refine (HPC.out _ hb0).mono ?_
    rintro e w1 ⟨rfl, hb1⟩
    have q0 := cell_new hb1 0 rfl
    have q1 := cell_new hb1 1 rfl
    have hbw := below_new hb1
    clear hb1
    have HF3 := Lib.hid (HF2.out w1 hbw)
    have hba : Below w1.heap.size w1 (w1.alloc (.cells #[] 2)) := (Below.refl _ _).alloc (Nat.le_refl _) _
    have hbwa := hbw.trans (hba.mono hbw.size)
    cases r with
    | none =>
      have HV2 := Lib.hid (HV.out.trans (rfl : firR none = ([], 4)))
      clear HV HF2
      go_wp2_with fail
      refine HF3.out.mono ?_
      rintro e w2 ⟨hb2, rfl⟩
      have hbw2 := hbwa.trans (hb2.mono hbwa.size)
      clear hb2
      go_wp2
      go_ret2
      rw [HV2.out]
      exact ⟨_, rfl, OwnJ.nil _ _, hbw2⟩
    | some R =>
      have HV2 := Lib.hid (HV.out.trans (rfl : firR (some R) = (R, 0)))
      clear HV HF2
      go_wp2_with fail
      refine HF3.out.mono ?_
      rintro e w2 ⟨hb2, g, cap, rfl, hO⟩
      have hbw2 := hbwa.trans (hb2.mono hbwa.size)
      have hz := hbw.size
      have HO : Hid (OwnJ w2 w.heap.size (.slice (some ⟨g, 0, none⟩) R.length cap) R) := Lib.hid (ownsRow_base hO hz)
      clear hb2 hO
      go_wp2
      go_ret2
      rw [HV2.out]
      exact ⟨_, rfl, HO.out, hbw2⟩
  · have HV := Lib.hid (firF_code (strict := false) hc)
    obtain ⟨κ, hκ⟩ : ∃ κ, κ = colK v bs k := ⟨_, rfl⟩
    rw [← hκ] at HPC HV hc
    have hne : (κ != 0) = true := by simpa using hc
    clear hc hκ
    rw [HV.out]
    go_enter Try.func72, Try.ntmps72
    go_wp2_with fail
    refine (HPC.out _ hb0).mono ?_
    rintro e w1 ⟨rfl, hb1⟩
    have hbw := below_new hb1
    clear hb1 HV
    go_wp2
    go_ret2
    exact ⟨_, rfl, OwnJ.nil _ _, hbw⟩
set_option maxRecDepth 100000 in
set_option maxHeartbeats 1000000 in
theorem specFirstStrict_any (v : Int) (s : Value) (bs : List Blk) (k : Int) (w : World) (h : SB w s bs) :
    Calls Try.prog 74 #[.agg #[.int .i64 v, s], .int .i64 k] w (RJ (firF true v bs k) w) := by
  have HPC := Lib.hid fun W (hb : Below w.heap.size w W) => l07Code_any v s bs k W (h.below hb (Nat.le_refl _))
  have hb0 := (Below.refl w.heap.size w).alloc (Nat.le_refl _) (.cells #[.int .i64 v, s] 32)
  have HSB := Lib.hid h
  obtain ⟨a0, c0, rfl⟩ := h.slice
  clear h
  by_cases hc : colK v bs k = 0
  · obtain ⟨hi, k1, k6⟩ := colK_zero hc
    obtain ⟨v3, v15, _⟩ := sys_size hi
    have hok := sys_ok hi
    obtain ⟨n, rfl⟩ : ∃ n : Nat, v = n := ⟨v.toNat, by omega⟩
    obtain ⟨kn, rfl⟩ : ∃ n : Nat, k = n := ⟨k.toNat, by omega⟩
    have HV := Lib.hid (firF_find (strict := true) hc)
    have HF := Lib.hid fun W g0 (hb : Below w.heap.size w W) ho => l07Find_any true n kn (.slice a0 bs.length c0) bs hok (by omega) (by omega) n [] 0 W W.heap.size g0 0 (HSB.out.below hb (Nat.le_refl _)) ho (Nat.le_refl _) (by simp) (good_nil true hok) (by omega) (by omega)
    obtain ⟨r, hr⟩ : ∃ r, r = findC true bs kn (leastOf true kn) n [] 0 := ⟨_, rfl⟩
    rw [← hr] at HV HF
    rw [hc] at HPC
    have HF2 := Lib.hid fun W (hb : Below w.heap.size w W) => l07Find_any true n kn (.slice a0 bs.length c0) bs hok (by omega) (by omega) n [] 0 (W.alloc (.cells #[] 2)) W.heap.size W.heap.size 0 (HSB.out.below (hb.trans (((Below.refl _ _).alloc (Nat.le_refl _) _).mono hb.size)) (Nat.le_refl _)) (OwnJ.new0 W (Nat.le_refl _)) (by simp) (by simp) (good_nil true hok) (by omega) (by omega)
    rw [← hr] at HF2
    clear hc hi hok hr HF HSB
    go_enter Try.func74, Try.ntmps74
    go_wp2_with fail
    refine (HPC.out _ hb0).mono ?_
    rintro e w1 ⟨rfl, hb1⟩
    have q0 := cell_new hb1 0 rfl
    have q1 := cell_new hb1 1 rfl
    have hbw := below_new hb1
    clear hb1
    have HF3 := Lib.hid (HF2.out w1 hbw)
    have hba : Below w1.heap.size w1 (w1.alloc (.cells #[] 2)) := (Below.refl _ _).alloc (Nat.le_refl _) _
    have hbwa := hbw.trans (hba.mono hbw.size)
    cases r with
    | none =>
      have HV2 := Lib.hid (HV.out.trans (rfl : firR none = ([], 4)))
      clear HV HF2
      go_wp2_with fail
      refine HF3.out.mono ?_
      rintro e w2 ⟨hb2, rfl⟩
      have hbw2 := hbwa.trans (hb2.mono hbwa.size)
      clear hb2
      go_wp2
      go_ret2
      rw [HV2.out]
      exact ⟨_, rfl, OwnJ.nil _ _, hbw2⟩
    | some R =>
      have HV2 := Lib.hid (HV.out.trans (rfl : firR (some R) = (R, 0)))
      clear HV HF2
      go_wp2_with fail
      refine HF3.out.mono ?_
      rintro e w2 ⟨hb2, g, cap, rfl, hO⟩
      have hbw2 := hbwa.trans (hb2.mono hbwa.size)
      have hz := hbw.size
      have HO : Hid (OwnJ w2 w.heap.size (.slice (some ⟨g, 0, none⟩) R.length cap) R) := Lib.hid (ownsRow_base hO hz)
      clear hb2 hO
      go_wp2
      go_ret2
      rw [HV2.out]
      exact ⟨_, rfl, HO.out, hbw2⟩
  · have HV := Lib.hid (firF_code (strict := true) hc)
    obtain ⟨κ, hκ⟩ : ∃ κ, κ = colK v bs k := ⟨_, rfl⟩
    rw [← hκ] at HPC HV hc
    have hne : (κ != 0) = true := by simpa using hc
    clear hc hκ
    rw [HV.out]
    go_enter Try.func74, Try.ntmps74
    go_wp2_with fail
    refine (HPC.out _ hb0).mono ?_
    rintro e w1 ⟨rfl, hb1⟩
    have hbw := below_new hb1
    clear hb1 HV
    go_wp2
    go_ret2
    exact ⟨_, rfl, OwnJ.nil _ _, hbw⟩
end Go.Proofs.Ytkpnlecmfmbkaaa

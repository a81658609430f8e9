
/- The model's SystemOf. What a law over two systems knows of the memory between two of its steps. What a law over one system whose result is a list of integers knows of the memory between two of its steps. impl.SquareOf makes the square of its number. The model's squares. -/
import Derived.Test.YtikegdidffjoeaaJ7
namespace Go.Proofs.Ytikegdidffjoeaa
open Go.RowKit Go.Maps
/-- One step of the model's test of a block. -/
def badK (v a b : Int) : Bool := !(inP v a) || decide (a = b)
theorem okS_bad (v a b c : Int) : okS v ⟨a, b, c⟩ = !(badK v a b || badK v b c || badK v c a) := by
  unfold okS b3
  rw [Bool.eq_iff_iff, blk3_good]
  unfold badK inP
  simp only [Bool.not_eq_true', Bool.or_eq_false_iff, Bool.not_eq_false', Bool.and_eq_true, decide_eq_true_eq, decide_eq_false_iff_not]
  omega
theorem in_val (v a : Int) (β : Bool) (h : inP v a = β) (W : World) : Calls Try.prog 91 #[.int .i64 a, .int .i64 0, .int .i64 (v - 1)] W (RS (.bool β) W) := by
  have := l01In_any a 0 (v - 1) W
  have e : (decide ((0 : Int) ≤ a) && decide (a ≤ v - 1)) = β := by
    rw [← h]
    unfold inP
    congr 1
    rw [decide_eq_decide]
    omega
  rw [e] at this
  exact this
set_option maxRecDepth 100000 in
set_option maxHeartbeats 2000000 in
theorem specSystemOf_any (v : Int) (s : Value) (bs : List Blk) (w : World) (h : SB w s bs) :
    Calls Try.prog 27 #[.int .i64 v, s] w (RSys (sysOfF v bs) w) := by
  have hs := h.slice
  have HSB := Lib.hid h
  have hlen := h.2.1
  have HZ := Lib.hid fun W => l01In_any v 3 15 W
  clear h
  obtain ⟨a0, c0, rfl⟩ := hs
  by_cases hz : (decide (3 ≤ v) && decide (v ≤ 15)) = true
  · rw [hz] at HZ
    by_cases hl : bs.length ≤ 35
    · have hd35 : decide (35 < bs.length) = false := by simp; omega
      have hd35' : decide ((35 : Int) < (bs.length : Int)) = false := by simp; omega
      have hv : 3 ≤ v ∧ v ≤ 15 := by simpa using hz
      obtain ⟨hv3, hv15⟩ := hv
      have HVZ := Lib.hid hz
      clear hz
      go_enter Try.func27, Try.ntmps27
      go_wp2_with fail
      refine (HZ.out _).mono ?_
      rintro e w1 ⟨rfl, rfl⟩
      go_wp2_with fail
      obtain ⟨w2, hw2⟩ : ∃ w2, (w.alloc (.cells #[.int .i64 0, .slice none 0 0] 26)) = w2 := ⟨_, rfl⟩
      have e0 : w2.cell? ⟨w.heap.size, 0, none⟩ = some (.int .i64 0) := by rw [← hw2]; simp [go_sem]
      have e1 : w2.cell? ⟨w.heap.size, 1, none⟩ = some (.slice none 0 0) := by rw [← hw2]; simp [go_sem]
      have k0 : w2.frozen? ⟨w.heap.size, 0, none⟩ = false := by rw [← hw2]; simp [go_sem]
      have k1 : w2.frozen? ⟨w.heap.size, 1, none⟩ = false := by rw [← hw2]; simp [go_sem]
      have hz2 : w2.heap.size = w.heap.size + 1 := by rw [← hw2]; simp
      have hbw2 : Below w.heap.size w w2 := by rw [← hw2]; exact (Below.refl _ _).alloc (Nat.le_refl _) _
      rw [hw2]
      clear hw2
      have HO0 := Lib.hid (lit_own w2)
      rw [hz2] at HO0
      have HB3 : Hid (Below w2.heap.size w2 (w2.alloc (.cells #[] 50))) := Lib.hid ((Below.refl _ _).alloc (Nat.le_refl _) _)
      have HE := Lib.hid (And.intro e0 (And.intro e1 (And.intro k0 k1)))
      have HSX := Lib.hid (HSB.out.below hbw2 (Nat.le_refl _)).sx
      have HZ2 := Lib.hid hz2
      have hlt2 : w.heap.size < w2.heap.size := by omega
      clear e0 e1 k0 k1 hz2
      go_loopw [6, 7] (fun o t wr => ∃ k : Nat, k ≤ bs.length ∧ t = .int .i64 k ∧ Below w2.heap.size w2 wr ∧ OwnR wr w2.heap.size o ((bs.take k).map b3) ∧ Hid ((bs.take k).all (okS v) = true) ∧ ∃ a n c, o = .slice a n c) (fun _ t _ => bs.length - (intOf t).toNat)
      case atStart => exact ⟨0, Nat.zero_le _, rfl, HB3.out, by rw [HZ2.out]; exact HO0.out, Lib.hid (by simp), _, _, _, rfl⟩
      case round =>
        obtain ⟨k, hk, rfl, hB, hO, HALL, a5, n5, c5, rfl⟩ := hrel
        have hz := hB.size
        have HO5 := Lib.hid hO
        clear hO
        by_cases hkl : k < bs.length
        · rcases HSX.out with ⟨_, _, _, hnil⟩ | ⟨b, off, cap, hv, hblt, hbl⟩
          · rw [hnil] at hkl; simp at hkl
          simp at hv
          obtain ⟨rfl, rfl⟩ := hv
          have hz4 : b < wr.heap.size := by omega
          obtain ⟨x, hx, ex, x1, x2, x3⟩ := blks_at (hbl.below hB hblt) hkl
          have hta := take_all (v := v) hkl ex
          have hst := fun h => all_stop (v := v) hkl ex h
          obtain ⟨xa, xb, xc⟩ := x
          dsimp only at x1 x2 x3
          obtain ⟨r, hr⟩ : ∃ r, r = blk3 xa xb xc := ⟨_, rfl⟩
          have hsucc : (bs.take (k + 1)).map b3 = (bs.take k).map b3 ++ [r] := by
            have e1 : bs[k] = ⟨xa, xb, xc⟩ := by rw [List.getElem?_eq_getElem hkl] at ex; simpa using ex
            rw [List.take_succ_eq_append_getElem hkl, List.map_append, e1, hr]
            simp [b3]
          have HSU := Lib.hid hsucc
          have HTA := Lib.hid hta
          have HST := Lib.hid hst
          have i0 : (0 : Int) ≤ (k : Int) := by omega
          have i1 : (k : Int) < (bs.length : Int) := by omega
          have hl3 : ((bs.take k).map b3).length ≤ 1000 := by simp; omega
          obtain ⟨L, hL⟩ : ∃ L, L = (bs.take k).map b3 := ⟨_, rfl⟩
          rw [← hL] at HO5 HSU hl3
          have HR := Lib.hid hr
          clear hx ex hbl hsucc hta hst hr hL
          obtain ⟨e0, e1, k0, k1⟩ := HE.out
          have g0 := (hB.cell (p := ⟨w.heap.size, 0, none⟩) hlt2).trans e0
          have g1 := (hB.cell (p := ⟨w.heap.size, 1, none⟩) hlt2).trans e1
          have g2 := (hB.frozen (p := ⟨w.heap.size, 0, none⟩) hlt2).trans k0
          have g3 := (hB.frozen (p := ⟨w.heap.size, 1, none⟩) hlt2).trans k1
          clear e0 e1 k0 k1
          have hzw : w.heap.size < wr.heap.size := by omega
          have HBW := Lib.hid (hbw2.trans (hB.mono (by omega)))
          have s1 : IntKind.i64.wrap (v - 1) = v - 1 := IntWalk.i64_in _ (by omega)
          have HRET : okS v ⟨xa, xb, xc⟩ = false → Hid (sysOfF v bs = (0, [], 2)) := fun h => Lib.hid (by
            unfold sysOfF
            have := HST.out h
            unfold okS at this
            rw [this, Bool.and_false]
            simp)
          rw [okS_bad] at HTA HRET
          clear HST
          cases ha : inP v xa with
          | false =>
            have HV := HRET (by simp [badK, ha])
            have HA := Lib.hid fun W => in_val v xa false ha W
            clear HRET HTA ha HR
            go_wp2_with fail
            refine wp_loop_rounds 1 ?_
            rw [rounds_succ]
            go_wp2
            go_quiet ((go_at_call 91; exact RS.quiet (HA.out _)))
            go_wp2
            exact bodyPost_ret (v := .tuple #[.agg #[.int .i64 0, .slice none 0 0], .int .i64 2]) (by simp [results, Try.results27, go_sem, *]) rfl (by rw [HV.out]; exact ⟨_, rfl, .inl ⟨rfl, _, _, rfl⟩, by first | exact below_set2 (below_drewN HBW.out _) (by omega) _ _ | exact below_set2 (below_drewN (HBW.out.alloc (by omega) _) _) (by omega) _ _ | exact below_set2 (below_drewN (below_drewN (HBW.out.alloc (by omega) _) _) _) (by omega) _ _ | exact below_set2 (below_drewN (below_drewN (below_drewN (HBW.out.alloc (by omega) _) _) _) _) (by omega) _ _⟩)
          | true =>
            have HA := Lib.hid fun W => in_val v xa true ha W
            by_cases e0 : xa = xb
            · have HV := HRET (by simp [badK, e0])
              have q0 : (xa == xb) = true := by simpa using e0
              have d0 : decide (xa = xb) = true := by simpa using e0
              clear HRET HTA HR e0 ha
              go_wp2_with fail
              refine wp_loop_rounds 1 ?_
              rw [rounds_succ]
              go_wp2
              go_quiet ((go_at_call 91; exact RS.quiet (HA.out _)))
              go_wp2
              exact bodyPost_ret (v := .tuple #[.agg #[.int .i64 0, .slice none 0 0], .int .i64 2]) (by simp [results, Try.results27, go_sem, *]) rfl (by rw [HV.out]; exact ⟨_, rfl, .inl ⟨rfl, _, _, rfl⟩, by first | exact below_set2 (below_drewN HBW.out _) (by omega) _ _ | exact below_set2 (below_drewN (HBW.out.alloc (by omega) _) _) (by omega) _ _ | exact below_set2 (below_drewN (below_drewN (HBW.out.alloc (by omega) _) _) _) (by omega) _ _ | exact below_set2 (below_drewN (below_drewN (below_drewN (HBW.out.alloc (by omega) _) _) _) _) (by omega) _ _⟩)
            have q0 : (xa == xb) = false := by simpa using e0
            have d0 : decide (xa = xb) = false := by simpa using e0
            cases hb : inP v xb with
            | false =>
              have HV := HRET (by simp [badK, hb])
              have HB1 := Lib.hid fun W => in_val v xb false hb W
              clear HRET HTA ha hb HR
              go_wp2_with fail
              refine wp_loop_rounds 2 ?_
              rw [rounds_succ]
              go_wp2
              go_quiet ((go_at_call 91; exact RS.quiet (HA.out _)))
              go_wp2
              obtain ⟨W1, hW⟩ : ∃ W, (wr.alloc (.cells #[.int .i64 xa, .int .i64 xb, .int .i64 xc] 50)).drewN nq = W := ⟨_, rfl⟩
              have hbq : Below wr.heap.size wr W1 := by rw [← hW]; exact below_drewN ((Below.refl _ _).alloc (Nat.le_refl _) _) _
              have hzq : W1.heap.size = wr.heap.size + 1 := by rw [← hW]; simp
              have y0 : W1.cell? ⟨wr.heap.size, 0, none⟩ = some (.int .i64 xa) := by rw [← hW]; simp [go_sem]
              have y1 : W1.cell? ⟨wr.heap.size, 1, none⟩ = some (.int .i64 xb) := by rw [← hW]; simp [go_sem]
              have y2 : W1.cell? ⟨wr.heap.size, 2, none⟩ = some (.int .i64 xc) := by rw [← hW]; simp [go_sem]
              have HBW := Lib.hid (HBW.out.trans (hbq.mono (by omega)))
              have g0 := (hbq.cell (p := ⟨w.heap.size, 0, none⟩) hzw).trans g0
              have g1 := (hbq.cell (p := ⟨w.heap.size, 1, none⟩) hzw).trans g1
              have g2 := (hbq.frozen (p := ⟨w.heap.size, 0, none⟩) hzw).trans g2
              have g3 := (hbq.frozen (p := ⟨w.heap.size, 1, none⟩) hzw).trans g3
              rw [hW]
              clear hW
              rw [rounds_succ]
              go_wp2
              go_quiet ((go_at_call 91; exact RS.quiet (HB1.out _)))
              go_wp2
              exact bodyPost_ret (v := .tuple #[.agg #[.int .i64 0, .slice none 0 0], .int .i64 2]) (by simp [results, Try.results27, go_sem, *]) rfl (by rw [HV.out]; exact ⟨_, rfl, .inl ⟨rfl, _, _, rfl⟩, by first | exact below_set2 (below_drewN HBW.out _) (by omega) _ _ | exact below_set2 (below_drewN (HBW.out.alloc (by omega) _) _) (by omega) _ _ | exact below_set2 (below_drewN (below_drewN (HBW.out.alloc (by omega) _) _) _) (by omega) _ _ | exact below_set2 (below_drewN (below_drewN (below_drewN (HBW.out.alloc (by omega) _) _) _) _) (by omega) _ _⟩)
            | true =>
              have HB1 := Lib.hid fun W => in_val v xb true hb W
              by_cases e1 : xb = xc
              · have HV := HRET (by simp [badK, e1])
                have q1 : (xb == xc) = true := by simpa using e1
                have d1 : decide (xb = xc) = true := by simpa using e1
                clear HRET HTA HR e1 ha hb
                go_wp2_with fail
                refine wp_loop_rounds 2 ?_
                rw [rounds_succ]
                go_wp2
                go_quiet ((go_at_call 91; exact RS.quiet (HA.out _)))
                go_wp2
                obtain ⟨W1, hW⟩ : ∃ W, (wr.alloc (.cells #[.int .i64 xa, .int .i64 xb, .int .i64 xc] 50)).drewN nq = W := ⟨_, rfl⟩
                have hbq : Below wr.heap.size wr W1 := by rw [← hW]; exact below_drewN ((Below.refl _ _).alloc (Nat.le_refl _) _) _
                have hzq : W1.heap.size = wr.heap.size + 1 := by rw [← hW]; simp
                have y0 : W1.cell? ⟨wr.heap.size, 0, none⟩ = some (.int .i64 xa) := by rw [← hW]; simp [go_sem]
                have y1 : W1.cell? ⟨wr.heap.size, 1, none⟩ = some (.int .i64 xb) := by rw [← hW]; simp [go_sem]
                have y2 : W1.cell? ⟨wr.heap.size, 2, none⟩ = some (.int .i64 xc) := by rw [← hW]; simp [go_sem]
                have HBW := Lib.hid (HBW.out.trans (hbq.mono (by omega)))
                have g0 := (hbq.cell (p := ⟨w.heap.size, 0, none⟩) hzw).trans g0
                have g1 := (hbq.cell (p := ⟨w.heap.size, 1, none⟩) hzw).trans g1
                have g2 := (hbq.frozen (p := ⟨w.heap.size, 0, none⟩) hzw).trans g2
                have g3 := (hbq.frozen (p := ⟨w.heap.size, 1, none⟩) hzw).trans g3
                rw [hW]
                clear hW
                rw [rounds_succ]
                go_wp2
                go_quiet ((go_at_call 91; exact RS.quiet (HB1.out _)))
                go_wp2
                exact bodyPost_ret (v := .tuple #[.agg #[.int .i64 0, .slice none 0 0], .int .i64 2]) (by simp [results, Try.results27, go_sem, *]) rfl (by rw [HV.out]; exact ⟨_, rfl, .inl ⟨rfl, _, _, rfl⟩, by first | exact below_set2 (below_drewN HBW.out _) (by omega) _ _ | exact below_set2 (below_drewN (HBW.out.alloc (by omega) _) _) (by omega) _ _ | exact below_set2 (below_drewN (below_drewN (HBW.out.alloc (by omega) _) _) _) (by omega) _ _ | exact below_set2 (below_drewN (below_drewN (below_drewN (HBW.out.alloc (by omega) _) _) _) _) (by omega) _ _⟩)
              have q1 : (xb == xc) = false := by simpa using e1
              have d1 : decide (xb = xc) = false := by simpa using e1
              cases hc : inP v xc with
              | false =>
                have HV := HRET (by simp [badK, hc])
                have HC := Lib.hid fun W => in_val v xc false hc W
                clear HRET HTA ha hb hc HR
                go_wp2_with fail
                refine wp_loop_rounds 3 ?_
                rw [rounds_succ]
                go_wp2
                go_quiet ((go_at_call 91; exact RS.quiet (HA.out _)))
                go_wp2
                obtain ⟨W1, hW⟩ : ∃ W, (wr.alloc (.cells #[.int .i64 xa, .int .i64 xb, .int .i64 xc] 50)).drewN nq = W := ⟨_, rfl⟩
                have hbq : Below wr.heap.size wr W1 := by rw [← hW]; exact below_drewN ((Below.refl _ _).alloc (Nat.le_refl _) _) _
                have hzq : W1.heap.size = wr.heap.size + 1 := by rw [← hW]; simp
                have y0 : W1.cell? ⟨wr.heap.size, 0, none⟩ = some (.int .i64 xa) := by rw [← hW]; simp [go_sem]
                have y1 : W1.cell? ⟨wr.heap.size, 1, none⟩ = some (.int .i64 xb) := by rw [← hW]; simp [go_sem]
                have y2 : W1.cell? ⟨wr.heap.size, 2, none⟩ = some (.int .i64 xc) := by rw [← hW]; simp [go_sem]
                have HBW := Lib.hid (HBW.out.trans (hbq.mono (by omega)))
                have g0 := (hbq.cell (p := ⟨w.heap.size, 0, none⟩) hzw).trans g0
                have g1 := (hbq.cell (p := ⟨w.heap.size, 1, none⟩) hzw).trans g1
                have g2 := (hbq.frozen (p := ⟨w.heap.size, 0, none⟩) hzw).trans g2
                have g3 := (hbq.frozen (p := ⟨w.heap.size, 1, none⟩) hzw).trans g3
                rw [hW]
                clear hW
                rw [rounds_succ]
                go_wp2
                go_quiet ((go_at_call 91; exact RS.quiet (HB1.out _)))
                go_wp2
                obtain ⟨W2, hW⟩ : ∃ W, W1.drewN nq = W := ⟨_, rfl⟩
                have hbq : Below wr.heap.size wr W2 := by rw [← hW]; exact below_drewN hbq _
                have hzq : W2.heap.size = wr.heap.size + 1 := by rw [← hW]; exact hzq
                have y0 : W2.cell? ⟨wr.heap.size, 0, none⟩ = some (.int .i64 xa) := by rw [← hW]; exact y0
                have y1 : W2.cell? ⟨wr.heap.size, 1, none⟩ = some (.int .i64 xb) := by rw [← hW]; exact y1
                have y2 : W2.cell? ⟨wr.heap.size, 2, none⟩ = some (.int .i64 xc) := by rw [← hW]; exact y2
                have HBW : Hid (Below w.heap.size w W2) := Lib.hid (by rw [← hW]; exact below_drewN HBW.out _)
                have g0 : W2.cell? ⟨w.heap.size, 0, none⟩ = some (.int .i64 0) := by rw [← hW]; exact g0
                have g1 : W2.cell? ⟨w.heap.size, 1, none⟩ = some (.slice none 0 0) := by rw [← hW]; exact g1
                have g2 : W2.frozen? ⟨w.heap.size, 0, none⟩ = false := by rw [← hW]; exact g2
                have g3 : W2.frozen? ⟨w.heap.size, 1, none⟩ = false := by rw [← hW]; exact g3
                rw [hW]
                clear hW
                rw [rounds_succ]
                go_wp2
                go_quiet ((go_at_call 91; exact RS.quiet (HC.out _)))
                go_wp2
                exact bodyPost_ret (v := .tuple #[.agg #[.int .i64 0, .slice none 0 0], .int .i64 2]) (by simp [results, Try.results27, go_sem, *]) rfl (by rw [HV.out]; exact ⟨_, rfl, .inl ⟨rfl, _, _, rfl⟩, by first | exact below_set2 (below_drewN HBW.out _) (by omega) _ _ | exact below_set2 (below_drewN (HBW.out.alloc (by omega) _) _) (by omega) _ _ | exact below_set2 (below_drewN (below_drewN (HBW.out.alloc (by omega) _) _) _) (by omega) _ _ | exact below_set2 (below_drewN (below_drewN (below_drewN (HBW.out.alloc (by omega) _) _) _) _) (by omega) _ _⟩)
              | true =>
                have HC := Lib.hid fun W => in_val v xc true hc W
                by_cases e2 : xc = xa
                · have HV := HRET (by simp [badK, e2])
                  have q2 : (xc == xa) = true := by simpa using e2
                  have d2 : decide (xc = xa) = true := by simpa using e2
                  clear HRET HTA HR e2 ha hb hc
                  go_wp2_with fail
                  refine wp_loop_rounds 3 ?_
                  rw [rounds_succ]
                  go_wp2
                  go_quiet ((go_at_call 91; exact RS.quiet (HA.out _)))
                  go_wp2
                  obtain ⟨W1, hW⟩ : ∃ W, (wr.alloc (.cells #[.int .i64 xa, .int .i64 xb, .int .i64 xc] 50)).drewN nq = W := ⟨_, rfl⟩
                  have hbq : Below wr.heap.size wr W1 := by rw [← hW]; exact below_drewN ((Below.refl _ _).alloc (Nat.le_refl _) _) _
                  have hzq : W1.heap.size = wr.heap.size + 1 := by rw [← hW]; simp
                  have y0 : W1.cell? ⟨wr.heap.size, 0, none⟩ = some (.int .i64 xa) := by rw [← hW]; simp [go_sem]
                  have y1 : W1.cell? ⟨wr.heap.size, 1, none⟩ = some (.int .i64 xb) := by rw [← hW]; simp [go_sem]
                  have y2 : W1.cell? ⟨wr.heap.size, 2, none⟩ = some (.int .i64 xc) := by rw [← hW]; simp [go_sem]
                  have HBW := Lib.hid (HBW.out.trans (hbq.mono (by omega)))
                  have g0 := (hbq.cell (p := ⟨w.heap.size, 0, none⟩) hzw).trans g0
                  have g1 := (hbq.cell (p := ⟨w.heap.size, 1, none⟩) hzw).trans g1
                  have g2 := (hbq.frozen (p := ⟨w.heap.size, 0, none⟩) hzw).trans g2
                  have g3 := (hbq.frozen (p := ⟨w.heap.size, 1, none⟩) hzw).trans g3
                  rw [hW]
                  clear hW
                  rw [rounds_succ]
                  go_wp2
                  go_quiet ((go_at_call 91; exact RS.quiet (HB1.out _)))
                  go_wp2
                  obtain ⟨W2, hW⟩ : ∃ W, W1.drewN nq = W := ⟨_, rfl⟩
                  have hbq : Below wr.heap.size wr W2 := by rw [← hW]; exact below_drewN hbq _
                  have hzq : W2.heap.size = wr.heap.size + 1 := by rw [← hW]; exact hzq
                  have y0 : W2.cell? ⟨wr.heap.size, 0, none⟩ = some (.int .i64 xa) := by rw [← hW]; exact y0
                  have y1 : W2.cell? ⟨wr.heap.size, 1, none⟩ = some (.int .i64 xb) := by rw [← hW]; exact y1
                  have y2 : W2.cell? ⟨wr.heap.size, 2, none⟩ = some (.int .i64 xc) := by rw [← hW]; exact y2
                  have HBW : Hid (Below w.heap.size w W2) := Lib.hid (by rw [← hW]; exact below_drewN HBW.out _)
                  have g0 : W2.cell? ⟨w.heap.size, 0, none⟩ = some (.int .i64 0) := by rw [← hW]; exact g0
                  have g1 : W2.cell? ⟨w.heap.size, 1, none⟩ = some (.slice none 0 0) := by rw [← hW]; exact g1
                  have g2 : W2.frozen? ⟨w.heap.size, 0, none⟩ = false := by rw [← hW]; exact g2
                  have g3 : W2.frozen? ⟨w.heap.size, 1, none⟩ = false := by rw [← hW]; exact g3
                  rw [hW]
                  clear hW
                  rw [rounds_succ]
                  go_wp2
                  go_quiet ((go_at_call 91; exact RS.quiet (HC.out _)))
                  go_wp2
                  exact bodyPost_ret (v := .tuple #[.agg #[.int .i64 0, .slice none 0 0], .int .i64 2]) (by simp [results, Try.results27, go_sem, *]) rfl (by rw [HV.out]; exact ⟨_, rfl, .inl ⟨rfl, _, _, rfl⟩, by first | exact below_set2 (below_drewN HBW.out _) (by omega) _ _ | exact below_set2 (below_drewN (HBW.out.alloc (by omega) _) _) (by omega) _ _ | exact below_set2 (below_drewN (below_drewN (HBW.out.alloc (by omega) _) _) _) (by omega) _ _ | exact below_set2 (below_drewN (below_drewN (below_drewN (HBW.out.alloc (by omega) _) _) _) _) (by omega) _ _⟩)
                have q2 : (xc == xa) = false := by simpa using e2
                have d2 : decide (xc = xa) = false := by simpa using e2
                have hbad : (!(badK v xa xb || badK v xb xc || badK v xc xa)) = true := by simp [badK, ha, hb, hc, e0, e1, e2]
                rw [hbad] at HTA
                have HBF := Lib.hid fun W => l01Block_any xa xb xc W (by have := inP_iff.1 ha; omega) (by have := inP_iff.1 ha; omega) (by have := inP_iff.1 hb; omega) (by have := inP_iff.1 hb; omega) (by have := inP_iff.1 hc; omega) (by have := inP_iff.1 hc; omega)
                rw [← HR.out] at HBF
                clear HRET hbad ha hb hc e0 e1 e2 HR
                obtain ⟨ra, rb, rc⟩ := r
                unfold bv at HBF
                dsimp only at HBF
                go_wp2_with fail
                refine wp_loop_rounds 4 ?_
                rw [rounds_succ]
                go_wp2
                go_quiet ((go_at_call 91; exact RS.quiet (HA.out _)))
                go_wp2
                obtain ⟨W1, hW⟩ : ∃ W, (wr.alloc (.cells #[.int .i64 xa, .int .i64 xb, .int .i64 xc] 50)).drewN nq = W := ⟨_, rfl⟩
                have hbq : Below wr.heap.size wr W1 := by rw [← hW]; exact below_drewN ((Below.refl _ _).alloc (Nat.le_refl _) _) _
                have hzq : W1.heap.size = wr.heap.size + 1 := by rw [← hW]; simp
                have y0 : W1.cell? ⟨wr.heap.size, 0, none⟩ = some (.int .i64 xa) := by rw [← hW]; simp [go_sem]
                have y1 : W1.cell? ⟨wr.heap.size, 1, none⟩ = some (.int .i64 xb) := by rw [← hW]; simp [go_sem]
                have y2 : W1.cell? ⟨wr.heap.size, 2, none⟩ = some (.int .i64 xc) := by rw [← hW]; simp [go_sem]
                have HBW := Lib.hid (HBW.out.trans (hbq.mono (by omega)))
                have g0 := (hbq.cell (p := ⟨w.heap.size, 0, none⟩) hzw).trans g0
                have g1 := (hbq.cell (p := ⟨w.heap.size, 1, none⟩) hzw).trans g1
                have g2 := (hbq.frozen (p := ⟨w.heap.size, 0, none⟩) hzw).trans g2
                have g3 := (hbq.frozen (p := ⟨w.heap.size, 1, none⟩) hzw).trans g3
                rw [hW]
                clear hW
                rw [rounds_succ]
                go_wp2
                go_quiet ((go_at_call 91; exact RS.quiet (HB1.out _)))
                go_wp2
                obtain ⟨W2, hW⟩ : ∃ W, W1.drewN nq = W := ⟨_, rfl⟩
                have hbq : Below wr.heap.size wr W2 := by rw [← hW]; exact below_drewN hbq _
                have hzq : W2.heap.size = wr.heap.size + 1 := by rw [← hW]; exact hzq
                have y0 : W2.cell? ⟨wr.heap.size, 0, none⟩ = some (.int .i64 xa) := by rw [← hW]; exact y0
                have y1 : W2.cell? ⟨wr.heap.size, 1, none⟩ = some (.int .i64 xb) := by rw [← hW]; exact y1
                have y2 : W2.cell? ⟨wr.heap.size, 2, none⟩ = some (.int .i64 xc) := by rw [← hW]; exact y2
                have HBW : Hid (Below w.heap.size w W2) := Lib.hid (by rw [← hW]; exact below_drewN HBW.out _)
                have g0 : W2.cell? ⟨w.heap.size, 0, none⟩ = some (.int .i64 0) := by rw [← hW]; exact g0
                have g1 : W2.cell? ⟨w.heap.size, 1, none⟩ = some (.slice none 0 0) := by rw [← hW]; exact g1
                have g2 : W2.frozen? ⟨w.heap.size, 0, none⟩ = false := by rw [← hW]; exact g2
                have g3 : W2.frozen? ⟨w.heap.size, 1, none⟩ = false := by rw [← hW]; exact g3
                rw [hW]
                clear hW
                rw [rounds_succ]
                go_wp2
                go_quiet ((go_at_call 91; exact RS.quiet (HC.out _)))
                go_wp2
                obtain ⟨W3, hW⟩ : ∃ W, W2.drewN nq = W := ⟨_, rfl⟩
                have hbq : Below wr.heap.size wr W3 := by rw [← hW]; exact below_drewN hbq _
                have hzq : W3.heap.size = wr.heap.size + 1 := by rw [← hW]; exact hzq
                have y0 : W3.cell? ⟨wr.heap.size, 0, none⟩ = some (.int .i64 xa) := by rw [← hW]; exact y0
                have y1 : W3.cell? ⟨wr.heap.size, 1, none⟩ = some (.int .i64 xb) := by rw [← hW]; exact y1
                have y2 : W3.cell? ⟨wr.heap.size, 2, none⟩ = some (.int .i64 xc) := by rw [← hW]; exact y2
                have HBW : Hid (Below w.heap.size w W3) := Lib.hid (by rw [← hW]; exact below_drewN HBW.out _)
                have g0 : W3.cell? ⟨w.heap.size, 0, none⟩ = some (.int .i64 0) := by rw [← hW]; exact g0
                have g1 : W3.cell? ⟨w.heap.size, 1, none⟩ = some (.slice none 0 0) := by rw [← hW]; exact g1
                have g2 : W3.frozen? ⟨w.heap.size, 0, none⟩ = false := by rw [← hW]; exact g2
                have g3 : W3.frozen? ⟨w.heap.size, 1, none⟩ = false := by rw [← hW]; exact g3
                rw [hW]
                clear hW
                rw [rounds_succ]
                go_wp2_with fail
                refine (HBF.out _).mono ?_
                rintro e w5 ⟨rfl, hb5⟩
                have hB5 : Below wr.heap.size wr w5 := hbq.trans (hb5.mono (by omega))
                have hz5 := hB5.size
                have HO6 := Lib.hid (HO5.out.below hB5 (Nat.le_refl _))
                clear hb5
                go_wp2_with (at_builtin; refine wpList_append_blk rfl _ _ rfl w2.heap.size _ L rfl (HO6.out.below ((Below.refl _ _).alloc (Nat.le_refl _) _) (Nat.le_refl _)) _ _ ⟨ra, rb, rc⟩ rfl (by simp [go_sem]) (by simp [go_sem]) (by simp [go_sem]) (by omega) (by simp; omega) ?_; intro g' cap' w7 hO7 hg7)
                have hrow := HO6.out.row
                have hgo : w5.grownBy w7 (Value.slice a5 n5 c5).ownBlock := gb_trans (World.grownBy_alloc _ _ none) hg7
                have hB7 := (hB.trans (hB5.mono hz)).grown hgo (by omega) (fun j e => hrow j e)
                go_roundw
                case rel => exact ⟨k + 1, by omega, by go_num, hB7, by rw [HSU.out]; exact hO7, Lib.hid (by rw [HTA.out, HALL.out]; rfl), _, _, _, rfl⟩
                case measure => simp [intOf]; omega
        · have e : k = bs.length := by omega
          subst e
          rw [List.take_length] at HO5 HALL
          have hgood : ∀ x ∈ bs.map b3, goodB v x = true := by
            intro x hx
            obtain ⟨y, hy, rfl⟩ := List.mem_map.1 hx
            exact List.all_eq_true.1 HALL.out y hy
          obtain ⟨L, hL⟩ : ∃ L, L = bs.map b3 := ⟨_, rfl⟩
          have hLl : L.length ≤ 1100000 := by rw [hL, List.length_map]; omega
          have HLB := Lib.hid (show L.length ≤ 35 by rw [hL, List.length_map]; exact hl)
          rw [← hL] at HO5 hgood
          have hwf : ∀ x ∈ L, WFB x := fun x hx => by
            have := goodB_iff.1 (hgood x hx)
            exact ⟨wf_pl (by omega) (by omega), wf_pl (by omega) (by omega), wf_pl (by omega) (by omega)⟩
          have hres5 := HO5.out.res
          have hfs := fits_share L [] hgood (by simp)
          rw [List.flatMap_nil] at hfs
          have hSH0 := l01Fits_any (.slice a5 n5 c5) L wr (hres5.sb hwf hLl)
          rw [hfs] at hSH0
          have HSH := Lib.hid hSH0
          have hcond : (decide (3 ≤ v) && decide (v ≤ 15) && decide (bs.length ≤ 35) && bs.all (fun x => goodB v (b3 x))) = true := by
            have := HALL.out
            unfold okS at this
            rw [this, HVZ.out]
            simpa using hl
          have HVAL := Lib.hid (show sysOfF v bs = if shareGo [] L then (0, [], 5) else (v, sortB L, 0) by unfold sysOfF; rw [if_pos hcond, hL])
          obtain ⟨e0, e1, k0, k1⟩ := HE.out
          have f0 := (hB.cell (p := ⟨w.heap.size, 0, none⟩) hlt2).trans e0
          have f1 := (hB.cell (p := ⟨w.heap.size, 1, none⟩) hlt2).trans e1
          have f2 := (hB.frozen (p := ⟨w.heap.size, 0, none⟩) hlt2).trans k0
          have f3 := (hB.frozen (p := ⟨w.heap.size, 1, none⟩) hlt2).trans k1
          have GG := Lib.hid (And.intro f0 (And.intro f1 (And.intro f2 f3)))
          clear e0 e1 k0 k1 hL hgood hwf hres5 hcond f0 f1 f2 f3 hfs hSH0
          cases hsh : shareGo [] L with
          | true =>
            rw [hsh] at HSH
            simp only [Bool.not_true] at HSH
            have HV5 := Lib.hid (show sysOfF v bs = (0, [], 5) by rw [HVAL.out, hsh]; rfl)
            clear hsh HVAL
            go_wp2_with fail
            refine HSH.out.mono ?_
            rintro e w3 ⟨rfl, hb3⟩
            obtain ⟨e0, e1, k0, k1⟩ := GG.out
            have g0 := (hb3.cell (p := ⟨w.heap.size, 0, none⟩) (by show w.heap.size < _; omega)).trans e0
            have g1 := (hb3.cell (p := ⟨w.heap.size, 1, none⟩) (by show w.heap.size < _; omega)).trans e1
            have g2 := (hb3.frozen (p := ⟨w.heap.size, 0, none⟩) (by show w.heap.size < _; omega)).trans k0
            have g3 := (hb3.frozen (p := ⟨w.heap.size, 1, none⟩) (by show w.heap.size < _; omega)).trans k1
            have hB7 := hbw2.trans ((hB.mono (by omega)).trans (hb3.mono (by omega)))
            clear e0 e1 k0 k1 hb3
            go_wp2
            exact bodyPost_ret (v := .tuple #[.agg #[.int .i64 0, .slice none 0 0], .int .i64 5]) (by simp [results, Try.results27, go_sem, *]) rfl (by rw [HV5.out]; exact ⟨_, rfl, .inl ⟨rfl, _, _, rfl⟩, below_set2 hB7 (by omega) _ _⟩)
          | false =>
            rw [hsh] at HSH
            simp only [Bool.not_false] at HSH
            have HV5 := Lib.hid (show sysOfF v bs = (v, sortB L, 0) by rw [HVAL.out, hsh]; rfl)
            clear hsh HVAL
            have hrow := HO5.out.row
            go_wp2_with fail
            refine HSH.out.mono ?_
            rintro e w3 ⟨rfl, hb3⟩
            have hz3 := hb3.size
            obtain ⟨e0, e1, k0, k1⟩ := GG.out
            have g0 := (hb3.cell (p := ⟨w.heap.size, 0, none⟩) (by show w.heap.size < _; omega)).trans e0
            have g1 := (hb3.cell (p := ⟨w.heap.size, 1, none⟩) (by show w.heap.size < _; omega)).trans e1
            have g2 := (hb3.frozen (p := ⟨w.heap.size, 0, none⟩) (by show w.heap.size < _; omega)).trans k0
            have g3 := (hb3.frozen (p := ⟨w.heap.size, 1, none⟩) (by show w.heap.size < _; omega)).trans k1
            have hLl2 : L.length ≤ 100000 := by have := HLB.out; omega
            have HSF := Lib.hid (l01Made_any v (.slice a5 n5 c5) L w3 (HO5.out.below hb3 (Nat.le_refl _)).sx hLl2)
            have hB3 := hB.trans (hb3.mono hz)
            clear e0 e1 k0 k1 hb3
            go_wp2_with fail
            refine HSF.out.mono ?_
            rintro e w4 ⟨u, rfl, hres, hb4⟩
            obtain ⟨a9, c9, hu⟩ := hres.slice
            obtain ⟨n9, hn9⟩ : ∃ n, n = (sortB L).length := ⟨_, rfl⟩
            rw [← hn9] at hu
            subst hu
            have y0 := (hb4.cell (p := ⟨w.heap.size, 0, none⟩) (by show w.heap.size < _; omega)).trans g0
            have y1 := (hb4.cell (p := ⟨w.heap.size, 1, none⟩) (by show w.heap.size < _; omega)).trans g1
            have y2 := (hb4.frozen (p := ⟨w.heap.size, 0, none⟩) (by show w.heap.size < _; omega)).trans g2
            have y3 := (hb4.frozen (p := ⟨w.heap.size, 1, none⟩) (by show w.heap.size < _; omega)).trans g3
            have hz9 := hb4.size
            have hB9 : Below w.heap.size w w4 := (hbw2.trans (hB3.mono (by omega))).trans (hb4.mono (by omega))
            clear g0 g1 g2 g3 hb4 hn9
            go_wp2
            have hfin := (hres.kept (gb_set2 w4 w.heap.size (.int .i64 v) (.slice a9 n9 c9)) (fun r e => by cases e; exact .inl (by omega))).wide (lo' := w.heap.size) (by omega) (gb_set2 w4 w.heap.size (.int .i64 v) (.slice a9 n9 c9)).size
            exact bodyPost_ret (v := .tuple #[.agg #[.int .i64 v, .slice a9 n9 c9], .int .i64 0]) (by simp [results, Try.results27, go_sem, *]) rfl (by rw [HV5.out]; exact ⟨_, rfl, hfin, below_set2 hB9 (by omega) _ _⟩)
    · have hval : sysOfF v bs = (0, [], 2) := by
        unfold sysOfF
        rw [show decide (bs.length ≤ 35) = false by simpa using hl]
        simp
      rw [hval]
      have hd35 : decide (35 < bs.length) = true := by simp; omega
      have hd35' : decide ((35 : Int) < (bs.length : Int)) = true := by simp; omega
      have hl' : 35 < bs.length := by omega
      clear hval hl HSB hz
      go_enter Try.func27, Try.ntmps27
      go_wp2_with (go_at_call 91; refine (HZ.out _).mono ?_; rintro e w1 ⟨rfl, rfl⟩)
      exact bodyPost_ret (v := .tuple #[.agg #[.int .i64 0, .slice none 0 0], .int .i64 2]) (by simp [results, Try.results27, go_sem, *]) rfl ⟨_, rfl, .inl ⟨rfl, _, _, rfl⟩, by first | exact below_set2 ((Below.refl _ _).alloc (Nat.le_refl _) _) (by simp) _ _ | exact (Below.refl _ _).alloc (Nat.le_refl _) _⟩
  · have hz' : (decide (3 ≤ v) && decide (v ≤ 15)) = false := by simpa using hz
    have hval : sysOfF v bs = (0, [], 2) := by
      unfold sysOfF
      rw [hz']
      simp
    rw [hval]
    rw [hz'] at HZ
    clear hval hz hz' HSB
    go_enter Try.func27, Try.ntmps27
    go_wp2_with (go_at_call 91; refine (HZ.out _).mono ?_; rintro e w1 ⟨rfl, rfl⟩)
    exact bodyPost_ret (v := .tuple #[.agg #[.int .i64 0, .slice none 0 0], .int .i64 2]) (by simp [results, Try.results27, go_sem, *]) rfl ⟨_, rfl, .inl ⟨rfl, _, _, rfl⟩, by first | exact below_set2 ((Below.refl _ _).alloc (Nat.le_refl _) _) (by simp) _ _ | exact (Below.refl _ _).alloc (Nat.le_refl _) _⟩
theorem sysOfF_len (v : Int) (bs : List Blk) : (sysOfF v bs).2.1.length ≤ bs.length := by
  unfold sysOfF
  split
  · split
    · simp
    · simp only [sortB_length, List.length_map]; exact Nat.le_refl _
  · simp
theorem sysOfF_wf (v : Int) (bs : List Blk) : ∀ x ∈ (sysOfF v bs).2.1, WFB x := by
  unfold sysOfF
  split
  · rename_i hc
    split
    · simp
    · intro x hx
      have hx : x ∈ sortB (bs.map b3) := hx
      rw [sortB_mem] at hx
      obtain ⟨y, hy, rfl⟩ := List.mem_map.1 hx
      simp only [Bool.and_eq_true, decide_eq_true_eq] at hc
      have h := goodB_iff.1 (List.all_eq_true.1 hc.2 y hy)
      exact ⟨wf_pl (by omega) (by omega), wf_pl (by omega) (by omega), wf_pl (by omega) (by omega)⟩
  · simp
end Go.Proofs.Ytikegdidffjoeaa

namespace Go.Proofs.Ytikegdidffjoeaa
open Go.RowKit Go.Maps
/-- The two boxes of the arguments; what was there before the call is as it was. -/
structure St2 (w : World) (v u : Int) (s t : Value) (W : World) : Prop where
  below : Below w.heap.size w W
  big : w.heap.size + 1 < W.heap.size
  x0 : W.cell? ⟨w.heap.size, 0, none⟩ = some (.int .i64 v)
  x1 : W.cell? ⟨w.heap.size, 1, none⟩ = some s
  y0 : W.cell? ⟨w.heap.size + 1, 0, none⟩ = some (.int .i64 u)
  y1 : W.cell? ⟨w.heap.size + 1, 1, none⟩ = some t
theorem St2.step {w : World} {v u : Int} {s t : Value} {W W' : World} {row : Option Nat} (h : St2 w v u s t W) (hg : W.grownBy W' row) (hr : ∀ r, row = some r → w.heap.size + 1 < r) : St2 w v u s t W' :=
  ⟨h.below.grown hg h.below.size (fun r e => by have := hr r e; omega), Nat.lt_of_lt_of_le h.big hg.size,
    hg.cell h.x0 (fun e => by have := hr _ e.symm; simp at this; omega), hg.cell h.x1 (fun e => by have := hr _ e.symm; simp at this; omega),
    hg.cell h.y0 (fun e => by have := hr _ e.symm; simp at this), hg.cell h.y1 (fun e => by have := hr _ e.symm; simp at this)⟩
theorem St2.start (w : World) (v u : Int) (s t : Value) : St2 w v u s t ((w.alloc (.cells #[.int .i64 v, s] 36)).alloc (.cells #[.int .i64 u, t] 36)) :=
  ⟨((Below.refl _ _).alloc (Nat.le_refl _) _).alloc (by simp) _, by simp, by simp [go_sem], by simp [go_sem], by simp [go_sem], by simp [go_sem]⟩
/-- A variable that holds a system. -/
structure VarB (W : World) (X : Nat) (v : Int) (s : Value) : Prop where
  lt : X < W.heap.size
  c0 : W.cell? ⟨X, 0, none⟩ = some (.int .i64 v)
  c1 : W.cell? ⟨X, 1, none⟩ = some s
theorem VarB.step {W W' : World} {X : Nat} {v : Int} {s : Value} {row : Option Nat} (h : VarB W X v s) (hg : W.grownBy W' row) (hr : row ≠ some X) : VarB W' X v s :=
  ⟨Nat.lt_of_lt_of_le h.lt hg.size, hg.cell h.c0 (fun e => hr e.symm), hg.cell h.c1 (fun e => hr e.symm)⟩
theorem VarB.new (W : World) (v : Int) (s : Value) (T : TypeId) : VarB (W.alloc (.cells #[.int .i64 v, s] T)) W.heap.size v s := ⟨by simp, by simp, by simp⟩

/-- The state of a law whose results are lists of blocks: the model's result (from i0 on, before i1), the two copies and their variables, the program's result. -/
structure CB (w : World) (v u : Int) (s t sW s8 s9 sG : Value) (X Y i0 i1 i2 i3 i4 i5 i6 : Nat) (LW L8 L9 LG : List Blk) (W : World) : Prop where
  st : St2 w v u s t W
  o0 : w.heap.size + 1 < i0
  o1 : i0 ≤ i1
  o2 : i1 ≤ i2
  oX : i2 ≤ X
  oX' : X < i3
  o4 : i3 ≤ i4
  oY : i4 ≤ Y
  oY' : Y < i5
  o6 : i5 ≤ i6
  rW : ResR W i0 i1 sW LW
  r8 : ResR W i1 i2 s8 L8
  vX : VarB W X v s8
  r9 : ResR W i3 i4 s9 L9
  vY : VarB W Y u s9
  rG : ResR W i5 i6 sG LG
section
variable {w : World} {v u : Int} {s t sW s8 s9 sG : Value} {X Y i0 i1 i2 i3 i4 i5 i6 : Nat} {LW L8 L9 LG : List Blk} {W W' : World}
theorem CB.step (h : CB w v u s t sW s8 s9 sG X Y i0 i1 i2 i3 i4 i5 i6 LW L8 L9 LG W) (hg : W.grownBy W' none) : CB w v u s t sW s8 s9 sG X Y i0 i1 i2 i3 i4 i5 i6 LW L8 L9 LG W' :=
  ⟨h.st.step hg (by simp), h.o0, h.o1, h.o2, h.oX, h.oX', h.o4, h.oY, h.oY', h.o6, h.rW.kept hg (by simp), h.r8.kept hg (by simp), h.vX.step hg (by simp), h.r9.kept hg (by simp), h.vY.step hg (by simp), h.rG.kept hg (by simp)⟩
theorem CB.mark8 (h : CB w v u s t sW s8 s9 sG X Y i0 i1 i2 i3 i4 i5 i6 LW L8 L9 LG W) {row : Option Nat} (hg : W.grownBy W' row) (hr : ∀ r, row = some r → i1 ≤ r ∧ r < i2) {L : List Blk} (hn : ResR W' i1 i2 s8 L) :
    CB w v u s t sW s8 s9 sG X Y i0 i1 i2 i3 i4 i5 i6 LW L L9 LG W' := by
  obtain ⟨st, o0, o1, o2, oX, oX', o4, oY, oY', o6, rW, r8, vX, r9, vY, rG⟩ := h
  exact ⟨st.step hg (fun r e => by have := hr r e; omega), o0, o1, o2, oX, oX', o4, oY, oY', o6, rW.kept hg (fun r e => by have := hr r e; omega), hn, vX.step hg (fun e => by have := hr _ e; omega), r9.kept hg (fun r e => by have := hr r e; omega), vY.step hg (fun e => by have := hr _ e; omega), rG.kept hg (fun r e => by have := hr r e; omega)⟩
theorem CB.mark9 (h : CB w v u s t sW s8 s9 sG X Y i0 i1 i2 i3 i4 i5 i6 LW L8 L9 LG W) {row : Option Nat} (hg : W.grownBy W' row) (hr : ∀ r, row = some r → i3 ≤ r ∧ r < i4) {L : List Blk} (hn : ResR W' i3 i4 s9 L) :
    CB w v u s t sW s8 s9 sG X Y i0 i1 i2 i3 i4 i5 i6 LW L8 L LG W' := by
  obtain ⟨st, o0, o1, o2, oX, oX', o4, oY, oY', o6, rW, r8, vX, r9, vY, rG⟩ := h
  exact ⟨st.step hg (fun r e => by have := hr r e; omega), o0, o1, o2, oX, oX', o4, oY, oY', o6, rW.kept hg (fun r e => by have := hr r e; omega), r8.kept hg (fun r e => by have := hr r e; omega), vX.step hg (fun e => by have := hr _ e; omega), hn, vY.step hg (fun e => by have := hr _ e; omega), rG.kept hg (fun r e => by have := hr r e; omega)⟩
theorem CB.markG (h : CB w v u s t sW s8 s9 sG X Y i0 i1 i2 i3 i4 i5 i6 LW L8 L9 LG W) {row : Option Nat} (hg : W.grownBy W' row) (hr : ∀ r, row = some r → i5 ≤ r ∧ r < i6) {L : List Blk} (hn : ResR W' i5 i6 sG L) :
    CB w v u s t sW s8 s9 sG X Y i0 i1 i2 i3 i4 i5 i6 LW L8 L9 L W' := by
  obtain ⟨st, o0, o1, o2, oX, oX', o4, oY, oY', o6, rW, r8, vX, r9, vY, rG⟩ := h
  exact ⟨st.step hg (fun r e => by have := hr r e; omega), o0, o1, o2, oX, oX', o4, oY, oY', o6, rW.kept hg (fun r e => by have := hr r e; omega), r8.kept hg (fun r e => by have := hr r e; omega), vX.step hg (fun e => by have := hr _ e; omega), r9.kept hg (fun r e => by have := hr r e; omega), vY.step hg (fun e => by have := hr _ e; omega), hn⟩
end
end Go.Proofs.Ytikegdidffjoeaa

namespace Go.Proofs.Ytikegdidffjoeaa
open Go.RowKit Go.Maps
theorem ResI.slice {w : World} {lo hi : Nat} {s : Value} {zs : List Int} (h : ResI w lo hi s zs) : ∃ a c, s = .slice a zs.length c := by
  rcases h with ⟨rfl, a, c, rfl⟩ | ⟨g, cap, rfl, _⟩ <;> exact ⟨_, _, rfl⟩
theorem ResI.wide {w : World} {lo hi lo' hi' : Nat} {s : Value} {zs : List Int} (h : ResI w lo hi s zs) (h1 : lo' ≤ lo) (h2 : hi ≤ hi') : ResI w lo' hi' s zs := by
  rcases h with h | ⟨g, cap, rfl, h3, h4, ho⟩
  · exact .inl h
  · exact .inr ⟨g, cap, rfl, by omega, by omega, ho⟩
structure St1 (w : World) (v : Int) (s : Value) (W : World) : Prop where
  below : Below w.heap.size w W
  big : w.heap.size < W.heap.size
  x0 : W.cell? ⟨w.heap.size, 0, none⟩ = some (.int .i64 v)
  x1 : W.cell? ⟨w.heap.size, 1, none⟩ = some s
theorem St1.step {w : World} {v : Int} {s : Value} {W W' : World} {row : Option Nat} (h : St1 w v s W) (hg : W.grownBy W' row) (hr : ∀ r, row = some r → w.heap.size < r) : St1 w v s W' :=
  ⟨h.below.grown hg h.below.size (fun r e => by have := hr r e; omega), Nat.lt_of_lt_of_le h.big hg.size,
    hg.cell h.x0 (fun e => by have := hr _ e.symm; simp at this), hg.cell h.x1 (fun e => by have := hr _ e.symm; simp at this)⟩
theorem St1.start (w : World) (v : Int) (s : Value) : St1 w v s (w.alloc (.cells #[.int .i64 v, s] 36)) :=
  ⟨(Below.refl _ _).alloc (Nat.le_refl _) _, by simp, by simp [go_sem], by simp [go_sem]⟩
structure CI (w : World) (v : Int) (s sW s8 sG : Value) (X i0 i1 i2 i5 i6 : Nat) (LW : List Int) (L8 : List Blk) (LG : List Int) (W : World) : Prop where
  st : St1 w v s W
  o0 : w.heap.size < i0
  o1 : i0 ≤ i1
  o2 : i1 ≤ i2
  oX : i2 ≤ X
  oX' : X < i5
  o6 : i5 ≤ i6
  rW : ResI W i0 i1 sW LW
  r8 : ResR W i1 i2 s8 L8
  vX : VarB W X v s8
  rG : ResI W i5 i6 sG LG
section
variable {w : World} {v : Int} {s sW s8 sG : Value} {X i0 i1 i2 i5 i6 : Nat} {LW LG : List Int} {L8 : List Blk} {W W' : World}
theorem CI.step (h : CI w v s sW s8 sG X i0 i1 i2 i5 i6 LW L8 LG W) (hg : W.grownBy W' none) : CI w v s sW s8 sG X i0 i1 i2 i5 i6 LW L8 LG W' :=
  ⟨h.st.step hg (by simp), h.o0, h.o1, h.o2, h.oX, h.oX', h.o6, h.rW.kept hg (by simp), h.r8.kept hg (by simp), h.vX.step hg (by simp), h.rG.kept hg (by simp)⟩
theorem CI.mark8 (h : CI w v s sW s8 sG X i0 i1 i2 i5 i6 LW L8 LG W) {row : Option Nat} (hg : W.grownBy W' row) (hr : ∀ r, row = some r → i1 ≤ r ∧ r < i2) {L : List Blk} (hn : ResR W' i1 i2 s8 L) :
    CI w v s sW s8 sG X i0 i1 i2 i5 i6 LW L LG W' := by
  obtain ⟨st, o0, o1, o2, oX, oX', o6, rW, r8, vX, rG⟩ := h
  exact ⟨st.step hg (fun r e => by have := hr r e; omega), o0, o1, o2, oX, oX', o6, rW.kept hg (fun r e => by have := hr r e; omega), hn, vX.step hg (fun e => by have := hr _ e; omega), rG.kept hg (fun r e => by have := hr r e; omega)⟩
theorem CI.markG (h : CI w v s sW s8 sG X i0 i1 i2 i5 i6 LW L8 LG W) {row : Option Nat} (hg : W.grownBy W' row) (hr : ∀ r, row = some r → i5 ≤ r ∧ r < i6) {L : List Int} (hn : ResI W' i5 i6 sG L) :
    CI w v s sW s8 sG X i0 i1 i2 i5 i6 LW L8 L W' := by
  obtain ⟨st, o0, o1, o2, oX, oX', o6, rW, r8, vX, rG⟩ := h
  exact ⟨st.step hg (fun r e => by have := hr r e; omega), o0, o1, o2, oX, oX', o6, rW.kept hg (fun r e => by have := hr r e; omega), r8.kept hg (fun r e => by have := hr r e; omega), vX.step hg (fun e => by have := hr _ e; omega), hn⟩
end
theorem gb_drew1 (w : World) : w.grownBy w.drew none := ⟨rfl, rfl, rfl, Nat.le_refl _, fun _ _ _ => rfl⟩
theorem gb_alloc1 (w : World) (o : Obj) : w.grownBy (w.alloc o) none := World.grownBy_alloc w o none
end Go.Proofs.Ytikegdidffjoeaa

namespace Go.Proofs.Ytikegdidffjoeaa
open Go.RowKit Go.Maps
theorem mkRow (n : Nat) (hn : n ≤ 1100000) (W : World) : (Instr.makeSlice 42 (.int .i64 (n : Int)) (.int .i64 (n : Int))).run Try.prog W = .ok (.slice (some ⟨W.heap.size, 0, none⟩) n n) (W.alloc (.cells (madeCells #[.int .i64 0] n) 2)) := by
  obtain ⟨i0, hi, hz0, hz1, hz2⟩ := info_parts infoInt64
  have hr := run_make (P := Try.prog) W 42 2 i0 (.int .i64 0) Try.underlying42 hi hz0 .i64 .i64 n n (by omega) (by omega) (by rw [hz2]; omega) (by omega)
  simp only [Int.toNat_natCast, hz1, Nat.mul_one] at hr
  exact hr
end Go.Proofs.Ytikegdidffjoeaa

namespace Go.Proofs.Ytikegdidffjoeaa
open Go.RowKit Go.Maps
theorem AccS.new0 (W : World) (gs caps : Nat → Nat) (F : Nat → List Int) {base : Nat} (hb : base ≤ W.heap.size) : AccS (W.alloc (.cells #[] 42)) base (.slice (some ⟨W.heap.size, 0, none⟩) 0 0) 0 gs caps F :=
  ⟨⟨rfl, .inr ⟨W.heap.size, 0, #[], rfl, hb, World.alloc_heap_new W _, Nat.le_refl _, Nat.zero_le _, rfl, rfl⟩⟩, fun k hk => by omega, fun k hk => by omega, fun j k _ hk => by omega, fun k hk => by omega⟩
theorem l01In_val (n : Int) (β : Bool) (hβ : (decide ((2 : Int) ≤ n) && decide (n ≤ 5)) = β) (W : World) : Calls Try.prog 91 #[.int .i64 n, .int .i64 2, .int .i64 5] W (RS (.bool β) W) := by
  have h := l01In_any n 2 5 W
  rw [hβ] at h
  exact h
end Go.Proofs.Ytikegdidffjoeaa

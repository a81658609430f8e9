
/- The model's l03Pasch, walked. The model's PaschList and CountPasch. How the laws' arguments are read. How the laws' other arguments are read: slices of integers, slices of blocks, a block, rows. What a law over one system whose result is a system knows of the memory between two of its steps. The law FnExactPaschList returns true. The dump's head word by word, cheaply: what every row asks of it. -/
import Derived.Test.YtiomdfhhejdoiaaJ13
import Derived.Deep.RegionHeld3
import Derived.Deep.Cut
import Derived.Test.YtiomdfhhejdoiaaRows
import Derived.ProofKit
import Derived.OpenShut
import Derived.Deep.Slices
import Derived.Lib.SmallJoins
import Derived.ChangeOld
import Derived.Deep.RegionWith
import Derived.Deep.DeepCutAuto
namespace Go.Proofs.Ytiomdfhhejdoiaa
open Go.RowKit Go.Maps Go.Shelf
set_option maxRecDepth 100000 in
set_option maxHeartbeats 8000000 in
theorem l03Pasch_any (v : Int) (s : Value) (bs : List Blk) (w : World) (h : SB w s bs) (hi : isSysImpl v bs = true) :
    Calls Try.prog 72 #[.agg #[.int .i64 v, s]] w fun e w' => ∃ u Rs, e = .returned u ∧ RowsM w' w.heap.size u Rs ∧ rowsP Rs = pasL bs ∧ Below w.heap.size w w' := by
  have HU := Lib.hid (sysU hi)
  obtain ⟨hv3, hv15, hb35⟩ := sys_size hi
  have HGD := Lib.hid (sys_good hi)
  have HS := Lib.hid h
  have HT := Lib.hid fun (a b : Int) W (hb : Below w.heap.size w W) h1 h2 h3 h4 => l01Third_any v s bs a b W (h.below hb (Nat.le_refl _)) HGD.out hv15 h1 h2 h3 h4
  have HNB := Lib.hid fun (a b : Int) W (hb : Below w.heap.size w W) => l03Number_any v s bs a b W (h.below hb (Nat.le_refl _))
  obtain ⟨n, hn⟩ : ∃ n, n = bs.length := ⟨_, rfl⟩
  have HN := Lib.hid hn
  obtain ⟨a0, c0, hs⟩ := h.slice
  rw [← hn] at hs hb35
  subst hs
  have HSAME := Lib.hid (pas_same HU.out)
  clear h hi hn
  go_enter Try.func72, Try.ntmps72
  go_wp2_with fail
  have hb0 : Below w.heap.size w (w.alloc (.cells #[.int .i64 v, .slice a0 n c0] 31)) := (Below.refl _ _).alloc (Nat.le_refl _) _
  have x0 : (w.alloc (.cells #[.int .i64 v, .slice a0 n c0] 31)).cell? ⟨w.heap.size, 0, none⟩ = some (.int .i64 v) := new_at 0 rfl
  have x1 : (w.alloc (.cells #[.int .i64 v, .slice a0 n c0] 31)).cell? ⟨w.heap.size, 1, none⟩ = some (.slice a0 n c0) := new_at 1 rfl
  have hz1 : (w.alloc (.cells #[.int .i64 v, .slice a0 n c0] 31)).heap.size = w.heap.size + 1 := by simp
  have hI0 : PasI bs (w.alloc (.cells #[.int .i64 v, .slice a0 n c0] 31)) ((w.alloc (.cells #[.int .i64 v, .slice a0 n c0] 31)).alloc (.cells #[] 26)) (.slice (some ⟨w.heap.size + 1, 0, none⟩) 0 0) 0 0 0 := by
    refine ⟨(Below.refl _ _).alloc (Nat.le_refl _) _, [], ?_, by simp [rowsP, candA, candI, partJ, setR]⟩
    have := RowsM.new0 (w.alloc (.cells #[.int .i64 v, .slice a0 n c0] 31)) (base := (w.alloc (.cells #[.int .i64 v, .slice a0 n c0] 31)).heap.size) (Nat.le_refl _)
    rw [World.size_alloc] at this ⊢
    exact this
  obtain ⟨w0, hw0⟩ : ∃ w0, w.alloc (.cells #[.int .i64 v, .slice a0 n c0] 31) = w0 := ⟨_, rfl⟩
  rw [hw0] at hb0 x0 x1 hz1 hI0 ⊢
  have HB0 := Lib.hid hb0
  have HI0 := Lib.hid hI0
  clear hw0 hb0 hI0
  obtain ⟨w1, hw1⟩ : ∃ w1, w0.alloc (.cells #[] 26) = w1 := ⟨_, rfl⟩
  rw [hw1] at HI0 ⊢
  clear hw1
  go_loopw [3, 4] (fun o i wr => ∃ k : Nat, k ≤ n ∧ i = .int .i64 k ∧ PasI bs w0 wr o k 0 0 ∧ ∃ a m c, o = .slice a m c) (fun _ i _ => n - (intOf i).toNat)
  case atStart => exact ⟨0, Nat.zero_le _, rfl, HI0.out, _, _, _, rfl⟩
  case round =>
    obtain ⟨k, hk, rfl, hP1, aO, mO, cO, rfl⟩ := hrel
    obtain ⟨V1, rfl⟩ : ∃ V, V = wr := ⟨_, rfl⟩
    have r1 := (hP1.1.cell (p := ⟨w.heap.size, 1, none⟩) (by show w.heap.size < _; omega)).trans x1
    have HP1 := Lib.hid hP1
    clear hP1
    by_cases hkn : k < n
    · go_wp2_with fail
      go_loopw [3, 5] (fun o i wr => ∃ j : Nat, j ≤ k ∧ i = .int .i64 j ∧ PasI bs w0 wr o k j 0 ∧ ∃ a m c, o = .slice a m c) (fun _ i _ => k - (intOf i).toNat)
      case atStart => exact ⟨0, Nat.zero_le _, rfl, HP1.out, _, _, _, rfl⟩
      case round =>
        obtain ⟨j, hj, rfl, hP2, aP, mP, cP, rfl⟩ := hrel
        obtain ⟨V2, rfl⟩ : ∃ V, V = wr := ⟨_, rfl⟩
        have r0 := (hP2.1.cell (p := ⟨w.heap.size, 0, none⟩) (by show w.heap.size < _; omega)).trans x0
        have r1 := (hP2.1.cell (p := ⟨w.heap.size, 1, none⟩) (by show w.heap.size < _; omega)).trans x1
        have hz2 := hP2.1.size
        have hBw : Below w.heap.size w V2 := HB0.out.trans (hP2.1.mono (by omega))
        have HP2 := Lib.hid hP2
        clear hP2
        by_cases hjk : j < k
        · rcases HS.out.2.2 with ⟨_, _, _, hnil⟩ | ⟨bb, off, cap, hval, hblt, hbl⟩
          · have := HN.out; rw [hnil] at this; simp at this; omega
          · rw [← HN.out] at hval
            simp at hval
            obtain ⟨rfl, rfl⟩ := hval
            obtain ⟨x, hx, ex, d1, d2, d3⟩ := blks_at (hbl.below hBw hblt) (show k < bs.length by rw [← HN.out]; exact hkn)
            obtain ⟨y, hy, ey, g1, g2, g3⟩ := blks_at (hbl.below hBw hblt) (show j < bs.length by rw [← HN.out]; omega)
            have hbx : bk bs k = x := by unfold bk; rw [ex]; rfl
            have hby : bk bs j = y := by unfold bk; rw [ey]; rfl
            have hkb : k < bs.length := by rw [← HN.out]; exact hkn
            have hjb : j < bs.length := by rw [← HN.out]; omega
            have hab := comI_bounds HU.out hv15 (j := j) hkb
            obtain ⟨a, ha⟩ : ∃ a, a = comI (bk bs k) (bk bs j) := ⟨_, rfl⟩
            rw [← ha] at hab
            have HA := Lib.hid ha
            have hpb := bk_bounds HU.out hv15 hkb a
            have hqb := bk_bounds HU.out hv15 hjb a
            have HMEET := Lib.hid fun W => l03Meet_any x y W
            rw [show comI x y = a by rw [ha, hbx, hby]] at HMEET
            have HO1 := Lib.hid fun W => l03Others_any x a W
            have HO2 := Lib.hid fun W => l03Others_any y a W
            have HBX := Lib.hid hbx
            have HBY := Lib.hid hby
            obtain ⟨xa, xb, xc⟩ := x
            obtain ⟨ya, yb, yc⟩ := y
            unfold bv at HMEET HO1 HO2
            rw [hbx] at hpb
            rw [hby] at hqb
            obtain ⟨p, hp⟩ : ∃ p, p = othersP ⟨xa, xb, xc⟩ a := ⟨_, rfl⟩
            obtain ⟨q, hq⟩ : ∃ q, q = othersP ⟨ya, yb, yc⟩ a := ⟨_, rfl⟩
            rw [← hp] at hpb HO1
            rw [← hq] at hqb HO2
            have HPP := Lib.hid hp
            have HQQ := Lib.hid hq
            dsimp only at d1 d2 d3 g1 g2 g3 HMEET HO1 HO2
            have i1 : (0 : Int) ≤ (k : Int) := by omega
            have i2 : (k : Int) < (n : Int) := by omega
            have i3 : (0 : Int) ≤ (j : Int) := by omega
            have i4 : (j : Int) < (n : Int) := by omega
            have hbb2 : bb < V2.heap.size := by have := hBw.size; omega
            have HBW := Lib.hid hBw
            clear hx ex hy ey hbx hby ha hp hq hbl hBw
            go_wp2_with fail
            go_region_held3 (fun w' => w'.cell? ⟨w.heap.size, 1, none⟩ = some (.slice (some ⟨bb, off, none⟩) n c0) ∧ w'.cell? ⟨bb, off + k * 3, none⟩ = some (.int .i64 xa) ∧ w'.cell? ⟨bb, off + k * 3 + 1, none⟩ = some (.int .i64 xb) ∧ w'.cell? ⟨bb, off + k * 3 + 2, none⟩ = some (.int .i64 xc) ∧ w'.cell? ⟨bb, off + j * 3, none⟩ = some (.int .i64 ya) ∧ w'.cell? ⟨bb, off + j * 3 + 1, none⟩ = some (.int .i64 yb) ∧ w'.cell? ⟨bb, off + j * 3 + 2, none⟩ = some (.int .i64 yc))
              (first
                | exact ⟨E1, K1, K2, K3, F1, F2, F3⟩
                | go_keep)
              (first
                | (go_at_call 103; refine (HMEET.out _).mono ?_; rintro e w3 ⟨rfl, hbc⟩; have hbd : Below V2.heap.size V2 w3 := (by first | exact hbc | exact ((Below.refl _ _).drew).trans (hbc.mono (by simp))); have E1 := (hbd.cell (p := ⟨w.heap.size, 1, none⟩) (by show w.heap.size < _; omega)).trans r1; have K1 := (hbd.cell (p := ⟨bb, off + k * 3, none⟩) hbb2).trans d1; have K2 := (hbd.cell (p := ⟨bb, off + k * 3 + 1, none⟩) hbb2).trans d2; have K3 := (hbd.cell (p := ⟨bb, off + k * 3 + 2, none⟩) hbb2).trans d3; have F1 := (hbd.cell (p := ⟨bb, off + j * 3, none⟩) hbb2).trans g1; have F2 := (hbd.cell (p := ⟨bb, off + j * 3 + 1, none⟩) hbb2).trans g2; have F3 := (hbd.cell (p := ⟨bb, off + j * 3 + 2, none⟩) hbb2).trans g3))
            all_goals
              have hP3 := HP2.out.step hbd
              have HP3 := Lib.hid hP3
              have hz3 := hbd.size
              have E0 := (hbd.cell (p := ⟨w.heap.size, 0, none⟩) (by show w.heap.size < _; omega)).trans r0
              clear hP3 d1 d2 d3 g1 g2 g3 r0 r1
              by_cases ha0 : a < 0
              · have i5 : decide (a < 0) = true := by simpa using ha0
                go_wp2
                go_roundw
                case rel => exact ⟨j + 1, by omega, by go_num, HP3.out.turn0 (by rw [← HA.out]; exact ha0), _, _, _, rfl⟩
                case measure => simp [intOf]; omega
              · have i5 : decide (a < 0) = false := by simpa using ha0
                go_wp2_with fail
                refine (HO1.out _).mono ?_
                rintro e w4 ⟨rfl, hb4⟩
                have E0 := (hb4.cell (p := ⟨w.heap.size, 0, none⟩) (by show w.heap.size < _; omega)).trans E0
                have E1 := (hb4.cell (p := ⟨w.heap.size, 1, none⟩) (by show w.heap.size < _; omega)).trans E1
                have F1 := (hb4.cell (p := ⟨bb, off + j * 3, none⟩) (by show bb < _; omega)).trans F1
                have F2 := (hb4.cell (p := ⟨bb, off + j * 3 + 1, none⟩) (by show bb < _; omega)).trans F2
                have F3 := (hb4.cell (p := ⟨bb, off + j * 3 + 2, none⟩) (by show bb < _; omega)).trans F3
                have hz4 := hb4.size
                go_wp2_with fail
                refine (HO2.out _).mono ?_
                rintro e w5 ⟨rfl, hb5⟩
                have HP5 := Lib.hid ((HP3.out.step hb4).step hb5)
                clear E0 E1 F1 F2 F3 K1 K2 K3 hb4 hb5 hbd hbc HO1 HO2 HMEET
                go_wp2_with fail
                go_loopw [3, 9, 10, 11] (fun o dd ff tt wr => ∃ t : Nat, t ≤ 2 ∧ tt = .int .i64 t ∧ dd = .int .i64 (dT q t) ∧ ff = .int .i64 (fT q t) ∧ PasI bs w0 wr o k j t ∧ ∃ a m c, o = .slice a m c) (fun _ _ _ tt _ => 2 - (intOf tt).toNat)
                case atStart => exact ⟨0, by omega, rfl, rfl, rfl, HP5.out, _, _, _, rfl⟩
                case round =>
                  obtain ⟨t, ht, rfl, rfl, rfl, hP6, aQ, mQ, cQ, rfl⟩ := hrel
                  obtain ⟨V3, rfl⟩ : ∃ V, V = wr := ⟨_, rfl⟩
                  have s0 := (hP6.1.cell (p := ⟨w.heap.size, 0, none⟩) (by show w.heap.size < _; omega)).trans x0
                  have s1 := (hP6.1.cell (p := ⟨w.heap.size, 1, none⟩) (by show w.heap.size < _; omega)).trans x1
                  have hz6 := hP6.1.size
                  have hB6 : Below w.heap.size w V3 := HB0.out.trans (hP6.1.mono (by omega))
                  have HP6 := Lib.hid hP6
                  have HB6 := Lib.hid hB6
                  clear hP6 hB6
                  by_cases ht2 : t < 2
                  · obtain ⟨hdb, hfb⟩ := dfT_bounds hqb t
                    have HSW := Lib.hid (dT_succ q t)
                    have HCA := Lib.hid (candP_at (bs := bs) (i := k) (j := j) ht2 HA.out.symm (by omega))
                    rw [HBX.out, HBY.out, ← HPP.out, ← HQQ.out] at HCA
                    obtain ⟨dv, hdv⟩ : ∃ z, z = dT q t := ⟨_, rfl⟩
                    obtain ⟨fv, hfv⟩ : ∃ z, z = fT q t := ⟨_, rfl⟩
                    rw [← hdv] at hdb HSW HCA ⊢
                    rw [← hfv] at hfb HSW HCA ⊢
                    have HT1 := Lib.hid fun W hb => HT.out p.1 fv W hb hpb.1.1 hpb.1.2 hfb.1 hfb.2
                    have HT2 := Lib.hid fun W hb => HT.out dv p.2 W hb hdb.1 hdb.2 hpb.2.1 hpb.2.2
                    have HN1 := Lib.hid (HNB.out p.1 fv)
                    have HN2 := Lib.hid (HNB.out dv p.2)
                    obtain ⟨b1, hb1⟩ : ∃ z, z = third1 bs p.1 fv := ⟨_, rfl⟩
                    obtain ⟨b2, hb2⟩ : ∃ z, z = third1 bs dv p.2 := ⟨_, rfl⟩
                    rw [← hb1] at HT1 HCA
                    rw [← hb2] at HT2 HCA
                    obtain ⟨N1, hN1⟩ : ∃ z, z = numGo (bothB p.1 fv) bs 0 := ⟨_, rfl⟩
                    obtain ⟨N2, hN2⟩ : ∃ z, z = numGo (bothB dv p.2) bs 0 := ⟨_, rfl⟩
                    rw [← hN1] at HN1 HCA
                    rw [← hN2] at HN2 HCA
                    clear hdv hfv hb1 hb2 hN1 hN2
                    go_wp2_with fail
                    refine (HT1.out _ HB6.out).mono ?_
                    rintro e w6 ⟨rfl, hb6⟩
                    have s0 := (hb6.cell (p := ⟨w.heap.size, 0, none⟩) (by show w.heap.size < _; omega)).trans s0
                    have s1 := (hb6.cell (p := ⟨w.heap.size, 1, none⟩) (by show w.heap.size < _; omega)).trans s1
                    have hzb6 := hb6.size
                    have HP7 := Lib.hid (HP6.out.step hb6)
                    have HB7 := Lib.hid (HB6.out.trans (hb6.mono (by omega)))
                    by_cases h0 : 0 ≤ b1
                    · have i6 : decide (0 ≤ b1) = true := by simpa using h0
                      by_cases h12 : b2 = b1
                      · have i7 : (b2 == b1) = true := by simpa using h12
                        have HC := Lib.hid (HCA.out.trans (if_pos ⟨h0, h12⟩))
                        go_upto_region 17 with (go_at_call 105; refine (HT2.out _ HB7.out).mono ?_; rintro e w7 ⟨rfl, hb7⟩)
                        have s0 := (hb7.cell (p := ⟨w.heap.size, 0, none⟩) (by show w.heap.size < _; omega)).trans s0
                        have s1 := (hb7.cell (p := ⟨w.heap.size, 1, none⟩) (by show w.heap.size < _; omega)).trans s1
                        have hzb7 := hb7.size
                        have HP8 := Lib.hid (HP7.out.step hb7)
                        have HB8 := Lib.hid (HB7.out.trans (hb7.mono (by omega)))
                        clear hb6 hb7 i6 i7
                        have hzw : w.heap.size < w7.heap.size := by omega
                        go_region_held3 (fun w' => w'.cell? ⟨w.heap.size, 0, none⟩ = some (.int .i64 v) ∧ w'.cell? ⟨w.heap.size, 1, none⟩ = some (.slice (some ⟨bb, off, none⟩) n c0))
                          (first
                            | exact ⟨L0, L1⟩
                            | exact ⟨C0, C1⟩
                            | exact ⟨B0, B1⟩
                            | exact ⟨A0, A1⟩
                            | go_keep)
                          (first
                            | (go_at_call 107; refine (HN1.out _ (by first | exact HB8.out | exact HB8.out.drew)).mono ?_; rintro e w8 ⟨rfl, hb8⟩; clear HN1; have hb8' : Below w7.heap.size w7 w8 := (by first | exact hb8 | exact ((Below.refl _ _).drew).trans (hb8.mono (by simp))); have A0 := (hb8'.cell (p := ⟨w.heap.size, 0, none⟩) hzw).trans s0; have A1 := (hb8'.cell (p := ⟨w.heap.size, 1, none⟩) hzw).trans s1; have hz8 := hb8'.size)
                            | (go_at_call 107; refine (HN2.out _ (by first | exact HB8.out.trans (hb8'.mono HB8.out.size) | exact (HB8.out.trans (hb8'.mono HB8.out.size)).drew)).mono ?_; rintro e w9 ⟨rfl, hb9⟩; have hb9' : Below w7.heap.size w7 w9 := hb8'.trans ((by first | exact hb9 | exact ((Below.refl _ _).drew).trans (hb9.mono (by simp)) : Below w8.heap.size w8 w9).mono hz8); have B0 := (hb9'.cell (p := ⟨w.heap.size, 0, none⟩) hzw).trans s0; have B1 := (hb9'.cell (p := ⟨w.heap.size, 1, none⟩) hzw).trans s1; have hz9 := hb9'.size)
                            | (go_at_call 106; refine (l03Ascending_any w9.heap.size 0 4 [(k : Int), (j : Int), N1, N2] _ (by first | exact lit4 w9 _ _ _ _ | exact (lit4 w9 _ _ _ _).below ((Below.refl _ _).drew) (by simp)) (by simp) (by simp)).mono ?_; rintro e w10 ⟨u10, rfl, ⟨g10, c10, hu10⟩, hO10, hb10⟩; have hu10 : u10 = .slice (some ⟨g10, 0, none⟩) 4 c10 := hu10; subst hu10; have hb10' : Below w7.heap.size w7 w10 := (hb9'.alloc hz9 _).trans ((by first | exact hb10 | exact ((Below.refl _ _).drew).trans (hb10.mono (by simp)) : Below _ (w9.alloc (.cells #[.int .i64 (k : Int), .int .i64 (j : Int), .int .i64 N1, .int .i64 N2] 2)) w10).mono (by simp; omega)); have C0 := (hb10'.cell (p := ⟨w.heap.size, 0, none⟩) hzw).trans s0; have C1 := (hb10'.cell (p := ⟨w.heap.size, 1, none⟩) hzw).trans s1; have hz10 := hb10'.size; have hoA := hO10.atI (by rw [ascL_len]; simp))
                            | (go_at_call 94; refine (PasI.yes (by rw [← HN.out]; omega) (by rw [← HN.out]; omega) (by omega) (by omega) HP8.out (by first | exact hb10' | exact hb10'.drew) HC.out (by have := hoA.2; simp at this; omega) (by first | exact hoA.1 | exact hoA.1.kept (gb_drew1 _) (by simp))).mono ?_; rintro e w11 ⟨u11, rfl, hP11⟩; have L0 := (hP11.1.cell (p := ⟨w.heap.size, 0, none⟩) (by show w.heap.size < _; omega)).trans x0; have L1 := (hP11.1.cell (p := ⟨w.heap.size, 1, none⟩) (by show w.heap.size < _; omega)).trans x1; (obtain ⟨a11, m11, c11, hu11⟩ := hP11.form); subst hu11))
                        all_goals
                          go_wp2_with fail
                          go_roundw
                          case rel => exact ⟨t + 1, by omega, by go_num, by rw [HSW.out.1], by rw [HSW.out.2], hP11, _, _, _, rfl⟩
                          case measure => simp [intOf]; omega
                      · have i7 : (b2 == b1) = false := by simpa using h12
                        have HC := Lib.hid (HCA.out.trans (if_neg (fun h => h12 h.2)))
                        go_wp2_with (go_at_call 105; refine (HT2.out _ HB7.out).mono ?_; rintro e w7 ⟨rfl, hb7⟩)
                        go_roundw
                        case rel => exact ⟨t + 1, by omega, by go_num, by rw [HSW.out.1], by rw [HSW.out.2], (HP7.out.step hb7).no HC.out, _, _, _, rfl⟩
                        case measure => simp [intOf]; omega
                    · have i6 : decide (0 ≤ b1) = false := by simpa using h0
                      have HC := Lib.hid (HCA.out.trans (if_neg (fun h => h0 h.1)))
                      go_wp2
                      go_roundw
                      case rel => exact ⟨t + 1, by omega, by go_num, by rw [HSW.out.1], by rw [HSW.out.2], HP7.out.no HC.out, _, _, _, rfl⟩
                      case measure => simp [intOf]; omega
                  · have e : t = 2 := by omega
                    subst e
                    go_wp2
                    go_roundw
                    case rel => exact ⟨j + 1, by omega, by go_num, HP6.out.next, _, _, _, rfl⟩
                    case measure => simp [intOf]; omega
        · have e : j = k := by omega
          subst e
          go_wp2
          go_roundw
          case rel => exact ⟨j + 1, by omega, by go_num, HP2.out.row, _, _, _, rfl⟩
          case measure => simp [intOf]; omega
    · have e : k = n := by omega
      subst e
      go_wp2
      go_ret
      obtain ⟨h1, Rs, hM, hR⟩ := HP1.out
      refine ⟨_, Rs, rfl, hM.base (by omega), ?_, HB0.out.trans (h1.mono (by omega))⟩
      rw [hR, ← HSAME.out, ← HN.out]
      simp [candI, partJ]
end Go.Proofs.Ytiomdfhhejdoiaa

namespace Go.Proofs.Ytiomdfhhejdoiaa
open Go.RowKit Go.Maps Go.Shelf
set_option maxRecDepth 100000 in
theorem specPaschList_any (v : Int) (s : Value) (bs : List Blk) (w : World) (h : SB w s bs) :
    Calls Try.prog 33 #[.agg #[.int .i64 v, s]] w (RRows (pasF v bs) w) := by
  have hs := h.slice
  have HI := Lib.hid fun W (hb : Below w.heap.size w W) => l01Is_any v s bs W (h.below hb (Nat.le_refl _))
  have hb0 : Below w.heap.size w (w.alloc (.cells #[.int .i64 v, s] 31)) := (Below.refl _ _).alloc (Nat.le_refl _) _
  cases hi : isSysImpl v bs with
  | false =>
    have HV := Lib.hid (show pasF v bs = ([], 1) by simp [pasF, hi])
    rw [hi] at HI
    rw [HV.out]
    clear hi h
    obtain ⟨a0, c0, rfl⟩ := hs
    go_enter Try.func33, Try.ntmps33
    go_wp2_with fail
    refine (HI.out _ hb0).mono ?_
    rintro e w1 ⟨rfl, hb1⟩
    have hbw := below_new hb1
    clear hb1
    go_wp2
    go_ret2
    exact ⟨_, rfl, .inl ⟨rfl, _, _, rfl⟩, hbw⟩
  | true =>
    have HV := Lib.hid (show pasF v bs = (pasL bs, 0) by simp [pasF, hi])
    have HP := Lib.hid fun W (hb : Below w.heap.size w W) => l03Pasch_any v s bs W (h.below hb (Nat.le_refl _)) hi
    rw [hi] at HI
    rw [HV.out]
    clear hi h
    obtain ⟨a0, c0, rfl⟩ := hs
    go_enter Try.func33, Try.ntmps33
    go_wp2_with fail
    refine (HI.out _ hb0).mono ?_
    rintro e w1 ⟨rfl, hb1⟩
    have q0 := cell_new hb1 0 rfl
    have q1 := cell_new hb1 1 rfl
    have hbw := below_new hb1
    clear hb1
    go_wp2_with fail
    refine (HP.out _ hbw).mono ?_
    rintro e w2 ⟨u, Rs, rfl, hM, hR, hb2⟩
    have hres := (hM.base hbw.size).res
    rw [hR] at hres
    have HRES := Lib.hid hres
    obtain ⟨a1, c1, rfl⟩ := hM.form
    have hz := hbw.size
    clear hM hR hres
    go_wp2
    go_ret2
    exact ⟨_, rfl, HRES.out, hbw.trans (hb2.mono hz)⟩
set_option maxRecDepth 100000 in
theorem specCountPasch_any (v : Int) (s : Value) (bs : List Blk) (w : World) (h : SB w s bs) :
    Calls Try.prog 35 #[.agg #[.int .i64 v, s]] w (RV (cpV v bs) w) := by
  have hs := h.slice
  have HI := Lib.hid fun W (hb : Below w.heap.size w W) => l01Is_any v s bs W (h.below hb (Nat.le_refl _))
  have hb0 : Below w.heap.size w (w.alloc (.cells #[.int .i64 v, s] 31)) := (Below.refl _ _).alloc (Nat.le_refl _) _
  cases hi : isSysImpl v bs with
  | false =>
    have HV := Lib.hid (show cpV v bs = .tuple #[.int .i64 0, .int .i64 1] by simp [cpV, pasF, hi])
    rw [hi] at HI
    rw [HV.out]
    clear hi h
    obtain ⟨a0, c0, rfl⟩ := hs
    go_enter Try.func35, Try.ntmps35
    go_wp2_with fail
    refine (HI.out _ hb0).mono ?_
    rintro e w1 ⟨rfl, hb1⟩
    have hbw := below_new hb1
    clear hb1
    go_wp2
    go_ret2
    exact RV_of rfl hbw
  | true =>
    have HV := Lib.hid (show cpV v bs = .tuple #[.int .i64 ((pasL bs).length : Int), .int .i64 0] by simp [cpV, pasF, hi])
    have HP := Lib.hid fun W (hb : Below w.heap.size w W) => l03Pasch_any v s bs W (h.below hb (Nat.le_refl _)) hi
    rw [hi] at HI
    rw [HV.out]
    clear hi h
    obtain ⟨m, hm⟩ : ∃ m, m = (pasL bs).length := ⟨_, rfl⟩
    rw [← hm]
    have HM := Lib.hid hm
    clear hm
    obtain ⟨a0, c0, rfl⟩ := hs
    go_enter Try.func35, Try.ntmps35
    go_wp2_with fail
    refine (HI.out _ hb0).mono ?_
    rintro e w1 ⟨rfl, hb1⟩
    have q0 := cell_new hb1 0 rfl
    have q1 := cell_new hb1 1 rfl
    have hbw := below_new hb1
    clear hb1
    go_wp2_with fail
    refine (HP.out _ hbw).mono ?_
    rintro e w2 ⟨u, Rs, rfl, hM, hR, hb2⟩
    obtain ⟨a1, c1, hu⟩ := hM.form
    have hlen : Rs.length = m := by rw [HM.out, ← hR]; simp [rowsP]
    rw [hlen] at hu
    subst hu
    have hz := hbw.size
    clear hM hR hlen
    go_wp2
    go_ret2
    exact RV_of rfl (hbw.trans (hb2.mono hz))
end Go.Proofs.Ytiomdfhhejdoiaa

namespace Go.Proofs.Ytiomdfhhejdoiaa
open Go.ChangeShapes Go.WideShapes Go.ChangeAt Go.RowKit Go.Deep Go.Joins
theorem ownKnobs : ownKnob Try.prog.godebug = none := by kernel_rfl
section
variable {H : Type} {enc : TypeId × Value → H} {W : World} {base : Nat} {held : Bool}
theorem arrCells : Try.prog.cellsOf 67 = 3 := by kernel_rfl
set_option maxRecDepth 100000 in
theorem open_arr3 {fuel : Nat} {cs : List Value} {x : DataW H × List MemPlace} (h : DataW.trod enc Try.prog W base (fun _ => true) held fuel 67 cs = some x) :
    ∃ a b c : Int, cs = [.int .i64 a, .int .i64 b, .int .i64 c] ∧ (Lit.int .i64 a).wf = true ∧ (Lit.int .i64 b).wf = true ∧ (Lit.int .i64 c).wf = true := by
  obtain ⟨xs, m, rfl, rfl, hl, hx, hat⟩ := DataW.trod_array Try.underlying67 h
  rw [arrCells] at hl
  match cs, hl with
  | [c0, c1, c2], _ =>
    match xs, hx with
    | [x0, x1, x2], _ =>
      have h0 := hat 0 (by omega)
      have h1 := hat 1 (by omega)
      have h2 := hat 2 (by omega)
      rw [int64Cells] at h0 h1 h2
      simp at h0 h1 h2
      obtain ⟨a, ha, _, wa⟩ := DataW.trod_int Try.underlying2 h0
      obtain ⟨b, hb, _, wb⟩ := DataW.trod_int Try.underlying2 h1
      obtain ⟨c, hc, _, wc⟩ := DataW.trod_int Try.underlying2 h2
      simp at ha hb hc
      exact ⟨a, b, c, by rw [ha, hb, hc], wa, wb, wc⟩
theorem add_at (b off i : Nat) : (⟨b, off, none⟩ : Addr).add i = ⟨b, off + i, none⟩ := by
  unfold Addr.add
  split
  · subst_vars; rfl
  · rfl
set_option maxRecDepth 100000 in
theorem open_arrs {fuel : Nat} {s : Value} {x : DataW H × List MemPlace} (h : DataW.trod enc Try.prog W base (fun _ => true) held fuel 22 [s] = some x) : ∃ bs, InB W s bs := by
  rcases open_slice Try.underlying22 h with ⟨hcs, _⟩ | ⟨a, len, cap, m, n, D, Pl, hcs, hb, hl, hm, hmm, hx, hi⟩
  · simp at hcs
    exact ⟨[], by simp, by simp, .inl ⟨none, 0, hcs, rfl⟩⟩
  · simp at hcs
    subst hcs
    simp at hmm
    subst hmm
    have hm' : m ≤ 9223372036854775807 := by unfold maxLen at hm; exact hm
    by_cases h0 : len = 0
    · subst h0
      exact ⟨[], by simp, by simp, .inl ⟨_, _, rfl, rfl⟩⟩
    · have cell : ∀ i, i < m → ∃ y : Blk, WFB y ∧ ∀ j (v : Value), [Value.int .i64 y.a, Value.int .i64 y.b, Value.int .i64 y.c][j]? = some v → W.cell? (a.add (i * 3 + j)) = some v := fun i him => by
        obtain ⟨cs', hc, ht⟩ := hi i him
        obtain ⟨p, q, r, rfl, wp, wq, wr⟩ := open_arr3 ht
        rw [arrCells] at hc
        obtain ⟨_, _, hat⟩ := World.cells?_some hc
        refine ⟨⟨p, q, r⟩, ⟨wp, wq, wr⟩, fun j v hv => ?_⟩
        have hj : j < 3 := by
          have := (List.getElem?_eq_some_iff.1 hv).1
          simpa using this
        rw [← Go.Deep.add_add, hat j hj]
        exact hv
      obtain ⟨F, hF⟩ := choose_lt (α := Blk) cell
      obtain ⟨b, off, spot⟩ := a
      have hc0 := (hF 0 (by omega)).2 0 _ rfl
      have hspot : spot = none := by simpa [Addr.add] using World.cell?_spot hc0
      subst hspot
      refine ⟨(List.range len).map F, ?_, by simp; omega, .inr ⟨b, off, m, by simp, ?_, ?_⟩⟩
      · intro y hy
        obtain ⟨i, hi', rfl⟩ := List.mem_map.1 hy
        exact (hF i (by have := List.mem_range.1 hi'; omega)).1
      · exact block_lt_of_cell hc0
      · intro k hk
        simp at hk
        have e : ((List.range len).map F)[k]?.getD default = F k := by simp [hk]
        rw [e]
        have := (hF k (by omega)).2
        refine ⟨?_, ?_, ?_⟩
        · have h0 := this 0 _ rfl
          rw [add_at] at h0
          exact h0
        · have h1 := this 1 _ rfl
          rw [add_at, ← Nat.add_assoc] at h1
          exact h1
        · have h2 := this 2 _ rfl
          rw [add_at, ← Nat.add_assoc] at h2
          exact h2
theorem isSys : ∃ f0 f1 : Field, Try.prog.underlying 24 = some (.struct #[f0, f1]) ∧ f0.type = 2 ∧ f1.type = 22 ∧ oneCellFields Try.prog #[f0, f1] = true :=
  ⟨_, _, Try.underlying24, rfl, rfl, by kernel_rfl⟩
theorem sysCells : Try.prog.cellsOf 24 = 2 := by kernel_rfl
set_option maxRecDepth 100000 in
theorem open_system {r : Reach} {b0 : Nat} {v : Value} {d : DataW H} {p : List MemPlace} (hv : Value.okWide Try.prog W r b0 24 v) (h : DataW.Trod enc Try.prog W base (fun _ => true) held 24 v d p) :
    ∃ (n : Int) (s : Value) (bs : List Blk), v = .agg #[.int .i64 n, s] ∧ WF n ∧ InB W s bs := by
  obtain ⟨f0, f1, hu, e0, e1, hone⟩ := isSys
  obtain ⟨v0, v1, y0, y1, n, rfl, _, _, h0, h1⟩ := open_agg2 hu hone sysCells hv h
  rw [e0] at h0
  rw [e1] at h1
  obtain ⟨k, hk, _, wk⟩ := DataW.trod_int Try.underlying2 h0
  simp at hk
  subst hk
  obtain ⟨bs, hbs⟩ := open_arrs h1
  exact ⟨k, v1, bs, rfl, wk, hbs⟩
end
end Go.Proofs.Ytiomdfhhejdoiaa

namespace Go.Proofs.Ytiomdfhhejdoiaa
open Go.ChangeShapes Go.WideShapes Go.ChangeAt Go.RowKit Go.Deep Go.Joins
/-- The value is a slice of just these integers, however many. -/
def InZ (w : World) (s : Value) (zs : List Int) : Prop :=
  (∀ z ∈ zs, WF z) ∧ zs.length ≤ 9223372036854775807 ∧ ((∃ a c, s = .slice a 0 c ∧ zs = []) ∨ ∃ b off cap, s = .slice (some ⟨b, off, none⟩) zs.length cap ∧ b < w.heap.size ∧ Ints w b off zs)
theorem InZ.slice {w : World} {s : Value} {zs : List Int} (h : InZ w s zs) : ∃ a c, s = .slice a zs.length c := by
  rcases h.2.2 with ⟨a, c, rfl, rfl⟩ | ⟨b, off, cap, rfl, _⟩ <;> exact ⟨_, _, rfl⟩
theorem InZ.ib {w : World} {s : Value} {zs : List Int} (h : InZ w s zs) (hl : zs.length ≤ 1048576) : IB w s zs := ⟨by omega, h.2.2⟩
/-- The value is a slice of just these rows, however many. -/
def InSS (w : World) (s : Value) (n : Nat) (F : Nat → List Int) : Prop :=
  n ≤ 9223372036854775807 ∧ ((n = 0 ∧ ∃ a c, s = .slice a 0 c) ∨ ∃ b off cap, s = .slice (some ⟨b, off, none⟩) n cap ∧ b < w.heap.size ∧ ∀ k, k < n → ∃ u, w.cell? ⟨b, off + k, none⟩ = some u ∧ InZ w u (F k))
theorem okWide_array {P : Program} {w : World} {r : Reach} {base : Nat} {t : TypeId} {v : Value} {n : Nat} {e : TypeId} (ht : P.underlying t = some (.array n e)) (h : Value.okWide P w r base t v) : ∃ cs, v = .agg cs ∧ cs.size = P.cellsOf t := by
  simp only [Value.okWide, ht] at h
  obtain ⟨cs, h1, h2, _⟩ := h
  exact ⟨cs, h1, h2⟩
section
variable {H : Type} {enc : TypeId × Value → H} {W : World} {base : Nat} {held : Bool}
set_option maxRecDepth 100000 in
theorem open_zs {fuel : Nat} {s : Value} {x : DataW H × List MemPlace} (h : DataW.trod enc Try.prog W base (fun _ => true) held fuel 26 [s] = some x) : ∃ zs, InZ W s zs := by
  rcases open_slice1 Try.underlying26 int64Cells h with ⟨hcs, _⟩ | ⟨a, len, cap, m, n, V, D, Pl, hcs, hb, hl, hm, hmm, hx, hi⟩
  · simp at hcs
    exact ⟨[], by simp, by simp, .inl ⟨none, 0, hcs, rfl⟩⟩
  · simp at hcs
    subst hcs
    simp at hmm
    subst hmm
    have hm' : m ≤ 9223372036854775807 := by unfold maxLen at hm; exact hm
    by_cases h0 : len = 0
    · subst h0
      exact ⟨[], by simp, by simp, .inl ⟨_, _, rfl, rfl⟩⟩
    · have cell : ∀ i, i < m → ∃ y : Int, WF y ∧ W.cell? (a.add i) = some (.int .i64 y) := fun i him => by
        obtain ⟨hc, ht⟩ := hi i him
        obtain ⟨k, hk, _, wk⟩ := DataW.trod_int Try.underlying2 ht
        simp at hk
        exact ⟨k, wk, by rw [hc, hk]⟩
      obtain ⟨F, hF⟩ := choose_lt (α := Int) cell
      obtain ⟨b, off, spot⟩ := a
      have hc0 := (hF 0 (by omega)).2
      have hspot : spot = none := by simpa [Addr.add] using World.cell?_spot hc0
      subst hspot
      refine ⟨(List.range len).map F, ?_, by simp; omega, .inr ⟨b, off, m, by simp, ?_, ?_⟩⟩
      · intro y hy
        obtain ⟨i, hi', rfl⟩ := List.mem_map.1 hy
        exact (hF i (by have := List.mem_range.1 hi'; omega)).1
      · exact block_lt_of_cell hc0
      · intro k hk
        simp at hk
        have e : ((List.range len).map F)[k]?.getD 0 = F k := by simp [hk]
        rw [e]
        have h1 := (hF k (by omega)).2
        rw [add_at] at h1
        exact h1
set_option maxRecDepth 100000 in
theorem open_ints64 {r : Reach} {b0 : Nat} {v : Value} {d : DataW H} {p : List MemPlace} (hv : Value.okWide Try.prog W r b0 26 v) (h : DataW.Trod enc Try.prog W base (fun _ => true) held 26 v d p) : ∃ zs, InZ W v zs := by
  obtain ⟨a, len, cap, rfl⟩ := okWide_slice Try.underlying26 hv
  obtain ⟨fuel, hf⟩ := h
  exact open_zs hf
set_option maxRecDepth 100000 in
theorem open_blocks {r : Reach} {b0 : Nat} {v : Value} {d : DataW H} {p : List MemPlace} (hv : Value.okWide Try.prog W r b0 22 v) (h : DataW.Trod enc Try.prog W base (fun _ => true) held 22 v d p) : ∃ bs, InB W v bs := by
  obtain ⟨a, len, cap, rfl⟩ := okWide_slice Try.underlying22 hv
  obtain ⟨fuel, hf⟩ := h
  exact open_arrs hf
theorem sliceCells : Try.prog.cellsOf 26 = 1 := by kernel_rfl
set_option maxRecDepth 100000 in
theorem open_rows {r : Reach} {b0 : Nat} {v : Value} {d : DataW H} {p : List MemPlace} (hv : Value.okWide Try.prog W r b0 44 v) (h : DataW.Trod enc Try.prog W base (fun _ => true) held 44 v d p) : ∃ n F, InSS W v n F := by
  obtain ⟨A0, L0, C0, rfl⟩ := okWide_slice Try.underlying44 hv
  obtain ⟨fuel, hf⟩ := h
  have hf' : DataW.trod enc Try.prog W base (fun _ => true) held fuel 44 [.slice A0 L0 C0] = some (d, p) := hf
  rcases open_slice1 Try.underlying44 sliceCells hf' with ⟨hcs, _⟩ | ⟨a, len, cap, m, n, V, D, Pl, hcs, hb, hl, hm, hmm, hx, hi⟩
  · simp at hcs
    obtain ⟨rfl, rfl, rfl⟩ := hcs
    exact ⟨0, fun _ => [], by omega, .inl ⟨rfl, _, _, rfl⟩⟩
  · simp at hcs
    obtain ⟨e1, e2, e3⟩ := hcs
    subst e1
    subst e2
    subst e3
    simp at hmm
    subst hmm
    have hm' : m ≤ 9223372036854775807 := by unfold maxLen at hm; exact hm
    by_cases h0 : L0 = 0
    · subst h0
      exact ⟨0, fun _ => [], by omega, .inl ⟨rfl, _, _, rfl⟩⟩
    · have cell : ∀ i, i < m → ∃ y : List Int, ∃ u, W.cell? (a.add i) = some u ∧ InZ W u y := fun i him => by
        obtain ⟨hc, ht⟩ := hi i him
        obtain ⟨zs, hz⟩ := open_zs ht
        exact ⟨zs, _, hc, hz⟩
      obtain ⟨F, hF⟩ := choose_lt (α := List Int) cell
      obtain ⟨b, off, spot⟩ := a
      obtain ⟨u0, hc0, _⟩ := hF 0 (by omega)
      have hspot : spot = none := by simpa [Addr.add] using World.cell?_spot hc0
      subst hspot
      refine ⟨L0, F, by omega, .inr ⟨b, off, m, rfl, block_lt_of_cell hc0, fun k hk => ?_⟩⟩
      obtain ⟨u, h1, h2⟩ := hF k (by omega)
      rw [add_at] at h1
      exact ⟨u, h1, h2⟩
set_option maxRecDepth 100000 in
theorem open_blk {r : Reach} {b0 : Nat} {v : Value} {d : DataW H} {p : List MemPlace} (hv : Value.okWide Try.prog W r b0 67 v) (h : DataW.Trod enc Try.prog W base (fun _ => true) held 67 v d p) : ∃ x, v = bv x ∧ WFB x := by
  obtain ⟨cs, rfl, hsz⟩ := okWide_array Try.underlying67 hv
  obtain ⟨fuel, hf⟩ := h
  obtain ⟨a, b, c, e, wa, wb, wc⟩ := open_arr3 hf
  have : cs.toList = [.int .i64 a, .int .i64 b, .int .i64 c] := e
  refine ⟨⟨a, b, c⟩, ?_, wa, wb, wc⟩
  unfold bv
  rw [← this]
end
end Go.Proofs.Ytiomdfhhejdoiaa

namespace Go.Proofs.Ytiomdfhhejdoiaa
open Go.RowKit Go.Maps
structure CS (w : World) (v p : Int) (s sW s8 sG : Value) (XW X XG i0 i1 j1 j2 k1 k2 : Nat) (LW L8 LG : List Blk) (W : World) : Prop where
  st : St1 w v s W
  o0 : w.heap.size < i0
  o1 : i0 ≤ i1
  o2 : i1 ≤ XW
  o3 : XW < j1
  o4 : j1 ≤ j2
  o5 : j2 ≤ X
  o6 : X < k1
  o7 : k1 ≤ k2
  o8 : k2 ≤ XG
  rW : ResR W i0 i1 sW LW
  vW : VarB W XW p sW
  r8 : ResR W j1 j2 s8 L8
  vX : VarB W X v s8
  rG : ResR W k1 k2 sG LG
  vG : VarB W XG p sG
section
variable {w : World} {v p : Int} {s sW s8 sG : Value} {XW X XG i0 i1 j1 j2 k1 k2 : Nat} {LW L8 LG : List Blk} {W W' : World}
theorem CS.step (h : CS w v p s sW s8 sG XW X XG i0 i1 j1 j2 k1 k2 LW L8 LG W) (hg : W.grownBy W' none) : CS w v p s sW s8 sG XW X XG i0 i1 j1 j2 k1 k2 LW L8 LG W' :=
  ⟨h.st.step hg (by simp), h.o0, h.o1, h.o2, h.o3, h.o4, h.o5, h.o6, h.o7, h.o8, h.rW.kept hg (by simp), h.vW.step hg (by simp), h.r8.kept hg (by simp), h.vX.step hg (by simp), h.rG.kept hg (by simp), h.vG.step hg (by simp)⟩
theorem CS.mark8 (h : CS w v p s sW s8 sG XW X XG i0 i1 j1 j2 k1 k2 LW L8 LG W) {row : Option Nat} (hg : W.grownBy W' row) (hr : ∀ r, row = some r → j1 ≤ r ∧ r < j2) {L : List Blk} (hn : ResR W' j1 j2 s8 L) :
    CS w v p s sW s8 sG XW X XG i0 i1 j1 j2 k1 k2 LW L LG W' := by
  obtain ⟨st, o0, o1, o2, o3, o4, o5, o6, o7, o8, rW, vW, r8, vX, rG, vG⟩ := h
  exact ⟨st.step hg (fun r e => by have := hr r e; omega), o0, o1, o2, o3, o4, o5, o6, o7, o8, rW.kept hg (fun r e => by have := hr r e; omega), vW.step hg (fun e => by have := hr _ e; omega), hn, vX.step hg (fun e => by have := hr _ e; omega), rG.kept hg (fun r e => by have := hr r e; omega), vG.step hg (fun e => by have := hr _ e; omega)⟩
theorem CS.markG (h : CS w v p s sW s8 sG XW X XG i0 i1 j1 j2 k1 k2 LW L8 LG W) {row : Option Nat} (hg : W.grownBy W' row) (hr : ∀ r, row = some r → k1 ≤ r ∧ r < k2) {L : List Blk} (hn : ResR W' k1 k2 sG L) :
    CS w v p s sW s8 sG XW X XG i0 i1 j1 j2 k1 k2 LW L8 L W' := by
  obtain ⟨st, o0, o1, o2, o3, o4, o5, o6, o7, o8, rW, vW, r8, vX, rG, vG⟩ := h
  exact ⟨st.step hg (fun r e => by have := hr r e; omega), o0, o1, o2, o3, o4, o5, o6, o7, o8, rW.kept hg (fun r e => by have := hr r e; omega), vW.step hg (fun e => by have := hr _ e; omega), r8.kept hg (fun r e => by have := hr r e; omega), vX.step hg (fun e => by have := hr _ e; omega), hn, vG.step hg (fun e => by have := hr _ e; omega)⟩
end
end Go.Proofs.Ytiomdfhhejdoiaa


namespace Go.Proofs.Ytiomdfhhejdoiaa
open Go.RowKit Go.Maps
set_option maxRecDepth 100000 in
set_option maxHeartbeats 2000000 in
theorem FnExactPaschList_main (v0 : Int) (s0 : Value) (bs0 : List Blk) (w : World) (h0 : InB w s0 bs0) (hl : bs0.length ≤ 1048576) :
    Calls Try.prog 8 #[.agg #[.int .i64 v0, s0]] w (RV (.bool true) w) := by
  have hsl0 := h0.slice
  have hbd0 := h0.2.1
  have hsz0 := szSystem_any v0 s0 bs0.length hsl0 (by omega) 1048576 (by omega) (by omega)
  rw [if_neg (by omega)] at hsz0
  obtain ⟨m0, hm0⟩ : ∃ m, m = (1048576 : Int) - (bs0.length : Int) := ⟨_, rfl⟩
  rw [← hm0] at hsz0
  have hmp0 : 0 ≤ m0 := by omega
  have HSZ0 := Lib.hid hsz0
  have HSB0 := Lib.hid (h0.sb (by omega))
  have HBD0 := Lib.hid (show bs0.length ≤ 1100000 by omega)
  have HWF0 := Lib.hid h0.1
  obtain ⟨L, hL⟩ : ∃ L, L = (pasF v0 bs0).1 := ⟨_, rfl⟩
  obtain ⟨κ, hκ⟩ : ∃ κ, κ = (pasF v0 bs0).2 := ⟨_, rfl⟩
  have hp : pasF v0 bs0 = (L, κ) := by rw [hL, hκ]
  have LBD := Lib.hid (show L.length ≤ 1100000 by rw [hL]; exact Nat.le_trans (pasF_len v0 bs0) (by omega))
  have LTT := Lib.hid (show tot (rowsF L) L.length ≤ 1100000 by rw [hL]; exact pasF_tot v0 bs0)
  have LRW := Lib.hid (rowsF_len LTT.out)
  have HSP := Lib.hid fun (W : World) (t0 : Value) (r0 : SC W t0 bs0) => specPaschList_any v0 t0 bs0 W r0.1
  have HIM := Lib.hid fun (W : World) (t0 : Value) (r0 : SB W t0 bs0) => PaschList_any v0 t0 bs0 W r0
  rw [hp] at HSP HIM
  have hnk : (κ != κ) = false := by simp
  clear hsz0 hm0 hbd0 hL hκ hp h0 hl
  obtain ⟨a0, c0, rfl⟩ := hsl0
  go_enter Try.func8, Try.ntmps8
  have hm := ((Mem.start w).pushVar v0 (.slice a0 bs0.length c0) 24)
  have fA00 := (hm.var 0 rfl).c0
  have fA01 := (hm.var 0 rfl).c1
  have HM := Lib.hid hm
  clear hm
  go_wp2_with fail
  refine (HSZ0.out _).mono ?_
  rintro e w1 ⟨rfl, hbw1⟩
  have hm := HM.out.step (gb_below hbw1)
  clear fA00 fA01
  clear HM hbw1
  have fA00 := (hm.var 0 rfl).c0
  have fA01 := (hm.var 0 rfl).c1
  have HM := Lib.hid hm
  clear hm
  go_wp2_with fail
  refine (toSystem_any v0 _ bs0 _ (HSB0.out.below HM.out.below (Nat.le_refl _))).mono ?_
  rintro e w2 ⟨tw2, rfl, how2, hbw2⟩
  have r3 := how2.sc HWF0.out HBD0.out
  obtain ⟨gw2, capw2, hsw2, _⟩ := id how2
  subst hsw2
  have hm := HM.out.step (gb_below hbw2)
  clear fA00 fA01
  clear HM hbw2 how2
  have fA00 := (hm.var 0 rfl).c0
  have fA01 := (hm.var 0 rfl).c1
  have HM := Lib.hid hm
  clear hm
  go_wp2_with fail
  refine (HSP.out _ _ r3).mono ?_
  rintro e w4 ⟨uw4, rfl, hrow4, hbw4⟩
  have hrw4 := (show ResSS _ _ _ L.length (rowsF L) from hrow4).resH
  clear hrow4
  obtain ⟨aW, nW, hsw4⟩ := hrw4.slice
  subst hsw4
  clear r3
  have hm := (HM.out.pushH hbw4 hrw4)
  clear fA00 fA01
  clear HM hbw4 hrw4
  have fA00 := (hm.var 1 rfl).c0
  have fA01 := (hm.var 1 rfl).c1
  have HM := Lib.hid hm
  clear hm
  go_wp2_with fail
  refine (toSystem_any v0 _ bs0 _ (HSB0.out.below HM.out.below (Nat.le_refl _))).mono ?_
  rintro e w5 ⟨tw5, rfl, how5, hbw5⟩
  have hrw5 := how5.res
  obtain ⟨gw5, capw5, hsw5, _⟩ := id how5
  subst hsw5
  have hm := (HM.out.pushB hbw5 hrw5).pushVar v0 (.slice (some ⟨gw5, 0, none⟩) bs0.length capw5) 31
  clear fA00 fA01
  clear HM hbw5 hrw5 how5
  have fVX00 := (hm.var 0 rfl).c0
  have fVX01 := (hm.var 0 rfl).c1
  have fA00 := (hm.var 3 rfl).c0
  have fA01 := (hm.var 3 rfl).c1
  have HM := Lib.hid hm
  clear hm
  go_wp2_with fail
  refine (HIM.out _ _ ((HM.out.blks 1 rfl).sb HWF0.out HBD0.out)).mono ?_
  rintro e w6 ⟨uw6, rfl, hrow6, hbw6⟩
  have hrw6 := (show ResSS _ _ _ L.length (rowsF L) from hrow6).resH
  clear hrow6
  obtain ⟨aG, nG, hsw6⟩ := hrw6.slice
  subst hsw6
  have hm := (HM.out.pushH hbw6 hrw6)
  clear fVX00 fVX01 fA00 fA01
  clear HM hbw6 hrw6
  have fVX00 := (hm.var 1 rfl).c0
  have fVX01 := (hm.var 1 rfl).c1
  have fA00 := (hm.var 4 rfl).c0
  have fA01 := (hm.var 4 rfl).c1
  have HM := Lib.hid hm
  clear hm
  go_wp2_with fail
  refine (eqInt64SS_same _ _ L.length (rowsF L) _ ((HM.out.rows 0 rfl).sb LBD.out LRW.out) ((HM.out.rows 3 rfl).sb LBD.out LRW.out)).mono ?_
  rintro e w7 ⟨rfl, hbw7⟩
  have hm := HM.out.step (gb_below hbw7)
  clear fVX00 fVX01 fA00 fA01
  clear HM hbw7
  have fVX00 := (hm.var 1 rfl).c0
  have fVX01 := (hm.var 1 rfl).c1
  have fA00 := (hm.var 4 rfl).c0
  have fA01 := (hm.var 4 rfl).c1
  have HM := Lib.hid hm
  clear hm
  go_upto_region 10 with fail
  go_cut [45] (fun sq wx => sq = .bool false ∧ MemOf HM.out wx)
  case first =>
    go_region_with (first | (go_at_call 14; refine (toSystem_any v0 _ bs0 _ ?_).mono ?_; (exact HSB0.out.below HM.out.below.drew (Nat.le_refl _)); rintro e w8 ⟨tw8, rfl, how8, hbw8⟩; have hmx := (HM.out.step (gb_drew1 _)).step (gb_below hbw8); have ec0 := (hmx.var 1 rfl).c0; have ec1 := (hmx.var 1 rfl).c1; have HMX := Lib.hid hmx; clear hmx; have hsbw8 := how8.sb HWF0.out HBD0.out; obtain ⟨gw8, capw8, hsw8, _⟩ := id how8; subst hsw8) | (go_at_call 17; refine (eqSystem_same v0 _ _ bs0 _ ?_ ?_).mono ?_; (exact ((HMX.out.blks 2 rfl).sb HWF0.out HBD0.out)); (exact hsbw8); rintro e w9 ⟨rfl, hbw9⟩))
    all_goals
      go_wp2_with fail
      go_meet
      exact ⟨rfl, HMX.out.step (gb_below hbw9)⟩
  case rest =>
  obtain ⟨rfl, hm⟩ := hcut
  unfold MemOf at hm
  obtain ⟨yc0, rfl⟩ : ∃ W, W = wc := ⟨_, rfl⟩
  clear fVX00 fVX01 fA00 fA01
  clear HM
  have fVX00 := (hm.var 1 rfl).c0
  have fVX01 := (hm.var 1 rfl).c1
  have fA00 := (hm.var 4 rfl).c0
  have fA01 := (hm.var 4 rfl).c1
  have HM := Lib.hid hm
  clear hm
  go_wp2_with fail
  refine (markSystem_any _ _ v0 _ bs0 1 _ (HM.out.blks 2 rfl) HBD0.out (by omega) (by omega)).mono ?_
  rintro e w10 ⟨rfl, hww10, hrw10⟩
  have hm := HM.out.markB 2 rfl hww10 hrw10
  clear fVX00 fVX01 fA00 fA01
  clear HM hww10 hrw10
  have fVX00 := (hm.var 1 rfl).c0
  have fVX01 := (hm.var 1 rfl).c1
  have fA00 := (hm.var 4 rfl).c0
  have fA01 := (hm.var 4 rfl).c1
  have HM := Lib.hid hm
  clear hm
  obtain ⟨kw10, hkw10⟩ : ∃ m, m = 1 + 3 * (bs0.length : Int) := ⟨_, rfl⟩
  rw [← hkw10]
  have h0kw10 : 0 ≤ kw10 := by have := HBD0.out; omega
  have h1kw10 : kw10 ≤ 3300001 := by have := HBD0.out; omega
  clear hkw10
  go_wp2_with fail
  refine (eqInt64SS_same _ _ L.length (rowsF L) _ ((HM.out.rows 0 rfl).sb LBD.out LRW.out) ((HM.out.rows 3 rfl).sb LBD.out LRW.out)).mono ?_
  rintro e w11 ⟨rfl, hbw11⟩
  have hm := HM.out.step (gb_below hbw11)
  clear fVX00 fVX01 fA00 fA01
  clear HM hbw11
  have fVX00 := (hm.var 1 rfl).c0
  have fVX01 := (hm.var 1 rfl).c1
  have fA00 := (hm.var 4 rfl).c0
  have fA01 := (hm.var 4 rfl).c1
  have HM := Lib.hid hm
  clear hm
  go_wp2_with fail
  refine (ResH.mark (HM.out.rows 0 rfl) LBD.out LTT.out 1 (by omega) (by omega)).mono ?_
  rintro e w12 ⟨rfl, hww12, hrw12⟩
  have hm := HM.out.markH 0 rfl hww12 hrw12
  clear fVX00 fVX01 fA00 fA01
  clear HM hww12 hrw12
  have fVX00 := (hm.var 1 rfl).c0
  have fVX01 := (hm.var 1 rfl).c1
  have fA00 := (hm.var 4 rfl).c0
  have fA01 := (hm.var 4 rfl).c1
  have HM := Lib.hid hm
  clear hm
  have hheld := fun lo hi W (h : ResH W lo hi (Value.slice aG L.length nG) L.length (markSS 1 (rowsF L))) => ResH.held 1 h LBD.out LTT.out (by omega) (by omega)
  obtain ⟨m5, hm5⟩ : ∃ m5, m5 = 1 + ((tot (rowsF L) L.length : Nat) : Int) := ⟨_, rfl⟩
  rw [← hm5] at hheld ⊢
  have HHELD := Lib.hid hheld
  have m50 : 0 ≤ m5 := by omega
  have hn5 : (m5 != m5) = false := by simp
  clear hm5 hheld
  go_wp2_with fail
  refine (HHELD.out _ _ _ (HM.out.rows 0 rfl)).mono ?_
  rintro e w13 ⟨rfl, rfl⟩
  go_wp2_with fail
  refine (toSystem_any v0 _ bs0 _ (HSB0.out.below HM.out.below (Nat.le_refl _))).mono ?_
  rintro e w14 ⟨tw14, rfl, how14, hbw14⟩
  have r15 := how14.sb HWF0.out HBD0.out
  obtain ⟨gw14, capw14, hsw14, _⟩ := id how14
  subst hsw14
  have hm := HM.out.step (gb_below hbw14)
  clear fVX00 fVX01 fA00 fA01
  clear HM hbw14 how14
  have fVX00 := (hm.var 1 rfl).c0
  have fVX01 := (hm.var 1 rfl).c1
  have fA00 := (hm.var 4 rfl).c0
  have fA01 := (hm.var 4 rfl).c1
  have HM := Lib.hid hm
  clear hm
  go_wp2_with fail
  refine (HIM.out _ _ r15).mono ?_
  rintro e w16 ⟨uw16, rfl, hrow16, hbw16⟩
  have hrw16 := (show ResSS _ _ _ L.length (rowsF L) from hrow16).resH
  clear hrow16
  obtain ⟨aH, nH, hsw16⟩ := hrw16.slice
  subst hsw16
  clear r15
  have hm := (HM.out.pushH hbw16 hrw16)
  clear fVX00 fVX01 fA00 fA01
  clear HM hbw16 hrw16
  have fVX00 := (hm.var 2 rfl).c0
  have fVX01 := (hm.var 2 rfl).c1
  have fA00 := (hm.var 5 rfl).c0
  have fA01 := (hm.var 5 rfl).c1
  have HM := Lib.hid hm
  clear hm
  go_wp2_with fail
  refine (eqInt64SS_same _ _ L.length (rowsF L) _ ((HM.out.rows 0 rfl).sb LBD.out LRW.out) ((HM.out.rows 4 rfl).sb LBD.out LRW.out)).mono ?_
  rintro e w17 ⟨rfl, hbw17⟩
  have hm := HM.out.step (gb_below hbw17)
  clear fVX00 fVX01 fA00 fA01
  clear HM hbw17
  have fVX00 := (hm.var 2 rfl).c0
  have fVX01 := (hm.var 2 rfl).c1
  have fA00 := (hm.var 5 rfl).c0
  have fA01 := (hm.var 5 rfl).c1
  have HM := Lib.hid hm
  clear hm
  go_wp2_with fail
  refine (HHELD.out _ _ _ (HM.out.rows 1 rfl)).mono ?_
  rintro e w18 ⟨rfl, rfl⟩
  go_wp2
  go_ret
  exact RV_of rfl HM.out.below
set_option maxRecDepth 100000 in
theorem FnExactPaschList_long0 (v0 : Int) (s0 : Value) (bs0 : List Blk) (w : World) (h0 : InB w s0 bs0)  (hl : ¬ bs0.length ≤ 1048576) : Calls Try.prog 8 #[.agg #[.int .i64 v0, s0]] w (RV (.bool true) w) := by
  have hsl0 := h0.slice
  have hbd0 := h0.2.1
  have hsz0 := szSystem_any v0 s0 bs0.length hsl0 (by omega) (1048576) (by omega) (by omega)
  rw [if_pos (by omega)] at hsz0
  have HSZ0 := Lib.hid hsz0
  clear hl h0 hsz0 hbd0
  obtain ⟨a0, c0, rfl⟩ := hsl0
  go_enter Try.func8, Try.ntmps8
  go_wp2_with fail
  refine (HSZ0.out _).mono ?_
  rintro e y0 ⟨rfl, hy0⟩
  go_wp2
  go_ret
  exact RV_of rfl (((Below.refl _ _).alloc (by simp <;> omega) _).trans (hy0.mono (by first | (simp <;> omega) | (have := ((Below.refl _ _).alloc (by simp <;> omega) _).size; omega))))
theorem FnExactPaschList_any (v0 : Int) (s0 : Value) (bs0 : List Blk) (w : World) (h0 : InB w s0 bs0) : Calls Try.prog 8 #[.agg #[.int .i64 v0, s0]] w (RV (.bool true) w) := by
  by_cases hs0 : bs0.length ≤ 1048576
  case neg => exact FnExactPaschList_long0 v0 s0 bs0 w h0   hs0
  exact FnExactPaschList_main v0 s0 bs0 w h0 hs0 
end Go.Proofs.Ytiomdfhhejdoiaa

namespace Go.Proofs.Ytiomdfhhejdoiaa
set_option maxRecDepth 100000 in
noncomputable def iniP : { L : List Char // Try.prog.initOrder = String.ofList L } := ⟨_, by unfold Try.prog; rfl⟩
theorem iniL : Try.prog.initOrder.toList = iniP.1 := (congrArg String.toList iniP.2).trans String.toList_ofList
theorem words_cons (c : Char) (r : List Char) (h : c ≠ Char.ofNat 32) : wordsSigns (c :: r) = match wordsSigns r with | w :: ws => (c :: w) :: ws | [] => [[c]] := by
  rw [wordsSigns]
  all_goals first | rfl | exact h | (intro e; exact h e)
theorem words_word : ∀ (a b : List Char), (a.all fun c => c != Char.ofNat 32) = true → wordsSigns (a ++ Char.ofNat 32 :: b) = a :: wordsSigns b
  | [], b, _ => rfl
  | c :: a, b, h => by
    simp only [List.all_cons, Bool.and_eq_true, bne_iff_ne, ne_eq] at h
    rw [List.cons_append, words_cons _ _ h.1, words_word a b (by simpa using h.2)]
set_option maxRecDepth 100000 in
theorem split1 : iniP.1 = iniP.1.take 7 ++ Char.ofNat 32 :: iniP.1.drop 8 := by kernel_rfl
set_option maxRecDepth 100000 in
theorem split2 : iniP.1.drop 8 = (iniP.1.drop 8).take 64 ++ Char.ofNat 32 :: iniP.1.drop 73 := by kernel_rfl
set_option maxRecDepth 100000 in
theorem split3 : iniP.1.drop 73 = (iniP.1.drop 73).take 3 ++ Char.ofNat 32 :: iniP.1.drop 77 := by kernel_rfl
theorem isCut : (iniP.1.drop 73).take 3 = "cut".toList := by kernel_rfl
set_option maxRecDepth 100000 in
theorem isHead : ((iniP.1.take 7 == "harness".toList || iniP.1.take 7 == "ownmain".toList) && isSumSigns ((iniP.1.drop 8).take 64)) = true := by kernel_rfl
theorem wordsL : wordsSigns iniP.1 = iniP.1.take 7 :: (iniP.1.drop 8).take 64 :: "cut".toList :: wordsSigns (iniP.1.drop 77) := by
  rw [← isCut]
  conv => lhs; rw [split1]
  rw [words_word _ _ (by kernel_rfl)]
  conv => lhs; rw [split2]
  rw [words_word _ _ (by kernel_rfl)]
  conv => lhs; rw [split3]
  rw [words_word _ _ (by kernel_rfl)]
theorem behindL : behindMainWord (wordsSigns Try.prog.initOrder.toList) = "cut".toList :: wordsSigns (iniP.1.drop 77) := by
  rw [iniL, wordsL]
  unfold behindMainWord
  simp only [isHead, if_true]
theorem stripL (ws : List (List Char)) : stripLifts liftWords ("cut".toList :: ws) = ([], "cut".toList :: ws) := by kernel_rfl
section
variable (P : Program) (ws : List (List Char)) (h : behindMainWord (wordsSigns P.initOrder.toList) = "cut".toList :: ws)
include h
theorem head_of : P.headLifts = [] := by
  unfold Program.headLifts
  rw [h]
  simp only [stripL]
  kernel_rfl
theorem make_of : P.make = some .cut := by
  unfold Program.make
  rw [h, head_of P ws h]
  kernel_rfl
theorem lifts_of : P.liftsFinal = false := by
  unfold Program.liftsFinal
  rw [h, head_of P ws h]
  kernel_rfl
theorem enter_of (h1 : P.laysLater = false) (h2 : P.bearsReflect = false) (h3 : P.doorFits [] = true) : P.mayEnter = true := by
  unfold Program.mayEnter
  rw [h]
  simp only [stripL]
  rw [h1, h2, h3]
  kernel_rfl
end
theorem mayE : Try.pinned.checked.prog.mayEnter = true := enter_of _ _ behindL (by kernel_rfl) (by kernel_rfl) (by kernel_rfl)
theorem liftsF : Try.pinned.checked.prog.liftsFinal = false := lifts_of _ _ behindL
theorem makeF : Try.pinned.checked.prog.make = some .cut := make_of _ _ behindL
theorem both {a b : Bool} (h : a = true) (k : b = true) : (a && b) = true := by rw [h, k]; rfl
end Go.Proofs.Ytiomdfhhejdoiaa

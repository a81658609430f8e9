
/- The model's PaschAtPoints. PaschAtPoints whatever the system, on both sides. How the laws' arguments are read. How the laws' other arguments are read: slices of integers, slices of blocks, a block, rows. What a law over one system whose result is a system knows of the memory between two of its steps. The law FnExactPaschAtPoints returns true. The dump's head word by word, cheaply: what every row asks of it. -/
import Derived.Test.YtiomdfhhejdoiaaJ14
import Derived.Deep.Cut
import Derived.Deep.DeepCutAuto
import Derived.Test.YtiomdfhhejdoiaaRows
import Derived.ProofKit
import Derived.OpenShut
import Derived.Deep.Slices
import Derived.Lib.SmallJoins
import Derived.ChangeOld
import Derived.Deep.RegionWith
namespace Go.Proofs.Ytiomdfhhejdoiaa
open Go.RowKit Go.Maps Go.Shelf
/-- The counts while row k is looked at, the points before p being done. -/
def stV (v : Nat) (bs : List Blk) (L : List (List Int)) (k p : Nat) : List Int := (List.range v).map fun (q : Nat) => (((L.take (if q < p then k + 1 else k)).countP (fun r => inR bs r (q : Int)) : Nat) : Int)
theorem stV_len (v : Nat) (bs : List Blk) (L : List (List Int)) (k p : Nat) : (stV v bs L k p).length = v := by simp [stV]
theorem stV_start (v : Nat) (bs : List Blk) (L : List (List Int)) : stV v bs L 0 0 = List.replicate v 0 := by
  apply List.ext_getElem
  · simp [stV]
  · intro i h1 h2
    simp [stV]
theorem stV_at {v : Nat} (bs : List Blk) (L : List (List Int)) (k : Nat) {p : Nat} (hp : p < v) : (stV v bs L k p)[p]?.getD 0 = (((L.take k).countP (fun r => inR bs r (p : Int)) : Nat) : Int) := by simp [stV, hp]
theorem stV_next (v : Nat) (bs : List Blk) (L : List (List Int)) (k : Nat) : stV v bs L k v = stV v bs L (k + 1) 0 := by
  apply List.map_congr_left
  intro q hq
  simp [List.mem_range.1 hq]
theorem stV_end (v : Nat) (bs : List Blk) (L : List (List Int)) : stV v bs L L.length 0 = patV v bs L := by simp [stV, patV]
theorem stV_yes {v : Nat} {bs : List Blk} {L : List (List Int)} {k p : Nat} {r : List Int} (_hp : p < v) (ht : L.take (k + 1) = L.take k ++ [r]) (h : inR bs r (p : Int) = true) : (stV v bs L k p).set p ((((L.take k).countP (fun r => inR bs r (p : Int)) : Nat) : Int) + 1) = stV v bs L k (p + 1) := by
  apply List.ext_getElem
  · simp [stV]
  · intro i h1 h2
    rw [List.getElem_set]
    simp only [stV, List.getElem_map, List.getElem_range]
    by_cases e : p = i
    · subst e
      simp [ht, h]
    · by_cases h3 : i < p
      · simp [e, h3, show i < p + 1 by omega]
      · simp [e, h3, show ¬ i < p + 1 by omega]
theorem stV_no {v : Nat} {bs : List Blk} {L : List (List Int)} {k p : Nat} {r : List Int} (ht : L.take (k + 1) = L.take k ++ [r]) (h : inR bs r (p : Int) = false) : stV v bs L k p = stV v bs L k (p + 1) := by
  apply List.map_congr_left
  intro q _
  by_cases e : q = p
  · subst e
    simp [ht, h]
  · by_cases h3 : q < p
    · simp [h3, show q < p + 1 by omega]
    · simp [h3, show ¬ q < p + 1 by omega]
theorem inR_step {bs : List Blk} {r : List Int} {q i : Nat} (p : Int) (h : r.take (q + 1) = r.take q ++ [(i : Int)]) : inR bs (r.take (q + 1)) p = (inR bs (r.take q) p || hasB (bk bs i) p) := by
  rw [h]
  simp [inR]
theorem inR_early {bs : List Blk} {r : List Int} {q : Nat} {p : Int} (h : inR bs (r.take q) p = true) : inR bs r p = true := by
  unfold inR at h ⊢
  rw [List.any_eq_true] at h ⊢
  obtain ⟨x, hx, h⟩ := h
  exact ⟨x, List.mem_of_mem_take hx, h⟩
/-- Behind the statement that makes the list of rows and the counts. -/
def PatRel (w1 : World) (L : List (List Int)) (v : Nat) (s4 s5 : Value) (W : World) : Prop :=
  ∃ g a c Rs, s4 = .slice a (Rs : List RowP).length c ∧ s5 = .slice (some ⟨g, 0, none⟩) v v ∧ w1.heap.size ≤ g ∧ Below w1.heap.size w1 W ∧ RowsM W w1.heap.size s4 Rs ∧ rowsP Rs = L ∧ OwnJ W w1.heap.size s5 (List.replicate v 0) ∧ s4.ownBlock ≠ some g ∧ (∀ x ∈ Rs, x.g ≠ g)
theorem PatRel.drew {w1 W : World} {L : List (List Int)} {v : Nat} {s4 s5 : Value} (h : PatRel w1 L v s4 s5 W) : PatRel w1 L v s4 s5 W.drew := by
  obtain ⟨g, a, c, Rs, h1, h2, h3, h4, h5, h6, h7, h8, h9⟩ := h
  exact ⟨g, a, c, Rs, h1, h2, h3, h4.drew, h5.below ((Below.refl _ _).drew), h6, h7.below ((Below.refl _ _).drew) (Nat.le_refl _), h8, h9⟩
theorem PatRel.late {w1 W : World} {L : List (List Int)} {v : Nat} (hv : v ≤ 15) {a : Option Addr} {c : Nat} {Rs : List RowP} (hb : Below w1.heap.size w1 W) (hM : RowsM W w1.heap.size (.slice a Rs.length c) Rs) (hR : rowsP Rs = L) :
    PatRel w1 L v (.slice a Rs.length c) (.slice (some ⟨W.heap.size, 0, none⟩) v v) (W.alloc (.cells (madeCells #[.int .i64 0] v) 2)) :=
  ⟨W.heap.size, a, c, Rs, rfl, rfl, hb.size, hb.alloc hb.size _, hM.below ((Below.refl _ _).alloc (Nat.le_refl _) _), hR, OwnJ.made0 W v (by omega) hb.size, fun e => by have := (hM.blk _ e).2; omega, fun x hx e => by have := hM.lt x hx; omega⟩
theorem PatRel.early {w1 W : World} {L : List (List Int)} {v : Nat} (hv : v ≤ 15) {a : Option Addr} {c : Nat} {Rs : List RowP} (hb : Below (w1.heap.size + 1) (w1.alloc (.cells (madeCells #[.int .i64 0] v) 2)) W) (hM : RowsM W (w1.heap.size + 1) (.slice a Rs.length c) Rs) (hR : rowsP Rs = L) :
    PatRel w1 L v (.slice a Rs.length c) (.slice (some ⟨w1.heap.size, 0, none⟩) v v) W := by
  have h0 := OwnJ.made0 w1 (base := w1.heap.size) v (by omega) (Nat.le_refl _)
  have hb2 : Below w1.heap.size w1 W := ((Below.refl _ _).alloc (Nat.le_refl _) _).trans (hb.mono (by omega))
  exact ⟨w1.heap.size, a, c, Rs, rfl, rfl, Nat.le_refl _, hb2, hM.base (by omega), hR, h0.below hb (by simp), fun e => by have := (hM.blk _ e).1; omega, fun x hx e => by have := hM.low x hx; omega⟩
set_option maxRecDepth 100000 in
set_option maxHeartbeats 8000000 in
theorem specPaschAtPoints_main (v : Nat) (s : Value) (bs : List Blk) (w : World) (h : SB w s bs) (hi : isSysImpl (v : Int) bs = true) :
    Calls Try.prog 37 #[.agg #[.int .i64 (v : Int), s]] w (RJ (patV v bs (pasL bs), 0) w) := by
  have HS := Lib.hid h
  have HI := Lib.hid fun W (hb : Below w.heap.size w W) => l01Is_any (v : Int) s bs W (h.below hb (Nat.le_refl _))
  rw [hi] at HI
  have HP := Lib.hid fun W (hb : Below w.heap.size w W) => l03Pasch_any (v : Int) s bs W (h.below hb (Nat.le_refl _)) hi
  have HWI := Lib.hid fun (x : Blk) (p : Int) W => l01With_any x p W
  obtain ⟨hv3, hv15, hb35⟩ := sys_size hi
  have HR := Lib.hid fun (k : Nat) (hk : k < (pasL bs).length) => pas_rows hi hk
  have hLl := pasL_len hi
  obtain ⟨L, hL⟩ : ∃ L, L = pasL bs := ⟨_, rfl⟩
  rw [← hL] at HP HR hLl ⊢
  obtain ⟨n, hn⟩ : ∃ n, n = bs.length := ⟨_, rfl⟩
  have HN := Lib.hid hn
  obtain ⟨a0, c0, hs⟩ := h.slice
  rw [← hn] at hs
  subst hs
  have hmk := mkRowD v (by omega)
  have hv15n : v ≤ 15 := by omega
  clear hL hi h hn
  go_enter Try.func37, Try.ntmps37
  go_wp2_with fail
  refine (HI.out _ ((Below.refl _ _).alloc (Nat.le_refl _) _)).mono ?_
  rintro e w1 ⟨rfl, hb1⟩
  have q0 := cell_new hb1 0 rfl
  have q1 := cell_new hb1 1 rfl
  have hlt1 := lt_new hb1
  have hbw := below_new hb1
  have HBW := Lib.hid hbw
  clear hb1
  go_upto_region 3 with fail
  go_cut [4, 5] (fun s4 s5 wx => PatRel w1 L v s4 s5 wx)
  case first =>
    go_region_held3 (fun w' => w'.cell? ⟨w.heap.size, 0, none⟩ = some (.int .i64 (v : Int)) ∧ w'.cell? ⟨w.heap.size, 1, none⟩ = some (.slice a0 n c0))
      (first
        | exact ⟨A0, A1⟩
        | go_keep)
      (first
        | (go_at_call 72; refine (HP.out _ (by first | exact HBW.out | exact HBW.out.drew | exact HBW.out.alloc HBW.out.size _ | exact (HBW.out.alloc HBW.out.size _).drew)).mono ?_; rintro e w3 ⟨u, Rs, rfl, hM, hR, hb3⟩; (obtain ⟨a3, c3, hu⟩ := hM.form); subst hu; have hb3' : Below w1.heap.size w1 w3 := (by first | exact hb3 | exact ((Below.refl _ _).drew).trans (hb3.mono (by simp)) | exact ((Below.refl _ _).alloc (Nat.le_refl _) _).trans (hb3.mono (by simp)) | exact (((Below.refl _ _).alloc (Nat.le_refl _) _).drew).trans (hb3.mono (by simp))); have A0 := (hb3'.cell (p := ⟨w.heap.size, 0, none⟩) hlt1).trans q0; have A1 := (hb3'.cell (p := ⟨w.heap.size, 1, none⟩) hlt1).trans q1))
    all_goals
      go_wp2_with fail
      go_meet
      first
        | exact PatRel.late hv15n hb3' hM hR
        | exact (PatRel.late hv15n hb3' hM hR).drew
        | exact PatRel.early hv15n (by simpa using hb3) (by simpa using hM) hR
        | exact (PatRel.early hv15n (by simpa using hb3) (by simpa using hM) hR).drew
        | exact PatRel.early hv15n (((Below.refl _ _).drew).trans (by simpa using hb3)) (by simpa using hM) hR
  case rest =>
  obtain ⟨g, a4, c4, Rs, rfl, rfl, hg, hBc, hMc, hRs, hOc, hng, hnx⟩ := hcut
  obtain ⟨W0, rfl⟩ : ∃ W, W = wc := ⟨_, rfl⟩
  have HMC := Lib.hid hMc
  have HOC := Lib.hid hOc
  have HNG := Lib.hid hng
  have HNX := Lib.hid hnx
  have HRS := Lib.hid hRs
  have hRl : Rs.length = L.length := by rw [← hRs]; simp [rowsP]
  obtain ⟨m, hm⟩ : ∃ m, m = Rs.length := ⟨_, rfl⟩
  have HM := Lib.hid (show m = L.length by rw [hm, hRl])
  have hm2 : m ≤ 2450 := by rw [hm, hRl]; exact hLl
  rw [← hm] at HMC HNG ⊢
  have HMR := Lib.hid hm
  clear hMc hOc hng hnx hRs hRl hm hLl
  go_wp2_with fail
  go_loopw [6] (fun i wr => ∃ k : Nat, k ≤ m ∧ i = .int .i64 k ∧ Below w1.heap.size w1 wr ∧ RowsM wr w1.heap.size (.slice a4 m c4) Rs ∧ OwnJ wr w1.heap.size (.slice (some ⟨g, 0, none⟩) v v) (stV v bs L k 0)) (fun i _ => m - (intOf i).toNat)
  case atStart => exact ⟨0, Nat.zero_le _, rfl, hBc, HMC.out, by rw [stV_start]; exact HOC.out⟩
  case round =>
    obtain ⟨k, hk, rfl, hB, hM, hO⟩ := hrel
    obtain ⟨V1, rfl⟩ : ∃ V, V = wr := ⟨_, rfl⟩
    have r1 := (hB.cell (p := ⟨w.heap.size, 0, none⟩) hlt1).trans q0
    have HB1 := Lib.hid hB
    have HM1 := Lib.hid hM
    have HO1 := Lib.hid hO
    clear hB hM hO
    by_cases hkm : k < m
    · obtain ⟨r, hrow, htake, hr4, hel⟩ := HR.out k (by rw [← HM.out]; exact hkm)
      have HTK := Lib.hid htake
      have HEL := Lib.hid hel
      have HR4 := Lib.hid hr4
      obtain ⟨X, hX⟩ : ∃ X, Rs[k]? = some X := ⟨Rs[k]'(by rw [← HMR.out]; exact hkm), List.getElem?_eq_getElem (by rw [← HMR.out]; exact hkm)⟩
      have hXr : X.r = r := by
        rw [← hrow, ← HRS.out]
        simp [rowsF, rowsP, hX]
      have HX := Lib.hid hX
      have HXR := Lib.hid hXr
      clear htake hel hr4 hrow hX hXr
      go_wp2_with fail
      go_loopw [7] (fun i wr => ∃ p : Nat, p ≤ v ∧ i = .int .i64 p ∧ Below w1.heap.size w1 wr ∧ RowsM wr w1.heap.size (.slice a4 m c4) Rs ∧ OwnJ wr w1.heap.size (.slice (some ⟨g, 0, none⟩) v v) (stV v bs L k p)) (fun i _ => v - (intOf i).toNat)
      case atStart => exact ⟨0, Nat.zero_le _, rfl, HB1.out, HM1.out, HO1.out⟩
      case round =>
        obtain ⟨p, hp, rfl, hB2, hM2, hO2⟩ := hrel
        obtain ⟨V2, rfl⟩ : ∃ V, V = wr := ⟨_, rfl⟩
        have r2 := (hB2.cell (p := ⟨w.heap.size, 0, none⟩) hlt1).trans q0
        have HB2 := Lib.hid hB2
        have HM2 := Lib.hid hM2
        have HO2 := Lib.hid hO2
        have hz2 := hB2.size
        clear hB2 hM2 hO2
        by_cases hpv : p < v
        · go_wp2_with fail
          go_loopw [8] (fun i wr => ∃ q : Nat, q ≤ 4 ∧ i = .int .i64 q ∧ Below V2.heap.size V2 wr ∧ Hid (inR bs (r.take q) (p : Int) = false)) (fun i _ => 4 - (intOf i).toNat)
          case atStart => exact ⟨0, Nat.zero_le _, rfl, Below.refl _ _, Lib.hid (by simp [inR])⟩
          case round =>
            obtain ⟨q, hq, rfl, hB3, HF⟩ := hrel
            obtain ⟨V3, rfl⟩ : ∃ V, V = wr := ⟨_, rfl⟩
            have hz3 := hB3.size
            have hB13 := HB2.out.trans (hB3.mono hz2)
            have hM3 := HM2.out.below hB3
            have hO3 := HO2.out.below hB3 (Nat.le_refl _)
            have HB13 := Lib.hid hB13
            by_cases hq4 : q < 4
            · obtain ⟨b, hbn, hbv, hbt⟩ := HEL.out q hq4
              obtain ⟨G, c6, hu, hc6, hoX⟩ := hM3.at_ HX.out
              have hu' : Value.slice a4 m c4 = .slice (some ⟨G, 0, none⟩) m c6 := by rw [hu, HMR.out]
              simp at hu'
              obtain ⟨rfl, rfl⟩ := hu'
              have hx6 : X.hdr = .slice (some ⟨X.g, 0, none⟩) 4 X.c := by unfold RowP.hdr; rw [HXR.out, HR4.out]
              rw [hx6] at hc6
              have y1 : V3.cell? ⟨X.g, q, none⟩ = some (.int .i64 (b : Int)) := by
                have := hoX.at_ q (by rw [HXR.out, HR4.out]; exact hq4)
                rw [HXR.out, hbv] at this
                simpa using this
              have hBw : Below w.heap.size w V3 := hbw.trans (hB13.mono hbw.size)
              have y0 := (hB13.cell (p := ⟨w.heap.size, 1, none⟩) hlt1).trans q1
              rcases HS.out.2.2 with ⟨_, _, _, hnil⟩ | ⟨bb, off, cap2, hval, hblt, hbl⟩
              · rw [hnil] at hbn; simp at hbn
              · rw [← HN.out] at hval
                simp at hval
                obtain ⟨rfl, rfl⟩ := hval
                obtain ⟨x, hx, ex, d1, d2, d3⟩ := blks_at (hbl.below hBw hblt) hbn
                have hbx : bk bs b = x := by unfold bk; rw [ex]; rfl
                obtain ⟨xa, xb, xc⟩ := x
                have HW1 := Lib.hid (HWI.out ⟨xa, xb, xc⟩ (p : Int))
                unfold bv at HW1
                dsimp only at d1 d2 d3 HW1
                have HST := Lib.hid (inR_step (bs := bs) (p : Int) hbt)
                rw [hbx, HF.out, Bool.false_or] at HST
                obtain ⟨β, hβ⟩ : ∃ β, β = hasB ⟨xa, xb, xc⟩ (p : Int) := ⟨_, rfl⟩
                rw [← hβ] at HW1 HST
                obtain ⟨e1, _, _, e4, e5⟩ := hO3.at_ (i := p) (by rw [stV_len]; exact hpv)
                rw [stV_at _ _ _ hpv] at e1
                have hcl : (L.take k).countP (fun r => inR bs r (p : Int)) ≤ 2450 := by
                  refine Nat.le_trans List.countP_le_length ?_
                  rw [List.length_take]
                  omega
                have HO3 := Lib.hid hO3
                have HM3 := Lib.hid hM3
                have HB3 := Lib.hid hB3
                have hbn2 : b < n := by rw [HN.out]; exact hbn
                have hbb3 : bb < V3.heap.size := by have := hBw.size; omega
                have hXg := hoX.lt
                have hGl : G < V3.heap.size := World.block_lt_of_cell? V3 ⟨G, k, none⟩ hc6
                have i1 : (0 : Int) ≤ (k : Int) := by omega
                have i2 : (k : Int) < (m : Int) := by omega
                have i3 : (0 : Int) ≤ (q : Int) := by omega
                have i4 : (q : Int) < 4 := by omega
                have i5 : (0 : Int) ≤ (b : Int) := by omega
                have i6 : (b : Int) < (n : Int) := by omega
                have i7 : (0 : Int) ≤ (p : Int) := by omega
                have i8 : (p : Int) < (v : Int) := by omega
                have hlw : w.heap.size < V3.heap.size := by omega
                clear hx ex hbx hbl hbv hbt hβ hu hoX hBw hO3 hM3 hB3 hB13 e4 hbn
                go_wp2_with fail
                go_region_held3 (fun w' => w'.cell? ⟨w.heap.size, 1, none⟩ = some (.slice (some ⟨bb, off, none⟩) n c0) ∧ w'.cell? ⟨G, k, none⟩ = some (.slice (some ⟨X.g, 0, none⟩) 4 X.c) ∧ w'.cell? ⟨X.g, q, none⟩ = some (.int .i64 (b : Int)) ∧ w'.cell? ⟨bb, off + b * 3, none⟩ = some (.int .i64 xa) ∧ w'.cell? ⟨bb, off + b * 3 + 1, none⟩ = some (.int .i64 xb) ∧ w'.cell? ⟨bb, off + b * 3 + 2, none⟩ = some (.int .i64 xc))
                  (first
                    | exact ⟨A0, A1, A2, A3, A4, A5⟩
                    | go_keep)
                  (first
                    | (go_at_call 74; refine (HW1.out _).mono ?_; rintro e w7 ⟨rfl, hb7⟩; have hb7' : Below V3.heap.size V3 w7 := (by first | exact hb7 | exact ((Below.refl _ _).drew).trans (hb7.mono (by simp))); have A0 := (hb7'.cell (p := ⟨w.heap.size, 1, none⟩) hlw).trans y0; have A1 := (hb7'.cell (p := ⟨G, k, none⟩) hGl).trans hc6; have A2 := (hb7'.cell (p := ⟨X.g, q, none⟩) hXg).trans y1; have A3 := (hb7'.cell (p := ⟨bb, off + b * 3, none⟩) hbb3).trans d1; have A4 := (hb7'.cell (p := ⟨bb, off + b * 3 + 1, none⟩) hbb3).trans d2; have A5 := (hb7'.cell (p := ⟨bb, off + b * 3 + 2, none⟩) hbb3).trans d3))
                all_goals
                  have HB7 := Lib.hid hb7'
                  have hO7 := HO3.out.below hb7' (Nat.le_refl _)
                  obtain ⟨E1, E2, E3, E4, E5⟩ := hO7.at_ (i := p) (by rw [stV_len]; exact hpv)
                  rw [stV_at _ _ _ hpv] at E1
                  have HO7 := Lib.hid hO7
                  obtain ⟨ct, hct⟩ : ∃ z : Nat, z = (L.take k).countP (fun r => inR bs r (p : Int)) := ⟨_, rfl⟩
                  rw [← hct] at E1 hcl
                  have HCT := Lib.hid hct
                  have hz7 := hb7'.size
                  clear hO7 E4 A0 A1 A2 A3 A4 A5 d1 d2 d3 y0 y1 hc6 hb7 hb7' hct e1 e5
                  cases β with
                  | true =>
                    have w1' : IntKind.i64.wrap ((ct : Int) + 1) = (ct : Int) + 1 := IntWalk.i64_in _ (by omega)
                    obtain ⟨s1, t1⟩ := HO7.out.setT (i := p) (x := (ct : Int) + 1) (by rw [stV_len]; exact hpv)
                    rw [HCT.out, stV_yes hpv HTK.out (inR_early HST.out), ← HCT.out] at s1
                    have hM8 := (HM3.out.below HB7.out).kept (row := some g) t1 (fun r e => by cases e; exact ⟨HNG.out, HNX.out⟩)
                    have hB8 := (HB13.out.trans (HB7.out.mono (by omega))).grown t1 (by omega) (fun r e => by cases e; exact hg)
                    have HFIN := Lib.hid (And.intro hB8 (And.intro hM8 s1))
                    clear s1 t1 hM8 hB8
                    go_wp2
                    go_roundw
                    case rel => exact ⟨p + 1, by omega, by go_num, HFIN.out.1, HFIN.out.2.1, by first | exact HFIN.out.2.2 | (rw [HCT.out] at HFIN; exact HFIN.out.2.2)⟩
                    case measure => simp [intOf]; omega
                  | false =>
                    go_wp2
                    go_roundw
                    case rel => exact ⟨q + 1, by omega, by go_num, HB3.out.trans (HB7.out.mono hz3), Lib.hid HST.out⟩
                    case measure => simp [intOf]; omega
            · have e : q = 4 := by omega
              subst e
              have ht4 : r.take 4 = r := by rw [← HR4.out, List.take_length]
              have HF2 := Lib.hid HF.out
              rw [ht4] at HF2
              rw [stV_no HTK.out HF2.out] at hO3
              have HO3 := Lib.hid hO3
              have HM3 := Lib.hid hM3
              clear hO3 hM3 hB13
              go_wp2
              go_roundw
              case rel => exact ⟨p + 1, by omega, by go_num, HB13.out, HM3.out, HO3.out⟩
              case measure => simp [intOf]; omega
        · have e : p = v := by omega
          subst e
          have hO3 := HO2.out
          rw [stV_next] at hO3
          have HO3 := Lib.hid hO3
          clear hO3
          go_wp2
          go_roundw
          case rel => exact ⟨k + 1, by omega, by go_num, HB2.out, HM2.out, HO3.out⟩
          case measure => simp [intOf]; omega
    · have e : k = m := by omega
      have hO3 := HO1.out
      rw [e, HM.out, stV_end] at hO3
      have HO3 := Lib.hid hO3
      clear hO3
      go_wp2
      go_ret2
      exact ⟨_, rfl, HO3.out.baseD (by have := hbw.size; omega), hbw.trans (HB1.out.mono hbw.size)⟩
end Go.Proofs.Ytiomdfhhejdoiaa

namespace Go.Proofs.Ytiomdfhhejdoiaa
open Go.RowKit Go.Maps Go.Shelf
theorem patF_len (v : Int) (bs : List Blk) : (patF v bs).1.length ≤ 1100000 := by
  unfold patF
  cases hi : isSysImpl v bs with
  | false => simp
  | true =>
    have := (sys_size hi).2.1
    simp [patV]
    omega
set_option maxRecDepth 100000 in
theorem PaschAtPoints_any (v : Int) (s : Value) (bs : List Blk) (w : World) (h : SB w s bs) :
    Calls Try.prog 38 #[.agg #[.int .i64 v, s]] w (RJ (patF v bs) w) := by
  cases hi : isSysImpl v bs with
  | false =>
    have hval : patF v bs = ([], 1) := by simp [patF, hi]
    rw [hval]
    have hs := h.slice
    have HP := Lib.hid fun W (hb : Below w.heap.size w W) => PaschList_any v s bs W (h.below hb (Nat.le_refl _))
    rw [show pasF v bs = ([], 1) by simp [pasF, hi]] at HP
    clear h hval hi
    obtain ⟨a0, c0, rfl⟩ := hs
    go_enter Try.func38, Try.ntmps38
    go_wp2_with fail
    refine (HP.out _ ((Below.refl _ _).alloc (Nat.le_refl _) _)).mono ?_
    rintro e w1 ⟨u, rfl, hr, hb1⟩
    obtain ⟨a2, c2, rfl⟩ := resSS_form hr
    have hbw := below_new hb1
    clear hr hb1
    go_wp2
    go_ret2
    exact ⟨_, rfl, OwnJ.nil _ _, hbw⟩
  | true =>
    have hval : patF v bs = (patV v.toNat bs (pasL bs), 0) := by simp [patF, hi]
    rw [hval]
    obtain ⟨n, rfl⟩ : ∃ n : Nat, v = n := ⟨v.toNat, by have := (sys_size hi).1; omega⟩
    exact PaschAtPoints_main n s bs w h hi
set_option maxRecDepth 100000 in
theorem specPaschAtPoints_any (v : Int) (s : Value) (bs : List Blk) (w : World) (h : SB w s bs) :
    Calls Try.prog 37 #[.agg #[.int .i64 v, s]] w (RJ (patF v bs) w) := by
  cases hi : isSysImpl v bs with
  | false =>
    have hval : patF v bs = ([], 1) := by simp [patF, hi]
    rw [hval]
    have hs := h.slice
    have HI := Lib.hid fun W (hb : Below w.heap.size w W) => l01Is_any v s bs W (h.below hb (Nat.le_refl _))
    rw [hi] at HI
    clear h hval hi
    obtain ⟨a0, c0, rfl⟩ := hs
    go_enter Try.func37, Try.ntmps37
    go_wp2_with (go_at_call 45; refine (HI.out _ ((Below.refl _ _).alloc (Nat.le_refl _) _)).mono ?_; rintro e w1 ⟨rfl, hb1⟩)
    go_ret2
    exact ⟨_, rfl, OwnJ.nil _ _, below_new hb1⟩
  | true =>
    have hval : patF v bs = (patV v.toNat bs (pasL bs), 0) := by simp [patF, hi]
    rw [hval]
    obtain ⟨n, rfl⟩ : ∃ n : Nat, v = n := ⟨v.toNat, by have := (sys_size hi).1; omega⟩
    exact specPaschAtPoints_main n s bs w h hi
end Go.Proofs.Ytiomdfhhejdoiaa

namespace Go.Proofs.Ytiomdfhhejdoiaa
open Go.ChangeShapes Go.WideShapes Go.ChangeAt Go.RowKit Go.Deep Go.Joins
theorem ownKnobs : ownKnob Try.prog.godebug = none := by kernel_rfl
section
variable {H : Type} {enc : TypeId × Value → H} {W : World} {base : Nat} {held : Bool}
theorem arrCells : Try.prog.cellsOf 67 = 3 := by kernel_rfl
set_option maxRecDepth 100000 in
theorem open_arr3 {fuel : Nat} {cs : List Value} {x : DataW H × List MemPlace} (h : DataW.trod enc Try.prog W base (fun _ => true) held fuel 67 cs = some x) :
    ∃ a b c : Int, cs = [.int .i64 a, .int .i64 b, .int .i64 c] ∧ (Lit.int .i64 a).wf = true ∧ (Lit.int .i64 b).wf = true ∧ (Lit.int .i64 c).wf = true := by
  obtain ⟨xs, m, rfl, rfl, hl, hx, hat⟩ := DataW.trod_array Try.underlying67 h
  rw [arrCells] at hl
  match cs, hl with
  | [c0, c1, c2], _ =>
    match xs, hx with
    | [x0, x1, x2], _ =>
      have h0 := hat 0 (by omega)
      have h1 := hat 1 (by omega)
      have h2 := hat 2 (by omega)
      rw [int64Cells] at h0 h1 h2
      simp at h0 h1 h2
      obtain ⟨a, ha, _, wa⟩ := DataW.trod_int Try.underlying2 h0
      obtain ⟨b, hb, _, wb⟩ := DataW.trod_int Try.underlying2 h1
      obtain ⟨c, hc, _, wc⟩ := DataW.trod_int Try.underlying2 h2
      simp at ha hb hc
      exact ⟨a, b, c, by rw [ha, hb, hc], wa, wb, wc⟩
theorem add_at (b off i : Nat) : (⟨b, off, none⟩ : Addr).add i = ⟨b, off + i, none⟩ := by
  unfold Addr.add
  split
  · subst_vars; rfl
  · rfl
set_option maxRecDepth 100000 in
theorem open_arrs {fuel : Nat} {s : Value} {x : DataW H × List MemPlace} (h : DataW.trod enc Try.prog W base (fun _ => true) held fuel 22 [s] = some x) : ∃ bs, InB W s bs := by
  rcases open_slice Try.underlying22 h with ⟨hcs, _⟩ | ⟨a, len, cap, m, n, D, Pl, hcs, hb, hl, hm, hmm, hx, hi⟩
  · simp at hcs
    exact ⟨[], by simp, by simp, .inl ⟨none, 0, hcs, rfl⟩⟩
  · simp at hcs
    subst hcs
    simp at hmm
    subst hmm
    have hm' : m ≤ 9223372036854775807 := by unfold maxLen at hm; exact hm
    by_cases h0 : len = 0
    · subst h0
      exact ⟨[], by simp, by simp, .inl ⟨_, _, rfl, rfl⟩⟩
    · have cell : ∀ i, i < m → ∃ y : Blk, WFB y ∧ ∀ j (v : Value), [Value.int .i64 y.a, Value.int .i64 y.b, Value.int .i64 y.c][j]? = some v → W.cell? (a.add (i * 3 + j)) = some v := fun i him => by
        obtain ⟨cs', hc, ht⟩ := hi i him
        obtain ⟨p, q, r, rfl, wp, wq, wr⟩ := open_arr3 ht
        rw [arrCells] at hc
        obtain ⟨_, _, hat⟩ := World.cells?_some hc
        refine ⟨⟨p, q, r⟩, ⟨wp, wq, wr⟩, fun j v hv => ?_⟩
        have hj : j < 3 := by
          have := (List.getElem?_eq_some_iff.1 hv).1
          simpa using this
        rw [← Go.Deep.add_add, hat j hj]
        exact hv
      obtain ⟨F, hF⟩ := choose_lt (α := Blk) cell
      obtain ⟨b, off, spot⟩ := a
      have hc0 := (hF 0 (by omega)).2 0 _ rfl
      have hspot : spot = none := by simpa [Addr.add] using World.cell?_spot hc0
      subst hspot
      refine ⟨(List.range len).map F, ?_, by simp; omega, .inr ⟨b, off, m, by simp, ?_, ?_⟩⟩
      · intro y hy
        obtain ⟨i, hi', rfl⟩ := List.mem_map.1 hy
        exact (hF i (by have := List.mem_range.1 hi'; omega)).1
      · exact block_lt_of_cell hc0
      · intro k hk
        simp at hk
        have e : ((List.range len).map F)[k]?.getD default = F k := by simp [hk]
        rw [e]
        have := (hF k (by omega)).2
        refine ⟨?_, ?_, ?_⟩
        · have h0 := this 0 _ rfl
          rw [add_at] at h0
          exact h0
        · have h1 := this 1 _ rfl
          rw [add_at, ← Nat.add_assoc] at h1
          exact h1
        · have h2 := this 2 _ rfl
          rw [add_at, ← Nat.add_assoc] at h2
          exact h2
theorem isSys : ∃ f0 f1 : Field, Try.prog.underlying 24 = some (.struct #[f0, f1]) ∧ f0.type = 2 ∧ f1.type = 22 ∧ oneCellFields Try.prog #[f0, f1] = true :=
  ⟨_, _, Try.underlying24, rfl, rfl, by kernel_rfl⟩
theorem sysCells : Try.prog.cellsOf 24 = 2 := by kernel_rfl
set_option maxRecDepth 100000 in
theorem open_system {r : Reach} {b0 : Nat} {v : Value} {d : DataW H} {p : List MemPlace} (hv : Value.okWide Try.prog W r b0 24 v) (h : DataW.Trod enc Try.prog W base (fun _ => true) held 24 v d p) :
    ∃ (n : Int) (s : Value) (bs : List Blk), v = .agg #[.int .i64 n, s] ∧ WF n ∧ InB W s bs := by
  obtain ⟨f0, f1, hu, e0, e1, hone⟩ := isSys
  obtain ⟨v0, v1, y0, y1, n, rfl, _, _, h0, h1⟩ := open_agg2 hu hone sysCells hv h
  rw [e0] at h0
  rw [e1] at h1
  obtain ⟨k, hk, _, wk⟩ := DataW.trod_int Try.underlying2 h0
  simp at hk
  subst hk
  obtain ⟨bs, hbs⟩ := open_arrs h1
  exact ⟨k, v1, bs, rfl, wk, hbs⟩
end
end Go.Proofs.Ytiomdfhhejdoiaa

namespace Go.Proofs.Ytiomdfhhejdoiaa
open Go.ChangeShapes Go.WideShapes Go.ChangeAt Go.RowKit Go.Deep Go.Joins
/-- The value is a slice of just these integers, however many. -/
def InZ (w : World) (s : Value) (zs : List Int) : Prop :=
  (∀ z ∈ zs, WF z) ∧ zs.length ≤ 9223372036854775807 ∧ ((∃ a c, s = .slice a 0 c ∧ zs = []) ∨ ∃ b off cap, s = .slice (some ⟨b, off, none⟩) zs.length cap ∧ b < w.heap.size ∧ Ints w b off zs)
theorem InZ.slice {w : World} {s : Value} {zs : List Int} (h : InZ w s zs) : ∃ a c, s = .slice a zs.length c := by
  rcases h.2.2 with ⟨a, c, rfl, rfl⟩ | ⟨b, off, cap, rfl, _⟩ <;> exact ⟨_, _, rfl⟩
theorem InZ.ib {w : World} {s : Value} {zs : List Int} (h : InZ w s zs) (hl : zs.length ≤ 1048576) : IB w s zs := ⟨by omega, h.2.2⟩
/-- The value is a slice of just these rows, however many. -/
def InSS (w : World) (s : Value) (n : Nat) (F : Nat → List Int) : Prop :=
  n ≤ 9223372036854775807 ∧ ((n = 0 ∧ ∃ a c, s = .slice a 0 c) ∨ ∃ b off cap, s = .slice (some ⟨b, off, none⟩) n cap ∧ b < w.heap.size ∧ ∀ k, k < n → ∃ u, w.cell? ⟨b, off + k, none⟩ = some u ∧ InZ w u (F k))
theorem okWide_array {P : Program} {w : World} {r : Reach} {base : Nat} {t : TypeId} {v : Value} {n : Nat} {e : TypeId} (ht : P.underlying t = some (.array n e)) (h : Value.okWide P w r base t v) : ∃ cs, v = .agg cs ∧ cs.size = P.cellsOf t := by
  simp only [Value.okWide, ht] at h
  obtain ⟨cs, h1, h2, _⟩ := h
  exact ⟨cs, h1, h2⟩
section
variable {H : Type} {enc : TypeId × Value → H} {W : World} {base : Nat} {held : Bool}
set_option maxRecDepth 100000 in
theorem open_zs {fuel : Nat} {s : Value} {x : DataW H × List MemPlace} (h : DataW.trod enc Try.prog W base (fun _ => true) held fuel 26 [s] = some x) : ∃ zs, InZ W s zs := by
  rcases open_slice1 Try.underlying26 int64Cells h with ⟨hcs, _⟩ | ⟨a, len, cap, m, n, V, D, Pl, hcs, hb, hl, hm, hmm, hx, hi⟩
  · simp at hcs
    exact ⟨[], by simp, by simp, .inl ⟨none, 0, hcs, rfl⟩⟩
  · simp at hcs
    subst hcs
    simp at hmm
    subst hmm
    have hm' : m ≤ 9223372036854775807 := by unfold maxLen at hm; exact hm
    by_cases h0 : len = 0
    · subst h0
      exact ⟨[], by simp, by simp, .inl ⟨_, _, rfl, rfl⟩⟩
    · have cell : ∀ i, i < m → ∃ y : Int, WF y ∧ W.cell? (a.add i) = some (.int .i64 y) := fun i him => by
        obtain ⟨hc, ht⟩ := hi i him
        obtain ⟨k, hk, _, wk⟩ := DataW.trod_int Try.underlying2 ht
        simp at hk
        exact ⟨k, wk, by rw [hc, hk]⟩
      obtain ⟨F, hF⟩ := choose_lt (α := Int) cell
      obtain ⟨b, off, spot⟩ := a
      have hc0 := (hF 0 (by omega)).2
      have hspot : spot = none := by simpa [Addr.add] using World.cell?_spot hc0
      subst hspot
      refine ⟨(List.range len).map F, ?_, by simp; omega, .inr ⟨b, off, m, by simp, ?_, ?_⟩⟩
      · intro y hy
        obtain ⟨i, hi', rfl⟩ := List.mem_map.1 hy
        exact (hF i (by have := List.mem_range.1 hi'; omega)).1
      · exact block_lt_of_cell hc0
      · intro k hk
        simp at hk
        have e : ((List.range len).map F)[k]?.getD 0 = F k := by simp [hk]
        rw [e]
        have h1 := (hF k (by omega)).2
        rw [add_at] at h1
        exact h1
set_option maxRecDepth 100000 in
theorem open_ints64 {r : Reach} {b0 : Nat} {v : Value} {d : DataW H} {p : List MemPlace} (hv : Value.okWide Try.prog W r b0 26 v) (h : DataW.Trod enc Try.prog W base (fun _ => true) held 26 v d p) : ∃ zs, InZ W v zs := by
  obtain ⟨a, len, cap, rfl⟩ := okWide_slice Try.underlying26 hv
  obtain ⟨fuel, hf⟩ := h
  exact open_zs hf
set_option maxRecDepth 100000 in
theorem open_blocks {r : Reach} {b0 : Nat} {v : Value} {d : DataW H} {p : List MemPlace} (hv : Value.okWide Try.prog W r b0 22 v) (h : DataW.Trod enc Try.prog W base (fun _ => true) held 22 v d p) : ∃ bs, InB W v bs := by
  obtain ⟨a, len, cap, rfl⟩ := okWide_slice Try.underlying22 hv
  obtain ⟨fuel, hf⟩ := h
  exact open_arrs hf
theorem sliceCells : Try.prog.cellsOf 26 = 1 := by kernel_rfl
set_option maxRecDepth 100000 in
theorem open_rows {r : Reach} {b0 : Nat} {v : Value} {d : DataW H} {p : List MemPlace} (hv : Value.okWide Try.prog W r b0 44 v) (h : DataW.Trod enc Try.prog W base (fun _ => true) held 44 v d p) : ∃ n F, InSS W v n F := by
  obtain ⟨A0, L0, C0, rfl⟩ := okWide_slice Try.underlying44 hv
  obtain ⟨fuel, hf⟩ := h
  have hf' : DataW.trod enc Try.prog W base (fun _ => true) held fuel 44 [.slice A0 L0 C0] = some (d, p) := hf
  rcases open_slice1 Try.underlying44 sliceCells hf' with ⟨hcs, _⟩ | ⟨a, len, cap, m, n, V, D, Pl, hcs, hb, hl, hm, hmm, hx, hi⟩
  · simp at hcs
    obtain ⟨rfl, rfl, rfl⟩ := hcs
    exact ⟨0, fun _ => [], by omega, .inl ⟨rfl, _, _, rfl⟩⟩
  · simp at hcs
    obtain ⟨e1, e2, e3⟩ := hcs
    subst e1
    subst e2
    subst e3
    simp at hmm
    subst hmm
    have hm' : m ≤ 9223372036854775807 := by unfold maxLen at hm; exact hm
    by_cases h0 : L0 = 0
    · subst h0
      exact ⟨0, fun _ => [], by omega, .inl ⟨rfl, _, _, rfl⟩⟩
    · have cell : ∀ i, i < m → ∃ y : List Int, ∃ u, W.cell? (a.add i) = some u ∧ InZ W u y := fun i him => by
        obtain ⟨hc, ht⟩ := hi i him
        obtain ⟨zs, hz⟩ := open_zs ht
        exact ⟨zs, _, hc, hz⟩
      obtain ⟨F, hF⟩ := choose_lt (α := List Int) cell
      obtain ⟨b, off, spot⟩ := a
      obtain ⟨u0, hc0, _⟩ := hF 0 (by omega)
      have hspot : spot = none := by simpa [Addr.add] using World.cell?_spot hc0
      subst hspot
      refine ⟨L0, F, by omega, .inr ⟨b, off, m, rfl, block_lt_of_cell hc0, fun k hk => ?_⟩⟩
      obtain ⟨u, h1, h2⟩ := hF k (by omega)
      rw [add_at] at h1
      exact ⟨u, h1, h2⟩
set_option maxRecDepth 100000 in
theorem open_blk {r : Reach} {b0 : Nat} {v : Value} {d : DataW H} {p : List MemPlace} (hv : Value.okWide Try.prog W r b0 67 v) (h : DataW.Trod enc Try.prog W base (fun _ => true) held 67 v d p) : ∃ x, v = bv x ∧ WFB x := by
  obtain ⟨cs, rfl, hsz⟩ := okWide_array Try.underlying67 hv
  obtain ⟨fuel, hf⟩ := h
  obtain ⟨a, b, c, e, wa, wb, wc⟩ := open_arr3 hf
  have : cs.toList = [.int .i64 a, .int .i64 b, .int .i64 c] := e
  refine ⟨⟨a, b, c⟩, ?_, wa, wb, wc⟩
  unfold bv
  rw [← this]
end
end Go.Proofs.Ytiomdfhhejdoiaa

namespace Go.Proofs.Ytiomdfhhejdoiaa
open Go.RowKit Go.Maps
structure CS (w : World) (v p : Int) (s sW s8 sG : Value) (XW X XG i0 i1 j1 j2 k1 k2 : Nat) (LW L8 LG : List Blk) (W : World) : Prop where
  st : St1 w v s W
  o0 : w.heap.size < i0
  o1 : i0 ≤ i1
  o2 : i1 ≤ XW
  o3 : XW < j1
  o4 : j1 ≤ j2
  o5 : j2 ≤ X
  o6 : X < k1
  o7 : k1 ≤ k2
  o8 : k2 ≤ XG
  rW : ResR W i0 i1 sW LW
  vW : VarB W XW p sW
  r8 : ResR W j1 j2 s8 L8
  vX : VarB W X v s8
  rG : ResR W k1 k2 sG LG
  vG : VarB W XG p sG
section
variable {w : World} {v p : Int} {s sW s8 sG : Value} {XW X XG i0 i1 j1 j2 k1 k2 : Nat} {LW L8 LG : List Blk} {W W' : World}
theorem CS.step (h : CS w v p s sW s8 sG XW X XG i0 i1 j1 j2 k1 k2 LW L8 LG W) (hg : W.grownBy W' none) : CS w v p s sW s8 sG XW X XG i0 i1 j1 j2 k1 k2 LW L8 LG W' :=
  ⟨h.st.step hg (by simp), h.o0, h.o1, h.o2, h.o3, h.o4, h.o5, h.o6, h.o7, h.o8, h.rW.kept hg (by simp), h.vW.step hg (by simp), h.r8.kept hg (by simp), h.vX.step hg (by simp), h.rG.kept hg (by simp), h.vG.step hg (by simp)⟩
theorem CS.mark8 (h : CS w v p s sW s8 sG XW X XG i0 i1 j1 j2 k1 k2 LW L8 LG W) {row : Option Nat} (hg : W.grownBy W' row) (hr : ∀ r, row = some r → j1 ≤ r ∧ r < j2) {L : List Blk} (hn : ResR W' j1 j2 s8 L) :
    CS w v p s sW s8 sG XW X XG i0 i1 j1 j2 k1 k2 LW L LG W' := by
  obtain ⟨st, o0, o1, o2, o3, o4, o5, o6, o7, o8, rW, vW, r8, vX, rG, vG⟩ := h
  exact ⟨st.step hg (fun r e => by have := hr r e; omega), o0, o1, o2, o3, o4, o5, o6, o7, o8, rW.kept hg (fun r e => by have := hr r e; omega), vW.step hg (fun e => by have := hr _ e; omega), hn, vX.step hg (fun e => by have := hr _ e; omega), rG.kept hg (fun r e => by have := hr r e; omega), vG.step hg (fun e => by have := hr _ e; omega)⟩
theorem CS.markG (h : CS w v p s sW s8 sG XW X XG i0 i1 j1 j2 k1 k2 LW L8 LG W) {row : Option Nat} (hg : W.grownBy W' row) (hr : ∀ r, row = some r → k1 ≤ r ∧ r < k2) {L : List Blk} (hn : ResR W' k1 k2 sG L) :
    CS w v p s sW s8 sG XW X XG i0 i1 j1 j2 k1 k2 LW L8 L W' := by
  obtain ⟨st, o0, o1, o2, o3, o4, o5, o6, o7, o8, rW, vW, r8, vX, rG, vG⟩ := h
  exact ⟨st.step hg (fun r e => by have := hr r e; omega), o0, o1, o2, o3, o4, o5, o6, o7, o8, rW.kept hg (fun r e => by have := hr r e; omega), vW.step hg (fun e => by have := hr _ e; omega), r8.kept hg (fun r e => by have := hr r e; omega), vX.step hg (fun e => by have := hr _ e; omega), hn, vG.step hg (fun e => by have := hr _ e; omega)⟩
end
end Go.Proofs.Ytiomdfhhejdoiaa



namespace Go.Proofs.Ytiomdfhhejdoiaa
open Go.RowKit Go.Maps
set_option maxRecDepth 100000 in
set_option maxHeartbeats 2000000 in
theorem FnExactPaschAtPoints_main (v0 : Int) (s0 : Value) (bs0 : List Blk) (w : World) (h0 : InB w s0 bs0) (hl : bs0.length ≤ 1048576) :
    Calls Try.prog 10 #[.agg #[.int .i64 v0, s0]] w (RV (.bool true) w) := by
  have hsl0 := h0.slice
  have hbd0 := h0.2.1
  have hsz0 := szSystem_any v0 s0 bs0.length hsl0 (by omega) 1048576 (by omega) (by omega)
  rw [if_neg (by omega)] at hsz0
  obtain ⟨m0, hm0⟩ : ∃ m, m = (1048576 : Int) - (bs0.length : Int) := ⟨_, rfl⟩
  rw [← hm0] at hsz0
  have hmp0 : 0 ≤ m0 := by omega
  have HSZ0 := Lib.hid hsz0
  have HSB0 := Lib.hid (h0.sb (by omega))
  have HBD0 := Lib.hid (show bs0.length ≤ 1100000 by omega)
  have HWF0 := Lib.hid h0.1
  obtain ⟨L, hL⟩ : ∃ L, L = (patF v0 bs0).1 := ⟨_, rfl⟩
  obtain ⟨κ, hκ⟩ : ∃ κ, κ = (patF v0 bs0).2 := ⟨_, rfl⟩
  have hp : patF v0 bs0 = (L, κ) := by rw [hL, hκ]
  have LBD := Lib.hid (show L.length ≤ 1100000 by rw [hL]; exact patF_len v0 bs0)
  have HSP := Lib.hid fun (W : World) (t0 : Value) (r0 : SC W t0 bs0) => specPaschAtPoints_any v0 t0 bs0 W r0.1
  have HIM := Lib.hid fun (W : World) (t0 : Value) (r0 : SB W t0 bs0) => PaschAtPoints_any v0 t0 bs0 W r0
  rw [hp] at HSP HIM
  have hnk : (κ != κ) = false := by simp
  clear hsz0 hm0 hbd0 hL hκ hp h0 hl
  obtain ⟨a0, c0, rfl⟩ := hsl0
  go_enter Try.func10, Try.ntmps10
  have hm := ((Mem.start w).pushVar v0 (.slice a0 bs0.length c0) 24)
  have fA00 := (hm.var 0 rfl).c0
  have fA01 := (hm.var 0 rfl).c1
  have HM := Lib.hid hm
  clear hm
  go_wp2_with fail
  refine (HSZ0.out _).mono ?_
  rintro e w1 ⟨rfl, hbw1⟩
  have hm := HM.out.step (gb_below hbw1)
  clear fA00 fA01
  clear HM hbw1
  have fA00 := (hm.var 0 rfl).c0
  have fA01 := (hm.var 0 rfl).c1
  have HM := Lib.hid hm
  clear hm
  go_wp2_with fail
  refine (toSystem_any v0 _ bs0 _ (HSB0.out.below HM.out.below (Nat.le_refl _))).mono ?_
  rintro e w2 ⟨tw2, rfl, how2, hbw2⟩
  have r3 := how2.sc HWF0.out HBD0.out
  obtain ⟨gw2, capw2, hsw2, _⟩ := id how2
  subst hsw2
  have hm := HM.out.step (gb_below hbw2)
  clear fA00 fA01
  clear HM hbw2 how2
  have fA00 := (hm.var 0 rfl).c0
  have fA01 := (hm.var 0 rfl).c1
  have HM := Lib.hid hm
  clear hm
  go_wp2_with fail
  refine (HSP.out _ _ r3).mono ?_
  rintro e w4 ⟨uw4, rfl, hrow4, hbw4⟩
  have hrw4 := hrow4.res LBD.out
  clear hrow4
  obtain ⟨aW, nW, hsw4⟩ := hrw4.slice
  subst hsw4
  clear r3
  have hm := (HM.out.pushI hbw4 hrw4)
  clear fA00 fA01
  clear HM hbw4 hrw4
  have fA00 := (hm.var 1 rfl).c0
  have fA01 := (hm.var 1 rfl).c1
  have HM := Lib.hid hm
  clear hm
  go_wp2_with fail
  refine (toSystem_any v0 _ bs0 _ (HSB0.out.below HM.out.below (Nat.le_refl _))).mono ?_
  rintro e w5 ⟨tw5, rfl, how5, hbw5⟩
  have hrw5 := how5.res
  obtain ⟨gw5, capw5, hsw5, _⟩ := id how5
  subst hsw5
  have hm := (HM.out.pushB hbw5 hrw5).pushVar v0 (.slice (some ⟨gw5, 0, none⟩) bs0.length capw5) 31
  clear fA00 fA01
  clear HM hbw5 hrw5 how5
  have fVX00 := (hm.var 0 rfl).c0
  have fVX01 := (hm.var 0 rfl).c1
  have fA00 := (hm.var 3 rfl).c0
  have fA01 := (hm.var 3 rfl).c1
  have HM := Lib.hid hm
  clear hm
  go_wp2_with fail
  refine (HIM.out _ _ ((HM.out.blks 1 rfl).sb HWF0.out HBD0.out)).mono ?_
  rintro e w6 ⟨uw6, rfl, hrow6, hbw6⟩
  have hrw6 := hrow6.res LBD.out
  clear hrow6
  obtain ⟨aG, nG, hsw6⟩ := hrw6.slice
  subst hsw6
  have hm := (HM.out.pushI hbw6 hrw6)
  clear fVX00 fVX01 fA00 fA01
  clear HM hbw6 hrw6
  have fVX00 := (hm.var 1 rfl).c0
  have fVX01 := (hm.var 1 rfl).c1
  have fA00 := (hm.var 4 rfl).c0
  have fA01 := (hm.var 4 rfl).c1
  have HM := Lib.hid hm
  clear hm
  go_wp2_with fail
  refine (eqInt64S_same _ _ L _ ((HM.out.ints 0 rfl).ib LBD.out) ((HM.out.ints 3 rfl).ib LBD.out)).mono ?_
  rintro e w7 ⟨rfl, hbw7⟩
  have hm := HM.out.step (gb_below hbw7)
  clear fVX00 fVX01 fA00 fA01
  clear HM hbw7
  have fVX00 := (hm.var 1 rfl).c0
  have fVX01 := (hm.var 1 rfl).c1
  have fA00 := (hm.var 4 rfl).c0
  have fA01 := (hm.var 4 rfl).c1
  have HM := Lib.hid hm
  clear hm
  go_upto_region 10 with fail
  go_cut [45] (fun sq wx => sq = .bool false ∧ MemOf HM.out wx)
  case first =>
    go_region_with (first | (go_at_call 14; refine (toSystem_any v0 _ bs0 _ ?_).mono ?_; (exact HSB0.out.below HM.out.below.drew (Nat.le_refl _)); rintro e w8 ⟨tw8, rfl, how8, hbw8⟩; have hmx := (HM.out.step (gb_drew1 _)).step (gb_below hbw8); have ec0 := (hmx.var 1 rfl).c0; have ec1 := (hmx.var 1 rfl).c1; have HMX := Lib.hid hmx; clear hmx; have hsbw8 := how8.sb HWF0.out HBD0.out; obtain ⟨gw8, capw8, hsw8, _⟩ := id how8; subst hsw8) | (go_at_call 17; refine (eqSystem_same v0 _ _ bs0 _ ?_ ?_).mono ?_; (exact ((HMX.out.blks 2 rfl).sb HWF0.out HBD0.out)); (exact hsbw8); rintro e w9 ⟨rfl, hbw9⟩))
    all_goals
      go_wp2_with fail
      go_meet
      exact ⟨rfl, HMX.out.step (gb_below hbw9)⟩
  case rest =>
  obtain ⟨rfl, hm⟩ := hcut
  unfold MemOf at hm
  obtain ⟨yc0, rfl⟩ : ∃ W, W = wc := ⟨_, rfl⟩
  clear fVX00 fVX01 fA00 fA01
  clear HM
  have fVX00 := (hm.var 1 rfl).c0
  have fVX01 := (hm.var 1 rfl).c1
  have fA00 := (hm.var 4 rfl).c0
  have fA01 := (hm.var 4 rfl).c1
  have HM := Lib.hid hm
  clear hm
  go_wp2_with fail
  refine (markSystem_any _ _ v0 _ bs0 1 _ (HM.out.blks 2 rfl) HBD0.out (by omega) (by omega)).mono ?_
  rintro e w10 ⟨rfl, hww10, hrw10⟩
  have hm := HM.out.markB 2 rfl hww10 hrw10
  clear fVX00 fVX01 fA00 fA01
  clear HM hww10 hrw10
  have fVX00 := (hm.var 1 rfl).c0
  have fVX01 := (hm.var 1 rfl).c1
  have fA00 := (hm.var 4 rfl).c0
  have fA01 := (hm.var 4 rfl).c1
  have HM := Lib.hid hm
  clear hm
  obtain ⟨kw10, hkw10⟩ : ∃ m, m = 1 + 3 * (bs0.length : Int) := ⟨_, rfl⟩
  rw [← hkw10]
  have h0kw10 : 0 ≤ kw10 := by have := HBD0.out; omega
  have h1kw10 : kw10 ≤ 3300001 := by have := HBD0.out; omega
  clear hkw10
  go_wp2_with fail
  refine (eqInt64S_same _ _ L _ ((HM.out.ints 0 rfl).ib LBD.out) ((HM.out.ints 3 rfl).ib LBD.out)).mono ?_
  rintro e w11 ⟨rfl, hbw11⟩
  have hm := HM.out.step (gb_below hbw11)
  clear fVX00 fVX01 fA00 fA01
  clear HM hbw11
  have fVX00 := (hm.var 1 rfl).c0
  have fVX01 := (hm.var 1 rfl).c1
  have fA00 := (hm.var 4 rfl).c0
  have fA01 := (hm.var 4 rfl).c1
  have HM := Lib.hid hm
  clear hm
  go_wp2_with fail
  refine (markJ _ _ _ L 1 _ (HM.out.ints 0 rfl) LBD.out (by omega) (by omega)).mono ?_
  rintro e w12 ⟨rfl, hww12, hrw12⟩
  have hm := HM.out.markI 0 rfl hww12 hrw12
  clear fVX00 fVX01 fA00 fA01
  clear HM hww12 hrw12
  have fVX00 := (hm.var 1 rfl).c0
  have fVX01 := (hm.var 1 rfl).c1
  have fA00 := (hm.var 4 rfl).c0
  have fA01 := (hm.var 4 rfl).c1
  have HM := Lib.hid hm
  clear hm
  have hheld := fun lo hi W (h : ResI W lo hi (Value.slice aG L.length nG) (markI 1 L.length)) => heldJ lo hi (.slice aG L.length nG) L.length 1 W h LBD.out (by omega) (by omega)
  obtain ⟨m5, hm5⟩ : ∃ m5, m5 = 1 + (L.length : Int) := ⟨_, rfl⟩
  rw [← hm5] at hheld ⊢
  have HHELD := Lib.hid hheld
  have m50 : 0 ≤ m5 := by omega
  have hn5 : (m5 != m5) = false := by simp
  clear hm5 hheld
  go_wp2_with fail
  refine (HHELD.out _ _ _ (HM.out.ints 0 rfl)).mono ?_
  rintro e w13 ⟨rfl, rfl⟩
  go_wp2_with fail
  refine (toSystem_any v0 _ bs0 _ (HSB0.out.below HM.out.below (Nat.le_refl _))).mono ?_
  rintro e w14 ⟨tw14, rfl, how14, hbw14⟩
  have r15 := how14.sb HWF0.out HBD0.out
  obtain ⟨gw14, capw14, hsw14, _⟩ := id how14
  subst hsw14
  have hm := HM.out.step (gb_below hbw14)
  clear fVX00 fVX01 fA00 fA01
  clear HM hbw14 how14
  have fVX00 := (hm.var 1 rfl).c0
  have fVX01 := (hm.var 1 rfl).c1
  have fA00 := (hm.var 4 rfl).c0
  have fA01 := (hm.var 4 rfl).c1
  have HM := Lib.hid hm
  clear hm
  go_wp2_with fail
  refine (HIM.out _ _ r15).mono ?_
  rintro e w16 ⟨uw16, rfl, hrow16, hbw16⟩
  have hrw16 := hrow16.res LBD.out
  clear hrow16
  obtain ⟨aH, nH, hsw16⟩ := hrw16.slice
  subst hsw16
  clear r15
  have hm := (HM.out.pushI hbw16 hrw16)
  clear fVX00 fVX01 fA00 fA01
  clear HM hbw16 hrw16
  have fVX00 := (hm.var 2 rfl).c0
  have fVX01 := (hm.var 2 rfl).c1
  have fA00 := (hm.var 5 rfl).c0
  have fA01 := (hm.var 5 rfl).c1
  have HM := Lib.hid hm
  clear hm
  go_wp2_with fail
  refine (eqInt64S_same _ _ L _ ((HM.out.ints 0 rfl).ib LBD.out) ((HM.out.ints 4 rfl).ib LBD.out)).mono ?_
  rintro e w17 ⟨rfl, hbw17⟩
  have hm := HM.out.step (gb_below hbw17)
  clear fVX00 fVX01 fA00 fA01
  clear HM hbw17
  have fVX00 := (hm.var 2 rfl).c0
  have fVX01 := (hm.var 2 rfl).c1
  have fA00 := (hm.var 5 rfl).c0
  have fA01 := (hm.var 5 rfl).c1
  have HM := Lib.hid hm
  clear hm
  go_wp2_with fail
  refine (HHELD.out _ _ _ (HM.out.ints 1 rfl)).mono ?_
  rintro e w18 ⟨rfl, rfl⟩
  go_wp2
  go_ret
  exact RV_of rfl HM.out.below
set_option maxRecDepth 100000 in
theorem FnExactPaschAtPoints_long0 (v0 : Int) (s0 : Value) (bs0 : List Blk) (w : World) (h0 : InB w s0 bs0)  (hl : ¬ bs0.length ≤ 1048576) : Calls Try.prog 10 #[.agg #[.int .i64 v0, s0]] w (RV (.bool true) w) := by
  have hsl0 := h0.slice
  have hbd0 := h0.2.1
  have hsz0 := szSystem_any v0 s0 bs0.length hsl0 (by omega) (1048576) (by omega) (by omega)
  rw [if_pos (by omega)] at hsz0
  have HSZ0 := Lib.hid hsz0
  clear hl h0 hsz0 hbd0
  obtain ⟨a0, c0, rfl⟩ := hsl0
  go_enter Try.func10, Try.ntmps10
  go_wp2_with fail
  refine (HSZ0.out _).mono ?_
  rintro e y0 ⟨rfl, hy0⟩
  go_wp2
  go_ret
  exact RV_of rfl (((Below.refl _ _).alloc (by simp <;> omega) _).trans (hy0.mono (by first | (simp <;> omega) | (have := ((Below.refl _ _).alloc (by simp <;> omega) _).size; omega))))
theorem FnExactPaschAtPoints_any (v0 : Int) (s0 : Value) (bs0 : List Blk) (w : World) (h0 : InB w s0 bs0) : Calls Try.prog 10 #[.agg #[.int .i64 v0, s0]] w (RV (.bool true) w) := by
  by_cases hs0 : bs0.length ≤ 1048576
  case neg => exact FnExactPaschAtPoints_long0 v0 s0 bs0 w h0   hs0
  exact FnExactPaschAtPoints_main v0 s0 bs0 w h0 hs0 
end Go.Proofs.Ytiomdfhhejdoiaa

namespace Go.Proofs.Ytiomdfhhejdoiaa
set_option maxRecDepth 100000 in
noncomputable def iniP : { L : List Char // Try.prog.initOrder = String.ofList L } := ⟨_, by unfold Try.prog; rfl⟩
theorem iniL : Try.prog.initOrder.toList = iniP.1 := (congrArg String.toList iniP.2).trans String.toList_ofList
theorem words_cons (c : Char) (r : List Char) (h : c ≠ Char.ofNat 32) : wordsSigns (c :: r) = match wordsSigns r with | w :: ws => (c :: w) :: ws | [] => [[c]] := by
  rw [wordsSigns]
  all_goals first | rfl | exact h | (intro e; exact h e)
theorem words_word : ∀ (a b : List Char), (a.all fun c => c != Char.ofNat 32) = true → wordsSigns (a ++ Char.ofNat 32 :: b) = a :: wordsSigns b
  | [], b, _ => rfl
  | c :: a, b, h => by
    simp only [List.all_cons, Bool.and_eq_true, bne_iff_ne, ne_eq] at h
    rw [List.cons_append, words_cons _ _ h.1, words_word a b (by simpa using h.2)]
set_option maxRecDepth 100000 in
theorem split1 : iniP.1 = iniP.1.take 7 ++ Char.ofNat 32 :: iniP.1.drop 8 := by kernel_rfl
set_option maxRecDepth 100000 in
theorem split2 : iniP.1.drop 8 = (iniP.1.drop 8).take 64 ++ Char.ofNat 32 :: iniP.1.drop 73 := by kernel_rfl
set_option maxRecDepth 100000 in
theorem split3 : iniP.1.drop 73 = (iniP.1.drop 73).take 3 ++ Char.ofNat 32 :: iniP.1.drop 77 := by kernel_rfl
theorem isCut : (iniP.1.drop 73).take 3 = "cut".toList := by kernel_rfl
set_option maxRecDepth 100000 in
theorem isHead : ((iniP.1.take 7 == "harness".toList || iniP.1.take 7 == "ownmain".toList) && isSumSigns ((iniP.1.drop 8).take 64)) = true := by kernel_rfl
theorem wordsL : wordsSigns iniP.1 = iniP.1.take 7 :: (iniP.1.drop 8).take 64 :: "cut".toList :: wordsSigns (iniP.1.drop 77) := by
  rw [← isCut]
  conv => lhs; rw [split1]
  rw [words_word _ _ (by kernel_rfl)]
  conv => lhs; rw [split2]
  rw [words_word _ _ (by kernel_rfl)]
  conv => lhs; rw [split3]
  rw [words_word _ _ (by kernel_rfl)]
theorem behindL : behindMainWord (wordsSigns Try.prog.initOrder.toList) = "cut".toList :: wordsSigns (iniP.1.drop 77) := by
  rw [iniL, wordsL]
  unfold behindMainWord
  simp only [isHead, if_true]
theorem stripL (ws : List (List Char)) : stripLifts liftWords ("cut".toList :: ws) = ([], "cut".toList :: ws) := by kernel_rfl
section
variable (P : Program) (ws : List (List Char)) (h : behindMainWord (wordsSigns P.initOrder.toList) = "cut".toList :: ws)
include h
theorem head_of : P.headLifts = [] := by
  unfold Program.headLifts
  rw [h]
  simp only [stripL]
  kernel_rfl
theorem make_of : P.make = some .cut := by
  unfold Program.make
  rw [h, head_of P ws h]
  kernel_rfl
theorem lifts_of : P.liftsFinal = false := by
  unfold Program.liftsFinal
  rw [h, head_of P ws h]
  kernel_rfl
theorem enter_of (h1 : P.laysLater = false) (h2 : P.bearsReflect = false) (h3 : P.doorFits [] = true) : P.mayEnter = true := by
  unfold Program.mayEnter
  rw [h]
  simp only [stripL]
  rw [h1, h2, h3]
  kernel_rfl
end
theorem mayE : Try.pinned.checked.prog.mayEnter = true := enter_of _ _ behindL (by kernel_rfl) (by kernel_rfl) (by kernel_rfl)
theorem liftsF : Try.pinned.checked.prog.liftsFinal = false := lifts_of _ _ behindL
theorem makeF : Try.pinned.checked.prog.make = some .cut := make_of _ _ behindL
theorem both {a b : Bool} (h : a = true) (k : b = true) : (a && b) = true := by rw [h, k]; rfl
end Go.Proofs.Ytiomdfhhejdoiaa


/- SpanOf of the program. SpanOf of the program, whole; the model's list of points. SpanOf of the model, whole. Marking and holding rows of integers. What a law over two systems knows of the memory between two of its steps. What a law over one system whose result is a list of integers knows of the memory between two of its steps. Rows of rows of integers: equality, marks, and that they are still there. -/
import Derived.Test.YtkpnlecmfmbkaaaJ6
import Derived.Deep.RegionWith
import Derived.Deep.DeepCutAuto
namespace Go.Proofs.Ytkpnlecmfmbkaaa
open Go.RowKit Go.Maps Go.Shelf
set_option maxRecDepth 100000 in
set_option maxHeartbeats 1000000 in
theorem span_any (s : Value) (bs : List Blk) (zs : List Int) (w : World) (h : UB w s (mbs bs)) (hok : ∀ x ∈ bs, okB x) (hz : ∀ z ∈ zs, 0 ≤ z ∧ z < 15) :
    Calls Try.prog 114 #[s, .int .u16 (mskR zs)] w (fun e w' => ∃ L, e = .returned (.int .u16 (mskR L)) ∧ Spn bs zs L ∧ closedL bs L = true ∧ Below w.heap.size w w') := by
  have hs := h.form
  have hl := h.1
  rw [mbs_len] at hs hl
  have H := Lib.hid h
  have HOK := Lib.hid hok
  have HST := Lib.hid (Spn.start (bs := bs) hz)
  have HML := Lib.hid fun (x : Blk) (hx : okB x) => mskR_lt (okB_small hx)
  clear h hok hz
  obtain ⟨a0, c0, rfl⟩ := hs
  go_enter Try.func114, Try.ntmps114
  go_wp2
  go_loopw [1] (fun m wr => ∃ L : List Int, m = .int .u16 (mskR L) ∧ Hid (Spn bs zs L) ∧ Below w.heap.size w wr) (fun m _ => 15 - pc (intOf m).toNat)
  case atStart => exact ⟨zs, rfl, HST, Below.refl _ _⟩
  case round =>
    obtain ⟨L, rfl, HL, hB⟩ := hrel
    have HC := Lib.hid (isClosed_any _ bs L wr (H.out.below hB (Nat.le_refl _)) HOK.out HL.out.ok)
    cases hcl : closedL bs L with
    | true =>
      rw [hcl] at HC
      have HCL := Lib.hid hcl
      clear hcl
      obtain ⟨m, hm⟩ : ∃ m, m = mskR L := ⟨_, rfl⟩
      have HM := Lib.hid hm
      rw [← hm] at HC ⊢
      clear hm
      go_wp2_with fail
      refine HC.out.mono ?_
      rintro e w1 ⟨rfl, hb1⟩
      have hB1 := hB.trans (hb1.mono hB.size)
      go_wp2
      go_ret
      exact ⟨L, by rw [HM.out]; rfl, HL.out, HCL.out, hB1⟩
    | false =>
      rw [hcl] at HC
      have HCL := Lib.hid hcl
      clear hcl
      obtain ⟨m, hm⟩ : ∃ m, m = mskR L := ⟨_, rfl⟩
      have HM := Lib.hid hm
      rw [← hm] at HC ⊢
      have hm15 := pc_le m
      clear hm
      go_wp2_with fail
      refine HC.out.mono ?_
      rintro e w1 ⟨rfl, hb1⟩
      have hB1 := hB.trans (hb1.mono hB.size)
      clear hb1 HC
      go_wp2_with fail
      go_loopw [1, 13] (fun m i w3 => ∃ (k : Nat) (M : List Int), k ≤ bs.length ∧ i = .int .i64 k ∧ m = .int .u16 (mskR M) ∧ Hid (Spn bs zs M) ∧ Below w.heap.size w w3 ∧ Hid ((M = L ∧ closedL (bs.take k) L = true) ∨ pc (mskR L) < pc (mskR M))) (fun _ i _ => bs.length - (intOf i).toNat)
      case atStart => exact ⟨0, L, Nat.zero_le _, rfl, by rw [HM.out], HL, hB1, Lib.hid (.inl ⟨rfl, rfl⟩)⟩
      case round =>
        obtain ⟨k, M, hk, rfl, rfl, HMM, hB3, HG⟩ := hrel
        by_cases hkl : k < bs.length
        · rcases H.out.2 with ⟨_, _, _, hnil⟩ | ⟨bb, off, cap, hval, hblt, hbl⟩
          · exfalso; rw [← mbs_len, hnil] at hkl; simp at hkl
          rw [mbs_len] at hval
          simp at hval
          obtain ⟨rfl, rfl⟩ := hval
          have x1 := (hB3.cell (p := ⟨bb, off + k, none⟩) hblt).trans (hbl k (by rw [mbs_len]; exact hkl))
          rw [mbs_at hkl] at x1
          have HT := Lib.hid (closedL_take (L := L) hkl)
          have hokx := HOK.out (bs[k]?.getD default) (by simp [hkl])
          have hxm : bs[k]?.getD default ∈ bs := by simp [hkl]
          obtain ⟨x, hx⟩ : ∃ x, x = bs[k]?.getD default := ⟨_, rfl⟩
          rw [← hx] at x1 HT hokx hxm
          have hpc := pc_R hokx HMM.out.ok
          have hmx := HML.out x hokx
          have hml := mskR_lt HMM.out.ok
          have HGR := Lib.hid fun h2 => grow_R hokx HMM.out.ok h2
          have HSS := Lib.hid fun h2 => HMM.out.step hxm hokx h2
          have HAP := Lib.hid (mskR_append M (ptsB x))
          obtain ⟨y, hy⟩ : ∃ y, y = mskR (ptsB x) := ⟨_, rfl⟩
          rw [← hy] at x1 hpc hmx HAP
          obtain ⟨u, hu⟩ : ∃ u, u = mskR M := ⟨_, rfl⟩
          have HU := Lib.hid hu
          rw [← hu] at hpc hml HAP ⊢
          have q1 := (bits16 hmx hml).1
          have q3 := (bits16 hml hmx).2
          have q2 := and_lt15 (x := y) hml
          obtain ⟨r, hr⟩ : ∃ r, r = y &&& u := ⟨_, rfl⟩
          rw [← hr] at q1 q2 hpc
          obtain ⟨o, ho⟩ : ∃ o, o = u ||| y := ⟨_, rfl⟩
          rw [← ho] at q3 HAP
          have HSZ := Lib.hid fun W => size_any r q2 W
          obtain ⟨p, hp⟩ : ∃ p, p = cntB x M := ⟨_, rfl⟩
          rw [hpc, ← hp] at HSZ
          rw [← hp] at HGR HSS
          have HP := Lib.hid hp
          have g0 : (0 : Int) ≤ (k : Int) := by omega
          have g1 : (k : Int) < (bs.length : Int) := by omega
          clear hbl hx hokx hxm hy hr ho hp hpc hu
          by_cases e : p = 2
          · have HG2 := Lib.hid (show pc (mskR L) < pc (mskR (M ++ ptsB x)) by
              rcases HG.out with ⟨rfl, _⟩ | h
              · exact HGR.out e
              · exact Nat.lt_trans h (HGR.out e))
            have HS2 := Lib.hid (HSS.out e)
            subst e
            clear HT HG HGR HSS HP
            go_wp2_with fail
            refine (HSZ.out _).mono ?_
            rintro e w4 ⟨rfl, hb4⟩
            have hB4 := hB3.trans (hb4.mono hB3.size)
            clear hb4
            go_wp2
            go_roundw
            case rel => exact ⟨k + 1, M ++ ptsB x, by omega, by go_num, by rw [HAP.out], HS2, hB4, Lib.hid (.inr HG2.out)⟩
            case measure => simp [intOf]; omega
          · have HG2 := Lib.hid (show (M = L ∧ closedL (bs.take (k + 1)) L = true) ∨ pc (mskR L) < pc (mskR M) by
              rcases HG.out with ⟨rfl, h⟩ | h
              · exact .inl ⟨rfl, by rw [HT.out, h, ← HP.out]; simp [e]⟩
              · exact .inr h)
            have ed : decide ((p : Int) = 2) = false := by simp; omega
            have ed2 : ((p : Int) == 2) = false := by simp; omega
            clear HT HG HGR HSS HP e
            go_wp2_with fail
            refine (HSZ.out _).mono ?_
            rintro e w4 ⟨rfl, hb4⟩
            have hB4 := hB3.trans (hb4.mono hB3.size)
            clear hb4
            go_wp2
            go_roundw
            case rel => exact ⟨k + 1, M, by omega, by go_num, by rw [HU.out], HMM, hB4, HG2⟩
            case measure => simp [intOf]; omega
        · have e : k = bs.length := by omega
          have HGG := Lib.hid (show pc (mskR L) < pc (mskR M) by
            rcases HG.out with ⟨rfl, h⟩ | h
            · rw [e, List.take_length, HCL.out] at h; simp at h
            · exact h)
          clear e HG
          have hlt : pc m < pc (mskR M) := by rw [HM.out]; exact HGG.out
          have hM15 := pc_le (mskR M)
          go_wp2
          go_roundw
          case rel => exact ⟨M, rfl, HMM, hB3⟩
          case measure => simp [intOf]; omega
theorem rev_bit {L : List Int} (h : ∀ a ∈ L, 0 ≤ a ∧ a < 15) {k : Nat} (hk : k < 15) : (bits .and .u16 (mskR L : Int) (mskR [(k : Int)] : Int) != 0) = decide ((k : Int) ∈ L) := by
  have h1 : ∀ a ∈ [(k : Int)], 0 ≤ a ∧ a < 15 := fun a ha => by simp at ha; omega
  rw [(bits16 (mskR_lt h) (mskR_lt h1)).1, and_R h h1, Bool.eq_iff_iff, bne_iff_ne, decide_eq_true_eq]
  have hf : ∀ a ∈ L.filter (fun a => decide (a ∈ [(k : Int)])), 0 ≤ a ∧ a < 15 := filt_in h
  constructor
  · intro hne
    apply Classical.byContradiction
    intro hn
    apply hne
    rw [List.filter_eq_nil_iff.2 (fun a ha hq => by simp at hq; exact hn (hq ▸ ha))]
    rfl
  · intro hm e0
    have : (mskR (L.filter (fun a => decide (a ∈ [(k : Int)])))).testBit (14 - (k : Int)).toNat = true := by
      rw [mskR_mem hf (by omega) (by omega)]
      simpa using hm
    rw [show mskR (L.filter (fun a => decide (a ∈ [(k : Int)]))) = 0 by omega] at this
    simp at this
set_option maxRecDepth 100000 in
set_option maxHeartbeats 1000000 in
theorem list_any (L : List Int) (w : World) (hL : ∀ a ∈ L, 0 ≤ a ∧ a < 15) : Calls Try.prog 115 #[.int .u16 (mskR L)] w (fun e w' => ∃ u, e = .returned u ∧ OwnJ w' w.heap.size u (ptL (fun a => decide (a ∈ L)) 15) ∧ Below w.heap.size w w') := by
  have HR := Lib.hid fun (k : Nat) (hk : k < 15) => rev_bit hL hk
  have HS := Lib.hid fun (k : Nat) => ptL_succ (fun a => decide (a ∈ L)) k
  have HLN := Lib.hid fun (k : Nat) => ptL_len (fun a => decide (a ∈ L)) k
  obtain ⟨P, hP⟩ : ∃ P, P = ptL (fun a => decide (a ∈ L)) := ⟨_, rfl⟩
  rw [← hP] at HS HLN ⊢
  obtain ⟨m, hm⟩ : ∃ m, m = mskR L := ⟨_, rfl⟩
  rw [← hm] at HR ⊢
  have HP0 := Lib.hid (show P 0 = [] by rw [hP]; rfl)
  clear hm hP hL
  go_enter Try.func115, Try.ntmps115
  go_wp2
  go_loopw [3, 5] (fun o t wr => ∃ k : Nat, k ≤ 15 ∧ t = .int .i64 k ∧ Below w.heap.size w wr ∧ OwnJ wr w.heap.size o (P k)) (fun _ t _ => 15 - (intOf t).toNat)
  case atStart => exact ⟨0, Nat.zero_le _, rfl, Below.refl _ _, by rw [HP0.out]; exact OwnJ.nil _ _⟩
  case round =>
    obtain ⟨k, hk, rfl, hB, hO⟩ := hrel
    have hz := hB.size
    obtain ⟨a5, c5, hs5⟩ := hO.formS
    by_cases hkl : k < 15
    · have hr := HR.out k hkl
      have hs := HS.out k
      have hln : (P k).length ≤ 1100000 := by have := HLN.out k; omega
      obtain ⟨Q, hQ⟩ : ∃ Q, Q = P k := ⟨_, rfl⟩
      rw [← hQ] at hs hO hs5 hln
      subst hs5
      have HO := Lib.hid hO
      have HSP := Lib.hid fun W (hc : W.cell? ⟨wr.heap.size, 0, none⟩ = some (.int .i64 (k : Int))) (hlt : wr.heap.size < W.heap.size) => setOfPoints_any (.slice (some ⟨wr.heap.size, 0, none⟩) 1 1) [(k : Int)] W ⟨by simp, .inr ⟨wr.heap.size, 0, 1, rfl, hlt, fun j hj => by
        simp at hj
        subst hj
        exact hc⟩⟩ (fun a ha => by simp at ha; omega)
      obtain ⟨y, hy⟩ : ∃ y, y = mskR [(k : Int)] := ⟨_, rfl⟩
      rw [← hy] at hr HSP
      have kd : decide ((k : Int) < 15) = true := by simp; omega
      clear hO hQ hy
      obtain ⟨β, hβ⟩ : ∃ β, β = decide ((k : Int) ∈ L) := ⟨_, rfl⟩
      rw [← hβ] at hr hs
      clear hβ
      cases β with
      | true =>
        have HS2 := Lib.hid (show P (k + 1) = Q ++ [(k : Int)] by rw [hs]; rfl)
        clear hs
        go_wp2_with fail
        obtain ⟨wa, hwa⟩ : ∃ wa, wa = wr.alloc (.cells #[.int .i64 (k : Int)] 2) := ⟨_, rfl⟩
        have ha0 : wa.cell? ⟨wr.heap.size, 0, none⟩ = some (.int .i64 (k : Int)) := by rw [hwa]; simp
        have hza : wr.heap.size < wa.heap.size := by rw [hwa]; simp
        have hBa : Below wr.heap.size wr wa := by rw [hwa]; exact (Below.refl _ _).alloc (Nat.le_refl _) _
        rw [← hwa]
        clear hwa
        have HC := Lib.hid (HSP.out wa ha0 hza)
        have HO1 := Lib.hid (HO.out.below hBa (Nat.le_refl _))
        have HB1 := Lib.hid (hB.trans (hBa.mono hz))
        have hz1 : w.heap.size ≤ wa.heap.size := by omega
        clear HSP HO ha0 hBa hza
        refine HC.out.mono ?_
        rintro e w1 ⟨rfl, rfl⟩
        go_wp2_with (at_builtin; refine wpList_append_int rfl _ _ rfl w.heap.size (.slice a5 Q.length c5) Q rfl (by exact HO1.out.below ((Below.refl _ _).alloc (Nat.le_refl _) _) (Nat.le_refl _)) _ _ (k : Int) rfl (by simp [go_sem]) hln (by simp; omega) ?_; intro g cap w4 hO4 hg4)
        have hB4 := (HB1.out.alloc hz1 _).grown hg4 (by simp; omega) (fun r e => HO1.out.row r e)
        go_roundw
        case rel => exact ⟨k + 1, by omega, by go_num, hB4, by rw [HS2.out]; exact hO4⟩
        case measure => simp [intOf]; omega
      | false =>
        have HS2 := Lib.hid (show P (k + 1) = Q by rw [hs]; simp)
        clear hs
        go_wp2_with fail
        obtain ⟨wa, hwa⟩ : ∃ wa, wa = wr.alloc (.cells #[.int .i64 (k : Int)] 2) := ⟨_, rfl⟩
        have ha0 : wa.cell? ⟨wr.heap.size, 0, none⟩ = some (.int .i64 (k : Int)) := by rw [hwa]; simp
        have hza : wr.heap.size < wa.heap.size := by rw [hwa]; simp
        have hBa : Below wr.heap.size wr wa := by rw [hwa]; exact (Below.refl _ _).alloc (Nat.le_refl _) _
        rw [← hwa]
        clear hwa
        have HC := Lib.hid (HSP.out wa ha0 hza)
        have HO1 := Lib.hid (HO.out.below hBa (Nat.le_refl _))
        have HB1 := Lib.hid (hB.trans (hBa.mono hz))
        clear HSP HO ha0 hBa hza
        refine HC.out.mono ?_
        rintro e w1 ⟨rfl, rfl⟩
        go_wp2
        go_roundw
        case rel => exact ⟨k + 1, by omega, by go_num, HB1.out, by rw [HS2.out]; exact HO1.out⟩
        case measure => simp [intOf]; omega
    · obtain rfl : k = 15 := by omega
      have HO := Lib.hid hO
      clear hO
      subst hs5
      go_wp2
      go_ret
      exact ⟨_, rfl, HO.out, hB⟩
end Go.Proofs.Ytkpnlecmfmbkaaa

namespace Go.Proofs.Ytkpnlecmfmbkaaa
open Go.RowKit Go.Maps Go.Shelf
set_option maxRecDepth 100000 in
theorem SpanOf_any (v : Int) (s : Value) (bs : List Blk) (t : Value) (zs : List Int) (w : World) (h : SB w s bs) (ht : IB w t zs) :
    Calls Try.prog 57 #[.agg #[.int .i64 v, s], t] w (RJ (spnF v bs zs) w) := by
  have hs := h.slice
  have hts := ht.form
  have hlen := h.2.1
  have HPC := Lib.hid fun W (hb : Below w.heap.size w W) => impPointsCode_any v s bs t zs W (h.below hb (Nat.le_refl _)) (ht.below hb (Nat.le_refl _))
  have HSB := Lib.hid h
  have HIB := Lib.hid ht
  have hb0 := (Below.refl w.heap.size w).alloc (Nat.le_refl _) (.cells #[.int .i64 v, s] 32)
  clear h ht
  obtain ⟨a0, c0, rfl⟩ := hs
  obtain ⟨a1, c1, rfl⟩ := hts
  by_cases hc : setCode v bs zs = 0
  · obtain ⟨_, hok, hin, _⟩ := setCode_zero hc
    have HV := Lib.hid (show spnF v bs zs = (ptL (inSpanB bs zs) 15, 0) by unfold spnF; rw [if_pos hc])
    have HBP := Lib.hid fun W (hb : Below w.heap.size w W) => blockPoints_any v _ bs W (HSB.out.below hb (Nat.le_refl _)) hok
    have HST := Lib.hid fun W (hb : Below w.heap.size w W) => setOfPoints_any _ zs W (HIB.out.below hb (Nat.le_refl _)) hin
    have HSN := Lib.hid fun u W (hu : UB W u (mbs bs)) => span_any u bs zs W hu hok hin
    obtain ⟨m, hm⟩ : ∃ m, m = mskR zs := ⟨_, rfl⟩
    rw [← hm] at HST HSN
    rw [hc] at HPC
    clear hc hok hin hm HSB HIB
    go_enter Try.func57, Try.ntmps57
    go_wp2_with fail
    refine (HPC.out _ hb0).mono ?_
    rintro e w1 ⟨rfl, hb1⟩
    have q0 := cell_new hb1 0 rfl
    have q1 := cell_new hb1 1 rfl
    have hbw := below_new hb1
    clear hb1
    go_wp2_with fail
    refine (HBP.out _ hbw).mono ?_
    rintro e w2 ⟨u, rfl, hu, hb2⟩
    have HU := Lib.hid (hu.ub (by rw [mbs_len]; exact hlen))
    obtain ⟨a2, c2, hf⟩ := hu.form
    have hbw2 := hbw.trans (hb2.mono hbw.size)
    obtain ⟨n2, hn2⟩ : ∃ n2, n2 = (mbs bs).length := ⟨_, rfl⟩
    rw [← hn2] at hf
    subst hf
    clear hb2 hu hn2
    go_wp2_with fail
    refine (HST.out _ hbw2).mono ?_
    rintro e w3 ⟨rfl, rfl⟩
    go_wp2_with fail
    refine (HSN.out _ _ HU.out).mono ?_
    rintro e w4 ⟨L, rfl, hsp, hcl, hb4⟩
    have hbw4 := hbw2.trans (hb4.mono hbw2.size)
    have HLI := Lib.hid (list_any L w4 hsp.ok)
    rw [hsp.list hcl 15, ← show (spnF v bs zs).1 = ptL (inSpanB bs zs) 15 by rw [HV.out]] at HLI
    obtain ⟨o, ho⟩ : ∃ o, o = mskR L := ⟨_, rfl⟩
    rw [← ho] at HLI ⊢
    have HK := Lib.hid (show (spnF v bs zs).2 = 0 by rw [HV.out])
    clear ho hsp hcl hb4 HV
    go_wp2_with fail
    refine HLI.out.mono ?_
    rintro e w5 ⟨u5, rfl, hO, hb5⟩
    have hbw5 := hbw4.trans (hb5.mono hbw4.size)
    have HO : Hid (OwnJ w5 w.heap.size u5 (spnF v bs zs).1) := Lib.hid (ownsRow_base hO hbw4.size)
    obtain ⟨a6, c6, rfl⟩ := OwnJ.formS HO.out
    clear hO hb5
    go_wp2
    go_ret2
    exact ⟨_, by rw [HK.out]; rfl, HO.out, hbw5⟩
  · have HV := Lib.hid (show spnF v bs zs = ([], setCode v bs zs) by unfold spnF; rw [if_neg hc])
    obtain ⟨κ, hκ⟩ : ∃ κ, κ = setCode v bs zs := ⟨_, rfl⟩
    rw [← hκ] at HPC HV hc
    have hne : (κ != 0) = true := by simpa using hc
    clear hc hκ
    rw [HV.out]
    go_enter Try.func57, Try.ntmps57
    go_wp2_with fail
    refine (HPC.out _ hb0).mono ?_
    rintro e w1 ⟨rfl, hb1⟩
    have hbw := below_new hb1
    clear hb1 HV
    go_wp2
    go_ret2
    exact ⟨_, rfl, OwnJ.nil _ _, hbw⟩
theorem shr_bit {L : List Int} (h : ∀ a ∈ L, 0 ≤ a ∧ a < 15) {k : Nat} : (bits .and .i64 ((msk L : Int) / 2 ^ k) 1 == 1) = decide ((k : Int) ∈ L) := by
  have e := msk_memB h (a := (k : Int)) (by omega)
  rw [Int.toNat_natCast] at e
  rw [Nat.testBit_eq_decide_div_mod_eq] at e
  have hl : msk L / 2 ^ k < 32768 := Nat.lt_of_le_of_lt (Nat.div_le_self _ _) (msk_lt15 h)
  have h1 := (bits15 hl (y := 1) (by decide)).1
  rw [show (msk L : Int) / 2 ^ k = ((msk L / 2 ^ k : Nat) : Int) by simp, show (1 : Int) = ((1 : Nat) : Int) by rfl, h1, Nat.and_one_is_mod, ← e, Bool.eq_iff_iff, decide_eq_true_eq, beq_iff_eq]
  omega
set_option maxRecDepth 100000 in
set_option maxHeartbeats 1000000 in
theorem l07Points_any (L : List Int) (w : World) (hL : ∀ a ∈ L, 0 ≤ a ∧ a < 15) : Calls Try.prog 112 #[.int .i64 (msk L)] w (fun e w' => ∃ u, e = .returned u ∧ OwnJ w' w.heap.size u (ptL (fun a => decide (a ∈ L)) 15) ∧ Below w.heap.size w w') := by
  have HR := Lib.hid fun (k : Nat) => shr_bit hL (k := k)
  have HS := Lib.hid fun (k : Nat) => ptL_succ (fun a => decide (a ∈ L)) k
  have HLN := Lib.hid fun (k : Nat) => ptL_len (fun a => decide (a ∈ L)) k
  obtain ⟨P, hP⟩ : ∃ P, P = ptL (fun a => decide (a ∈ L)) := ⟨_, rfl⟩
  rw [← hP] at HS HLN ⊢
  have hml := msk_lt15 hL
  obtain ⟨m, hm⟩ : ∃ m, m = msk L := ⟨_, rfl⟩
  rw [← hm] at HR hml ⊢
  have HP0 := Lib.hid (show P 0 = [] by rw [hP]; rfl)
  clear hm hP hL
  go_enter Try.func112, Try.ntmps112
  go_wp2
  have ho0 := OwnJ.new0 w (base := w.heap.size) (Nat.le_refl _)
  obtain ⟨w2, hw2⟩ : ∃ w2, w.alloc (.cells #[] 2) = w2 := ⟨_, rfl⟩
  have hB0 : Below w.heap.size w w2 := by rw [← hw2]; exact (Below.refl _ _).alloc (Nat.le_refl _) _
  rw [hw2] at ho0 ⊢
  have HO0 := Lib.hid ho0
  clear hw2 ho0
  go_loopw [3, 4] (fun o t wr => ∃ k : Nat, k ≤ 15 ∧ t = .int .i64 k ∧ Below w.heap.size w wr ∧ OwnJ wr w.heap.size o (P k)) (fun _ t _ => 15 - (intOf t).toNat)
  case atStart => exact ⟨0, Nat.zero_le _, rfl, hB0, by rw [HP0.out]; exact HO0.out⟩
  case round =>
    obtain ⟨k, hk, rfl, hB, hO⟩ := hrel
    have hz := hB.size
    obtain ⟨a5, c5, hs5⟩ := hO.formS
    by_cases hkl : k < 15
    · have hr := HR.out k
      have hs := HS.out k
      have hln : (P k).length ≤ 1100000 := by have := HLN.out k; omega
      obtain ⟨Q, hQ⟩ : ∃ Q, Q = P k := ⟨_, rfl⟩
      rw [← hQ] at hs hO hs5 hln
      subst hs5
      have HO := Lib.hid hO
      have kd : decide ((k : Int) < 15) = true := by simp; omega
      have k0 : (0 : Int) ≤ (k : Int) := by omega
      have k64 : (k : Int) ≤ 64 := by omega
      clear hO hQ
      obtain ⟨β, hβ⟩ : ∃ β, β = decide ((k : Int) ∈ L) := ⟨_, rfl⟩
      rw [← hβ] at hr hs
      clear hβ
      cases β with
      | true =>
        have HS2 := Lib.hid (show P (k + 1) = Q ++ [(k : Int)] by rw [hs]; rfl)
        clear hs
        go_wp2_with (at_builtin; refine wpList_append_int rfl _ _ rfl w.heap.size (.slice a5 Q.length c5) Q rfl (by exact HO.out.below ((Below.refl _ _).alloc (Nat.le_refl _) _) (Nat.le_refl _)) _ _ (k : Int) rfl (by simp [go_sem]) hln (by simp; omega) ?_; intro g cap w4 hO4 hg4)
        have hB4 := (hB.alloc hz _).grown hg4 (by simp; omega) (fun r e => HO.out.row r e)
        go_roundw
        case rel => exact ⟨k + 1, by omega, by go_num, hB4, by rw [HS2.out]; exact hO4⟩
        case measure => simp [intOf]; omega
      | false =>
        have HS2 := Lib.hid (show P (k + 1) = Q by rw [hs]; simp)
        clear hs
        go_wp2
        go_roundw
        case rel => exact ⟨k + 1, by omega, by go_num, hB, by rw [HS2.out]; exact HO.out⟩
        case measure => simp [intOf]; omega
    · obtain rfl : k = 15 := by omega
      have HO := Lib.hid hO
      clear hO
      subst hs5
      go_wp2
      go_ret
      exact ⟨_, rfl, HO.out, hB⟩
def boolN : Value → Nat
  | .bool true => 1
  | _ => 0
set_option maxRecDepth 100000 in
set_option maxHeartbeats 2000000 in
theorem l07Span_any (v : Int) (s : Value) (bs : List Blk) (zs : List Int) (w : World) (h : SB w s bs) (hok : ∀ x ∈ bs, okB x) (hz : ∀ z ∈ zs, 0 ≤ z ∧ z < 15) :
    Calls Try.prog 113 #[.agg #[.int .i64 v, s], .int .i64 (msk zs)] w (fun e w' => ∃ L, e = .returned (.int .i64 (msk L)) ∧ Spn bs zs L ∧ closedL bs L = true ∧ Below w.heap.size w w') := by
  have hs := h.slice
  have hl := h.2.1
  have H := Lib.hid h
  have HOK := Lib.hid hok
  have HST := Lib.hid (Spn.start (bs := bs) hz)
  clear h hok hz
  obtain ⟨a0, c0, rfl⟩ := hs
  go_enter Try.func113, Try.ntmps113
  go_wp2
  obtain ⟨w2, hw2⟩ : ∃ w2, w2 = w.alloc (.cells #[.int .i64 v, .slice a0 bs.length c0] 32) := ⟨_, rfl⟩
  have hB0 : Below w.heap.size w w2 := by rw [hw2]; exact (Below.refl _ _).alloc (Nat.le_refl _) _
  have hz2 : w2.heap.size = w.heap.size + 1 := by rw [hw2]; simp
  have hc2 : w2.cell? ⟨w.heap.size, 1, none⟩ = some (.slice a0 bs.length c0) := by rw [hw2]; simp
  rw [← hw2]
  clear hw2
  go_loopw [1, 5] (fun m b wr => ∃ (L : List Int) (β : Bool), m = .int .i64 (msk L) ∧ b = .bool β ∧ Hid (Spn bs zs L) ∧ Below (w.heap.size + 1) w2 wr ∧ Hid (β = false → closedL bs L = true)) (fun m b _ => 2 * (15 - pc (intOf m).toNat) + boolN b)
  case atStart => exact ⟨zs, true, rfl, rfl, HST, Below.refl _ _, Lib.hid (by simp)⟩
  case round =>
    obtain ⟨L, β, rfl, rfl, HL, hB, HBB⟩ := hrel
    have hBw : Below w.heap.size w wr := hB0.trans (hB.mono (by omega))
    cases β with
    | false =>
      have HCL := Lib.hid (HBB.out rfl)
      clear HBB
      go_wp2
      go_ret
      exact ⟨L, rfl, HL.out, HCL.out, hBw⟩
    | true =>
      clear HBB
      have hm15 := pc_le (msk L)
      go_wp2_with fail
      go_loopw [1, 5, 6] (fun m b i w3 => ∃ (k : Nat) (M : List Int) (β : Bool), k ≤ bs.length ∧ i = .int .i64 k ∧ m = .int .i64 (msk M) ∧ b = .bool β ∧ Hid (Spn bs zs M) ∧ Below (w.heap.size + 1) w2 w3 ∧ Hid ((M = L ∧ β = false ∧ closedL (bs.take k) L = true) ∨ (β = true ∧ pc (msk L) < pc (msk M)))) (fun _ _ i _ => bs.length - (intOf i).toNat)
      case atStart => exact ⟨0, L, false, Nat.zero_le _, rfl, rfl, rfl, HL, hB, Lib.hid (.inl ⟨rfl, rfl, rfl⟩)⟩
      case round =>
        obtain ⟨k, M, β, hk, rfl, rfl, rfl, HMM, hB3, HG⟩ := hrel
        have hz3 := hB3.size
        have p1 : wr.cell? ⟨w.heap.size, 1, none⟩ = some (.slice a0 bs.length c0) := by rw [hB3.cell (by simp)]; exact hc2
        have hBw3 : Below w.heap.size w wr := hB0.trans (hB3.mono (by omega))
        by_cases hkl : k < bs.length
        · rcases H.out.2.2 with ⟨_, _, _, hnil⟩ | ⟨bb, off, cap, hval, hblt, hbl⟩
          · rw [hnil] at hkl; simp at hkl
          simp at hval
          obtain ⟨rfl, rfl⟩ := hval
          obtain ⟨x1, x2, x3⟩ := (hbl.below hBw3 hblt) k hkl
          have HT := Lib.hid (closedL_take (L := L) hkl)
          have hokx := HOK.out (bs[k]?.getD default) (by simp [hkl])
          have hxm : bs[k]?.getD default ∈ bs := by simp [hkl]
          obtain ⟨x, hx⟩ : ∃ x, x = bs[k]?.getD default := ⟨_, rfl⟩
          rw [← hx] at x1 x2 x3 HT hokx hxm
          have hpc := pc_M hokx HMM.out.ok
          have hml := msk_lt15 HMM.out.ok
          have HBT := Lib.hid fun W => l05Bits_any x hokx W
          have hmk : mkB x < 32768 := by rw [mkB_msk hokx]; exact msk_lt15 (okB_small hokx)
          have HGR := Lib.hid fun h2 => grow_M hokx HMM.out.ok h2
          have HSS := Lib.hid fun h2 => HMM.out.step hxm hokx h2
          have HAP := Lib.hid (show msk (M ++ ptsB x) = msk M ||| mkB x by rw [msk_append2, mkB_msk hokx])
          obtain ⟨y, hy⟩ : ∃ y, y = mkB x := ⟨_, rfl⟩
          rw [← hy] at hpc hmk HAP HBT
          obtain ⟨u, hu⟩ : ∃ u, u = msk M := ⟨_, rfl⟩
          have HU := Lib.hid hu
          rw [← hu] at hpc hml HAP ⊢
          have q1 := (bits15 hmk hml).1
          have q3 := (bits15 hml hmk).2
          have q2 := and_lt15 (x := y) hml
          obtain ⟨r, hr⟩ : ∃ r, r = y &&& u := ⟨_, rfl⟩
          rw [← hr] at q1 q2 hpc
          obtain ⟨o, ho⟩ : ∃ o, o = u ||| y := ⟨_, rfl⟩
          rw [← ho] at q3 HAP
          have HON := Lib.hid fun W => l05Ones_any r q2 W
          obtain ⟨p, hp⟩ : ∃ p, p = cntB x M := ⟨_, rfl⟩
          rw [hpc, ← hp] at HON
          rw [← hp] at HGR HSS
          have HP := Lib.hid hp
          have g0 : (0 : Int) ≤ (k : Int) := by omega
          have g1 : (k : Int) < (bs.length : Int) := by omega
          obtain ⟨x0, hx0⟩ : ∃ x0, x0 = x := ⟨_, rfl⟩
          rw [← hx0] at HT HGR HSS HAP HP
          obtain ⟨xa, xb, xc⟩ := x
          unfold bv at HBT
          dsimp only at HBT x1 x2 x3
          clear hx0 hbl hx hokx hxm hy hr ho hp hpc hu
          by_cases e : p = 2
          · have HG2 := Lib.hid (show pc (msk L) < pc (msk (M ++ ptsB x0)) by
              rcases HG.out with ⟨rfl, _, _⟩ | ⟨_, h⟩
              · exact HGR.out e
              · exact Nat.lt_trans h (HGR.out e))
            have HS2 := Lib.hid (HSS.out e)
            subst e
            clear HT HG HGR HSS HP
            go_wp2_with fail
            refine (HBT.out _).mono ?_
            rintro e w4 ⟨rfl, hb4⟩
            have hB4 := hB3.trans (hb4.mono (by omega))
            clear hb4
            go_wp2_with fail
            refine (HON.out _).mono ?_
            rintro e w5 ⟨rfl, rfl⟩
            go_wp2
            go_roundw
            case rel => exact ⟨k + 1, M ++ ptsB x0, true, by omega, by go_num, by rw [HAP.out], rfl, HS2, hB4, Lib.hid (.inr ⟨rfl, HG2.out⟩)⟩
            case measure => simp [intOf]; omega
          · have HG2 := Lib.hid (show (M = L ∧ β = false ∧ closedL (bs.take (k + 1)) L = true) ∨ (β = true ∧ pc (msk L) < pc (msk M)) by
              rcases HG.out with ⟨rfl, h0, h⟩ | h
              · exact .inl ⟨rfl, h0, by rw [HT.out, h, ← HP.out]; simp [e]⟩
              · exact .inr h)
            have ed : decide ((p : Int) = 2) = false := by simp; omega
            have ed2 : ((p : Int) == 2) = false := by simp; omega
            clear HT HG HGR HSS HP e
            go_wp2_with fail
            refine (HBT.out _).mono ?_
            rintro e w4 ⟨rfl, hb4⟩
            have hB4 := hB3.trans (hb4.mono (by omega))
            clear hb4
            go_wp2_with fail
            refine (HON.out _).mono ?_
            rintro e w5 ⟨rfl, rfl⟩
            go_wp2
            go_roundw
            case rel => exact ⟨k + 1, M, β, by omega, by go_num, by rw [HU.out], rfl, HMM, hB4, HG2⟩
            case measure => simp [intOf]; omega
        · have e : k = bs.length := by omega
          have HGG := Lib.hid (show (M = L ∧ β = false ∧ closedL bs L = true) ∨ (β = true ∧ pc (msk L) < pc (msk M)) by
            have := HG.out
            rw [e, List.take_length] at this
            exact this)
          clear e HG
          have hM15 := pc_le (msk M)
          have hlt : 2 * (15 - pc (msk M)) + boolN (.bool β) < 2 * (15 - pc (msk L)) + 1 := by
            rcases HGG.out with ⟨rfl, rfl, _⟩ | ⟨rfl, h⟩
            · simp [boolN]
            · simp only [boolN]; omega
          have HCC := Lib.hid (show β = false → closedL bs M = true from fun h => by
            rcases HGG.out with ⟨rfl, _, hc⟩ | ⟨hb, _⟩
            · exact hc
            · rw [h] at hb; simp at hb)
          clear HGG
          go_wp2
          go_roundw
          case rel => exact ⟨M, β, rfl, rfl, HMM, hB3, HCC⟩
          case measure => simp only [intOf, boolN]; exact hlt
end Go.Proofs.Ytkpnlecmfmbkaaa

namespace Go.Proofs.Ytkpnlecmfmbkaaa
open Go.RowKit Go.Maps Go.Shelf
noncomputable def spl (bs : List Blk) (zs : List Int) : List Int := ptL (inSpanB bs zs) 15
theorem ptL_in (p : Int → Bool) : ∀ a ∈ ptL p 15, 0 ≤ a ∧ a < 15 := fun a ha => by
  obtain ⟨i, hi, rfl⟩ := List.mem_map.1 (List.mem_filter.1 ha).1
  have := List.mem_range.1 hi
  omega
theorem ptL_mem {p : Int → Bool} {a : Int} (h0 : 0 ≤ a) (h1 : a < 15) : a ∈ ptL p 15 ↔ p a = true := by
  unfold ptL
  rw [List.mem_filter]
  refine ⟨fun h => h.2, fun h => ⟨List.mem_map.2 ⟨a.toNat, List.mem_range.2 (by omega), by omega⟩, h⟩⟩
theorem ptL_self (p : Int → Bool) : ptL (fun a => decide (a ∈ ptL p 15)) 15 = ptL p 15 := by
  conv => lhs; unfold ptL
  conv => rhs; unfold ptL
  apply List.filter_congr
  intro a ha
  obtain ⟨i, hi, rfl⟩ := List.mem_map.1 ha
  have := List.mem_range.1 hi
  rw [Bool.eq_iff_iff, decide_eq_true_eq]
  exact ptL_mem (by omega) (by omega)
theorem msk_ext {L M : List Int} (hL : ∀ a ∈ L, 0 ≤ a) (hM : ∀ a ∈ M, 0 ≤ a) (h : ∀ a, a ∈ L ↔ a ∈ M) : msk L = msk M := by
  apply Nat.eq_of_testBit_eq
  intro t
  rw [Bool.eq_iff_iff, msk_mem hL, msk_mem hM, h]
theorem Spn.msk {bs : List Blk} {zs L : List Int} (h : Spn bs zs L) (hc : closedL bs L = true) : Go.Proofs.Ytkpnlecmfmbkaaa.msk L = Go.Proofs.Ytkpnlecmfmbkaaa.msk (spl bs zs) := by
  refine msk_ext (fun a ha => (h.ok a ha).1) (fun a ha => (ptL_in _ a ha).1) fun a => ?_
  rw [h.done hc a]
  constructor
  · intro hi
    have := h.ok a ((h.done hc a).2 hi)
    exact (ptL_mem this.1 this.2).2 (by unfold inSpanB; simpa using hi)
  · intro hm
    have := ptL_in _ a hm
    have h2 := (ptL_mem this.1 this.2).1 hm
    unfold inSpanB at h2
    simpa using h2
theorem l07Span_rv (v : Int) (s : Value) (bs : List Blk) (zs : List Int) (w : World) (h : SB w s bs) (hok : ∀ x ∈ bs, okB x) (hz : ∀ z ∈ zs, 0 ≤ z ∧ z < 15) :
    Calls Try.prog 113 #[.agg #[.int .i64 v, s], .int .i64 (msk zs)] w (RV (.int .i64 (msk (spl bs zs))) w) :=
  (l07Span_any v s bs zs w h hok hz).mono fun e w' ⟨L, he, h1, h2, h3⟩ => ⟨by rw [he, h1.msk h2], h3⟩
theorem l07Points_own (L : List Int) (p : Int → Bool) (hL : L = ptL p 15) (w : World) : Calls Try.prog 112 #[.int .i64 (msk L)] w (fun e w' => ∃ u, e = .returned u ∧ OwnJ w' w.heap.size u L ∧ Below w.heap.size w w') := by
  subst hL
  have h := l07Points_any (ptL p 15) w (ptL_in p)
  rw [ptL_self] at h
  exact h
set_option maxRecDepth 100000 in
set_option maxHeartbeats 2000000 in
theorem specSpanOf_any (v : Int) (s : Value) (bs : List Blk) (t : Value) (zs : List Int) (w : World) (h : SB w s bs) (ht : IB w t zs) :
    Calls Try.prog 56 #[.agg #[.int .i64 v, s], t] w (RJ (spnF v bs zs) w) := by
  have hs := h.slice
  have hts := ht.form
  have HPC := Lib.hid fun W (hb : Below w.heap.size w W) => l01Set_any v s bs t zs W (h.below hb (Nat.le_refl _)) (ht.below hb (Nat.le_refl _))
  have HSB := Lib.hid h
  have HIB := Lib.hid ht
  have hb0 := (Below.refl w.heap.size w).alloc (Nat.le_refl _) (.cells #[.int .i64 v, s] 32)
  clear h ht
  obtain ⟨a0, c0, rfl⟩ := hs
  obtain ⟨a1, c1, rfl⟩ := hts
  by_cases hc : setCode v bs zs = 0
  · obtain ⟨_, hok, hin, _⟩ := setCode_zero hc
    have HV := Lib.hid (show spnF v bs zs = (spl bs zs, 0) by unfold spnF; rw [if_pos hc]; rfl)
    have HST := Lib.hid fun W (hb : Below w.heap.size w W) => l07Bits_any _ zs W (HIB.out.below hb (Nat.le_refl _)) hin
    have HSN := Lib.hid fun W (hb : Below w.heap.size w W) => l07Span_rv v _ bs zs W (HSB.out.below hb (Nat.le_refl _)) hok hin
    have HLI := Lib.hid fun W => l07Points_own (spl bs zs) (inSpanB bs zs) rfl W
    obtain ⟨S, hS⟩ : ∃ S, S = spl bs zs := ⟨_, rfl⟩
    rw [← hS] at HSN HLI HV
    obtain ⟨m, hm⟩ : ∃ m, m = msk zs := ⟨_, rfl⟩
    rw [← hm] at HST HSN
    obtain ⟨o, ho⟩ : ∃ o, o = msk S := ⟨_, rfl⟩
    rw [← ho] at HSN HLI
    rw [hc] at HPC
    rw [HV.out]
    clear hc hok hin hm ho hS HSB HIB HV
    go_enter Try.func56, Try.ntmps56
    go_wp2_with fail
    refine (HPC.out _ hb0).mono ?_
    rintro e w1 ⟨rfl, hb1⟩
    have q0 := cell_new hb1 0 rfl
    have q1 := cell_new hb1 1 rfl
    have hbw := below_new hb1
    have hz1 := hbw.size
    clear hb1 HPC
    go_wp2_with fail
    go_region_with (first | (go_at_call 107; refine (HST.out _ (below_drewN hbw _)).mono ?_; rintro e w' ⟨rfl, rfl⟩) | (go_at_call 113; refine (HSN.out _ (below_drewN hbw _)).mono ?_; rintro e w' ⟨rfl, hb⟩; have hB2 := (below_drewN hbw _).trans (hb.mono (below_drewN hbw _).size); clear hb) | (go_at_call 112; refine (HLI.out _).mono ?_; rintro e w' ⟨u, rfl, hO, hb⟩; have hB3 := hB2.trans (hb.mono hB2.size); have HO : OwnJ w' w.heap.size u S := ownsRow_base hO hB2.size; clear hO hb; obtain ⟨a6, c6, rfl⟩ := OwnJ.formS HO))
    all_goals go_wp2
    all_goals go_ret2
    all_goals exact ⟨_, rfl, HO, hB3⟩
  · have HV := Lib.hid (show spnF v bs zs = ([], setCode v bs zs) by unfold spnF; rw [if_neg hc])
    obtain ⟨κ, hκ⟩ : ∃ κ, κ = setCode v bs zs := ⟨_, rfl⟩
    rw [← hκ] at HPC HV hc
    have hne : (κ != 0) = true := by simpa using hc
    clear hc hκ
    rw [HV.out]
    go_enter Try.func56, Try.ntmps56
    go_wp2_with fail
    refine (HPC.out _ hb0).mono ?_
    rintro e w1 ⟨rfl, hb1⟩
    have hbw := below_new hb1
    clear hb1 HV
    go_wp2
    go_ret2
    exact ⟨_, rfl, OwnJ.nil _ _, hbw⟩
end Go.Proofs.Ytkpnlecmfmbkaaa

namespace Go.Proofs.Ytkpnlecmfmbkaaa
open Go.RowKit Go.Maps
/-- The row at the head of block g holds just these integers and may be written. -/
structure OwnAtI (w : World) (g : Nat) (zs : List Int) : Prop where
  lt : g < w.heap.size
  at_ : Ints w g 0 zs
  free : ∀ o, w.frozen? ⟨g, o, none⟩ = false
theorem OwnAtI.kept {w w' : World} {g : Nat} {zs : List Int} {row : Option Nat} (h : OwnAtI w g zs) (hg : w.grownBy w' row) (hne : some g ≠ row) : OwnAtI w' g zs := by
  have hb := hg.block g h.lt hne
  exact ⟨Nat.lt_of_lt_of_le h.lt hg.size, fun k hk => (World.cell?_of_block (w := w) (a := ⟨g, _, none⟩) hb).trans (h.at_ k hk), fun o => (World.frozen?_of_block (w := w) (a := ⟨g, o, none⟩) hb).trans (h.free o)⟩
theorem Ints.set {w : World} {g : Nat} {l : List Int} (h : Ints w g 0 l) {i : Nat} (hi : i < l.length) (x : Int) : Ints (w.setCell ⟨g, i, none⟩ (.int .i64 x)) g 0 (l.set i x) := by
  intro k hk
  rw [List.length_set] at hk
  have hk' := h k hk
  have hi' := h i hi
  rw [Nat.zero_add] at hk' hi' ⊢
  by_cases e : k = i
  · subst e
    rw [World.cell?_setCell_same' _ _ _ (by rw [hi']; rfl)]
    simp [hk]
  · rw [World.cell?_setCell_other _ _ _ _ (by simp <;> omega), hk', List.getElem?_set_ne (Ne.symm e)]
def markI (k : Int) (n : Nat) : List Int := (List.range n).map fun (t : Nat) => k + (t : Int)
theorem markI_length (k : Int) (n : Nat) : (markI k n).length = n := by simp [markI]
theorem markI_next {k : Int} {i : Nat} {zs : List Int} (h : i < zs.length) : (markI k i ++ zs.drop i).set i (k + i) = markI k (i + 1) ++ zs.drop (i + 1) := by
  rw [List.drop_eq_getElem_cons h, List.set_append_right _ _ (by rw [markI_length]; omega), markI_length, Nat.sub_self, List.set_cons_zero]
  simp [markI, List.range_succ]
theorem markI_at {k : Int} {n j : Nat} (h : j < n) : (markI k n)[j]?.getD 0 = k + j := by
  simp [markI, h]
set_option maxRecDepth 100000 in
theorem markInt64S_nil (a : Option Addr) (c : Nat) (k : Int) (w : World) : Calls Try.prog 33 #[.slice a 0 c, .int .i64 k] w (RS (.int .i64 k) w) := by
  go_enter Try.func33, Try.ntmps33
  go_wp2
  refine wp_loop_rounds 1 ?_
  rw [rounds_succ]
  go_wp2
  go_ret
  exact RS_of rfl
set_option maxRecDepth 100000 in
theorem heldInt64S_nil (a : Option Addr) (c : Nat) (k : Int) (w : World) : Calls Try.prog 35 #[.slice a 0 c, .int .i64 k] w (RS (.int .i64 k) w) := by
  go_enter Try.func35, Try.ntmps35
  go_wp2
  refine wp_loop_rounds 1 ?_
  rw [rounds_succ]
  go_wp2
  go_ret
  exact RS_of rfl
set_option maxRecDepth 100000 in
theorem markInt64S_any (g cap : Nat) (zs : List Int) (k : Int) (w : World) (h : OwnAtI w g zs) (hl : zs.length ≤ 1100000) (h0 : 0 ≤ k) (h1 : k ≤ 9000000) :
    Calls Try.prog 33 #[.slice (some ⟨g, 0, none⟩) zs.length cap, .int .i64 k] w (fun e w' => e = .returned (.int .i64 (k + zs.length)) ∧ w.grownBy w' (some g) ∧ OwnAtI w' g (markI k zs.length)) := by
  have H := Lib.hid h
  clear h
  go_enter Try.func33, Try.ntmps33
  go_wp2
  go_loopw [1, 5] (fun t i wr => ∃ j : Nat, j ≤ zs.length ∧ i = .int .i64 j ∧ t = .int .i64 (k + j) ∧ w.grownBy wr (some g) ∧ OwnAtI wr g (markI k j ++ zs.drop j)) (fun _ i _ => zs.length - (intOf i).toNat)
  case atStart => exact ⟨0, Nat.zero_le _, rfl, by simp, only_refl _ _, by simpa [markI] using H.out⟩
  case round =>
    obtain ⟨j, hj, rfl, rfl, hg, ho⟩ := hrel
    by_cases hjl : j < zs.length
    · have hlj : j < (markI k j ++ zs.drop j).length := by simp [markI_length]; omega
      have c1 := ho.at_ j hlj
      rw [Nat.zero_add] at c1
      have f1 := ho.free
      have hs := Ints.set ho.at_ hlj (k + j)
      rw [markI_next hjl] at hs
      have HS := Lib.hid hs
      have hlt := ho.lt
      clear hs ho
      have g0 : (0 : Int) ≤ (j : Int) := by omega
      have g1 : (j : Int) < (zs.length : Int) := by omega
      obtain ⟨m, hm⟩ : ∃ m, m = k + (j : Int) := ⟨_, rfl⟩
      rw [← hm] at HS ⊢
      have m0 : 0 ≤ m := by omega
      have m1 : m ≤ 90000000 := by omega
      have HM := Lib.hid hm
      clear hm
      go_wp2
      go_roundw
      case rel => exact ⟨j + 1, by omega, by go_num, int_eq (by rw [HM.out]; omega), only_setCell hg rfl _, ⟨by simpa [World.setCell] using hlt, HS.out, fun o => by rw [World.frozen?_setCell]; exact f1 o⟩⟩
      case measure => simp [intOf]; omega
    · go_wp2
      go_ret
      have e : j = zs.length := by omega
      subst e
      rw [List.drop_length, List.append_nil] at ho
      exact ⟨rfl, hg, ho⟩
set_option maxRecDepth 100000 in
theorem heldInt64S_any (g cap n : Nat) (k : Int) (w : World) (h : Ints w g 0 (markI k n)) (hl : n ≤ 1100000) (h0 : 0 ≤ k) (h1 : k ≤ 9000000) :
    Calls Try.prog 35 #[.slice (some ⟨g, 0, none⟩) n cap, .int .i64 k] w (RS (.int .i64 (k + n)) w) := by
  have H := Lib.hid h
  clear h
  go_enter Try.func35, Try.ntmps35
  go_wp2
  go_loop [1, 5] (fun t i => ∃ j : Nat, j ≤ n ∧ i = .int .i64 j ∧ t = .int .i64 (k + j)) (fun _ i => n - (intOf i).toNat)
  case atStart => exact ⟨0, Nat.zero_le _, rfl, by simp⟩
  case round =>
    obtain ⟨j, hj, rfl, rfl⟩ := hrel
    by_cases hjl : j < n
    · have hc := H.out j (by rw [markI_length]; exact hjl)
      rw [markI_at hjl, Nat.zero_add] at hc
      obtain ⟨m, hm⟩ : ∃ m, m = k + (j : Int) := ⟨_, rfl⟩
      rw [← hm] at hc ⊢
      have m0 : 0 ≤ m := by omega
      have m1 : m ≤ 90000000 := by omega
      have HM := Lib.hid hm
      clear hm
      have g0 : (0 : Int) ≤ (j : Int) := by omega
      have g1 : (j : Int) < (n : Int) := by omega
      have n1 : (m != m) = false := by simp
      go_wp2
      go_round
      case rel => exact ⟨j + 1, by omega, by go_num, int_eq (by rw [HM.out]; omega)⟩
      case measure => simp [intOf]; omega
    · go_wp2
      go_ret
      have e : j = n := by omega
      subst e
      exact RS_of rfl
/-- A result that is a list of integers: empty anywhere, or memory of its own between lo and hi. -/
def ResI (w : World) (lo hi : Nat) (s : Value) (zs : List Int) : Prop := (zs = [] ∧ ∃ a c, s = .slice a 0 c) ∨ ∃ g cap, s = .slice (some ⟨g, 0, none⟩) zs.length cap ∧ lo ≤ g ∧ g < hi ∧ OwnAtI w g zs
theorem OwnJ.res {w : World} {base : Nat} {v : Value} {zs : List Int} (h : OwnJ w base v zs) (hl : zs.length ≤ 1100000) : ResI w base w.heap.size v zs := by
  have hib := h.ib hl
  obtain ⟨hl, h | ⟨g, cap, cur, rfl, hb, hcur, hn, hc, hsz, hx⟩⟩ := h
  · obtain ⟨rfl, h0⟩ := h
    exact .inl ⟨List.length_eq_zero_iff.1 h0, _, _, rfl⟩
  · have hg : g < w.heap.size := (Array.getElem?_eq_some_iff.1 hcur).1
    rcases hib.2 with ⟨a, c, e1, rfl⟩ | ⟨b, off, cap', e1, _, hI⟩
    · exact .inl ⟨rfl, _, _, rfl⟩
    · simp at e1
      obtain ⟨⟨rfl, rfl⟩, _⟩ := e1
      exact .inr ⟨g, cap, rfl, hb, hg, hg, hI, fun o => by simp [World.frozen?, hcur]⟩
theorem ResI.ib {w : World} {lo hi : Nat} {s : Value} {zs : List Int} (h : ResI w lo hi s zs) (hl : zs.length ≤ 1100000) : IB w s zs := by
  rcases h with ⟨rfl, a, c, rfl⟩ | ⟨g, cap, rfl, _, _, ho⟩
  · exact ⟨hl, .inl ⟨a, c, rfl, rfl⟩⟩
  · exact ⟨hl, .inr ⟨g, 0, cap, rfl, ho.lt, ho.at_⟩⟩
theorem ResI.kept {w w' : World} {lo hi : Nat} {s : Value} {zs : List Int} {row : Option Nat} (h : ResI w lo hi s zs) (hg : w.grownBy w' row) (hr : ∀ r, row = some r → r < lo ∨ hi ≤ r) : ResI w' lo hi s zs := by
  rcases h with h | ⟨g, cap, rfl, h1, h2, ho⟩
  · exact .inl h
  · exact .inr ⟨g, cap, rfl, h1, h2, ho.kept hg (fun e => by have := hr g e.symm; omega)⟩
theorem ResI.below {w w' : World} {lo hi : Nat} {s : Value} {zs : List Int} (h : ResI w lo hi s zs) {B : Nat} (hb : Below B w w') (hB : w.heap.size ≤ B) : ResI w' lo hi s zs :=
  h.kept (only_of_below (hb.mono hB) none) (by simp)
theorem markJ (lo hi : Nat) (s : Value) (zs : List Int) (k : Int) (w : World) (h : ResI w lo hi s zs) (hl : zs.length ≤ 1100000) (h0 : 0 ≤ k) (h1 : k ≤ 9000000) :
    Calls Try.prog 33 #[s, .int .i64 k] w (fun e w' => e = .returned (.int .i64 (k + zs.length)) ∧ (∃ row, w.grownBy w' row ∧ ∀ r, row = some r → lo ≤ r ∧ r < hi) ∧ ResI w' lo hi s (markI k zs.length)) := by
  rcases h with ⟨rfl, a, c, rfl⟩ | ⟨g, cap, rfl, h3, h4, ho⟩
  · refine (markInt64S_nil a c k w).mono ?_
    rintro e w' ⟨rfl, rfl⟩
    exact ⟨by simp, ⟨none, only_refl _ _, by simp⟩, .inl ⟨rfl, a, c, rfl⟩⟩
  · refine (markInt64S_any g cap zs k w ho hl h0 h1).mono ?_
    rintro e w' ⟨rfl, hg, ho'⟩
    exact ⟨rfl, ⟨some g, hg, fun r hr => by cases hr; exact ⟨h3, h4⟩⟩, .inr ⟨g, cap, by rw [markI_length], h3, h4, ho'⟩⟩
theorem heldJ (lo hi : Nat) (s : Value) (n : Nat) (k : Int) (w : World) (h : ResI w lo hi s (markI k n)) (hl : n ≤ 1100000) (h0 : 0 ≤ k) (h1 : k ≤ 9000000) :
    Calls Try.prog 35 #[s, .int .i64 k] w (RS (.int .i64 (k + n)) w) := by
  rcases h with ⟨hn, a, c, rfl⟩ | ⟨g, cap, rfl, h3, h4, ho⟩
  · have : n = 0 := by have := congrArg List.length hn; simpa [markI_length] using this
    subst this
    simpa using heldInt64S_nil a c k w
  · rw [markI_length]
    exact heldInt64S_any g cap n k w ho.at_ hl h0 h1
end Go.Proofs.Ytkpnlecmfmbkaaa

namespace Go.Proofs.Ytkpnlecmfmbkaaa
open Go.RowKit Go.Maps
/-- The two boxes of the arguments; what was there before the call is as it was. -/
structure St2 (w : World) (v u : Int) (s t : Value) (W : World) : Prop where
  below : Below w.heap.size w W
  big : w.heap.size + 1 < W.heap.size
  x0 : W.cell? ⟨w.heap.size, 0, none⟩ = some (.int .i64 v)
  x1 : W.cell? ⟨w.heap.size, 1, none⟩ = some s
  y0 : W.cell? ⟨w.heap.size + 1, 0, none⟩ = some (.int .i64 u)
  y1 : W.cell? ⟨w.heap.size + 1, 1, none⟩ = some t
theorem St2.step {w : World} {v u : Int} {s t : Value} {W W' : World} {row : Option Nat} (h : St2 w v u s t W) (hg : W.grownBy W' row) (hr : ∀ r, row = some r → w.heap.size + 1 < r) : St2 w v u s t W' :=
  ⟨h.below.grown hg h.below.size (fun r e => by have := hr r e; omega), Nat.lt_of_lt_of_le h.big hg.size,
    hg.cell h.x0 (fun e => by have := hr _ e.symm; simp at this; omega), hg.cell h.x1 (fun e => by have := hr _ e.symm; simp at this; omega),
    hg.cell h.y0 (fun e => by have := hr _ e.symm; simp at this), hg.cell h.y1 (fun e => by have := hr _ e.symm; simp at this)⟩
theorem St2.start (w : World) (v u : Int) (s t : Value) : St2 w v u s t ((w.alloc (.cells #[.int .i64 v, s] 24)).alloc (.cells #[.int .i64 u, t] 24)) :=
  ⟨((Below.refl _ _).alloc (Nat.le_refl _) _).alloc (by simp) _, by simp, by simp [go_sem], by simp [go_sem], by simp [go_sem], by simp [go_sem]⟩
/-- A variable that holds a system. -/
structure VarB (W : World) (X : Nat) (v : Int) (s : Value) : Prop where
  lt : X < W.heap.size
  c0 : W.cell? ⟨X, 0, none⟩ = some (.int .i64 v)
  c1 : W.cell? ⟨X, 1, none⟩ = some s
theorem VarB.step {W W' : World} {X : Nat} {v : Int} {s : Value} {row : Option Nat} (h : VarB W X v s) (hg : W.grownBy W' row) (hr : row ≠ some X) : VarB W' X v s :=
  ⟨Nat.lt_of_lt_of_le h.lt hg.size, hg.cell h.c0 (fun e => hr e.symm), hg.cell h.c1 (fun e => hr e.symm)⟩
theorem VarB.new (W : World) (v : Int) (s : Value) (T : TypeId) : VarB (W.alloc (.cells #[.int .i64 v, s] T)) W.heap.size v s := ⟨by simp, by simp, by simp⟩

/-- The state of a law whose results are lists of blocks: the model's result (from i0 on, before i1), the two copies and their variables, the program's result. -/
structure CB (w : World) (v u : Int) (s t sW s8 s9 sG : Value) (X Y i0 i1 i2 i3 i4 i5 i6 : Nat) (LW L8 L9 LG : List Blk) (W : World) : Prop where
  st : St2 w v u s t W
  o0 : w.heap.size + 1 < i0
  o1 : i0 ≤ i1
  o2 : i1 ≤ i2
  oX : i2 ≤ X
  oX' : X < i3
  o4 : i3 ≤ i4
  oY : i4 ≤ Y
  oY' : Y < i5
  o6 : i5 ≤ i6
  rW : ResR W i0 i1 sW LW
  r8 : ResR W i1 i2 s8 L8
  vX : VarB W X v s8
  r9 : ResR W i3 i4 s9 L9
  vY : VarB W Y u s9
  rG : ResR W i5 i6 sG LG
section
variable {w : World} {v u : Int} {s t sW s8 s9 sG : Value} {X Y i0 i1 i2 i3 i4 i5 i6 : Nat} {LW L8 L9 LG : List Blk} {W W' : World}
theorem CB.step (h : CB w v u s t sW s8 s9 sG X Y i0 i1 i2 i3 i4 i5 i6 LW L8 L9 LG W) (hg : W.grownBy W' none) : CB w v u s t sW s8 s9 sG X Y i0 i1 i2 i3 i4 i5 i6 LW L8 L9 LG W' :=
  ⟨h.st.step hg (by simp), h.o0, h.o1, h.o2, h.oX, h.oX', h.o4, h.oY, h.oY', h.o6, h.rW.kept hg (by simp), h.r8.kept hg (by simp), h.vX.step hg (by simp), h.r9.kept hg (by simp), h.vY.step hg (by simp), h.rG.kept hg (by simp)⟩
theorem CB.mark8 (h : CB w v u s t sW s8 s9 sG X Y i0 i1 i2 i3 i4 i5 i6 LW L8 L9 LG W) {row : Option Nat} (hg : W.grownBy W' row) (hr : ∀ r, row = some r → i1 ≤ r ∧ r < i2) {L : List Blk} (hn : ResR W' i1 i2 s8 L) :
    CB w v u s t sW s8 s9 sG X Y i0 i1 i2 i3 i4 i5 i6 LW L L9 LG W' := by
  obtain ⟨st, o0, o1, o2, oX, oX', o4, oY, oY', o6, rW, r8, vX, r9, vY, rG⟩ := h
  exact ⟨st.step hg (fun r e => by have := hr r e; omega), o0, o1, o2, oX, oX', o4, oY, oY', o6, rW.kept hg (fun r e => by have := hr r e; omega), hn, vX.step hg (fun e => by have := hr _ e; omega), r9.kept hg (fun r e => by have := hr r e; omega), vY.step hg (fun e => by have := hr _ e; omega), rG.kept hg (fun r e => by have := hr r e; omega)⟩
theorem CB.mark9 (h : CB w v u s t sW s8 s9 sG X Y i0 i1 i2 i3 i4 i5 i6 LW L8 L9 LG W) {row : Option Nat} (hg : W.grownBy W' row) (hr : ∀ r, row = some r → i3 ≤ r ∧ r < i4) {L : List Blk} (hn : ResR W' i3 i4 s9 L) :
    CB w v u s t sW s8 s9 sG X Y i0 i1 i2 i3 i4 i5 i6 LW L8 L LG W' := by
  obtain ⟨st, o0, o1, o2, oX, oX', o4, oY, oY', o6, rW, r8, vX, r9, vY, rG⟩ := h
  exact ⟨st.step hg (fun r e => by have := hr r e; omega), o0, o1, o2, oX, oX', o4, oY, oY', o6, rW.kept hg (fun r e => by have := hr r e; omega), r8.kept hg (fun r e => by have := hr r e; omega), vX.step hg (fun e => by have := hr _ e; omega), hn, vY.step hg (fun e => by have := hr _ e; omega), rG.kept hg (fun r e => by have := hr r e; omega)⟩
theorem CB.markG (h : CB w v u s t sW s8 s9 sG X Y i0 i1 i2 i3 i4 i5 i6 LW L8 L9 LG W) {row : Option Nat} (hg : W.grownBy W' row) (hr : ∀ r, row = some r → i5 ≤ r ∧ r < i6) {L : List Blk} (hn : ResR W' i5 i6 sG L) :
    CB w v u s t sW s8 s9 sG X Y i0 i1 i2 i3 i4 i5 i6 LW L8 L9 L W' := by
  obtain ⟨st, o0, o1, o2, oX, oX', o4, oY, oY', o6, rW, r8, vX, r9, vY, rG⟩ := h
  exact ⟨st.step hg (fun r e => by have := hr r e; omega), o0, o1, o2, oX, oX', o4, oY, oY', o6, rW.kept hg (fun r e => by have := hr r e; omega), r8.kept hg (fun r e => by have := hr r e; omega), vX.step hg (fun e => by have := hr _ e; omega), r9.kept hg (fun r e => by have := hr r e; omega), vY.step hg (fun e => by have := hr _ e; omega), hn⟩
end
end Go.Proofs.Ytkpnlecmfmbkaaa

namespace Go.Proofs.Ytkpnlecmfmbkaaa
open Go.RowKit Go.Maps
theorem ResI.slice {w : World} {lo hi : Nat} {s : Value} {zs : List Int} (h : ResI w lo hi s zs) : ∃ a c, s = .slice a zs.length c := by
  rcases h with ⟨rfl, a, c, rfl⟩ | ⟨g, cap, rfl, _⟩ <;> exact ⟨_, _, rfl⟩
theorem ResI.wide {w : World} {lo hi lo' hi' : Nat} {s : Value} {zs : List Int} (h : ResI w lo hi s zs) (h1 : lo' ≤ lo) (h2 : hi ≤ hi') : ResI w lo' hi' s zs := by
  rcases h with h | ⟨g, cap, rfl, h3, h4, ho⟩
  · exact .inl h
  · exact .inr ⟨g, cap, rfl, by omega, by omega, ho⟩
structure St1 (w : World) (v : Int) (s : Value) (W : World) : Prop where
  below : Below w.heap.size w W
  big : w.heap.size < W.heap.size
  x0 : W.cell? ⟨w.heap.size, 0, none⟩ = some (.int .i64 v)
  x1 : W.cell? ⟨w.heap.size, 1, none⟩ = some s
theorem St1.step {w : World} {v : Int} {s : Value} {W W' : World} {row : Option Nat} (h : St1 w v s W) (hg : W.grownBy W' row) (hr : ∀ r, row = some r → w.heap.size < r) : St1 w v s W' :=
  ⟨h.below.grown hg h.below.size (fun r e => by have := hr r e; omega), Nat.lt_of_lt_of_le h.big hg.size,
    hg.cell h.x0 (fun e => by have := hr _ e.symm; simp at this), hg.cell h.x1 (fun e => by have := hr _ e.symm; simp at this)⟩
theorem St1.start (w : World) (v : Int) (s : Value) : St1 w v s (w.alloc (.cells #[.int .i64 v, s] 24)) :=
  ⟨(Below.refl _ _).alloc (Nat.le_refl _) _, by simp, by simp [go_sem], by simp [go_sem]⟩
structure CI (w : World) (v : Int) (s sW s8 sG : Value) (X i0 i1 i2 i5 i6 : Nat) (LW : List Int) (L8 : List Blk) (LG : List Int) (W : World) : Prop where
  st : St1 w v s W
  o0 : w.heap.size < i0
  o1 : i0 ≤ i1
  o2 : i1 ≤ i2
  oX : i2 ≤ X
  oX' : X < i5
  o6 : i5 ≤ i6
  rW : ResI W i0 i1 sW LW
  r8 : ResR W i1 i2 s8 L8
  vX : VarB W X v s8
  rG : ResI W i5 i6 sG LG
section
variable {w : World} {v : Int} {s sW s8 sG : Value} {X i0 i1 i2 i5 i6 : Nat} {LW LG : List Int} {L8 : List Blk} {W W' : World}
theorem CI.step (h : CI w v s sW s8 sG X i0 i1 i2 i5 i6 LW L8 LG W) (hg : W.grownBy W' none) : CI w v s sW s8 sG X i0 i1 i2 i5 i6 LW L8 LG W' :=
  ⟨h.st.step hg (by simp), h.o0, h.o1, h.o2, h.oX, h.oX', h.o6, h.rW.kept hg (by simp), h.r8.kept hg (by simp), h.vX.step hg (by simp), h.rG.kept hg (by simp)⟩
theorem CI.mark8 (h : CI w v s sW s8 sG X i0 i1 i2 i5 i6 LW L8 LG W) {row : Option Nat} (hg : W.grownBy W' row) (hr : ∀ r, row = some r → i1 ≤ r ∧ r < i2) {L : List Blk} (hn : ResR W' i1 i2 s8 L) :
    CI w v s sW s8 sG X i0 i1 i2 i5 i6 LW L LG W' := by
  obtain ⟨st, o0, o1, o2, oX, oX', o6, rW, r8, vX, rG⟩ := h
  exact ⟨st.step hg (fun r e => by have := hr r e; omega), o0, o1, o2, oX, oX', o6, rW.kept hg (fun r e => by have := hr r e; omega), hn, vX.step hg (fun e => by have := hr _ e; omega), rG.kept hg (fun r e => by have := hr r e; omega)⟩
theorem CI.markG (h : CI w v s sW s8 sG X i0 i1 i2 i5 i6 LW L8 LG W) {row : Option Nat} (hg : W.grownBy W' row) (hr : ∀ r, row = some r → i5 ≤ r ∧ r < i6) {L : List Int} (hn : ResI W' i5 i6 sG L) :
    CI w v s sW s8 sG X i0 i1 i2 i5 i6 LW L8 L W' := by
  obtain ⟨st, o0, o1, o2, oX, oX', o6, rW, r8, vX, rG⟩ := h
  exact ⟨st.step hg (fun r e => by have := hr r e; omega), o0, o1, o2, oX, oX', o6, rW.kept hg (fun r e => by have := hr r e; omega), r8.kept hg (fun r e => by have := hr r e; omega), vX.step hg (fun e => by have := hr _ e; omega), hn⟩
end
theorem gb_drew1 (w : World) : w.grownBy w.drew none := ⟨rfl, rfl, rfl, Nat.le_refl _, fun _ _ _ => rfl⟩
theorem gb_alloc1 (w : World) (o : Obj) : w.grownBy (w.alloc o) none := World.grownBy_alloc w o none
end Go.Proofs.Ytkpnlecmfmbkaaa

namespace Go.Proofs.Ytkpnlecmfmbkaaa
open Go.RowKit Go.Maps
/-- The value is a slice of just these n rows. -/
def SSB (w : World) (s : Value) (n : Nat) (F : Nat → List Int) : Prop :=
  n ≤ 1100000 ∧ ((n = 0 ∧ ∃ a c, s = .slice a 0 c) ∨ ∃ b off cap, s = .slice (some ⟨b, off, none⟩) n cap ∧ b < w.heap.size ∧ ∀ k, k < n → ∃ a c, w.cell? ⟨b, off + k, none⟩ = some (.slice a (F k).length c) ∧ IB w (.slice a (F k).length c) (F k))
theorem SSB.below {w w' : World} {s : Value} {n : Nat} {F : Nat → List Int} (h : SSB w s n F) {B : Nat} (hb : Below B w w') (hB : w.heap.size ≤ B) : SSB w' s n F := by
  obtain ⟨h1, h2⟩ := h
  refine ⟨h1, ?_⟩
  rcases h2 with h2 | ⟨b, off, cap, rfl, hl, hr⟩
  · exact .inl h2
  · refine .inr ⟨b, off, cap, rfl, by have := hb.size; omega, fun k hk => ?_⟩
    obtain ⟨a, c, hc, hi⟩ := hr k hk
    exact ⟨a, c, (hb.cell (by simp; omega)).trans hc, hi.below hb hB⟩
theorem SSB.slice {w : World} {s : Value} {n : Nat} {F : Nat → List Int} (h : SSB w s n F) : ∃ a c, s = .slice a n c := by
  rcases h.2 with ⟨rfl, a, c, rfl⟩ | ⟨b, off, cap, rfl, _⟩ <;> exact ⟨_, _, rfl⟩
set_option maxRecDepth 100000 in
theorem eqInt64SS_same (s t : Value) (n : Nat) (F : Nat → List Int) (w : World) (h : SSB w s n F) (k : SSB w t n F) : Calls Try.prog 28 #[s, t] w (RV (.bool true) w) := by
  have hn := h.1
  by_cases h0 : n = 0
  · obtain ⟨a, c, rfl⟩ := h.slice
    obtain ⟨a', c', rfl⟩ := k.slice
    subst h0
    clear h k hn
    go_enter Try.func28, Try.ntmps28
    go_wp2
    refine wp_loop_rounds 1 ?_
    rw [rounds_succ]
    go_wp2
    go_ret
    exact RV_of rfl (Below.refl _ _)
  · rcases h.2 with ⟨e, _⟩ | ⟨b, off, cap, rfl, hb, hB⟩
    · exact absurd e h0
    · rcases k.2 with ⟨e, _⟩ | ⟨b', off', cap', rfl, hb', hB'⟩
      · exact absurd e h0
      · have HB := Lib.hid hB
        have HB' := Lib.hid hB'
        clear hB hB' h k h0
        have hne : (((n : Nat) : Int) != (n : Nat)) = false := by simp
        go_enter Try.func28, Try.ntmps28
        go_wp2
        go_loopw [5] (fun i wr => ∃ k : Nat, k ≤ n ∧ i = .int .i64 k ∧ Below w.heap.size w wr) (fun i _ => n - (intOf i).toNat)
        case atStart => exact ⟨0, Nat.zero_le _, rfl, Below.refl _ _⟩
        case round =>
          obtain ⟨k, hk, rfl, hBw⟩ := hrel
          by_cases hkl : k < n
          · obtain ⟨a1, c1, q1, i1⟩ := HB.out k hkl
            obtain ⟨a2, c2, q2, i2⟩ := HB'.out k hkl
            have q1 := (hBw.cell (p := ⟨b, off + k, none⟩) hb).trans q1
            have q2 := (hBw.cell (p := ⟨b', off' + k, none⟩) hb').trans q2
            have I1 := Lib.hid (i1.below hBw (Nat.le_refl _))
            have I2 := Lib.hid (i2.below hBw (Nat.le_refl _))
            clear i1 i2
            have g0 : (0 : Int) ≤ (k : Int) := by omega
            have g1 : (k : Int) < (n : Int) := by omega
            go_wp2_with fail
            go_region_with (go_at_call 29; refine (eqInt64S_same _ _ (F k) _ (I1.out.below ((Below.refl _ _).drew) (Nat.le_refl _)) (I2.out.below ((Below.refl _ _).drew) (Nat.le_refl _))).mono ?_; rintro e w1 ⟨rfl, hb1⟩)
            all_goals
              go_wp2_with fail
              go_roundw
              case rel => exact ⟨k + 1, by omega, by go_num, (hBw.drew).trans (hb1.mono (by have := hBw.size; simp; omega))⟩
              case measure => simp [intOf]; omega
          · go_wp2
            go_ret
            exact RV_of rfl hBw
/-- Rows of its own: the head at block G, the k-th row at block gs k. -/
structure SSR (w : World) (lo G : Nat) (gs caps : Nat → Nat) (n : Nat) (F : Nat → List Int) : Prop where
  cell : ∀ k, k < n → w.cell? ⟨G, k, none⟩ = some (.slice (some ⟨gs k, 0, none⟩) (F k).length (caps k))
  row : ∀ k, k < n → OwnAtI w (gs k) (F k)
  ne : ∀ k, k < n → gs k ≠ G
  inc : ∀ j k, j < k → k < n → gs j ≠ gs k
  low : ∀ k, k < n → lo ≤ gs k
  lt : G < w.heap.size
theorem SSR.kept {w w' : World} {lo G : Nat} {gs caps : Nat → Nat} {n : Nat} {F : Nat → List Int} (h : SSR w lo G gs caps n F) {row : Option Nat} (hg : w.grownBy w' row) (hG : some G ≠ row) (hr : ∀ k, k < n → some (gs k) ≠ row) : SSR w' lo G gs caps n F :=
  ⟨fun k hk => hg.cell (h.cell k hk) (by simpa using hG), fun k hk => (h.row k hk).kept hg (hr k hk), h.ne, h.inc, h.low, Nat.lt_of_lt_of_le h.lt hg.size⟩
theorem SSR.below {w w' : World} {lo G : Nat} {gs caps : Nat → Nat} {n : Nat} {F : Nat → List Int} (h : SSR w lo G gs caps n F) {B : Nat} (hb : Below B w w') (hB : w.heap.size ≤ B) : SSR w' lo G gs caps n F :=
  h.kept (only_of_below (hb.mono hB) none) (by simp) (by simp)
theorem SSR.sb {w : World} {lo G cap : Nat} {gs caps : Nat → Nat} {n : Nat} {F : Nat → List Int} (h : SSR w lo G gs caps n F) (hn : n ≤ 1100000) (hF : ∀ k, k < n → (F k).length ≤ 1100000) : SSB w (.slice (some ⟨G, 0, none⟩) n cap) n F :=
  ⟨hn, .inr ⟨G, 0, cap, rfl, h.lt, fun k hk => ⟨_, _, by rw [Nat.zero_add]; exact h.cell k hk, ⟨hF k hk, .inr ⟨gs k, 0, caps k, rfl, (h.row k hk).lt, (h.row k hk).at_⟩⟩⟩⟩⟩
/-- How many integers the first k rows hold. -/
def tot (F : Nat → List Int) : Nat → Nat
  | 0 => 0
  | k + 1 => tot F k + (F k).length
theorem tot_le (F : Nat → List Int) {j n : Nat} (h : j ≤ n) : tot F j ≤ tot F n := by
  induction h with
  | refl => exact Nat.le_refl _
  | step _ ih => exact Nat.le_trans ih (by simp [tot])
/-- The rows after marking. -/
def markSS (k0 : Int) (F : Nat → List Int) (j : Nat) : List Int := markI (k0 + tot F j) (F j).length
theorem SSR.mark1 {w w' : World} {lo G : Nat} {gs caps : Nat → Nat} {n : Nat} {F : Nat → List Int} (h : SSR w lo G gs caps n F) {j : Nat} (hj : j < n) (L : List Int) (hL : L.length = (F j).length) (hg : w.grownBy w' (some (gs j))) (ho : OwnAtI w' (gs j) L) :
    SSR w' lo G gs caps n (fun k => if k = j then L else F k) := by
  refine ⟨fun k hk => ?_, fun k hk => ?_, h.ne, h.inc, h.low, Nat.lt_of_lt_of_le h.lt hg.size⟩
  · have hc := hg.cell (h.cell k hk) (by simpa using Ne.symm (h.ne j hj))
    split
    · subst k
      rw [hL]; exact hc
    · exact hc
  · split
    · subst k; exact ho
    · refine (h.row k hk).kept hg (fun e => ?_)
      have e : gs k = gs j := by simpa using e
      rcases Nat.lt_trichotomy k j with hlt | rfl | hlt
      · have := h.inc k j hlt hj; omega
      · contradiction
      · have := h.inc j k hlt hk; omega
def partSS (k0 : Int) (F : Nat → List Int) (j : Nat) : Nat → List Int := fun k => if k < j then markSS k0 F k else F k
theorem partSS_len (k0 : Int) (F : Nat → List Int) (j k : Nat) : (partSS k0 F j k).length = (F k).length := by
  unfold partSS markSS
  split
  · rw [markI_length]
  · rfl
theorem partSS_succ (k0 : Int) (F : Nat → List Int) (j : Nat) : (fun k => if k = j then markSS k0 F j else partSS k0 F j k) = partSS k0 F (j + 1) := by
  funext k
  unfold partSS
  by_cases h : k = j
  · subst h; simp
  · rw [if_neg h]
    by_cases h2 : k < j
    · rw [if_pos h2, if_pos (by omega)]
    · rw [if_neg h2, if_neg (by omega)]
theorem SSR.congr {w : World} {lo G : Nat} {gs caps : Nat → Nat} {n : Nat} {F F' : Nat → List Int} (h : SSR w lo G gs caps n F) (e : ∀ k, k < n → F k = F' k) : SSR w lo G gs caps n F' :=
  ⟨fun k hk => by rw [← e k hk]; exact h.cell k hk, fun k hk => by rw [← e k hk]; exact h.row k hk, h.ne, h.inc, h.low, h.lt⟩
set_option maxRecDepth 100000 in
theorem markInt64SS_any (lo G cap : Nat) (gs caps : Nat → Nat) (n : Nat) (F : Nat → List Int) (k0 : Int) (w : World) (h : SSR w lo G gs caps n F) (hl : n ≤ 1100000) (hlo : lo ≤ w.heap.size) (hT : tot F n ≤ 1100000) (h0 : 0 ≤ k0) (h1 : k0 ≤ 5000000) :
    Calls Try.prog 32 #[.slice (some ⟨G, 0, none⟩) n cap, .int .i64 k0] w (fun e w' => e = .returned (.int .i64 (k0 + tot F n)) ∧ Below lo w w' ∧ SSR w' lo G gs caps n (markSS k0 F)) := by
  have H := Lib.hid h
  clear h
  go_enter Try.func32, Try.ntmps32
  go_wp2
  go_loopw [1, 5] (fun t i wr => ∃ j : Nat, j ≤ n ∧ i = .int .i64 j ∧ t = .int .i64 (k0 + tot F j) ∧ Below lo w wr ∧ SSR wr lo G gs caps n (partSS k0 F j)) (fun _ i _ => n - (intOf i).toNat)
  case atStart => exact ⟨0, Nat.zero_le _, rfl, by simp [tot], Below.refl _ _, H.out.congr (fun k _ => by simp [partSS])⟩
  case round =>
    obtain ⟨j, hj, rfl, rfl, hB, hS⟩ := hrel
    have hSz := hB.size
    by_cases hjl : j < n
    · have c1 := hS.cell j hjl
      have hrow := hS.row j hjl
      have hlow := hS.low j hjl
      have hlen := partSS_len k0 F j j
      have hFj : partSS k0 F j j = F j := by simp [partSS]
      rw [hFj] at c1 hrow
      have htj : tot F (j + 1) ≤ tot F n := tot_le F hjl
      have htj' : tot F (j + 1) = tot F j + (F j).length := rfl
      have HS := Lib.hid hS
      have HM := Lib.hid (markInt64S_any (gs j) (caps j) (F j) (k0 + tot F j) wr hrow (by omega) (by omega) (by omega))
      clear hlen hFj hrow hS
      have g0 : (0 : Int) ≤ (j : Int) := by omega
      have g1 : (j : Int) < (n : Int) := by omega
      go_wp2_with (go_at_call 33; refine HM.out.mono ?_; rintro e w1 ⟨rfl, hg1, ho1⟩)
      go_roundw
      case rel => exact ⟨j + 1, by omega, by go_num, int_eq (by rw [htj']; omega), hB.grown hg1 (by omega) (fun r e => by simp at e; omega), by
        have := HS.out.mark1 hjl (markSS k0 F j) (by unfold markSS; rw [markI_length, partSS_len]) hg1 ho1
        rw [partSS_succ] at this
        exact this⟩
      case measure => simp [intOf]; omega
    · go_wp2
      go_ret
      have e : j = n := by omega
      subst e
      exact ⟨rfl, hB, hS.congr (fun k hk => by simp [partSS, hk])⟩
set_option maxRecDepth 100000 in
theorem heldInt64SS_any (lo G cap : Nat) (gs caps : Nat → Nat) (n : Nat) (F : Nat → List Int) (k0 : Int) (w : World) (h : SSR w lo G gs caps n (markSS k0 F)) (hl : n ≤ 1100000) (hT : tot F n ≤ 1100000) (h0 : 0 ≤ k0) (h1 : k0 ≤ 5000000) :
    Calls Try.prog 34 #[.slice (some ⟨G, 0, none⟩) n cap, .int .i64 k0] w (RS (.int .i64 (k0 + tot F n)) w) := by
  have H := Lib.hid h
  clear h
  go_enter Try.func34, Try.ntmps34
  go_wp2
  go_loop [1, 5] (fun t i => ∃ j : Nat, j ≤ n ∧ i = .int .i64 j ∧ t = .int .i64 (k0 + tot F j)) (fun _ i => n - (intOf i).toNat)
  case atStart => exact ⟨0, Nat.zero_le _, rfl, by simp [tot]⟩
  case round =>
    obtain ⟨j, hj, rfl, rfl⟩ := hrel
    by_cases hjl : j < n
    · have c1 := H.out.cell j hjl
      have hrow := (H.out.row j hjl).at_
      have htj : tot F (j + 1) ≤ tot F n := tot_le F hjl
      have htj' : tot F (j + 1) = tot F j + (F j).length := rfl
      have hmm : (markSS k0 F j).length = (F j).length := by unfold markSS; rw [markI_length]
      rw [hmm] at c1
      have HM := Lib.hid (heldInt64S_any (gs j) (caps j) (F j).length (k0 + tot F j) w hrow (by omega) (by omega) (by omega))
      clear hmm hrow
      obtain ⟨m, hm⟩ : ∃ m, m = k0 + (tot F j : Int) + ((F j).length : Int) := ⟨_, rfl⟩
      rw [← hm] at HM
      have hm0 : 0 ≤ m := by omega
      have HME := Lib.hid hm
      clear hm
      have g0 : (0 : Int) ≤ (j : Int) := by omega
      have g1 : (j : Int) < (n : Int) := by omega
      go_wp2_with (go_at_call 35; refine HM.out.mono ?_; rintro e w1 ⟨rfl, rfl⟩)
      go_round
      case rel => exact ⟨j + 1, by omega, by go_num, int_eq (by rw [htj', HME.out]; omega)⟩
      case measure => simp [intOf]; omega
    · go_wp2
      go_ret
      have e : j = n := by omega
      subst e
      exact RS_of rfl
end Go.Proofs.Ytkpnlecmfmbkaaa

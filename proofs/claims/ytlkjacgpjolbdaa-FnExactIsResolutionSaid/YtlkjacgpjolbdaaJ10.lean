
/- IsResolution of the model. What a law over two systems knows of the memory between two of its steps. What a law over one system whose result is a list of integers knows of the memory between two of its steps. The pairs of a list of blocks, as a map. The program's PairsLeft. The model's squares. -/
import Derived.Test.YtlkjacgpjolbdaaJ9
namespace Go.Proofs.Ytlkjacgpjolbdaa
open Go.RowKit Go.Maps
theorem mem_cat_take {F : Nat → List Int} {k m : Nat} (hm : m < (F k).length) : catF k F ++ (F k).take (m + 1) = (catF k F ++ (F k).take m) ++ [(F k)[m]?.getD 0] := by
  rw [List.take_succ_eq_append_getElem hm, List.append_assoc]
  simp [hm]
theorem cat_preR (F : Nat → List Int) {k n : Nat} (h : k < n) : ∃ R, catF n F = catF (k + 1) F ++ R := by
  induction h with
  | refl => exact ⟨[], by simp⟩
  | step _ ih =>
    obtain ⟨R, hR⟩ := ih
    exact ⟨R ++ F _, by rw [catF_succ, hR, List.append_assoc]⟩
theorem rst_dup {v : Int} {bs : List Blk} {n k m : Nat} {F : Nat → List Int} (hk : k < n) (hm : m < (F k).length) (h : (F k)[m]?.getD 0 ∈ catF k F ++ (F k).take m) : rstB v bs n F = false := by
  unfold rstB
  have hn : ¬ (catF n F).Nodup := fun hn => by
    obtain ⟨R, hR⟩ := cat_preR F hk
    rw [hR, catF_succ] at hn
    have hn := (List.nodup_append.1 hn).1
    have e : F k = (F k).take m ++ (F k).drop m := (List.take_append_drop m _).symm
    rw [e, ← List.append_assoc, List.nodup_append] at hn
    refine hn.2.2 _ h _ ?_ rfl
    rw [List.getElem?_eq_getElem hm, Option.getD_some, List.drop_eq_getElem_cons hm]
    exact List.mem_cons_self
  rw [show decide (catF n F).Nodup = false from decide_eq_false hn]
  simp
set_option maxRecDepth 100000 in
set_option maxHeartbeats 4000000 in
theorem specIsResolution_any (v : Int) (s : Value) (bs : List Blk) (t : Value) (n : Nat) (F : Nat → List Int) (w : World) (h : SB w s bs) (ht : SSB w t n F) (htot : tot F n ≤ 1100000) :
    Calls Try.prog 39 #[.agg #[.int .i64 v, s], t] w (RV (boolCode (resF v bs n F).1 (resF v bs n F).2) w) := by
  have hs := h.slice
  have hn := ht.1
  have HI := Lib.hid fun W (hb : Below w.heap.size w W) => l01Is_any v s bs W (h.below hb (Nat.le_refl _))
  have HSB := Lib.hid h
  obtain ⟨a, c, rfl⟩ := ht.slice
  have HIB := Lib.hid ht.rows
  have hlen := h.2.1
  have HTL := Lib.hid fun k (hk : k ≤ n) => Nat.le_trans (tot_le F hk) htot
  clear h ht htot
  obtain ⟨a0, c0, rfl⟩ := hs
  cases hi : isSysImpl v bs with
  | false =>
    rw [hi] at HI
    have HV := Lib.hid (show resF v bs n F = (false, 1) by simp [resF, chkF, hi])
    clear hi
    go_enter Try.func39, Try.ntmps39
    go_wp2_with fail
    refine (HI.out _ ((Below.refl _ _).alloc (Nat.le_refl _) _)).mono ?_
    rintro e w1 ⟨rfl, hb1⟩
    have hb2 := below_new hb1
    clear hb1
    go_wp2
    go_ret2
    exact ⟨by rw [HV.out]; rfl, hb2⟩
  | true =>
  rw [hi] at HI
  have HIS := Lib.hid hi
  have HCH := Lib.hid (show chkF v bs n F = if setsOk (bs.length : Int) n F then 0 else 2 by simp [chkF, hi])
  clear hi
  go_enter Try.func39, Try.ntmps39
  go_wp2_with fail
  refine (HI.out _ ((Below.refl _ _).alloc (Nat.le_refl _) _)).mono ?_
  rintro e w1 ⟨rfl, hb1⟩
  have p0 := cell_new hb1 0 rfl
  have p1 := cell_new hb1 1 rfl
  have hlt1 := block_lt_of_cell p0
  have HB1 := Lib.hid (below_new hb1)
  clear hb1 HI
  obtain ⟨W0, rfl⟩ : ∃ W0, W0 = w := ⟨_, rfl⟩
  go_wp2_with fail
  go_loopw [6] (fun i wr => ∃ k : Nat, k ≤ n ∧ i = .int .i64 k ∧ Below w1.heap.size w1 wr ∧ Hid (setsOk (bs.length : Int) k F = true)) (fun i _ => n - (intOf i).toNat)
  case atStart => exact ⟨0, Nat.zero_le _, rfl, Below.refl _ _, Lib.hid rfl⟩
  case round =>
    obtain ⟨k, hk, rfl, hB, HK⟩ := hrel
    have hz := hB.size
    have hBw := HB1.out.trans (hB.mono HB1.out.size)
    have q0 := (hB.cell (p := ⟨W0.heap.size, 0, none⟩) hlt1).trans p0
    have q1 := (hB.cell (p := ⟨W0.heap.size, 1, none⟩) hlt1).trans p1
    by_cases hkl : k < n
    · obtain ⟨b, off, a', c', rfl, hltb, hc, hib⟩ := HIB.out k hkl
      have q := (hBw.cell (p := ⟨b, off + k, none⟩) hltb).trans hc
      have HC := Lib.hid fun W (hb : Below wr.heap.size wr W) => l05Set_any v _ bs _ (F k) W (HSB.out.below (hBw.trans (hb.mono hBw.size)) (Nat.le_refl _)) (hib.below (hBw.trans (hb.mono hBw.size)) (Nat.le_refl _))
      have hns : nsCode v bs (F k) = if ptGo (bs.length : Int) none (F k) then 0 else 2 := by unfold nsCode; rw [HIS.out]; rfl
      rw [hns] at HC
      have g0 : (0 : Int) ≤ (k : Int) := by omega
      have g1 : (k : Int) < (n : Int) := by omega
      have hbd : Below wr.heap.size wr wr.drew := (Below.refl _ _).drew
      obtain ⟨m, hm⟩ : ∃ m, m = (F k).length := ⟨_, rfl⟩
      rw [← hm] at q HC
      clear hc hib hns hm
      cases hp : ptGo (bs.length : Int) none (F k) with
      | true =>
        rw [hp, if_pos rfl] at HC
        have HS := Lib.hid (show setsOk (bs.length : Int) (k + 1) F = true by rw [setsOk_succ, HK.out, hp]; rfl)
        clear hp
        go_wp2_with fail
        go_still_tail 5, (by kernel_rfl)
        repeat still_step
        change wpList _ _ _ _ _ wr.drew
        have HCd := Lib.hid (HC.out _ hbd)
        have HBd := Lib.hid (hB.trans (hbd.mono hz))
        obtain ⟨w3, hw3⟩ : ∃ w3, w3 = wr.drew := ⟨_, rfl⟩
        rw [← hw3] at HBd HCd ⊢
        clear hw3 q0 q1 q hbd
        go_wp2_with fail
        refine HCd.out.mono ?_
        rintro e w4 ⟨rfl, hb4⟩
        have hb5 := HBd.out.trans (hb4.mono HBd.out.size)
        clear hb4
        go_wp2
        go_roundw
        case rel => exact ⟨k + 1, by omega, by go_num, hb5, HS⟩
        case measure => simp [intOf]; omega
      | false =>
        rw [hp, if_neg (by decide)] at HC
        have HV := Lib.hid (show resF v bs n F = (false, 2) by unfold resF; rw [HCH.out, setsOk_false hkl hp]; simp)
        clear hp
        go_wp2_with fail
        go_still_tail 5, (by kernel_rfl)
        repeat still_step
        change wpList _ _ _ _ _ wr.drew
        have HCd := Lib.hid (HC.out _ hbd)
        have HBd := Lib.hid (hBw.trans (hbd.mono hBw.size))
        obtain ⟨w3, hw3⟩ : ∃ w3, w3 = wr.drew := ⟨_, rfl⟩
        rw [← hw3] at HBd HCd ⊢
        clear hw3 q0 q1 q hbd
        go_wp2_with fail
        refine HCd.out.mono ?_
        rintro e w4 ⟨rfl, hb4⟩
        have hb5 := HBd.out.trans (hb4.mono HBd.out.size)
        clear hb4
        go_wp2
        go_ret2
        exact ⟨by rw [HV.out]; rfl, hb5⟩
    · have e : k = n := by omega
      subst e
      have hch : chkF v bs k F = 0 := by rw [HCH.out, HK.out]; rfl
      have HV := Lib.hid (show resF v bs k F = (rstB v bs k F, 0) by unfold resF; rw [hch]; simp)
      have HIN := Lib.hid (chk_rows hch).2
      have HCI := Lib.hid (cat_in (chk_rows hch).2)
      have hmk := mkBools bs.length hlen
      have HBW := Lib.hid hBw
      have hg0 : W0.heap.size < wr.heap.size := by omega
      obtain ⟨W2, rfl⟩ : ∃ W2, W2 = wr := ⟨_, rfl⟩
      clear hch hkl hk hB HK p0 p1
      go_wp2_with fail
      go_loopw [9, 10] (fun ct i wr => ∃ j : Nat, j ≤ k ∧ i = .int .i64 j ∧ ct = .int .i64 ((catF j F).length : Nat) ∧ Below W2.heap.size W2 wr ∧ BoolsAt wr W2.heap.size bs.length (fun q => decide ((q : Int) ∈ catF j F)) ∧ Hid (rowsR v bs j F = true ∧ (catF j F).Nodup)) (fun _ i _ => k - (intOf i).toNat)
      case atStart => exact ⟨0, Nat.zero_le _, rfl, rfl, (Below.refl _ _).alloc (Nat.le_refl _) _, (BoolsAt.made W2 bs.length _).congr (fun q _ => by simp [catF]), Lib.hid ⟨rfl, by simp [catF]⟩⟩
      case round =>
        obtain ⟨j, hj, rfl, rfl, hB2, hS, HR⟩ := hrel
        have hz2 := hB2.size
        have hBW2 := HBW.out.trans (hB2.mono HBW.out.size)
        have q0 := (hB2.cell (p := ⟨W0.heap.size, 0, none⟩) hg0).trans q0
        have q1 := (hB2.cell (p := ⟨W0.heap.size, 1, none⟩) hg0).trans q1
        by_cases hjl : j < k
        · obtain ⟨b, off, a', c', rfl, hltb, hc, hib⟩ := HIB.out j hjl
          have q := (hBW2.cell (p := ⟨b, off + j, none⟩) hltb).trans hc
          have HC := Lib.hid fun W (hb : Below wr.heap.size wr W) => l05Class_any v _ bs _ (F j) W (HSB.out.below (hBW2.trans (hb.mono hBW2.size)) (Nat.le_refl _)) (hib.below (hBW2.trans (hb.mono hBW2.size)) (Nat.le_refl _)) HIS.out (HIN.out j hjl)
          have HROWK := Lib.hid (show rowR v bs F j = (clsB v (blksAt bs (F j)) && (decide (j = 0) || lexL (F (j - 1)) (F j))) from rfl)
          have HIBJ := Lib.hid hib
          have g0 : (0 : Int) ≤ (j : Int) := by omega
          have g1 : (j : Int) < (k : Int) := by omega
          have HHC := Lib.hid hc
          have r0 := cell_regrown q0
          have r1 := cell_regrown q1
          have r := cell_regrown q
          have HS := Lib.hid hS
          clear hS hc
          cases hcl : clsB v (blksAt bs (F j)) with
          | false =>
            rw [hcl] at HC HROWK
            have HR2 := Lib.hid (show rstB v bs k F = false by unfold rstB; rw [rowsR_false hjl (by rw [HROWK.out]; rfl)]; rfl)
            clear hcl
            go_wp2_with fail
            refine wp_region_quiet_below (by kernel_rfl) (by kernel_rfl) ?_
            repeat (go_big_quiet_step (exact Calls.regrown_of (HC.out _ (below_regrown _ _ _))))
            refine wpQuiet_nil ?_
            intro _ hw'
            obtain ⟨⟨dq, osq⟩, hw''⟩ := hw'
            have hbq := below_regrown wr dq osq
            rw [← hw''] at hbq
            clear hw'' r0 r1 r q0 q1 q
            go_wp2
            go_ret2
            exact ⟨by rw [HV.out, HR2.out]; rfl, hBW2.trans (hbq.mono hBW2.size)⟩
          | true =>
            rw [hcl] at HC HROWK
            clear hcl
            have hgd : (j = 0 ∧ Hid (rowR v bs F j = true)) ∨ (∃ i, j = i + 1 ∧ Hid (rowR v bs F j = lexL (F i) (F j))) := by
              rcases Nat.eq_zero_or_pos j with h0 | h0
              · exact .inl ⟨h0, Lib.hid (by rw [HROWK.out, h0]; rfl)⟩
              · exact .inr ⟨j - 1, by omega, Lib.hid (by rw [HROWK.out, show decide (j = 0) = false from decide_eq_false (by omega)]; rfl)⟩
            have hgd2 : (decide ((0 : Int) < (j : Int)) = false ∧ Hid (rowR v bs F j = true) ∧ j = j) ∨ (∃ i, j = i + 1 ∧ Hid (rowR v bs F j = lexL (F i) (F j))) := by
              rcases hgd with ⟨h0, h1⟩ | h1
              · exact .inl ⟨by rw [h0]; decide, h1, rfl⟩
              · exact .inr h1
            clear hgd HROWK
            obtain ⟨m, hm⟩ : ∃ m, m = (F j).length := ⟨_, rfl⟩
            rw [← hm] at HC r q HHC
            have HM := Lib.hid hm
            clear hm q0 q1 q
            rcases hgd2 with ⟨gd, HRW, _⟩ | ⟨i, hji, HRW⟩
            case inr =>
              obtain ⟨b', off', a'', c'', hbe, hltb', hc', hib'⟩ := HIB.out i (by omega)
              simp at hbe
              obtain ⟨rfl, rfl⟩ := hbe
              have qi := (hBW2.cell (p := ⟨b, off + i, none⟩) hltb).trans hc'
              have ri := cell_regrown qi
              have HL := Lib.hid fun W (hb : Below wr.heap.size wr W) => l03Less_any _ _ (F i) (F j) W (hib'.below (hBW2.trans (hb.mono hBW2.size)) (Nat.le_refl _)) (HIBJ.out.below (hBW2.trans (hb.mono hBW2.size)) (Nat.le_refl _))
              obtain ⟨m', hm'⟩ : ∃ m', m' = (F i).length := ⟨_, rfl⟩
              rw [← hm'] at ri HL
              rw [← HM.out] at HL
              have gd : decide ((0 : Int) < (j : Int)) = true := decide_eq_true (by omega)
              have gdn : decide (0 < j) = true := decide_eq_true (by omega)
              have hwj : IntKind.i64.wrap ((j : Int) - 1) = (i : Int) := by rw [IntWalk.i64_in _ (by omega)]; omega
              have gi0 : (0 : Int) ≤ (i : Int) := by omega
              have gi1 : (i : Int) < (k : Int) := by omega
              have HJI := Lib.hid hji
              clear hc' hib' qi hm' hji
              cases hlx : lexL (F i) (F j) with
              | false =>
                rw [hlx] at HL HRW
                have HR2 := Lib.hid (show rstB v bs k F = false by unfold rstB; rw [rowsR_false hjl HRW.out]; rfl)
                clear hlx
                go_wp2_with fail
                refine wp_region_quiet_below (by kernel_rfl) (by kernel_rfl) ?_
                repeat (go_big_quiet_step (first | exact Calls.regrown_of (HC.out _ (below_regrown _ _ _)) | exact Calls.regrown_of (HL.out _ (below_regrown _ _ _))))
                refine wpQuiet_nil ?_
                intro wq hw'
                obtain ⟨⟨dq, osq⟩, hw''⟩ := hw'
                have hbq := below_regrown wr dq osq
                rw [← hw''] at hbq
                clear hw'' r0 r1 r ri
                go_wp2
                go_ret2
                exact ⟨by rw [HV.out, HR2.out]; rfl, hBW2.trans (hbq.mono hBW2.size)⟩
              | true =>
                rw [hlx] at HL HRW
                clear hlx
                go_wp2_with fail
                refine wp_region_quiet_below (by kernel_rfl) (by kernel_rfl) ?_
                repeat (go_big_quiet_step (first | exact Calls.regrown_of (HC.out _ (below_regrown _ _ _)) | exact Calls.regrown_of (HL.out _ (below_regrown _ _ _))))
                refine wpQuiet_nil ?_
                intro wq hw'
                obtain ⟨⟨dq, osq⟩, hw''⟩ := hw'
                have hbq := below_regrown wr dq osq
                rw [← hw''] at hbq
                clear hw'' r0 r1 r ri hwj gd gdn gi0 gi1
                have HR1 := Lib.hid (show rowsR v bs (j + 1) F = true by rw [rowsR_succ, HR.out.1, HRW.out]; rfl)
                have HB3 := Lib.hid (hB2.trans (hbq.mono hz2))
                have HS3 := Lib.hid (HS.out.kept (gb_below hbq) (by simp))
                have hle : (catF j F).length + m ≤ 1100000 := by
                  have h1 := HTL.out (j + 1) hjl
                  have h2 : tot F (j + 1) = tot F j + (F j).length := rfl
                  have h3 := HM.out
                  rw [catF_tot]
                  omega
                have hg2 : W2.heap.size < wq.heap.size := HS3.out.lt
                clear hbq hB2
                obtain ⟨W3, rfl⟩ : ∃ W3, W3 = wr := ⟨_, rfl⟩
                go_wp2_with fail
                go_loopw [9, 11] (fun ct kk wx => ∃ x : Nat, x ≤ m ∧ kk = .int .i64 x ∧ ct = .int .i64 (((catF j F).length + x : Nat) : Int) ∧ Below W2.heap.size W2 wx ∧ BoolsAt wx W2.heap.size bs.length (fun q => decide ((q : Int) ∈ catF j F ++ (F j).take x)) ∧ Hid ((catF j F ++ (F j).take x).Nodup)) (fun _ kk _ => m - (intOf kk).toNat)
                case atStart => exact ⟨0, Nat.zero_le _, rfl, rfl, HB3.out, HS3.out.congr (fun q _ => by simp), Lib.hid (by simpa using HR.out.2)⟩
                case round =>
                  obtain ⟨x, hx, rfl, rfl, hB4, hS4, HN⟩ := hrel
                  have hz4 := hB4.size
                  have hBW4 := HBW.out.trans (hB4.mono HBW.out.size)
                  have qh := (hBW4.cell (p := ⟨b, off + j, none⟩) hltb).trans HHC.out
                  by_cases hxl : x < m
                  · rcases (HIBJ.out.below hBW4 (Nat.le_refl _)).2 with ⟨_, _, e1, hnil⟩ | ⟨b1, o1, k1, e1, hl1, hI1⟩
                    · exfalso
                      have h3 := HM.out
                      rw [hnil, List.length_nil] at h3
                      omega
                    have hxf : x < (F j).length := by have := HM.out; omega
                    have cz := hI1 x hxf
                    simp at e1
                    obtain ⟨rfl, rfl⟩ := e1
                    have hzr := HIN.out j hjl _ (List.getElem_mem hxf)
                    have hge : (F j)[x] = (F j)[x]?.getD 0 := by simp [hxf]
                    rw [hge] at hzr
                    have htk := mem_cat_take (F := F) (k := j) hxf
                    have hdup := fun h => rst_dup (v := v) (bs := bs) hjl hxf h
                    obtain ⟨z, hz⟩ : ∃ z, z = (F j)[x]?.getD 0 := ⟨_, rfl⟩
                    rw [← hz] at cz hzr htk hdup
                    clear hz hge hI1
                    obtain ⟨y, rfl⟩ : ∃ y : Nat, z = (y : Int) := ⟨z.toNat, by omega⟩
                    have hy : y < bs.length := by omega
                    have cy := hS4.cell y hy
                    have fy := hS4.free y
                    have y0 : (0 : Int) ≤ (y : Int) := by omega
                    have y1 : (y : Int) < (bs.length : Int) := by omega
                    have x0 : (0 : Int) ≤ (x : Int) := by omega
                    have x1 : (x : Int) < (m : Int) := by omega
                    by_cases hmem : (y : Int) ∈ catF j F ++ (F j).take x
                    · have HR2 := Lib.hid (hdup hmem)
                      rw [show decide ((y : Int) ∈ catF j F ++ (F j).take x) = true from decide_eq_true hmem] at cy
                      clear hmem htk hdup hS4
                      go_wp2
                      go_ret2
                      exact ⟨by rw [HV.out, HR2.out]; rfl, hBW4⟩
                    · rw [show decide ((y : Int) ∈ catF j F ++ (F j).take x) = false from decide_eq_false hmem] at cy
                      have HSET := Lib.hid ((hS4.set hy).congr (f' := fun q => decide ((q : Int) ∈ catF j F ++ (F j).take (x + 1))) (fun q _ => by
                        rw [htk]
                        by_cases e : q = y
                        · simp [e]
                        · have : ¬ (q : Int) = (y : Int) := by omega
                          simp [e, this]))
                      have HND := Lib.hid (show (catF j F ++ (F j).take (x + 1)).Nodup by
                        rw [htk, List.nodup_append]
                        exact ⟨HN.out, by simp, fun a ha c hc e => by simp at hc; exact hmem (hc ▸ e ▸ ha)⟩)
                      clear hmem htk hdup hS4
                      go_wp2
                      go_roundw
                      case rel => exact ⟨x + 1, by omega, by go_num, by go_num, hB4.setCell (p := ⟨W2.heap.size, y, none⟩) (Nat.le_refl _) _, HSET.out, HND⟩
                      case measure => simp [intOf]; omega
                  · have e : x = m := by omega
                    subst e
                    have hall : catF j F ++ (F j).take x = catF (j + 1) F := by rw [List.take_of_length_le (by have := HM.out; omega), catF_succ]
                    have hlen2 : (catF j F).length + x = (catF (j + 1) F).length := by rw [catF_succ, List.length_append, ← HM.out]
                    have HS5 := Lib.hid (hS4.congr (f' := fun q => decide ((q : Int) ∈ catF (j + 1) F)) (fun q _ => by rw [hall]))
                    have HN5 := Lib.hid (show (catF (j + 1) F).Nodup by rw [← hall]; exact HN.out)
                    have HL5 := Lib.hid hlen2
                    clear hall hlen2 hS4
                    go_wp2_with fail
                    go_roundw
                    case rel => exact ⟨j + 1, by omega, by go_num, by rw [← HL5.out], hB4, HS5.out, Lib.hid ⟨HR1.out, HN5.out⟩⟩
                    case measure => simp [intOf]; omega
            case inl =>
              have gdn : decide (0 < j) = false := by simpa using gd
              go_wp2_with fail
              refine wp_region_quiet_below (by kernel_rfl) (by kernel_rfl) ?_
              repeat (go_big_quiet_step (exact Calls.regrown_of (HC.out _ (below_regrown _ _ _))))
              refine wpQuiet_nil ?_
              intro wq hw'
              obtain ⟨⟨dq, osq⟩, hw''⟩ := hw'
              have hbq := below_regrown wr dq osq
              rw [← hw''] at hbq
              clear hw'' r0 r1 r gd gdn
              have HR1 := Lib.hid (show rowsR v bs (j + 1) F = true by rw [rowsR_succ, HR.out.1, HRW.out]; rfl)
              have HB3 := Lib.hid (hB2.trans (hbq.mono hz2))
              have HS3 := Lib.hid (HS.out.kept (gb_below hbq) (by simp))
              have hle : (catF j F).length + m ≤ 1100000 := by
                have h1 := HTL.out (j + 1) hjl
                have h2 : tot F (j + 1) = tot F j + (F j).length := rfl
                have h3 := HM.out
                rw [catF_tot]
                omega
              have hg2 : W2.heap.size < wq.heap.size := HS3.out.lt
              clear hbq hB2
              obtain ⟨W3, rfl⟩ : ∃ W3, W3 = wr := ⟨_, rfl⟩
              go_wp2_with fail
              go_loopw [9, 11] (fun ct kk wx => ∃ x : Nat, x ≤ m ∧ kk = .int .i64 x ∧ ct = .int .i64 (((catF j F).length + x : Nat) : Int) ∧ Below W2.heap.size W2 wx ∧ BoolsAt wx W2.heap.size bs.length (fun q => decide ((q : Int) ∈ catF j F ++ (F j).take x)) ∧ Hid ((catF j F ++ (F j).take x).Nodup)) (fun _ kk _ => m - (intOf kk).toNat)
              case atStart => exact ⟨0, Nat.zero_le _, rfl, rfl, HB3.out, HS3.out.congr (fun q _ => by simp), Lib.hid (by simpa using HR.out.2)⟩
              case round =>
                obtain ⟨x, hx, rfl, rfl, hB4, hS4, HN⟩ := hrel
                have hz4 := hB4.size
                have hBW4 := HBW.out.trans (hB4.mono HBW.out.size)
                have qh := (hBW4.cell (p := ⟨b, off + j, none⟩) hltb).trans HHC.out
                by_cases hxl : x < m
                · rcases (HIBJ.out.below hBW4 (Nat.le_refl _)).2 with ⟨_, _, e1, hnil⟩ | ⟨b1, o1, k1, e1, hl1, hI1⟩
                  · exfalso
                    have h3 := HM.out
                    rw [hnil, List.length_nil] at h3
                    omega
                  have hxf : x < (F j).length := by have := HM.out; omega
                  have cz := hI1 x hxf
                  simp at e1
                  obtain ⟨rfl, rfl⟩ := e1
                  have hzr := HIN.out j hjl _ (List.getElem_mem hxf)
                  have hge : (F j)[x] = (F j)[x]?.getD 0 := by simp [hxf]
                  rw [hge] at hzr
                  have htk := mem_cat_take (F := F) (k := j) hxf
                  have hdup := fun h => rst_dup (v := v) (bs := bs) hjl hxf h
                  obtain ⟨z, hz⟩ : ∃ z, z = (F j)[x]?.getD 0 := ⟨_, rfl⟩
                  rw [← hz] at cz hzr htk hdup
                  clear hz hge hI1
                  obtain ⟨y, rfl⟩ : ∃ y : Nat, z = (y : Int) := ⟨z.toNat, by omega⟩
                  have hy : y < bs.length := by omega
                  have cy := hS4.cell y hy
                  have fy := hS4.free y
                  have y0 : (0 : Int) ≤ (y : Int) := by omega
                  have y1 : (y : Int) < (bs.length : Int) := by omega
                  have x0 : (0 : Int) ≤ (x : Int) := by omega
                  have x1 : (x : Int) < (m : Int) := by omega
                  by_cases hmem : (y : Int) ∈ catF j F ++ (F j).take x
                  · have HR2 := Lib.hid (hdup hmem)
                    rw [show decide ((y : Int) ∈ catF j F ++ (F j).take x) = true from decide_eq_true hmem] at cy
                    clear hmem htk hdup hS4
                    go_wp2
                    go_ret2
                    exact ⟨by rw [HV.out, HR2.out]; rfl, hBW4⟩
                  · rw [show decide ((y : Int) ∈ catF j F ++ (F j).take x) = false from decide_eq_false hmem] at cy
                    have HSET := Lib.hid ((hS4.set hy).congr (f' := fun q => decide ((q : Int) ∈ catF j F ++ (F j).take (x + 1))) (fun q _ => by
                      rw [htk]
                      by_cases e : q = y
                      · simp [e]
                      · have : ¬ (q : Int) = (y : Int) := by omega
                        simp [e, this]))
                    have HND := Lib.hid (show (catF j F ++ (F j).take (x + 1)).Nodup by
                      rw [htk, List.nodup_append]
                      exact ⟨HN.out, by simp, fun a ha c hc e => by simp at hc; exact hmem (hc ▸ e ▸ ha)⟩)
                    clear hmem htk hdup hS4
                    go_wp2
                    go_roundw
                    case rel => exact ⟨x + 1, by omega, by go_num, by go_num, hB4.setCell (p := ⟨W2.heap.size, y, none⟩) (Nat.le_refl _) _, HSET.out, HND⟩
                    case measure => simp [intOf]; omega
                · have e : x = m := by omega
                  subst e
                  have hall : catF j F ++ (F j).take x = catF (j + 1) F := by rw [List.take_of_length_le (by have := HM.out; omega), catF_succ]
                  have hlen2 : (catF j F).length + x = (catF (j + 1) F).length := by rw [catF_succ, List.length_append, ← HM.out]
                  have HS5 := Lib.hid (hS4.congr (f' := fun q => decide ((q : Int) ∈ catF (j + 1) F)) (fun q _ => by rw [hall]))
                  have HN5 := Lib.hid (show (catF (j + 1) F).Nodup by rw [← hall]; exact HN.out)
                  have HL5 := Lib.hid hlen2
                  clear hall hlen2 hS4
                  go_wp2_with fail
                  go_roundw
                  case rel => exact ⟨j + 1, by omega, by go_num, by rw [← HL5.out], hB4, HS5.out, Lib.hid ⟨HR1.out, HN5.out⟩⟩
                  case measure => simp [intOf]; omega
        · have e : j = k := by omega
          subst e
          have HR2 := Lib.hid (show rstB v bs j F = decide ((catF j F).length = bs.length) by unfold rstB; rw [HR.out.1, show decide (catF j F).Nodup = true from decide_eq_true HR.out.2]; rfl)
          have hct : (catF j F).length ≤ 1100000 := by rw [catF_tot]; exact HTL.out j (Nat.le_refl _)
          obtain ⟨N, hN⟩ : ∃ N, N = (catF j F).length := ⟨_, rfl⟩
          rw [← hN] at HR2 hct
          rw [← hN]
          clear hN hS
          go_wp2
          go_ret2
          exact ⟨by rw [HV.out, HR2.out]; exact congrArg (fun β => Ending.returned (boolCode β 0)) (by rw [Bool.eq_iff_iff]; simp; omega), hBW2⟩
end Go.Proofs.Ytlkjacgpjolbdaa

namespace Go.Proofs.Ytlkjacgpjolbdaa
open Go.RowKit Go.Maps
/-- The two boxes of the arguments; what was there before the call is as it was. -/
structure St2 (w : World) (v u : Int) (s t : Value) (W : World) : Prop where
  below : Below w.heap.size w W
  big : w.heap.size + 1 < W.heap.size
  x0 : W.cell? ⟨w.heap.size, 0, none⟩ = some (.int .i64 v)
  x1 : W.cell? ⟨w.heap.size, 1, none⟩ = some s
  y0 : W.cell? ⟨w.heap.size + 1, 0, none⟩ = some (.int .i64 u)
  y1 : W.cell? ⟨w.heap.size + 1, 1, none⟩ = some t
theorem St2.step {w : World} {v u : Int} {s t : Value} {W W' : World} {row : Option Nat} (h : St2 w v u s t W) (hg : W.grownBy W' row) (hr : ∀ r, row = some r → w.heap.size + 1 < r) : St2 w v u s t W' :=
  ⟨h.below.grown hg h.below.size (fun r e => by have := hr r e; omega), Nat.lt_of_lt_of_le h.big hg.size,
    hg.cell h.x0 (fun e => by have := hr _ e.symm; simp at this; omega), hg.cell h.x1 (fun e => by have := hr _ e.symm; simp at this; omega),
    hg.cell h.y0 (fun e => by have := hr _ e.symm; simp at this), hg.cell h.y1 (fun e => by have := hr _ e.symm; simp at this)⟩
theorem St2.start (w : World) (v u : Int) (s t : Value) : St2 w v u s t ((w.alloc (.cells #[.int .i64 v, s] 24)).alloc (.cells #[.int .i64 u, t] 24)) :=
  ⟨((Below.refl _ _).alloc (Nat.le_refl _) _).alloc (by simp) _, by simp, by simp [go_sem], by simp [go_sem], by simp [go_sem], by simp [go_sem]⟩
/-- A variable that holds a system. -/
structure VarB (W : World) (X : Nat) (v : Int) (s : Value) : Prop where
  lt : X < W.heap.size
  c0 : W.cell? ⟨X, 0, none⟩ = some (.int .i64 v)
  c1 : W.cell? ⟨X, 1, none⟩ = some s
theorem VarB.step {W W' : World} {X : Nat} {v : Int} {s : Value} {row : Option Nat} (h : VarB W X v s) (hg : W.grownBy W' row) (hr : row ≠ some X) : VarB W' X v s :=
  ⟨Nat.lt_of_lt_of_le h.lt hg.size, hg.cell h.c0 (fun e => hr e.symm), hg.cell h.c1 (fun e => hr e.symm)⟩
theorem VarB.new (W : World) (v : Int) (s : Value) (T : TypeId) : VarB (W.alloc (.cells #[.int .i64 v, s] T)) W.heap.size v s := ⟨by simp, by simp, by simp⟩

/-- The state of a law whose results are lists of blocks: the model's result (from i0 on, before i1), the two copies and their variables, the program's result. -/
structure CB (w : World) (v u : Int) (s t sW s8 s9 sG : Value) (X Y i0 i1 i2 i3 i4 i5 i6 : Nat) (LW L8 L9 LG : List Blk) (W : World) : Prop where
  st : St2 w v u s t W
  o0 : w.heap.size + 1 < i0
  o1 : i0 ≤ i1
  o2 : i1 ≤ i2
  oX : i2 ≤ X
  oX' : X < i3
  o4 : i3 ≤ i4
  oY : i4 ≤ Y
  oY' : Y < i5
  o6 : i5 ≤ i6
  rW : ResR W i0 i1 sW LW
  r8 : ResR W i1 i2 s8 L8
  vX : VarB W X v s8
  r9 : ResR W i3 i4 s9 L9
  vY : VarB W Y u s9
  rG : ResR W i5 i6 sG LG
section
variable {w : World} {v u : Int} {s t sW s8 s9 sG : Value} {X Y i0 i1 i2 i3 i4 i5 i6 : Nat} {LW L8 L9 LG : List Blk} {W W' : World}
theorem CB.step (h : CB w v u s t sW s8 s9 sG X Y i0 i1 i2 i3 i4 i5 i6 LW L8 L9 LG W) (hg : W.grownBy W' none) : CB w v u s t sW s8 s9 sG X Y i0 i1 i2 i3 i4 i5 i6 LW L8 L9 LG W' :=
  ⟨h.st.step hg (by simp), h.o0, h.o1, h.o2, h.oX, h.oX', h.o4, h.oY, h.oY', h.o6, h.rW.kept hg (by simp), h.r8.kept hg (by simp), h.vX.step hg (by simp), h.r9.kept hg (by simp), h.vY.step hg (by simp), h.rG.kept hg (by simp)⟩
theorem CB.mark8 (h : CB w v u s t sW s8 s9 sG X Y i0 i1 i2 i3 i4 i5 i6 LW L8 L9 LG W) {row : Option Nat} (hg : W.grownBy W' row) (hr : ∀ r, row = some r → i1 ≤ r ∧ r < i2) {L : List Blk} (hn : ResR W' i1 i2 s8 L) :
    CB w v u s t sW s8 s9 sG X Y i0 i1 i2 i3 i4 i5 i6 LW L L9 LG W' := by
  obtain ⟨st, o0, o1, o2, oX, oX', o4, oY, oY', o6, rW, r8, vX, r9, vY, rG⟩ := h
  exact ⟨st.step hg (fun r e => by have := hr r e; omega), o0, o1, o2, oX, oX', o4, oY, oY', o6, rW.kept hg (fun r e => by have := hr r e; omega), hn, vX.step hg (fun e => by have := hr _ e; omega), r9.kept hg (fun r e => by have := hr r e; omega), vY.step hg (fun e => by have := hr _ e; omega), rG.kept hg (fun r e => by have := hr r e; omega)⟩
theorem CB.mark9 (h : CB w v u s t sW s8 s9 sG X Y i0 i1 i2 i3 i4 i5 i6 LW L8 L9 LG W) {row : Option Nat} (hg : W.grownBy W' row) (hr : ∀ r, row = some r → i3 ≤ r ∧ r < i4) {L : List Blk} (hn : ResR W' i3 i4 s9 L) :
    CB w v u s t sW s8 s9 sG X Y i0 i1 i2 i3 i4 i5 i6 LW L8 L LG W' := by
  obtain ⟨st, o0, o1, o2, oX, oX', o4, oY, oY', o6, rW, r8, vX, r9, vY, rG⟩ := h
  exact ⟨st.step hg (fun r e => by have := hr r e; omega), o0, o1, o2, oX, oX', o4, oY, oY', o6, rW.kept hg (fun r e => by have := hr r e; omega), r8.kept hg (fun r e => by have := hr r e; omega), vX.step hg (fun e => by have := hr _ e; omega), hn, vY.step hg (fun e => by have := hr _ e; omega), rG.kept hg (fun r e => by have := hr r e; omega)⟩
theorem CB.markG (h : CB w v u s t sW s8 s9 sG X Y i0 i1 i2 i3 i4 i5 i6 LW L8 L9 LG W) {row : Option Nat} (hg : W.grownBy W' row) (hr : ∀ r, row = some r → i5 ≤ r ∧ r < i6) {L : List Blk} (hn : ResR W' i5 i6 sG L) :
    CB w v u s t sW s8 s9 sG X Y i0 i1 i2 i3 i4 i5 i6 LW L8 L9 L W' := by
  obtain ⟨st, o0, o1, o2, oX, oX', o4, oY, oY', o6, rW, r8, vX, r9, vY, rG⟩ := h
  exact ⟨st.step hg (fun r e => by have := hr r e; omega), o0, o1, o2, oX, oX', o4, oY, oY', o6, rW.kept hg (fun r e => by have := hr r e; omega), r8.kept hg (fun r e => by have := hr r e; omega), vX.step hg (fun e => by have := hr _ e; omega), r9.kept hg (fun r e => by have := hr r e; omega), vY.step hg (fun e => by have := hr _ e; omega), hn⟩
end
end Go.Proofs.Ytlkjacgpjolbdaa

namespace Go.Proofs.Ytlkjacgpjolbdaa
open Go.RowKit Go.Maps
theorem ResI.slice {w : World} {lo hi : Nat} {s : Value} {zs : List Int} (h : ResI w lo hi s zs) : ∃ a c, s = .slice a zs.length c := by
  rcases h with ⟨rfl, a, c, rfl⟩ | ⟨g, cap, rfl, _⟩ <;> exact ⟨_, _, rfl⟩
theorem ResI.wide {w : World} {lo hi lo' hi' : Nat} {s : Value} {zs : List Int} (h : ResI w lo hi s zs) (h1 : lo' ≤ lo) (h2 : hi ≤ hi') : ResI w lo' hi' s zs := by
  rcases h with h | ⟨g, cap, rfl, h3, h4, ho⟩
  · exact .inl h
  · exact .inr ⟨g, cap, rfl, by omega, by omega, ho⟩
structure St1 (w : World) (v : Int) (s : Value) (W : World) : Prop where
  below : Below w.heap.size w W
  big : w.heap.size < W.heap.size
  x0 : W.cell? ⟨w.heap.size, 0, none⟩ = some (.int .i64 v)
  x1 : W.cell? ⟨w.heap.size, 1, none⟩ = some s
theorem St1.step {w : World} {v : Int} {s : Value} {W W' : World} {row : Option Nat} (h : St1 w v s W) (hg : W.grownBy W' row) (hr : ∀ r, row = some r → w.heap.size < r) : St1 w v s W' :=
  ⟨h.below.grown hg h.below.size (fun r e => by have := hr r e; omega), Nat.lt_of_lt_of_le h.big hg.size,
    hg.cell h.x0 (fun e => by have := hr _ e.symm; simp at this), hg.cell h.x1 (fun e => by have := hr _ e.symm; simp at this)⟩
theorem St1.start (w : World) (v : Int) (s : Value) : St1 w v s (w.alloc (.cells #[.int .i64 v, s] 24)) :=
  ⟨(Below.refl _ _).alloc (Nat.le_refl _) _, by simp, by simp [go_sem], by simp [go_sem]⟩
structure CI (w : World) (v : Int) (s sW s8 sG : Value) (X i0 i1 i2 i5 i6 : Nat) (LW : List Int) (L8 : List Blk) (LG : List Int) (W : World) : Prop where
  st : St1 w v s W
  o0 : w.heap.size < i0
  o1 : i0 ≤ i1
  o2 : i1 ≤ i2
  oX : i2 ≤ X
  oX' : X < i5
  o6 : i5 ≤ i6
  rW : ResI W i0 i1 sW LW
  r8 : ResR W i1 i2 s8 L8
  vX : VarB W X v s8
  rG : ResI W i5 i6 sG LG
section
variable {w : World} {v : Int} {s sW s8 sG : Value} {X i0 i1 i2 i5 i6 : Nat} {LW LG : List Int} {L8 : List Blk} {W W' : World}
theorem CI.step (h : CI w v s sW s8 sG X i0 i1 i2 i5 i6 LW L8 LG W) (hg : W.grownBy W' none) : CI w v s sW s8 sG X i0 i1 i2 i5 i6 LW L8 LG W' :=
  ⟨h.st.step hg (by simp), h.o0, h.o1, h.o2, h.oX, h.oX', h.o6, h.rW.kept hg (by simp), h.r8.kept hg (by simp), h.vX.step hg (by simp), h.rG.kept hg (by simp)⟩
theorem CI.mark8 (h : CI w v s sW s8 sG X i0 i1 i2 i5 i6 LW L8 LG W) {row : Option Nat} (hg : W.grownBy W' row) (hr : ∀ r, row = some r → i1 ≤ r ∧ r < i2) {L : List Blk} (hn : ResR W' i1 i2 s8 L) :
    CI w v s sW s8 sG X i0 i1 i2 i5 i6 LW L LG W' := by
  obtain ⟨st, o0, o1, o2, oX, oX', o6, rW, r8, vX, rG⟩ := h
  exact ⟨st.step hg (fun r e => by have := hr r e; omega), o0, o1, o2, oX, oX', o6, rW.kept hg (fun r e => by have := hr r e; omega), hn, vX.step hg (fun e => by have := hr _ e; omega), rG.kept hg (fun r e => by have := hr r e; omega)⟩
theorem CI.markG (h : CI w v s sW s8 sG X i0 i1 i2 i5 i6 LW L8 LG W) {row : Option Nat} (hg : W.grownBy W' row) (hr : ∀ r, row = some r → i5 ≤ r ∧ r < i6) {L : List Int} (hn : ResI W' i5 i6 sG L) :
    CI w v s sW s8 sG X i0 i1 i2 i5 i6 LW L8 L W' := by
  obtain ⟨st, o0, o1, o2, oX, oX', o6, rW, r8, vX, rG⟩ := h
  exact ⟨st.step hg (fun r e => by have := hr r e; omega), o0, o1, o2, oX, oX', o6, rW.kept hg (fun r e => by have := hr r e; omega), r8.kept hg (fun r e => by have := hr r e; omega), vX.step hg (fun e => by have := hr _ e; omega), hn⟩
end
theorem gb_drew1 (w : World) : w.grownBy w.drew none := ⟨rfl, rfl, rfl, Nat.le_refl _, fun _ _ _ => rfl⟩
theorem gb_alloc1 (w : World) (o : Obj) : w.grownBy (w.alloc o) none := World.grownBy_alloc w o none
end Go.Proofs.Ytlkjacgpjolbdaa

namespace Go.Proofs.Ytlkjacgpjolbdaa
open Go.RowKit Go.Maps
end Go.Proofs.Ytlkjacgpjolbdaa

namespace Go.Proofs.Ytlkjacgpjolbdaa
open Go.RowKit Go.Maps
/-- The pairs (a, b), b among the next n, that P lets through; then those of the rows before a. -/
def rowL (P : Int → Int → Bool) (a : Nat) : Nat → List (Int × Int)
  | 0 => []
  | n + 1 => rowL P a n ++ if P a ((a : Int) + 1 + n) then [((a : Int), (a : Int) + 1 + n)] else []
def leftL (P : Int → Int → Bool) (v : Nat) : Nat → List (Int × Int)
  | 0 => []
  | a + 1 => leftL P v a ++ rowL P a (v - 1 - a)
theorem rowL_len (P : Int → Int → Bool) (a n : Nat) : (rowL P a n).length ≤ n := by
  induction n with
  | zero => simp [rowL]
  | succ n ih =>
    unfold rowL
    rw [List.length_append]
    split <;> simp <;> omega
theorem leftL_len (P : Int → Int → Bool) (v a : Nat) : (leftL P v a).length ≤ a * v := by
  induction a with
  | zero => simp [leftL]
  | succ a ih =>
    unfold leftL
    rw [List.length_append, Nat.succ_mul]
    have := rowL_len P a (v - 1 - a)
    omega
theorem rowL_congr {P Q : Int → Int → Bool} {a : Nat} : ∀ n : Nat, (∀ b : Int, (a : Int) < b → b ≤ a + n → P a b = Q a b) → rowL P a n = rowL Q a n
  | 0, _ => rfl
  | n + 1, h => by
    unfold rowL
    rw [rowL_congr n (fun b h1 h2 => h b h1 (by omega)), h ((a : Int) + 1 + n) (by omega) (by omega)]
theorem leftL_congr {P Q : Int → Int → Bool} {v : Nat} : ∀ a : Nat, a ≤ v → (∀ a' b : Int, 0 ≤ a' → a' < b → b < v → P a' b = Q a' b) → leftL P v a = leftL Q v a
  | 0, _, _ => rfl
  | a + 1, ha, h => by
    unfold leftL
    rw [leftL_congr a (by omega) h, rowL_congr _ (fun b h1 h2 => h a b (by omega) h1 (by omega))]
def fnL (L : List (Int × Int)) (k : Nat) : List Int := let p := L[k]?.getD (0, 0); [p.1, p.2]
theorem fnL_len (L : List (Int × Int)) (k : Nat) : (fnL L k).length = 2 := rfl
theorem fnL_lt {L L' : List (Int × Int)} {k : Nat} (h : k < L.length) : fnL L k = fnL (L ++ L') k := by
  unfold fnL
  rw [List.getElem?_append_left h]
theorem fnL_at (L : List (Int × Int)) (p : Int × Int) : fnL (L ++ [p]) L.length = [p.1, p.2] := by simp [fnL]
theorem AccS.congr {w : World} {base : Nat} {u : Value} {n : Nat} {gs caps : Nat → Nat} {F F' : Nat → List Int} (h : AccS w base u n gs caps F) (e : ∀ k, k < n → F k = F' k) : AccS w base u n gs caps F' := by
  refine ⟨?_, fun k hk => by rw [← e k hk]; exact h.row k hk, h.ne, h.inc, h.low⟩
  have he : (List.range n).map (rowV gs caps F') = (List.range n).map (rowV gs caps F) := map_congr' fun k hk => by
    have := e k (List.mem_range.1 hk)
    simp [rowV, this]
  rw [he]
  exact h.own
theorem AccS.base {w : World} {base base' : Nat} {u : Value} {n : Nat} {gs caps : Nat → Nat} {F : Nat → List Int} (h : AccS w base u n gs caps F) (hb : base' ≤ base) : AccS w base' u n gs caps F :=
  ⟨ownsRow_base h.own hb, h.row, h.ne, h.inc, fun k hk => Nat.le_trans hb (h.low k hk)⟩
theorem wf_pl {n : Int} (h0 : 0 ≤ n) (h1 : n ≤ 1000) : WF n := by
  have : n = wrap64 n := by unfold wrap64; omega
  unfold WF
  rw [this]
  exact wrap64_wf _
def notIn (seen : List (Int × Int)) (a b : Int) : Bool := !decide ((a, b) ∈ seen)
theorem two_own (w : World) (x y : Int) (T : TypeId) : OwnAtI (w.alloc (.cells #[.int .i64 x, .int .i64 y] T)) w.heap.size [x, y] := by
  refine ⟨by simp, fun k hk => ?_, fun o => by simp⟩
  rw [World.cell?_alloc_at _ _ _ _ rfl]
  match k, hk with
  | 0, _ => rfl
  | 1, _ => rfl
end Go.Proofs.Ytlkjacgpjolbdaa

namespace Go.Proofs.Ytlkjacgpjolbdaa
open Go.RowKit Go.Maps
theorem AccS.new0 (W : World) (gs caps : Nat → Nat) (F : Nat → List Int) {base : Nat} (hb : base ≤ W.heap.size) : AccS (W.alloc (.cells #[] 35)) base (.slice (some ⟨W.heap.size, 0, none⟩) 0 0) 0 gs caps F :=
  ⟨⟨rfl, .inr ⟨W.heap.size, 0, #[], rfl, hb, World.alloc_heap_new W _, Nat.le_refl _, Nat.zero_le _, rfl, rfl⟩⟩, fun k hk => by omega, fun k hk => by omega, fun j k _ hk => by omega, fun k hk => by omega⟩
theorem l01In_val (n : Int) (β : Bool) (hβ : (decide ((2 : Int) ≤ n) && decide (n ≤ 5)) = β) (W : World) : Calls Try.prog 67 #[.int .i64 n, .int .i64 2, .int .i64 5] W (RS (.bool β) W) := by
  have h := l01In_any n 2 5 W
  rw [hβ] at h
  exact h
end Go.Proofs.Ytlkjacgpjolbdaa


/- The model's l09Loop, walked. The model's LoopProduct. The law FnExactLoopProduct returns true. How the laws' arguments are read. The dump's head word by word, cheaply: what every row asks of it. -/
import Derived.Test.YtahgialnhomefaaJ14
import Derived.Deep.RegionWith
import Derived.Test.YtahgialnhomefaaRows
import Derived.ProofKit
import Derived.OpenShut
import Derived.Deep.Slices
import Derived.Lib.SmallJoins
import Derived.ChangeOld
namespace Go.Proofs.Ytahgialnhomefaa
open Go.RowKit Go.Maps
set_option maxRecDepth 100000 in
set_option maxHeartbeats 4000000 in
theorem l09Loop_any (n : Nat) (s : Value) (bs : List Blk) (w : World) (h : SB w s bs) (hi : isSysImpl (n : Int) bs = true) (hf : fullB (n : Int) bs = true) :
    Calls Try.prog 50 #[.agg #[.int .i64 (n : Int), s]] w (fun e w' => ∃ u us, e = .returned u ∧ TabL w' w.heap.size u us (rowsTo (n + 1) (prd 1 n bs) (n + 1)) ∧ Below w.heap.size w w') := by
  have hs := h.slice
  obtain ⟨hv3, hv15, hb35⟩ := sys_size hi
  have hbA : Below w.heap.size w (w.alloc (.cells #[.int .i64 (n : Int), s] 30)) := (Below.refl _ _).alloc (Nat.le_refl _) _
  have HT := Lib.hid (l09Table_any n s bs _ (h.below hbA (Nat.le_refl _)) hi hf)
  rw [rowsLp_zero] at HT
  have HEND := Lib.hid (rowsLp_end n bs)
  have HNX := Lib.hid fun a (ha : a < n) => rowsLp_next (n := n) (bs := bs) ha
  have HAT := Lib.hid fun a (ha : a < n) => rowsLp_at (n := n) (bs := bs) ha
  have HUN := Lib.hid (loop_unit n bs)
  have HLN := Lib.hid (rowsLp_len n bs)
  have HRL := Lib.hid fun a => rowT_len n (prd 0 n bs) a
  rw [← HEND.out]
  obtain ⟨RL, hRL⟩ : ∃ RL, RL = rowsLp n bs := ⟨_, rfl⟩
  obtain ⟨P, hP⟩ : ∃ P, P = rowT n (prd 0 n bs) := ⟨_, rfl⟩
  obtain ⟨U, hU⟩ : ∃ U, U = rowT (n + 1) (prd 1 n bs) n := ⟨_, rfl⟩
  rw [← hRL] at HT HNX HAT HLN ⊢
  rw [← hP] at HNX HAT HRL
  rw [← hU] at HUN ⊢
  clear h hi hf hb35 hRL hP hU HEND
  obtain ⟨a0, c0, rfl⟩ := hs
  obtain ⟨WA, hWA⟩ : ∃ WA, WA = w.alloc (.cells #[.int .i64 (n : Int), .slice a0 bs.length c0] 30) := ⟨_, rfl⟩
  have x0 : WA.cell? ⟨w.heap.size, 0, none⟩ = some (.int .i64 (n : Int)) := by rw [hWA]; simp [go_sem]
  have hzA : w.heap.size < WA.heap.size := by rw [hWA]; simp
  rw [← hWA] at hbA HT
  have HWA := Lib.hid hWA
  have HBA := Lib.hid hbA
  clear hWA hbA
  go_enter Try.func50, Try.ntmps50
  go_wp2_with fail
  rw [← HWA.out]
  refine HT.out.mono ?_
  rintro e w1 ⟨u, us, rfl, hT, hb1⟩
  have y0 := (hb1.cell (p := ⟨w.heap.size, 0, none⟩) hzA).trans x0
  have HB1 := Lib.hid hb1
  have hz1 := hb1.size
  obtain ⟨G, c, hu⟩ := hT.own.form (by rw [hT.len, HLN.out]; omega)
  rw [hT.len, HLN.out] at hu
  subst hu
  have hM0 : LoopM (w1.alloc (.cells #[] 2)) WA.heap.size (.slice (some ⟨G, 0, none⟩) n c) us (RL 0) (.slice (some ⟨w1.heap.size, 0, none⟩) 0 0) (numL 0) :=
    ⟨hT.below ((Below.refl _ _).alloc (Nat.le_refl _) _), OwnJ.new0 w1 hz1, fun r e => by
      have e : w1.heap.size = r := by simpa [Value.ownBlock] using e
      subst e
      refine ⟨fun e => ?_, fun x hx e => ?_⟩
      · have := (hT.own.blkP _ e).2; omega
      · obtain ⟨k, hk⟩ := List.mem_iff_getElem?.1 hx
        have := ((hT.row k x hk).blkP _ e).2; omega⟩
  have HM0 := Lib.hid hM0
  clear hb1 hT hM0 HT
  go_wp2
  go_loopw [4, 5] (fun t i wr => ∃ (a : Nat) (us : List Value), a ≤ n ∧ i = .int .i64 (a : Int) ∧ Below WA.heap.size WA wr ∧ LoopM wr WA.heap.size (.slice (some ⟨G, 0, none⟩) n c) us (RL a) t (numL a) ∧ ∃ p m q, t = .slice p m q) (fun _ i _ => n - (intOf i).toNat)
  case atStart => exact ⟨0, us, Nat.zero_le _, rfl, HB1.out.alloc hz1 _, HM0.out, _, _, _, rfl⟩
  case round =>
    obtain ⟨a, us', ha, rfl, hB, hM, tp, tm, tq, rfl⟩ := hrel
    have r0 := (hB.cell (p := ⟨w.heap.size, 0, none⟩) hzA).trans x0
    have HB := Lib.hid hB
    have HM := Lib.hid hM
    have hz := hB.size
    clear hB
    by_cases hal : a < n
    · have g0 : (0 : Int) ≤ (a : Int) := by omega
      have g1 : (a : Int) < (n : Int) := by omega
      have g2 : decide ((a : Int) < (n : Int)) = true := by simp; omega
      have hPl : (P a).length = n := HRL.out a
      obtain ⟨G', c', g, cap, e1, hGA, e2, e3, e4, e5, hgA⟩ := hM.tab.at_ (k := a) (by rw [HLN.out]; exact hal) (by rw [HAT.out a hal, hPl]; omega) (by rw [HAT.out a hal, hPl]; omega)
      rw [HLN.out] at e1
      simp at e1
      obtain ⟨rfl, rfl⟩ := e1
      rw [HAT.out a hal] at e2 e4 e5
      have k1 := e5.at_ a (by rw [hPl]; exact hal)
      rw [Nat.zero_add] at k1
      have k2 := e5.free a
      obtain ⟨s1, s2⟩ := HM.out.sst e4 (j := a) (by rw [HAT.out a hal, hPl]; exact hal) (n : Int)
      rw [HAT.out a hal] at s1
      have HB2 := Lib.hid (HB.out.grown s2 hz (fun r e => by cases e; exact hgA))
      have hO2 := s1.tab.row a _ e4
      rw [List.getElem?_set_self (by rw [HLN.out]; exact hal), Option.getD_some] at hO2
      have hGne : g ≠ G := fun e => HM.out.tab.ne _ (List.mem_of_getElem? e4) G rfl (by rw [e]; rfl)
      have c2 : (wr.setCell ⟨g, a, none⟩ (.int .i64 (n : Int))).cell? ⟨G, a, none⟩ = some (.slice (some ⟨g, 0, none⟩) n cap) := by
        rw [World.cell?_setCell_other _ _ _ _ (by simp <;> omega), e2, hPl]
      have f2 : (wr.setCell ⟨g, a, none⟩ (.int .i64 (n : Int))).frozen? ⟨G, a, none⟩ = false := by rw [World.frozen?_setCell]; exact e3
      obtain ⟨W2, hW2⟩ : ∃ W2, W2 = wr.setCell ⟨g, a, none⟩ (.int .i64 (n : Int)) := ⟨_, rfl⟩
      have HS1 := Lib.hid s1
      have hz2 : wr.heap.size = W2.heap.size := by rw [hW2]; simp [World.setCell]
      rw [← hW2] at HS1 HB2 hO2 c2 f2
      have r2 := (HB2.out.cell (p := ⟨w.heap.size, 0, none⟩) hzA).trans x0
      rw [hPl] at e2 e4 hO2
      obtain ⟨L, hL⟩ : ∃ L, L = (P a).set a (n : Int) := ⟨_, rfl⟩
      have hLl : L.length = n := by rw [hL, List.length_set]; exact hPl
      rw [← hL] at hO2 HS1
      have HO2 := Lib.hid hO2
      have HE4 := Lib.hid e4
      go_upto_region 7 with fail
      have HLN2 := Lib.hid hLl
      have hLs : L.length ≤ 1100000 := by omega
      have HNXa := Lib.hid (show ((RL a).set a L).set a (L ++ [(a : Int)]) = RL (a + 1) by rw [hL]; exact HNX.out a hal)
      have HW2 := Lib.hid hW2
      clear s1 s2 hM e5 hL hO2 hPl e4 hLl hW2 k1 k2 e2 e3
      have hz2' : WA.heap.size ≤ W2.heap.size := by omega
      rw [← HW2.out]
      have hGo : some G ≠ (Value.slice (some ⟨g, 0, none⟩) n cap).ownBlock := by
        intro e
        have : G = g := by simpa [Value.ownBlock] using e
        omega
      have hb3 := (Below.refl W2.heap.size W2).alloc (Nat.le_refl _) (.cells #[.int .i64 (a : Int)] 2)
      have c3 := (hb3.cell (p := ⟨G, a, none⟩) (by have := (HS1.out.tab.own.blkP G rfl).2; exact this)).trans c2
      have f3 := (hb3.frozen (p := ⟨G, a, none⟩) (by have := (HS1.out.tab.own.blkP G rfl).2; exact this)).trans f2
      have HM3 := Lib.hid (HS1.out.below hb3)
      have HO3 := Lib.hid (HO2.out.below hb3 (Nat.le_refl _))
      have HB3 := Lib.hid (HB2.out.trans (hb3.mono hz2'))
      have hz3 : WA.heap.size ≤ (W2.alloc (.cells #[.int .i64 (a : Int)] 2)).heap.size := by simp; omega
      have HC3 := Lib.hid c3
      have HF3 := Lib.hid f3
      clear hb3 c2 f2 c3 f3 HS1 HO2 HB2
      go_upto_region 8 with (at_builtin; refine wpList_append_intG rfl _ _ rfl WA.heap.size (.slice (some ⟨g, 0, none⟩) n cap) L rfl HO3.out _ _ (a : Int) rfl (by simp [go_sem]) hLs hz3 ?_; intro g6 c6 w6 hO6 hg6 hG6; have c6' := hg6.cell HC3.out hGo; have f6' := (World.frozen?_of_block (a := ⟨G, a, none⟩) (hg6.block G (HM3.out.tab.own.blkP G rfl).2 hGo)).trans HF3.out)
      have HM7 := Lib.hid (HM3.out.put HE4.out hg6 hO6 (by rcases hG6 with h | h; exact .inl h; exact .inr (by omega)))
      rw [HNXa.out] at HM7
      have hb7 : Below WA.heap.size WA (w6.setCell ⟨G, a, none⟩ (.slice (some ⟨g6, 0, none⟩) (L.length + 1) c6)) := by
        have h6 := HB3.out.grown hg6 hz3 (fun r e => by
          have e : g = r := by simpa [Value.ownBlock] using e
          omega)
        exact h6.grown HM7.out.2 h6.size (fun r e => by cases e; exact hGA)
      obtain ⟨w7, hw7⟩ : ∃ w7, w7 = w6.setCell ⟨G, a, none⟩ (.slice (some ⟨g6, 0, none⟩) (L.length + 1) c6) := ⟨_, rfl⟩
      have hM7 := HM7.out.1
      rw [← hw7] at hb7 hM7 ⊢
      have hz7 := hb7.size
      have HB7 := Lib.hid hb7
      have HMA := Lib.hid (hM7.below ((Below.refl _ _).alloc (Nat.le_refl _) (.cells #[.int .i64 (a : Int)] 2)))
      have hnl : (numL a).length ≤ 1100000 := by rw [numL_len]; omega
      have HNS := Lib.hid (numL_succ a)
      have hz8 : WA.heap.size ≤ (w7.alloc (.cells #[.int .i64 (a : Int)] 2)).heap.size := by simp; omega
      clear hw7 hb7 hM7 HM7 hg6 hG6 hO6 c6' f6' HM3 HO3 HB3 HC3 HF3
      obtain ⟨Z, hZ⟩ : ∃ Z, Z = numL a := ⟨_, rfl⟩
      rw [← hZ] at HMA hnl HNS
      clear hZ
      go_wp2_with (at_builtin; refine wpList_append_intG rfl _ _ rfl WA.heap.size (.slice tp tm tq) Z rfl HMA.out.own _ _ (a : Int) rfl (by simp [go_sem]) hnl hz8 ?_; intro g8 c8 w8 hO8 hg8 hG8)
      have hM8 := HMA.out.unit hg8 hO8 (by rcases hG8 with h | h; exact .inl h; exact .inr (by omega))
      have hb8 := (HB7.out.alloc hz7 (.cells #[.int .i64 (a : Int)] 2)).grown hg8 hz8 (fun r e => (HMA.out.own.blkP r e).1)
      go_roundw
      case rel => first
        | exact ⟨a + 1, _, by omega, by go_num, hb8, by rw [HNS.out]; exact hM8, _, _, _, rfl⟩
        | ((repeat apply Exists.intro); exact ⟨⟨a + 1, _, by omega, by go_num, hb8, by rw [HNS.out]; exact hM8, _, _, _, rfl⟩, rfl⟩)
      case measure => simp [intOf]; omega
    · have g2 : decide ((a : Int) < (n : Int)) = false := by simp; omega
      have e : a = n := by omega
      have hlA : w.heap.size ≤ WA.heap.size := by omega
      rw [e] at HM
      have hnl : (numL n).length ≤ 1100000 := by rw [numL_len]; omega
      have hul : us'.length ≤ 1100000 := by have := HM.out.tab.len; rw [HLN.out] at this; omega
      have hun : us'.length = n := by have := HM.out.tab.len; rw [HLN.out] at this; exact this
      have HMA := Lib.hid (HM.out.below ((Below.refl _ _).alloc (Nat.le_refl _) (.cells #[.int .i64 (n : Int)] 2)))
      have hz8 : WA.heap.size ≤ (wr.alloc (.cells #[.int .i64 (n : Int)] 2)).heap.size := by simp; omega
      obtain ⟨Z, hZ⟩ : ∃ Z, Z = numL n := ⟨_, rfl⟩
      have HU2 := Lib.hid (show Z ++ [(n : Int)] = U by rw [hZ]; exact HUN.out)
      rw [← hZ] at HMA hnl
      have HUL := Lib.hid hun
      clear hZ hM HM e hun
      go_wp2_with (first | (at_builtin; refine wpList_append_intG rfl _ _ rfl WA.heap.size (.slice tp tm tq) Z rfl HMA.out.own _ _ (n : Int) rfl (by simp [go_sem]) hnl hz8 ?_; intro g8 c8 w8 hO8 hg8 hG8; have hM8 := HMA.out.unit hg8 hO8 (by rcases hG8 with h | h; exact .inl h; exact .inr (by omega)); have hb8 := (HB.out.alloc hz (.cells #[.int .i64 (n : Int)] 2)).grown hg8 hz8 (fun r e => (HMA.out.own.blkP r e).1); have HB8 := Lib.hid hb8; have HM8 := Lib.hid hM8; have hz88 := hb8.size; clear hM8 hb8 hO8 hg8 hG8) | (at_builtin; refine wpList_append_hdr rfl _ _ rfl WA.heap.size (.slice (some ⟨G, 0, none⟩) n c) us' rfl (HM8.out.tab.own.below ((Below.refl _ _).alloc (Nat.le_refl _) _) (Nat.le_refl _)) _ _ rfl (some ⟨g8, 0, none⟩) (Z.length + 1) c8 (by simp [go_sem]) hul (by simp; omega) ?_; intro g9 c9 w9 hV9 hg9 hG9))
      have hb10 := (Below.refl w8.heap.size w8).alloc (Nat.le_refl _) (.cells #[.slice (some ⟨g8, 0, none⟩) (Z.length + 1) c8] 38)
      have hT9 := (HM8.out.below hb10).done (W' := w9) (u' := .slice (some ⟨g9, 0, none⟩) (us'.length + 1) c9) hg9 hV9 (fun r e => by
        have e : g9 = r := by simpa [Value.ownBlock] using e
        subst e
        rcases hG9 with h | h
        · exact .inl h
        · exact .inr (by omega))
      rw [HU2.out] at hT9
      have hb9 : Below WA.heap.size WA w9 := (HB8.out.alloc hz88 (.cells #[.slice (some ⟨g8, 0, none⟩) (Z.length + 1) c8] 38)).grown hg9 (by simp; omega) (fun r e => (HM8.out.tab.own.blkP r e).1)
      have HT9 := Lib.hid hT9
      have HB9 := Lib.hid (HBA.out.trans (hb9.mono (by omega)))
      clear hT9 hb9 hg9 hV9 hG9
      go_ret
      exact ⟨_, _, rfl, ⟨ownsRow_base HT9.out.own (by omega), HT9.out.len, fun k x hk => (HT9.out.row k x hk).baseP (by omega), HT9.out.ne, HT9.out.inc⟩, HB9.out⟩
end Go.Proofs.Ytahgialnhomefaa

namespace Go.Proofs.Ytahgialnhomefaa
open Go.RowKit Go.Maps
set_option maxRecDepth 100000 in
set_option maxHeartbeats 1000000 in
theorem specLoopProduct_any (v : Int) (s : Value) (bs : List Blk) (a b : Int) (w : World) (h : SB w s bs) :
    Calls Try.prog 19 #[.agg #[.int .i64 v, s], .int .i64 a, .int .i64 b] w (RV (prodV 1 v bs a b) w) := by
  have hs := h.slice
  have hc0 : ∀ N, (isSysImpl v bs = true → N = v + 1) → ptsN N v bs [a, b] = pcode 1 v bs [a, b] := fun N hN => by
    rw [pcode_ptsN]
    unfold ptsN
    cases hi : isSysImpl v bs with
    | false => rfl
    | true => rw [hN hi]; rfl
  have hvN : isSysImpl v bs = true → wrap64 (v + 1) = v + 1 := fun hi => by
    have := sys_size hi
    unfold wrap64
    omega
  obtain ⟨Q, hQ⟩ : ∃ Q, Q = wrap64 (v + 1) := ⟨_, rfl⟩
  have HQ := Lib.hid hQ
  have HPC := Lib.hid fun t W (hb : Below w.heap.size w W) ht => l09Points_any Q v s bs t [a, b] W (h.below hb (Nat.le_refl _)) ht (fun hi => by have := sys_size hi; have := hvN hi; omega)
  rw [hc0 Q (fun hi => by rw [hQ]; exact hvN hi)] at HPC
  clear hc0 hvN
  by_cases hc : pcode 1 v bs [a, b] = 0
  · obtain ⟨hi, hf, hz⟩ := pcode_zero hc
    obtain ⟨hv3, hv15, _⟩ := sys_size hi
    obtain ⟨n, rfl⟩ : ∃ n : Nat, v = (n : Int) := ⟨v.toNat, by omega⟩
    have ha := hz a (by simp)
    have hb := hz b (by simp)
    obtain ⟨p, rfl⟩ : ∃ p : Nat, a = (p : Int) := ⟨a.toNat, by omega⟩
    obtain ⟨q, rfl⟩ : ∃ q : Nat, b = (q : Int) := ⟨b.toNat, by omega⟩
    have HV := Lib.hid (show prodV 1 (n : Int) bs (p : Int) (q : Int) = .tuple #[.int .i64 (prd 1 n bs p q), .int .i64 0] by
      unfold prodV prodF
      rw [if_pos hc]
      rfl)
    rw [HV.out]
    rw [hc] at HPC
    have HPT := Lib.hid fun W (hb : Below w.heap.size w W) => l09Loop_any n s bs W (h.below hb (Nat.le_refl _)) hi hf
    have hp1 : p < n + 1 := by omega
    have hq1 : q < n + 1 := by omega
    have g0 : (0 : Int) ≤ (p : Int) := by omega
    have g1 : (p : Int) < ((n + 1 : Nat) : Int) := by omega
    have g2 : (0 : Int) ≤ (q : Int) := by omega
    have g3 : (q : Int) < ((n + 1 : Nat) : Int) := by omega
    have hn16 : n + 1 ≤ 1000 := by omega
    have hn0 : 0 < n + 1 := by omega
    obtain ⟨R, hRR⟩ : ∃ R, R = prd 1 n bs := ⟨_, rfl⟩
    rw [← hRR] at HPT ⊢
    clear h hc hi hf hz ha hb hv3 hv15 HV hRR
    obtain ⟨N, hN⟩ : ∃ N, N = n + 1 := ⟨_, rfl⟩
    rw [← hN] at HPT hp1 hq1 g1 g3 hn16 hn0
    clear hN
    obtain ⟨a0, c0, rfl⟩ := hs
    have HPX := Lib.hid (HPC.out _ ((w.alloc (.cells #[.int .i64 (n : Int), .slice a0 bs.length c0] 30)).alloc (.cells #[.int .i64 (p : Int), .int .i64 (q : Int)] 2)) (((Below.refl _ _).alloc (Nat.le_refl _) _).alloc (by simp) _) (lit_ib2 (w.alloc (.cells #[.int .i64 (n : Int), .slice a0 bs.length c0] 30)) p q))
    rw [show ∀ o, (w.alloc o).heap.size = w.heap.size + 1 from fun o => by simp] at HPX
    clear HPC
    go_enter Try.func19, Try.ntmps19
    go_wp2_with fail
    rw [← HQ.out]
    refine HPX.out.mono ?_
    rintro e w1 ⟨rfl, hb1⟩
    have hB1 : Below w.heap.size w w1 := (((Below.refl _ _).alloc (Nat.le_refl _) _).alloc (by simp) _).trans (hb1.mono (by simp <;> omega))
    have d0 : w1.cell? ⟨w.heap.size, 0, none⟩ = some (.int .i64 (n : Int)) := (hb1.cell (p := ⟨w.heap.size, 0, none⟩) (by simp <;> omega)).trans (by simp [go_sem])
    have d1 : w1.cell? ⟨w.heap.size, 1, none⟩ = some (.slice a0 bs.length c0) := (hb1.cell (p := ⟨w.heap.size, 1, none⟩) (by simp <;> omega)).trans (by simp [go_sem])
    clear hb1
    go_wp2_with fail
    refine (HPT.out _ hB1).mono ?_
    rintro e w2 ⟨u, us, rfl, hT, hb2⟩
    have hB2 := hB1.trans (hb2.mono hB1.size)
    obtain ⟨G, c, gs, caps, rfl, _, hS⟩ := l09Tab_ssr hT hn0 hn16
    obtain ⟨e1, e2⟩ := hS.get hp1 hq1
    clear hb2 hB1 hT hS
    go_wp2
    go_ret2
    exact RV_of rfl hB2
  · have HV := Lib.hid (show prodV 1 v bs a b = .tuple #[.int .i64 0, .int .i64 (pcode 1 v bs [a, b])] by
      unfold prodV prodF
      rw [if_neg hc])
    rw [HV.out]
    obtain ⟨μ, hμ⟩ : ∃ μ, μ = pcode 1 v bs [a, b] := ⟨_, rfl⟩
    rw [← hμ] at hc HPC ⊢
    have q1 : (μ != 0) = true := by simpa using hc
    clear h hμ hc HV
    obtain ⟨a0, c0, rfl⟩ := hs
    have HPX := Lib.hid (HPC.out _ ((w.alloc (.cells #[.int .i64 v, .slice a0 bs.length c0] 30)).alloc (.cells #[.int .i64 a, .int .i64 b] 2)) (((Below.refl _ _).alloc (Nat.le_refl _) _).alloc (by simp) _) (lit_ib2 (w.alloc (.cells #[.int .i64 v, .slice a0 bs.length c0] 30)) a b))
    rw [show ∀ o, (w.alloc o).heap.size = w.heap.size + 1 from fun o => by simp] at HPX
    clear HPC
    go_enter Try.func19, Try.ntmps19
    go_wp2_with fail
    rw [← HQ.out]
    refine HPX.out.mono ?_
    rintro e w1 ⟨rfl, hb1⟩
    have hB1 : Below w.heap.size w w1 := (((Below.refl _ _).alloc (Nat.le_refl _) _).alloc (by simp) _).trans (hb1.mono (by simp <;> omega))
    clear hb1
    go_wp2
    go_ret2
    exact RV_of rfl hB1
end Go.Proofs.Ytahgialnhomefaa

namespace Go.Proofs.Ytahgialnhomefaa
open Go.RowKit Go.Maps
set_option maxRecDepth 100000 in
theorem FnExactLoopProduct_long (v : Int) (s : Value) (bs : List Blk) (pa pb : Int)  (w : World) (h : InB w s bs) (hl : ¬ bs.length ≤ 1048576) : Calls Try.prog 4 #[.agg #[.int .i64 v, s], .int .i64 pa, .int .i64 pb] w (RV (.bool true) w) := by
  have hsl := h.slice
  have hbd := h.2.1
  have hsz := szSystem_any v s bs.length hsl (by omega) 1048576 (by omega) (by omega)
  rw [if_pos (by omega)] at hsz
  have HSZ := Lib.hid hsz
  clear hsz h
  obtain ⟨a, c, rfl⟩ := hsl
  go_enter Try.func4, Try.ntmps4
  go_wp2_with (go_at_call 14; refine (HSZ.out _).mono ?_; rintro e w1 ⟨rfl, hb1⟩)
  go_ret
  exact RV_of rfl (((Below.refl _ _).alloc (Nat.le_refl _) _).trans (hb1.mono (by simp)))

set_option maxRecDepth 100000 in
set_option maxHeartbeats 1000000 in
theorem FnExactLoopProduct_main (v : Int) (s : Value) (bs : List Blk) (pa pb : Int)  (_h1 : WF pa) (_h2 : WF pb) (w : World) (h : InB w s bs) (hl : bs.length ≤ 1048576) : Calls Try.prog 4 #[.agg #[.int .i64 v, s], .int .i64 pa, .int .i64 pb] w (RV (.bool true) w) := by
  have hsl := h.slice
  have hbd := h.2.1
  have hsz := szSystem_any v s bs.length hsl (by omega) 1048576 (by omega) (by omega)
  have hsb := h.sb hl
  rw [if_neg (by omega)] at hsz
  obtain ⟨m, hm⟩ : ∃ m, m = (1048576 : Int) - (bs.length : Int) := ⟨_, rfl⟩
  rw [← hm] at hsz
  have hm0 : 0 ≤ m := by omega
  have HSZ := Lib.hid hsz
  have HSB := Lib.hid hsb
  have hwf := h.1
  have HWF := Lib.hid hwf
  have HBD := Lib.hid (show bs.length ≤ 1100000 by omega)
  clear hsz hsb hm h hl hbd hwf
  have hsp : ∀ (W : World) (t : Value), SB W t bs → Calls Try.prog 19 #[.agg #[.int .i64 v, t], .int .i64 pa, .int .i64 pb] W (RV (prodV 1 v bs pa pb) W) := fun W t ht => specLoopProduct_any v t bs pa pb W ht
  have him : ∀ (W : World) (t : Value), SB W t bs → Calls Try.prog 20 #[.agg #[.int .i64 v, t], .int .i64 pa, .int .i64 pb] W (RV (prodV 1 v bs pa pb) W) := fun W t ht => LoopProduct_any v t bs pa pb W ht
  obtain ⟨η, κ, hval⟩ : ∃ η κ, prodV 1 v bs pa pb = .tuple #[.int .i64 η, .int .i64 κ] := by
    unfold prodV
    repeat (first | exact ⟨_, _, rfl⟩ | split)
  rw [hval] at hsp him
  have HSP := Lib.hid hsp
  have HIM := Lib.hid him
  clear hval hsp him
  have hne1 : (η != η) = false := by simp
  have hne2 : (κ != κ) = false := by simp
  obtain ⟨a, c, rfl⟩ := hsl
  go_enter Try.func4, Try.ntmps4
  go_wp2_with fail
  refine (HSZ.out _).mono ?_
  rintro e w1 ⟨rfl, hb1⟩
  have p0 := cell_new hb1 0 rfl
  have p1 := cell_new hb1 1 rfl
  have hz1 := hb1.size
  simp at hz1
  have hbw : Below w.heap.size w w1 := ((Below.refl _ _).alloc (Nat.le_refl _) _).trans (hb1.mono (by simp))
  clear hb1
  go_wp2_with fail
  refine (toSystem_any v _ bs _ (HSB.out.below hbw (Nat.le_refl _))).mono ?_
  rintro e w2 ⟨s2, rfl, ho2, hb2⟩
  have hsb2 := ho2.sb HWF.out HBD.out
  go_wp2_with fail
  refine (HSP.out _ _ hsb2).mono ?_
  rintro e w3 ⟨rfl, hb3⟩
  have hb13 := hb2.trans (hb3.mono hb2.size)
  have p0' := (hb13.cell (p := ⟨w.heap.size, 0, none⟩) (by show w.heap.size < _; omega)).trans p0
  have p1' := (hb13.cell (p := ⟨w.heap.size, 1, none⟩) (by show w.heap.size < _; omega)).trans p1
  have hz3 := hb13.size
  have hbw3 := hbw.trans (hb13.mono (by omega))
  clear p0 p1 hb2 hb3 hb13 ho2 hsb2 hbw
  go_wp2_with fail
  refine (toSystem_any v _ bs _ (HSB.out.below hbw3 (Nat.le_refl _))).mono ?_
  rintro e w4 ⟨s4, rfl, ho4, hb4⟩
  obtain ⟨g, cap, hs4, h41, h42, h43, h44⟩ := id ho4
  subst hs4
  have p0 := (hb4.cell (p := ⟨w.heap.size, 0, none⟩) (by show w.heap.size < _; omega)).trans p0'
  have p1 := (hb4.cell (p := ⟨w.heap.size, 1, none⟩) (by show w.heap.size < _; omega)).trans p1'
  have hz4 := hb4.size
  have hbw4 := hbw3.trans (hb4.mono (by omega))
  have hsb4 := ho4.sb HWF.out HBD.out
  clear p0' p1' hb4 hbw3 h41 h43 h44 ho4
  go_wp2_with fail
  refine (HIM.out _ _ (hsb4.below ((Below.refl _ _).alloc (Nat.le_refl _) _) (Nat.le_refl _))).mono ?_
  rintro e w5 ⟨rfl, hb5⟩
  have q0 := cell_new hb5 0 rfl
  have q1 := cell_new hb5 1 rfl
  have p0' := (hb5.cell (p := ⟨w.heap.size, 0, none⟩) (by simp; omega)).trans (cell_past p0 (by omega))
  have p1' := (hb5.cell (p := ⟨w.heap.size, 1, none⟩) (by simp; omega)).trans (cell_past p1 (by omega))
  have hz5 := hb5.size
  simp at hz5
  have hbw5 := (hbw4.alloc hbw4.size _).trans (hb5.mono (by simp; omega))
  have hsb5 := hsb4.below (((Below.refl _ _).alloc (Nat.le_refl _) _).trans (hb5.mono (by simp))) (Nat.le_refl _)
  clear p0 p1 hb5 hbw4 hsb4
  go_wp2
  go_region_with (first | (go_at_call 16; refine (toSystem_any v _ bs _ ?_).mono ?_; (exact HSB.out.below hbw5.drew (Nat.le_refl _)); rintro e w6 ⟨s6, rfl, ho6, hb6⟩; obtain ⟨g6, cap6, hs6, h61, h62, h63, h64⟩ := id ho6; subst hs6; have hsb6 := ho6.sb HWF.out HBD.out; have hsb56 := hsb5.below (Below.trans (Below.refl _ _).drew hb6) (Nat.le_refl _); have r0 := (hb6.cell (p := ⟨w4.heap.size, 0, none⟩) (by show w4.heap.size < _; simp; omega)).trans q0; have r1 := (hb6.cell (p := ⟨w4.heap.size, 1, none⟩) (by show w4.heap.size < _; simp; omega)).trans q1) | (go_at_call 18; refine (eqSystem_same v _ _ bs _ ?_ ?_).mono ?_; (exact hsb56); (exact hsb6); rintro e w7 ⟨rfl, hb7⟩))
  all_goals go_wp2
  all_goals go_ret
  all_goals exact RV_of rfl (hbw5.drew.trans ((hb6.mono (by simp; omega)).trans (hb7.mono (by have := hb6.size; simp at this; omega))))

theorem FnExactLoopProduct_any (v : Int) (s : Value) (bs : List Blk) (pa pb : Int)  (_h1 : WF pa) (_h2 : WF pb) (w : World) (h : InB w s bs) : Calls Try.prog 4 #[.agg #[.int .i64 v, s], .int .i64 pa, .int .i64 pb] w (RV (.bool true) w) := by
  by_cases hl : bs.length ≤ 1048576
  · exact FnExactLoopProduct_main v s bs pa pb  _h1 _h2 w h hl
  · exact FnExactLoopProduct_long v s bs pa pb  w h hl
end Go.Proofs.Ytahgialnhomefaa

namespace Go.Proofs.Ytahgialnhomefaa
open Go.ChangeShapes Go.WideShapes Go.ChangeAt Go.RowKit Go.Deep Go.Joins
theorem ownKnobs : ownKnob Try.prog.godebug = none := by kernel_rfl
section
variable {H : Type} {enc : TypeId × Value → H} {W : World} {base : Nat} {held : Bool}
theorem arrCells : Try.prog.cellsOf 83 = 3 := by kernel_rfl
set_option maxRecDepth 100000 in
theorem open_arr3 {fuel : Nat} {cs : List Value} {x : DataW H × List MemPlace} (h : DataW.trod enc Try.prog W base (fun _ => true) held fuel 83 cs = some x) :
    ∃ a b c : Int, cs = [.int .i64 a, .int .i64 b, .int .i64 c] ∧ (Lit.int .i64 a).wf = true ∧ (Lit.int .i64 b).wf = true ∧ (Lit.int .i64 c).wf = true := by
  obtain ⟨xs, m, rfl, rfl, hl, hx, hat⟩ := DataW.trod_array Try.underlying83 h
  rw [arrCells] at hl
  match cs, hl with
  | [c0, c1, c2], _ =>
    match xs, hx with
    | [x0, x1, x2], _ =>
      have h0 := hat 0 (by omega)
      have h1 := hat 1 (by omega)
      have h2 := hat 2 (by omega)
      rw [int64Cells] at h0 h1 h2
      simp at h0 h1 h2
      obtain ⟨a, ha, _, wa⟩ := DataW.trod_int Try.underlying2 h0
      obtain ⟨b, hb, _, wb⟩ := DataW.trod_int Try.underlying2 h1
      obtain ⟨c, hc, _, wc⟩ := DataW.trod_int Try.underlying2 h2
      simp at ha hb hc
      exact ⟨a, b, c, by rw [ha, hb, hc], wa, wb, wc⟩
theorem add_at (b off i : Nat) : (⟨b, off, none⟩ : Addr).add i = ⟨b, off + i, none⟩ := by
  unfold Addr.add
  split
  · subst_vars; rfl
  · rfl
set_option maxRecDepth 100000 in
theorem open_arrs {fuel : Nat} {s : Value} {x : DataW H × List MemPlace} (h : DataW.trod enc Try.prog W base (fun _ => true) held fuel 22 [s] = some x) : ∃ bs, InB W s bs := by
  rcases open_slice Try.underlying22 h with ⟨hcs, _⟩ | ⟨a, len, cap, m, n, D, Pl, hcs, hb, hl, hm, hmm, hx, hi⟩
  · simp at hcs
    exact ⟨[], by simp, by simp, .inl ⟨none, 0, hcs, rfl⟩⟩
  · simp at hcs
    subst hcs
    simp at hmm
    subst hmm
    have hm' : m ≤ 9223372036854775807 := by unfold maxLen at hm; exact hm
    by_cases h0 : len = 0
    · subst h0
      exact ⟨[], by simp, by simp, .inl ⟨_, _, rfl, rfl⟩⟩
    · have cell : ∀ i, i < m → ∃ y : Blk, WFB y ∧ ∀ j (v : Value), [Value.int .i64 y.a, Value.int .i64 y.b, Value.int .i64 y.c][j]? = some v → W.cell? (a.add (i * 3 + j)) = some v := fun i him => by
        obtain ⟨cs', hc, ht⟩ := hi i him
        obtain ⟨p, q, r, rfl, wp, wq, wr⟩ := open_arr3 ht
        rw [arrCells] at hc
        obtain ⟨_, _, hat⟩ := World.cells?_some hc
        refine ⟨⟨p, q, r⟩, ⟨wp, wq, wr⟩, fun j v hv => ?_⟩
        have hj : j < 3 := by
          have := (List.getElem?_eq_some_iff.1 hv).1
          simpa using this
        rw [← Go.Deep.add_add, hat j hj]
        exact hv
      obtain ⟨F, hF⟩ := choose_lt (α := Blk) cell
      obtain ⟨b, off, spot⟩ := a
      have hc0 := (hF 0 (by omega)).2 0 _ rfl
      have hspot : spot = none := by simpa [Addr.add] using World.cell?_spot hc0
      subst hspot
      refine ⟨(List.range len).map F, ?_, by simp; omega, .inr ⟨b, off, m, by simp, ?_, ?_⟩⟩
      · intro y hy
        obtain ⟨i, hi', rfl⟩ := List.mem_map.1 hy
        exact (hF i (by have := List.mem_range.1 hi'; omega)).1
      · exact block_lt_of_cell hc0
      · intro k hk
        simp at hk
        have e : ((List.range len).map F)[k]?.getD default = F k := by simp [hk]
        rw [e]
        have := (hF k (by omega)).2
        refine ⟨?_, ?_, ?_⟩
        · have h0 := this 0 _ rfl
          rw [add_at] at h0
          exact h0
        · have h1 := this 1 _ rfl
          rw [add_at, ← Nat.add_assoc] at h1
          exact h1
        · have h2 := this 2 _ rfl
          rw [add_at, ← Nat.add_assoc] at h2
          exact h2
theorem isSys : ∃ f0 f1 : Field, Try.prog.underlying 24 = some (.struct #[f0, f1]) ∧ f0.type = 2 ∧ f1.type = 22 ∧ oneCellFields Try.prog #[f0, f1] = true :=
  ⟨_, _, Try.underlying24, rfl, rfl, by kernel_rfl⟩
theorem sysCells : Try.prog.cellsOf 24 = 2 := by kernel_rfl
set_option maxRecDepth 100000 in
theorem open_system {r : Reach} {b0 : Nat} {v : Value} {d : DataW H} {p : List MemPlace} (hv : Value.okWide Try.prog W r b0 24 v) (h : DataW.Trod enc Try.prog W base (fun _ => true) held 24 v d p) :
    ∃ (n : Int) (s : Value) (bs : List Blk), v = .agg #[.int .i64 n, s] ∧ WF n ∧ InB W s bs := by
  obtain ⟨f0, f1, hu, e0, e1, hone⟩ := isSys
  obtain ⟨v0, v1, y0, y1, n, rfl, _, _, h0, h1⟩ := open_agg2 hu hone sysCells hv h
  rw [e0] at h0
  rw [e1] at h1
  obtain ⟨k, hk, _, wk⟩ := DataW.trod_int Try.underlying2 h0
  simp at hk
  subst hk
  obtain ⟨bs, hbs⟩ := open_arrs h1
  exact ⟨k, v1, bs, rfl, wk, hbs⟩
end
end Go.Proofs.Ytahgialnhomefaa

namespace Go.Proofs.Ytahgialnhomefaa
set_option maxRecDepth 100000 in
noncomputable def iniP : { L : List Char // Try.prog.initOrder = String.ofList L } := ⟨_, by unfold Try.prog; rfl⟩
theorem iniL : Try.prog.initOrder.toList = iniP.1 := (congrArg String.toList iniP.2).trans String.toList_ofList
theorem words_cons (c : Char) (r : List Char) (h : c ≠ Char.ofNat 32) : wordsSigns (c :: r) = match wordsSigns r with | w :: ws => (c :: w) :: ws | [] => [[c]] := by
  rw [wordsSigns]
  all_goals first | rfl | exact h | (intro e; exact h e)
theorem words_word : ∀ (a b : List Char), (a.all fun c => c != Char.ofNat 32) = true → wordsSigns (a ++ Char.ofNat 32 :: b) = a :: wordsSigns b
  | [], b, _ => rfl
  | c :: a, b, h => by
    simp only [List.all_cons, Bool.and_eq_true, bne_iff_ne, ne_eq] at h
    rw [List.cons_append, words_cons _ _ h.1, words_word a b (by simpa using h.2)]
set_option maxRecDepth 100000 in
theorem split1 : iniP.1 = iniP.1.take 7 ++ Char.ofNat 32 :: iniP.1.drop 8 := by kernel_rfl
set_option maxRecDepth 100000 in
theorem split2 : iniP.1.drop 8 = (iniP.1.drop 8).take 64 ++ Char.ofNat 32 :: iniP.1.drop 73 := by kernel_rfl
set_option maxRecDepth 100000 in
theorem split3 : iniP.1.drop 73 = (iniP.1.drop 73).take 3 ++ Char.ofNat 32 :: iniP.1.drop 77 := by kernel_rfl
theorem isCut : (iniP.1.drop 73).take 3 = "cut".toList := by kernel_rfl
set_option maxRecDepth 100000 in
theorem isHead : ((iniP.1.take 7 == "harness".toList || iniP.1.take 7 == "ownmain".toList) && isSumSigns ((iniP.1.drop 8).take 64)) = true := by kernel_rfl
theorem wordsL : wordsSigns iniP.1 = iniP.1.take 7 :: (iniP.1.drop 8).take 64 :: "cut".toList :: wordsSigns (iniP.1.drop 77) := by
  rw [← isCut]
  conv => lhs; rw [split1]
  rw [words_word _ _ (by kernel_rfl)]
  conv => lhs; rw [split2]
  rw [words_word _ _ (by kernel_rfl)]
  conv => lhs; rw [split3]
  rw [words_word _ _ (by kernel_rfl)]
theorem behindL : behindMainWord (wordsSigns Try.prog.initOrder.toList) = "cut".toList :: wordsSigns (iniP.1.drop 77) := by
  rw [iniL, wordsL]
  unfold behindMainWord
  simp only [isHead, if_true]
theorem stripL (ws : List (List Char)) : stripLifts liftWords ("cut".toList :: ws) = ([], "cut".toList :: ws) := by kernel_rfl
section
variable (P : Program) (ws : List (List Char)) (h : behindMainWord (wordsSigns P.initOrder.toList) = "cut".toList :: ws)
include h
theorem head_of : P.headLifts = [] := by
  unfold Program.headLifts
  rw [h]
  simp only [stripL]
  kernel_rfl
theorem make_of : P.make = some .cut := by
  unfold Program.make
  rw [h, head_of P ws h]
  kernel_rfl
theorem lifts_of : P.liftsFinal = false := by
  unfold Program.liftsFinal
  rw [h, head_of P ws h]
  kernel_rfl
theorem enter_of (h1 : P.laysLater = false) (h2 : P.bearsReflect = false) (h3 : P.doorFits [] = true) : P.mayEnter = true := by
  unfold Program.mayEnter
  rw [h]
  simp only [stripL]
  rw [h1, h2, h3]
  kernel_rfl
end
theorem mayE : Try.pinned.checked.prog.mayEnter = true := enter_of _ _ behindL (by kernel_rfl) (by kernel_rfl) (by kernel_rfl)
theorem liftsF : Try.pinned.checked.prog.liftsFinal = false := lifts_of _ _ behindL
theorem makeF : Try.pinned.checked.prog.make = some .cut := make_of _ _ behindL
theorem both {a b : Bool} (h : a = true) (k : b = true) : (a && b) = true := by rw [h, k]; rfl
end Go.Proofs.Ytahgialnhomefaa

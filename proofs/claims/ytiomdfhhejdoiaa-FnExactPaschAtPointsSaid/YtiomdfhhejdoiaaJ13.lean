
/- The program's paschFrom: one block more. Pasch: the model's candidates are just those of the program. The program's PaschList and CountPasch. The model's l03Pasch. Pasch at points, plain. -/
import Derived.Test.YtiomdfhhejdoiaaJ12
namespace Go.Proofs.Ytiomdfhhejdoiaa
open Go.RowKit Go.Maps Go.Shelf
theorem okGo_none {bs : List Blk} {i k : Nat} {r : List Nat} {met : List Int} (h : comP (bk bs k) (bk bs i) = none) : okGo bs i (k :: r) met = false := by
  unfold okGo
  rw [h]
theorem okGo_some {bs : List Blk} {i k : Nat} {r : List Nat} {met : List Int} {a : Int} (h : comP (bk bs k) (bk bs i) = some a) : okGo bs i (k :: r) met = (!decide (i ≤ k) && !decide (a ∈ met) && okGo bs i r (met ++ [a])) := by
  conv => lhs; unfold okGo
  rw [h]
theorem okGo_low {bs : List Blk} {i k : Nat} {r : List Nat} {met : List Int} (h : i ≤ k) : okGo bs i (k :: r) met = false := by
  cases hc : comP (bk bs k) (bk bs i) with
  | none => exact okGo_none hc
  | some a => rw [okGo_some hc]; simp [h]
theorem two_rows {W : World} {sb : Value} {zs : List Int} {k : Int} (h : IB W sb zs) :
    SSB ((W.alloc (.cells #[.int .i64 k] 2)).alloc (.cells #[sb, .slice (some ⟨W.heap.size, 0, none⟩) 1 1] 26)) (.slice (some ⟨W.heap.size + 1, 0, none⟩) 2 2) 2 (fun q => if q = 0 then zs else [k]) := by
  refine ⟨by omega, .inr ⟨W.heap.size + 1, 0, 2, rfl, by simp, fun q hq => ?_⟩⟩
  have hb : Below W.heap.size W ((W.alloc (.cells #[.int .i64 k] 2)).alloc (.cells #[sb, .slice (some ⟨W.heap.size, 0, none⟩) 1 1] 26)) := ((Below.refl _ _).alloc (Nat.le_refl _) _).alloc (by simp) _
  match q, hq with
  | 0, _ =>
    have h2 := h.below hb (Nat.le_refl _)
    obtain ⟨a, c, rfl⟩ := h.form
    exact ⟨a, c, by simp [go_sem], h2⟩
  | 1, _ =>
    refine ⟨some ⟨W.heap.size, 0, none⟩, 1, by simp [go_sem], by simp, .inr ⟨W.heap.size, 0, 1, rfl, by simp; omega, fun j hj => ?_⟩⟩
    have : j = 0 := by simp at hj; omega
    subst this
    simp [go_sem]
theorem OwnJ.someP {w : World} {base : Nat} {u : Value} {zs : List Int} (h : OwnJ w base u zs) (h0 : 0 < zs.length) : ∃ g cap, u = .slice (some ⟨g, 0, none⟩) zs.length cap := by
  rcases h.2 with ⟨_, e⟩ | ⟨g, cap, cur, e, _⟩
  · omega
  · exact ⟨g, cap, e⟩
set_option maxRecDepth 100000 in
set_option maxHeartbeats 8000000 in
theorem paschFrom_step (v : Int) (s : Value) (bs : List Blk) (hb35 : bs.length ≤ 35) (d : Nat) (hd : d ≤ 3)
    (IH : ∀ (beg : List Nat) (sb : Value) (lo : Nat) (w : World), beg.length + d = 4 → (∀ k ∈ beg, k < bs.length) → SB w s bs → BegI w lo sb beg d → lo ≤ w.heap.size → Calls Try.prog 73 #[.agg #[.int .i64 v, s], sb] w (PFQ bs d beg lo w))
    (beg : List Nat) (sb : Value) (lo : Nat) (w : World) (hl : beg.length + (d + 1) = 4) (hk : ∀ k ∈ beg, k < bs.length) (hS : SB w s bs) (hB : BegI w lo sb beg (d + 1)) (hlo : lo ≤ w.heap.size) :
    Calls Try.prog 73 #[.agg #[.int .i64 v, s], sb] w (PFQ bs (d + 1) beg lo w) := by
  have hI := hB.1
  clear hB
  have HS := Lib.hid hS
  have HI := Lib.hid hI
  have HK := Lib.hid hk
  have HIH := Lib.hid IH
  obtain ⟨a5, c5, hsb⟩ := hI.form
  obtain ⟨m, hm⟩ : ∃ m, m = (castL beg).length := ⟨_, rfl⟩
  have HM := Lib.hid hm
  have hm4 : m + d = 3 := by rw [hm, castL_len]; omega
  have hne4 : ((m : Int) == 4) = false := by simp; omega
  rw [← hm] at hsb
  subst hsb
  obtain ⟨n, hn⟩ : ∃ n, n = bs.length := ⟨_, rfl⟩
  have HN := Lib.hid hn
  obtain ⟨a0, c0, hs⟩ := hS.slice
  rw [← hn] at hs hb35
  subst hs
  have HLO := Lib.hid hlo
  clear hS hI hk IH hm hn hl hlo
  go_enter Try.func73, Try.ntmps73
  go_wp2
  go_step3
  go_wp2
  go_step3
  go_wp2
  have hb0 : Below w.heap.size w (w.alloc (.cells #[.int .i64 v, .slice a0 n c0] 31)) := (Below.refl _ _).alloc (Nat.le_refl _) _
  have x0 : (w.alloc (.cells #[.int .i64 v, .slice a0 n c0] 31)).cell? ⟨w.heap.size, 0, none⟩ = some (.int .i64 v) := new_at 0 rfl
  have x1 : (w.alloc (.cells #[.int .i64 v, .slice a0 n c0] 31)).cell? ⟨w.heap.size, 1, none⟩ = some (.slice a0 n c0) := new_at 1 rfl
  obtain ⟨w1, hw1⟩ : ∃ w1, w.alloc (.cells #[.int .i64 v, .slice a0 n c0] 31) = w1 := ⟨_, rfl⟩
  have hz1 : w1.heap.size = w.heap.size + 1 := by rw [← hw1]; simp
  rw [hw1] at hb0 x0 x1 ⊢
  have HB0 := Lib.hid hb0
  clear hw1 hb0
  go_loopg [5, 21] n (fun g L i wr => ∃ (k : Nat) (Rs : List RowP), k + g = n ∧ i = .int .i64 k ∧ Below w1.heap.size w1 wr ∧ RowsM wr w1.heap.size L Rs ∧ Hid (rowsP Rs = (pfTo bs d beg k).map castL) ∧ ∃ a c, L = .slice a Rs.length c)
  case atStart => exact ⟨0, [], by omega, rfl, Below.refl _ _, RowsM.nil _ _, Lib.hid (by simp [rowsP, pfTo]), _, _, rfl⟩
  case round =>
    obtain ⟨k, Rs, hkg, rfl, hB, hM, HR, aL, cL, rfl⟩ := hrel
    obtain ⟨V, rfl⟩ : ∃ V, V = wr := ⟨_, rfl⟩
    have HMr := Lib.hid hM
    have HB := Lib.hid hB
    have hz := hB.size
    have r0 := (hB.cell (p := ⟨w.heap.size, 0, none⟩) (by show w.heap.size < _; omega)).trans x0
    have r1 := (hB.cell (p := ⟨w.heap.size, 1, none⟩) (by show w.heap.size < _; omega)).trans x1
    clear hM hB
    cases gk with
    | zero =>
      have hkn : ¬ (k : Int) < (n : Int) := by omega
      go_wp2
      try rw [Exit.noGoto_ret]
      go_ret
      have e : k = bs.length := by rw [← HN.out]; omega
      exact ⟨_, Rs, rfl, HMr.out.base (by have := HLO.out; omega), by rw [HR.out, e, pfTo_end], HB0.out.trans (HB.out.mono (by omega))⟩
    | succ g =>
      have hkn : (k : Int) < (n : Int) := by omega
      have hkN : k < n := by omega
      rcases HS.out.2.2 with ⟨_, _, _, hnil⟩ | ⟨bb, off, cap, hval, hblt, hbl⟩
      · have := HN.out; rw [hnil] at this; simp at this; omega
      · rw [← HN.out] at hval
        simp at hval
        obtain ⟨rfl, rfl⟩ := hval
        have HBL := Lib.hid hbl
        obtain ⟨x, hx, ex, d1, d2, d3⟩ := blks_at (hbl.below (HB0.out.trans (HB.out.mono (by omega))) hblt) (show k < bs.length by rw [← HN.out]; exact hkN)
        have hbkx : bk bs k = x := by unfold bk; rw [ex]; rfl
        have HBX := Lib.hid hbkx
        obtain ⟨xa, xb, xc⟩ := x
        dsimp only at d1 d2 d3
        have hLn : Rs.length = (pfTo bs d beg k).length := by
          have := congrArg List.length HR.out
          simpa [rowsP] using this
        have hRl : Rs.length ≤ 1500625 := by
          rw [hLn]
          exact pfTo_len bs (by rw [← HN.out]; exact hb35) hd beg (by rw [← HN.out]; omega)
        have hbb : bb < V.heap.size := by omega
        clear hx ex hbl hbkx hLn
        go_wp2_with fail
        have hb2 : Below V.heap.size V (V.alloc (.cells #[.int .i64 xa, .int .i64 xb, .int .i64 xc] 68)) := (Below.refl _ _).alloc (Nat.le_refl _) _
        have y0 : (V.alloc (.cells #[.int .i64 xa, .int .i64 xb, .int .i64 xc] 68)).cell? ⟨V.heap.size, 0, none⟩ = some (.int .i64 xa) := new_at 0 rfl
        have y1 : (V.alloc (.cells #[.int .i64 xa, .int .i64 xb, .int .i64 xc] 68)).cell? ⟨V.heap.size, 1, none⟩ = some (.int .i64 xb) := new_at 1 rfl
        have y2 : (V.alloc (.cells #[.int .i64 xa, .int .i64 xb, .int .i64 xc] 68)).cell? ⟨V.heap.size, 2, none⟩ = some (.int .i64 xc) := new_at 2 rfl
        obtain ⟨w2, hw2⟩ : ∃ w2, V.alloc (.cells #[.int .i64 xa, .int .i64 xb, .int .i64 xc] 68) = w2 := ⟨_, rfl⟩
        have hz2 : w2.heap.size = V.heap.size + 1 := by rw [← hw2]; simp
        rw [hw2] at hb2 y0 y1 y2 ⊢
        have HB2 := Lib.hid hb2
        have z0 := (hb2.cell (p := ⟨w.heap.size, 0, none⟩) (by show w.heap.size < _; omega)).trans r0
        have z1 := (hb2.cell (p := ⟨w.heap.size, 1, none⟩) (by show w.heap.size < _; omega)).trans r1
        clear hw2 hb2 r0 r1 d1 d2 d3
        go_loopg [8, 28] m (fun g2 mt j wy => ∃ (q : Nat) (met : List Int), q + g2 = m ∧ j = .int .i64 q ∧ Below w2.heap.size w2 wy ∧ OwnJ wy w2.heap.size mt met ∧ Hid (okGo bs k beg [] = okGo bs k (beg.drop q) met) ∧ met.length ≤ q ∧ ∃ a c, mt = .slice a met.length c)
        case atStart => exact ⟨0, [], by omega, rfl, Below.refl _ _, OwnJ.nil _ _, Lib.hid (by simp), by simp, _, _, rfl⟩
        case round =>
          obtain ⟨q, met, hqg, rfl, hB3, hO, HE, hml, aM, cM, rfl⟩ := hrel
          obtain ⟨wy, rfl⟩ : ∃ V, V = wr := ⟨_, rfl⟩
          have hz3 := hB3.size
          have e0 := (hB3.cell (p := ⟨w.heap.size, 0, none⟩) (by show w.heap.size < _; omega)).trans z0
          have e1 := (hB3.cell (p := ⟨w.heap.size, 1, none⟩) (by show w.heap.size < _; omega)).trans z1
          have f0 := (hB3.cell (p := ⟨V.heap.size, 0, none⟩) (by show V.heap.size < _; omega)).trans y0
          have f1 := (hB3.cell (p := ⟨V.heap.size, 1, none⟩) (by show V.heap.size < _; omega)).trans y1
          have f2 := (hB3.cell (p := ⟨V.heap.size, 2, none⟩) (by show V.heap.size < _; omega)).trans y2
          have HB3 := Lib.hid hB3
          have HO := Lib.hid hO
          clear hB3 hO
          cases gk with
          | zero =>
            have eqm : q = m := by omega
            subst eqm
            have hok : okGo bs k beg [] = true := by
              rw [HE.out, List.drop_eq_nil_of_le (by have := HM.out; rw [castL_len] at this; omega)]
              rfl
            have hkb : k < bs.length := by rw [← HN.out]; exact hkN
            have HIH1 := Lib.hid (HIH.out (beg ++ [k]))
            have HLN1 := Lib.hid (show (beg ++ [k]).length + d = 4 by have := HM.out; rw [castL_len] at this; simp; omega)
            have HKK := Lib.hid (show ∀ j ∈ beg ++ [k], j < bs.length from fun j hj => by
              rcases List.mem_append.1 hj with hj | hj
              · exact HK.out j hj
              · rw [List.mem_singleton.1 hj]; exact hkb)
            have hbVy : Below V.heap.size V wy := HB2.out.trans (HB3.out.mono (by omega))
            have hbwy : Below w.heap.size w wy := HB0.out.trans ((HB.out.trans (hbVy.mono hz)).mono (by omega))
            have HIy := Lib.hid (HI.out.below hbwy (Nat.le_refl _))
            have HVY := Lib.hid hbVy
            have HWY := Lib.hid hbwy
            have HCAT := Lib.hid (show catF 2 (fun q => if q = 0 then castL beg else [(k : Int)]) = castL (beg ++ [k]) by rw [castL_snoc]; simp [catF, List.range_succ])
            have HTOT := Lib.hid (show tot (fun q => if q = 0 then castL beg else [(k : Int)]) 2 ≤ 1100000 by have := HM.out; simp [tot]; omega)
            obtain ⟨m6, hm6⟩ : ∃ m6, m6 = (castL (beg ++ [k])).length := ⟨_, rfl⟩
            have hm6p : 0 < m6 := by rw [hm6, castL_len]; simp
            have hm6l : m6 ≤ 1000 := by have := HM.out; rw [hm6, castL_snoc]; simp; omega
            have HM6 := Lib.hid hm6
            have hSl : (pfrom bs d (beg ++ [k])).length ≤ 42875 := pfrom_len3 bs (by rw [← HN.out]; exact hb35) hd _
            have HSL := Lib.hid hSl
            have HOK := Lib.hid hok
            clear hbVy hbwy hm6 hok hSl f0 f1 f2 HO
            go_wp2_with fail
            go_region_held3 (fun w' => w'.cell? ⟨w.heap.size, 0, none⟩ = some (.int .i64 v) ∧ w'.cell? ⟨w.heap.size, 1, none⟩ = some (.slice (some ⟨bb, off, none⟩) n c0))
              (first
                | exact ⟨C0, C1⟩
                | exact ⟨B0, B1⟩
                | exact ⟨A0, A1⟩
                | go_keep)
              (first
                | (go_at_call 110; refine (concatE_any _ 2 (fun q => if q = 0 then castL beg else [(k : Int)]) _ (by first | exact two_rows (HIy.out.below (Below.refl _ _).drew (Nat.le_refl _)) | exact two_rows HIy.out | exact (two_rows HIy.out).below ((Below.refl _ _).drew) (Nat.le_refl _)) HTOT.out).mono ?_; rintro e w6 ⟨u6, rfl, hO6, hb6⟩; have hb6' : Below wy.heap.size wy w6 := (by first | exact ((((Below.refl _ _).drew).alloc (Nat.le_refl _) _).alloc (by simp) _).trans (hb6.mono (by simp; omega)) | exact ((((Below.refl _ _).alloc (Nat.le_refl _) _).alloc (by simp) _).drew).trans (hb6.mono (by simp; omega)) | exact (((Below.refl _ _).alloc (Nat.le_refl _) _).alloc (by simp) _).trans (hb6.mono (by simp; omega))); have hO6' : OwnJ w6 (wy.heap.size + 1 + 1) u6 (castL (beg ++ [k])) := (by rw [← HCAT.out]; first | exact hO6 | simpa using hO6); (obtain ⟨g6, c6, hu6⟩ := hO6'.someP (by rw [← HM6.out]; exact hm6p)); rw [← HM6.out] at hu6; subst hu6; have hBI : BegI w6 (wy.heap.size + 1 + 1) (.slice (some ⟨g6, 0, none⟩) m6 c6) (beg ++ [k]) d := ⟨hO6'.ib (by rw [← HM6.out]; omega), fun _ => ⟨g6, c6, by rw [← HM6.out], (hO6'.atI (by rw [← HM6.out]; omega)).2, (hO6'.atI (by rw [← HM6.out]; omega)).1⟩⟩; have A0 := (hb6'.cell (p := ⟨w.heap.size, 0, none⟩) (by show w.heap.size < _; omega)).trans e0; have A1 := (hb6'.cell (p := ⟨w.heap.size, 1, none⟩) (by show w.heap.size < _; omega)).trans e1; have hz6 := hb6'.size; have hz6b : wy.heap.size + 1 + 1 ≤ w6.heap.size := (by have := (hO6'.atI (by rw [← HM6.out]; omega)); have := this.1.lt; omega))
                | (go_at_call 73; refine (HIH1.out _ (wy.heap.size + 1 + 1) _ HLN1.out HKK.out (by first | exact HS.out.below (HWY.out.trans (hb6'.mono HWY.out.size)) (Nat.le_refl _) | exact HS.out.below ((HWY.out.trans (hb6'.mono HWY.out.size)).drew) (Nat.le_refl _)) (by first | exact hBI | exact ⟨hBI.1.below ((Below.refl _ _).drew) (Nat.le_refl _), fun h => by obtain ⟨g, c, h1, h2, h3⟩ := hBI.2 h; exact ⟨g, c, h1, h2, h3.kept (gb_drew1 _) (by simp)⟩⟩) (by first | exact hz6b | simpa using hz6b)).mono ?_; rintro e w7 ⟨u7, Ss, rfl, hM7, hR7, hb7⟩; have hb7' : Below w6.heap.size w6 w7 := (by first | exact hb7 | exact ((Below.refl _ _).drew).trans (hb7.mono (by simp))); (obtain ⟨a7, c7, hu7⟩ := hM7.form); subst hu7; have hbV7 : Below V.heap.size V w7 := HVY.out.trans ((hb6'.trans (hb7'.mono hz6)).mono HVY.out.size); have hML7 := HMr.out.below hbV7; have B0 := (hb7'.cell (p := ⟨w.heap.size, 0, none⟩) (by show w.heap.size < _; omega)).trans A0; have B1 := (hb7'.cell (p := ⟨w.heap.size, 1, none⟩) (by show w.heap.size < _; omega)).trans A1; have hSn : Ss.length ≤ 42875 := (by have h := congrArg List.length hR7; have h2 := HSL.out; simp [rowsP] at h; omega); have hz7 := hb7'.size)
                | (refine step_append_manyV rfl (.tmp 59) (.tmp 66) rfl w1.heap.size (.slice aL Rs.length cL) (Rs.map RowP.hdr) Rs.length (by simp) (by simp [Act.eval]) (by first | exact hML7.own | exact (hML7.below ((Below.refl _ _).drew)).own) (.slice a7 Ss.length c7) (Ss.map RowP.hdr) Ss.length (by simp) (by simp [Act.eval]) (by first | exact hM7.src | exact (hM7.below ((Below.refl _ _).drew)).src) (hdr_one _) (by omega) (by first | omega | (simp; omega)) ?_; intro a8 c8 w8 hV8 hg8 hG8; have hg8' : w7.grownBy w8 (Value.slice aL Rs.length cL).ownBlock := (by first | exact hg8 | exact gb_drewL hg8); have hM8 := RowsM.cat hML7 (fun x hx => hM7.row x hx) hM7.nd (k := wy.heap.size + 1 + 1) (by omega) (fun x hx => by have := HMr.out.lt x hx; have := HVY.out.size; omega) (fun r e => by have := (HMr.out.blk r e).2; have := HVY.out.size; omega) (fun x hx => hM7.low x hx) (by simp) (by simp) hV8 hg8' (by first | exact hG8 | simpa using hG8); have hb8 : Below w1.heap.size w1 w8 := (HB.out.trans (hbV7.mono hz)).grown hg8' (by have := hbV7.size; omega) (fun r e => (HMr.out.blk r e).1); have C0 := (hb8.cell (p := ⟨w.heap.size, 0, none⟩) (by show w.heap.size < _; omega)).trans x0; have C1 := (hb8.cell (p := ⟨w.heap.size, 1, none⟩) (by show w.heap.size < _; omega)).trans x1))
            all_goals
              go_wp2_with fail
              go_roundg g
              case measure => omega
              case rel => exact ⟨k + 1, Rs ++ Ss, by omega, by go_num, hb8, hM8, Lib.hid (by
                  have h1 := HR.out
                  unfold rowsP at h1 hR7 ⊢
                  rw [pfTo_succ, HOK.out, if_pos rfl, List.map_append, List.map_append, h1, hR7]), a8, c8, by rw [List.length_append]⟩
          | succ g2 =>
            have hqm : (q : Int) < (m : Int) := by omega
            have hqM : q < beg.length := by have := HM.out; rw [castL_len] at this; omega
            obtain ⟨y, hy⟩ : ∃ y, y = beg[q] := ⟨_, rfl⟩
            have hyn : y < n := by rw [hy, HN.out]; exact HK.out _ (List.getElem_mem hqM)
            have hdrop : beg.drop q = y :: beg.drop (q + 1) := by rw [List.drop_eq_getElem_cons hqM, hy]
            have hBw : Below w.heap.size w wy := HB0.out.trans ((HB.out.trans ((HB2.out.trans (HB3.out.mono (by omega))).mono hz)).mono (by omega))
            rcases (HI.out.below hBw (Nat.le_refl _)).2 with ⟨_, _, _, hnil⟩ | ⟨b5, o5, p5, hval, hb5, hr5⟩
            · have := HM.out; rw [hnil] at this; simp at this; omega
            · rw [← HM.out] at hval
              simp at hval
              obtain ⟨rfl, rfl⟩ := hval
              have q5 := hr5 q (by rw [← HM.out]; omega)
              have hyv : (castL beg)[q]?.getD 0 = (y : Int) := by unfold castL; simp [hqM, hy]
              rw [hyv] at q5
              obtain ⟨x2, hx2, ex2, k1, k2, k3⟩ := blks_at (HBL.out.below hBw hblt) (show y < bs.length by rw [← HN.out]; exact hyn)
              have hbky : bk bs y = x2 := by unfold bk; rw [ex2]; rfl
              have HBY := Lib.hid hbky
              obtain ⟨cp, hcp⟩ : ∃ cp, cp = comP x2 ⟨xa, xb, xc⟩ := ⟨_, rfl⟩
              have HC := Lib.hid fun W => commonPoint_any x2 ⟨xa, xb, xc⟩ W
              rw [← hcp] at HC
              have HCP := Lib.hid (show comP (bk bs y) (bk bs k) = cp by rw [HBY.out, HBX.out, hcp])
              have HDR := Lib.hid hdrop
              obtain ⟨ya, yb, yc⟩ := x2
              unfold bv at HC
              dsimp only at k1 k2 k3 HC
              have i1 : (0 : Int) ≤ (y : Int) := by omega
              have i2 : (y : Int) < (n : Int) := by omega
              have hbby : bb < wy.heap.size := by omega
              have HBW := Lib.hid hBw
              clear hy hdrop hx2 ex2 hbky hcp hyv hr5 hBw
              go_wp2_with fail
              go_region_held3 (fun w' => w'.cell? ⟨w.heap.size, 1, none⟩ = some (.slice (some ⟨bb, off, none⟩) n c0) ∧ w'.cell? ⟨bb, off + y * 3, none⟩ = some (.int .i64 ya) ∧ w'.cell? ⟨bb, off + y * 3 + 1, none⟩ = some (.int .i64 yb) ∧ w'.cell? ⟨bb, off + y * 3 + 2, none⟩ = some (.int .i64 yc) ∧ w'.cell? ⟨V.heap.size, 0, none⟩ = some (.int .i64 xa) ∧ w'.cell? ⟨V.heap.size, 1, none⟩ = some (.int .i64 xb) ∧ w'.cell? ⟨V.heap.size, 2, none⟩ = some (.int .i64 xc))
                (first
                  | exact ⟨E1, K1, K2, K3, F0, F1, F2⟩
                  | go_keep)
                (first
                  | (go_at_call 108; refine (HC.out _).mono ?_; rintro e w3 ⟨rfl, hbc⟩; have hbd : Below wy.heap.size wy w3 := (by first | exact hbc | exact ((Below.refl _ _).drew).trans (hbc.mono (by simp))); have E1 := (hbd.cell (p := ⟨w.heap.size, 1, none⟩) (by show w.heap.size < _; omega)).trans e1; have K1 := (hbd.cell (p := ⟨bb, off + y * 3, none⟩) hbby).trans k1; have K2 := (hbd.cell (p := ⟨bb, off + y * 3 + 1, none⟩) hbby).trans k2; have K3 := (hbd.cell (p := ⟨bb, off + y * 3 + 2, none⟩) hbby).trans k3; have F0 := (hbd.cell (p := ⟨V.heap.size, 0, none⟩) (by show V.heap.size < _; omega)).trans f0; have F1 := (hbd.cell (p := ⟨V.heap.size, 1, none⟩) (by show V.heap.size < _; omega)).trans f1; have F2 := (hbd.cell (p := ⟨V.heap.size, 2, none⟩) (by show V.heap.size < _; omega)).trans f2))
              all_goals
                have hbB : Below w2.heap.size w2 w3 := HB3.out.trans (hbd.mono hz3)
                have hO3 := HO.out.below hbd (Nat.le_refl _)
                have hbV3 : Below V.heap.size V w3 := HB2.out.trans (hbB.mono (by omega))
                have HREJ := Lib.hid (show okGo bs k beg [] = false → ∃ (k' : Nat) (Rs' : List RowP), k' + g = n ∧ Value.int .i64 ((k : Int) + 1) = .int .i64 k' ∧ Below w1.heap.size w1 w3 ∧ RowsM w3 w1.heap.size (.slice aL Rs.length cL) Rs' ∧ Hid (rowsP Rs' = (pfTo bs d beg k').map castL) ∧ ∃ a c, (Value.slice aL Rs.length cL) = .slice a Rs'.length c from fun hok => ⟨k + 1, Rs, by omega, by go_num, HB.out.trans (hbV3.mono hz), HMr.out.below hbV3, Lib.hid (by rw [pfTo_succ, hok]; simpa using HR.out), _, _, rfl⟩)
                have HO3 := Lib.hid hO3
                have HBB := Lib.hid hbB
                have hzB := hbB.size
                clear hO3 hbV3 hbB E1 K1 K2 K3 F0 F1 F2 k1 k2 k3 f0 f1 f2 e0 e1 q5
                by_cases hik : k ≤ y
                · have hok : okGo bs k beg [] = false := by rw [HE.out, HDR.out]; exact okGo_low hik
                  have HOK := Lib.hid hok
                  have i3 : decide ((k : Int) ≤ (y : Int)) = true := by simp; omega
                  clear hok
                  go_wp2
                  go_roundg g
                  case measure => omega
                  case rel => exact HREJ.out HOK.out
                · have i3 : decide ((k : Int) ≤ (y : Int)) = false := by simp; omega
                  cases cp with
                  | none =>
                    have HOK := Lib.hid (show okGo bs k beg [] = false by rw [HE.out, HDR.out]; exact okGo_none HCP.out)
                    go_wp2
                    go_roundg g
                    case measure => omega
                    case rel => exact HREJ.out HOK.out
                  | some a =>
                    have HCO := Lib.hid (ContainsI_any (.slice aM met.length cM) met a w3 (HO3.out.ib (by omega)))
                    have hin := inL_memB a met
                    by_cases ha : a ∈ met
                    · have HOK := Lib.hid (show okGo bs k beg [] = false by rw [HE.out, HDR.out, okGo_some HCP.out]; simp [ha])
                      rw [hin, decide_eq_true ha] at HCO
                      clear hin
                      go_wp2_with (go_at_call 109; refine HCO.out.mono ?_; rintro e w4 ⟨rfl, rfl⟩)
                      go_roundg g
                      case measure => omega
                      case rel => exact HREJ.out HOK.out
                    · have HOK := Lib.hid (show okGo bs k beg [] = okGo bs k (beg.drop (q + 1)) (met ++ [a]) by rw [HE.out, HDR.out, okGo_some HCP.out]; simp [ha, hik])
                      rw [hin, decide_eq_false ha] at HCO
                      clear hin
                      go_wp2_with (first
                        | (go_at_call 109; refine HCO.out.mono ?_; rintro e w4 ⟨rfl, rfl⟩)
                        | (at_builtin; refine wpList_append_int rfl _ _ rfl w2.heap.size _ met rfl (HO3.out.below ((Below.refl _ _).alloc (Nat.le_refl _) _) (Nat.le_refl _)) _ _ a rfl (by simp [go_sem]) (by omega) (by simp; omega) ?_; intro g' cap' w5 hO5 hg5))
                      go_roundg g2
                      case measure => omega
                      case rel => exact ⟨q + 1, met ++ [a], by omega, by go_num, HBB.out.grown (gb_trans (World.grownBy_alloc _ _ none) hg5) hzB (fun j e => HO3.out.row j e), hO5, HOK, by simp; omega, _, _, by rw [List.length_append]; rfl⟩
end Go.Proofs.Ytiomdfhhejdoiaa

namespace Go.Proofs.Ytiomdfhhejdoiaa
/-- What the model puts in for the blocks i and j: turn t. -/
def candP (bs : List Blk) (i j t : Nat) : Option (List Int) :=
  let a := comI (bk bs i) (bk bs j)
  if a < 0 then none else
    let p := othersP (bk bs i) a
    let q := othersP (bk bs j) a
    let d := if t = 0 then q.1 else q.2
    let f := if t = 0 then q.2 else q.1
    if 0 ≤ third1 bs p.1 f ∧ third1 bs d p.2 = third1 bs p.1 f then some (ascL [(i : Int), (j : Int), numGo (bothB p.1 f) bs 0, numGo (bothB d p.2) bs 0]) else none
theorem first_of {p : Blk → Bool} : ∀ {bs : List Blk} {k s : Nat}, k < bs.length → p (bk bs k) = true → (∀ j, j < k → p (bk bs j) = false) → numGo p bs s = ((s + k : Nat) : Int) ∧ bs.find? p = some (bk bs k)
  | [], k, s, h, _, _ => by simp at h
  | x :: r, 0, s, _, hp, _ => by
    have hp : p x = true := hp
    simp [numGo, hp, bk, List.find?_cons]
  | x :: r, k + 1, s, h, hp, hn => by
    have h0 : p x = false := hn 0 (by omega)
    have ih := first_of (p := p) (bs := r) (k := k) (s := s + 1) (by simp at h; omega) hp (fun j hj => hn (j + 1) (by omega))
    unfold numGo
    rw [List.find?_cons, h0, if_neg (by simp), ih.1]
    refine ⟨by omega, ?_⟩
    simpa [bk] using ih.2
theorem both_iff {a b : Int} {x : Blk} : bothB a b x = true ↔ hasB x a = true ∧ hasB x b = true := by simp [bothB]
theorem third_is {v : Int} {bs : List Blk} (hU : SysU v bs) {k : Nat} (hk : k < bs.length) {a b t : Int} (ha : hasB (bk bs k) a = true) (hb : hasB (bk bs k) b = true) (ht : hasB (bk bs k) t = true) (hab : a ≠ b) (hat : t ≠ a) (hbt : t ≠ b) :
    third1 bs a b = t ∧ numGo (bothB a b) bs 0 = k := by
  have h := first_of (p := bothB a b) (bs := bs) (k := k) (s := 0) hk (both_iff.2 ⟨ha, hb⟩) (fun j hj => by
    cases e : bothB a b (bk bs j) with
    | false => rfl
    | true =>
      obtain ⟨h1, h2⟩ := both_iff.1 e
      exact absurd (hU.uni j k (by omega) hk (by omega) a b h1 ha h2 hb) hab)
  rw [Nat.zero_add] at h
  refine ⟨?_, h.1⟩
  have hg := goodB_iff.1 (hU.good k hk)
  unfold third1
  rw [h.2]
  dsimp only [thirdOf]
  rw [has_iff] at ha hb ht
  rcases ha with rfl | rfl | rfl <;> rcases hb with rfl | rfl | rfl <;> first | exact absurd rfl hab | (rcases ht with rfl | rfl | rfl <;> first | exact absurd rfl hat | exact absurd rfl hbt | omega)
theorem third_ex {v : Int} {bs : List Blk} (hU : SysU v bs) {a b : Int} (hab : a ≠ b) (h : 0 ≤ third1 bs a b) :
    ∃ k, k < bs.length ∧ hasB (bk bs k) a = true ∧ hasB (bk bs k) b = true ∧ hasB (bk bs k) (third1 bs a b) = true ∧ third1 bs a b ≠ a ∧ third1 bs a b ≠ b ∧ numGo (bothB a b) bs 0 = k := by
  cases hf : bs.find? (bothB a b) with
  | none =>
    unfold third1 at h
    rw [hf] at h
    simp at h
  | some x =>
    have hx := List.mem_of_find?_eq_some hf
    have hp := List.find?_some hf
    obtain ⟨k, hk, hkx⟩ := List.mem_iff_getElem.1 hx
    have e : bk bs k = x := by rw [bk_get hk, hkx]
    obtain ⟨h1, h2⟩ := both_iff.1 hp
    rw [← e] at h1 h2
    obtain ⟨t, ht, hta, htb⟩ : ∃ t, hasB (bk bs k) t = true ∧ t ≠ a ∧ t ≠ b := by
      have hg := goodB_iff.1 (hU.good k hk)
      rw [has_iff] at h1 h2
      rcases h1 with rfl | rfl | rfl <;> rcases h2 with rfl | rfl | rfl <;> first | exact absurd rfl hab | exact ⟨(bk bs k).a, by simp [hasB], by omega, by omega⟩ | exact ⟨(bk bs k).b, by simp [hasB], by omega, by omega⟩ | exact ⟨(bk bs k).c, by simp [hasB], by omega, by omega⟩
    obtain ⟨e1, e2⟩ := third_is hU hk h1 h2 ht hab hta htb
    exact ⟨k, hk, h1, h2, by rw [e1]; exact ht, by rw [e1]; exact hta, by rw [e1]; exact htb, e2⟩
theorem others_is {v : Int} {x : Blk} (hg : goodB v x = true) {a : Int} (ha : hasB x a = true) :
    hasB x (othersP x a).1 = true ∧ hasB x (othersP x a).2 = true ∧ (othersP x a).1 ≠ a ∧ (othersP x a).2 ≠ a ∧ (othersP x a).1 ≠ (othersP x a).2 ∧ ∀ t, hasB x t = true → t = a ∨ t = (othersP x a).1 ∨ t = (othersP x a).2 := by
  rw [goodB_iff] at hg
  simp only [has_iff] at *
  unfold othersP
  rcases ha with rfl | rfl | rfl
  · rw [if_pos rfl]
    refine ⟨by simp, by simp, by dsimp only; omega, by dsimp only; omega, by dsimp only; omega, fun t h => ?_⟩
    dsimp only
    omega
  · rw [if_neg (by omega), if_pos rfl]
    refine ⟨by simp, by simp, by dsimp only; omega, by dsimp only; omega, by dsimp only; omega, fun t h => ?_⟩
    dsimp only
    omega
  · rw [if_neg (by omega), if_neg (by omega)]
    refine ⟨by simp, by simp, by dsimp only; omega, by dsimp only; omega, by dsimp only; omega, fun t h => ?_⟩
    dsimp only
    omega
theorem castL_asc {x y : List Nat} (hp : y.Perm x) (hs : x.Pairwise (· < ·)) : ascL (castL y) = castL x := by
  refine (ascL_of (hp.symm.map _) ?_).symm
  rw [List.pairwise_map]
  exact hs.imp fun h => by omega
theorem nat_sort (y : List Nat) (hn : y.Nodup) : ∃ x : List Nat, y.Perm x ∧ x.Pairwise (· < ·) := by
  refine ⟨y.mergeSort (fun a b => decide (a ≤ b)), (List.mergeSort_perm y _).symm, ?_⟩
  have h1 := List.pairwise_mergeSort (le := fun (x y : Nat) => decide (x ≤ y)) (fun a b c => by simp; omega) (fun a b => by simp; omega) y
  have h2 : (y.mergeSort (fun a b => decide (a ≤ b))).Nodup := (List.mergeSort_perm y _).nodup_iff.2 hn
  refine (h1.and h2).imp fun ⟨h, hne⟩ => ?_
  simp at h
  omega
section
variable {v : Int} {bs : List Blk}
theorem cand_PQ (hU : SysU v bs) {i j K L : Nat} (hi : i < bs.length) (hj : j < bs.length) (hK : K < bs.length) (hL : L < bs.length) (hij : i ≠ j) {a c e d f b : Int}
    (ia : hasB (bk bs i) a = true) (ic : hasB (bk bs i) c = true) (ie : hasB (bk bs i) e = true) (ica : c ≠ a) (iea : e ≠ a) (ice : c ≠ e)
    (ja : hasB (bk bs j) a = true) (jd : hasB (bk bs j) d = true) (jf : hasB (bk bs j) f = true) (jda : d ≠ a) (jfa : f ≠ a) (jdf : d ≠ f)
    (kc : hasB (bk bs K) c = true) (kf : hasB (bk bs K) f = true) (kb : hasB (bk bs K) b = true)
    (ld : hasB (bk bs L) d = true) (le : hasB (bk bs L) e = true) (lb : hasB (bk bs L) b = true) (bc : b ≠ c) (bf : b ≠ f) (bd : b ≠ d) (be : b ≠ e) : PQ bs [i, j, K, L] := by
  have cj : hasB (bk bs j) c = true → False := fun h => ica (hU.uni i j hi hj hij c a ic h ia ja)
  have ej : hasB (bk bs j) e = true → False := fun h => iea (hU.uni i j hi hj hij e a ie h ia ja)
  have di : hasB (bk bs i) d = true → False := fun h => jda (hU.uni i j hi hj hij d a h jd ia ja)
  have fi : hasB (bk bs i) f = true → False := fun h => jfa (hU.uni i j hi hj hij f a h jf ia ja)
  have nKi : K ≠ i := fun h => fi (h ▸ kf)
  have nKj : K ≠ j := fun h => cj (h ▸ kc)
  have nLi : L ≠ i := fun h => di (h ▸ ld)
  have nLj : L ≠ j := fun h => ej (h ▸ le)
  have nKL : K ≠ L := fun h => by
    subst h
    exact jdf (hU.uni K j hK hj nKj d f ld jd kf jf)
  have aK : hasB (bk bs K) a = true → False := fun h => ica (hU.uni i K hi hK (Ne.symm nKi) c a ic kc ia h)
  have aL : hasB (bk bs L) a = true → False := fun h => iea (hU.uni i L hi hL (Ne.symm nLi) e a ie le ia h)
  have cL : hasB (bk bs L) c = true → False := fun h => ice (hU.uni i L hi hL (Ne.symm nLi) c e ic h ie le)
  have fL : hasB (bk bs L) f = true → False := fun h => jdf (hU.uni j L hj hL (Ne.symm nLj) d f jd ld jf h)
  have t1 : ∀ t, hasB (bk bs i) t = true → hasB (bk bs j) t = true → hasB (bk bs K) t = true → False := fun t h1 h2 h3 => aK (hU.uni i j hi hj hij t a h1 h2 ia ja ▸ h3)
  have t2 : ∀ t, hasB (bk bs i) t = true → hasB (bk bs j) t = true → hasB (bk bs L) t = true → False := fun t h1 h2 h3 => aL (hU.uni i j hi hj hij t a h1 h2 ia ja ▸ h3)
  have t3 : ∀ t, hasB (bk bs i) t = true → hasB (bk bs K) t = true → hasB (bk bs L) t = true → False := fun t h1 h2 h3 => cL (hU.uni i K hi hK (Ne.symm nKi) t c h1 h2 ic kc ▸ h3)
  have t4 : ∀ t, hasB (bk bs j) t = true → hasB (bk bs K) t = true → hasB (bk bs L) t = true → False := fun t h1 h2 h3 => fL (hU.uni j K hj hK (Ne.symm nKj) t f h1 h2 jf kf ▸ h3)
  refine ⟨by simp; omega, by simp; omega, ?_, ?_⟩
  · intro p hp q hq hne
    simp only [List.mem_cons, List.not_mem_nil, or_false] at hp hq
    rcases hp with rfl | rfl | rfl | rfl <;> rcases hq with rfl | rfl | rfl | rfl <;> first | exact absurd rfl hne | exact ⟨_, ia, ja⟩ | exact ⟨_, ja, ia⟩ | exact ⟨_, ic, kc⟩ | exact ⟨_, kc, ic⟩ | exact ⟨_, ie, le⟩ | exact ⟨_, le, ie⟩ | exact ⟨_, jf, kf⟩ | exact ⟨_, kf, jf⟩ | exact ⟨_, jd, ld⟩ | exact ⟨_, ld, jd⟩ | exact ⟨_, kb, lb⟩ | exact ⟨_, lb, kb⟩
  · intro p hp q hq r hr n1 n2 n3 t q1 q2 q3
    simp only [List.mem_cons, List.not_mem_nil, or_false] at hp hq hr
    rcases hp with rfl | rfl | rfl | rfl <;> rcases hq with rfl | rfl | rfl | rfl <;> first | exact absurd rfl n1 | (rcases hr with rfl | rfl | rfl | rfl <;> first | exact absurd rfl n2 | exact absurd rfl n3 | (first | exact t1 t (by assumption) (by assumption) (by assumption) | exact t2 t (by assumption) (by assumption) (by assumption) | exact t3 t (by assumption) (by assumption) (by assumption) | exact t4 t (by assumption) (by assumption) (by assumption)))
/-- A list that tells a Pasch. -/
def PasR (bs : List Blk) (r : List Int) : Prop := ∃ x, r = castL x ∧ x.length = 4 ∧ x.Pairwise (· < ·) ∧ PQ bs x
theorem pasR_of {i j K L : Nat} (h : PQ bs [i, j, K, L]) : PasR bs (ascL [(i : Int), (j : Int), (K : Int), (L : Int)]) := by
  obtain ⟨x, hp, hs⟩ := nat_sort [i, j, K, L] h.1
  exact ⟨x, (castL_asc (y := [i, j, K, L]) hp hs), by have := hp.length_eq; simpa using this.symm, hs, h.perm hp.symm⟩
theorem comI_ok {i j : Nat} (h : ¬ comI (bk bs i) (bk bs j) < 0) : hasB (bk bs i) (comI (bk bs i) (bk bs j)) = true ∧ hasB (bk bs j) (comI (bk bs i) (bk bs j)) = true := by
  unfold comI at *
  cases e : comP (bk bs i) (bk bs j) with
  | none => rw [e] at h; simp at h
  | some a => exact comP_some e
theorem cand_sound (hU : SysU v bs) {i j t : Nat} (hi : i < bs.length) (hj : j < bs.length) (hij : i ≠ j) {r : List Int} (h : candP bs i j t = some r) : PasR bs r := by
  unfold candP at h
  dsimp only at h
  by_cases h0 : comI (bk bs i) (bk bs j) < 0
  · rw [if_pos h0] at h
    cases h
  · rw [if_neg h0] at h
    obtain ⟨ia, ja⟩ := comI_ok h0
    generalize comI (bk bs i) (bk bs j) = a at *
    obtain ⟨ic, ie, ica, iea, ice, _⟩ := others_is (hU.good i hi) ia
    obtain ⟨jd, jf, jda, jfa, jdf, _⟩ := others_is (hU.good j hj) ja
    generalize othersP (bk bs i) a = p at *
    generalize othersP (bk bs j) a = q at *
    obtain ⟨c, e⟩ := p
    obtain ⟨d0, f0⟩ := q
    dsimp only at *
    obtain ⟨d, f, hd, hf, jd', jf', jda', jfa', jdf'⟩ : ∃ d f, (if t = 0 then d0 else f0) = d ∧ (if t = 0 then f0 else d0) = f ∧ hasB (bk bs j) d = true ∧ hasB (bk bs j) f = true ∧ d ≠ a ∧ f ≠ a ∧ d ≠ f := by
      by_cases ht : t = 0
      · exact ⟨d0, f0, by simp [ht], by simp [ht], jd, jf, jda, jfa, jdf⟩
      · exact ⟨f0, d0, by simp [ht], by simp [ht], jf, jd, jfa, jda, Ne.symm jdf⟩
    rw [hd, hf] at h
    by_cases h1 : 0 ≤ third1 bs c f ∧ third1 bs d e = third1 bs c f
    · rw [if_pos h1] at h
      have h := (Option.some.inj h).symm
      subst h
      have cf : c ≠ f := fun h => ica (hU.uni i j hi hj hij c a ic (h ▸ jf') ia ja)
      have de : d ≠ e := fun h => jda' (hU.uni i j hi hj hij d a (h ▸ ie) jd' ia ja)
      obtain ⟨K, hK, kc, kf, kb, b1, b2, nK⟩ := third_ex hU cf h1.1
      obtain ⟨L, hL, ld, le, lb, b3, b4, nL⟩ := third_ex hU de (by rw [h1.2]; exact h1.1)
      rw [h1.2] at lb b3 b4
      rw [nK, nL]
      exact pasR_of (cand_PQ hU hi hj hK hL hij ia ic ie ica iea ice ja jd' jf' jda' jfa' jdf' kc kf kb ld le lb b1 b2 b3 b4)
    · rw [if_neg h1] at h
      cases h
theorem cand_some (hU : SysU v bs) {i j K L : Nat} (hK : K < bs.length) (hL : L < bs.length) {t : Nat} {a c e d f b : Int} (h0 : comI (bk bs i) (bk bs j) = a) (ha : ¬ a < 0)
    (hp : othersP (bk bs i) a = (c, e)) (hd : (if t = 0 then (othersP (bk bs j) a).1 else (othersP (bk bs j) a).2) = d) (hf : (if t = 0 then (othersP (bk bs j) a).2 else (othersP (bk bs j) a).1) = f)
    (kc : hasB (bk bs K) c = true) (kf : hasB (bk bs K) f = true) (kb : hasB (bk bs K) b = true) (ld : hasB (bk bs L) d = true) (le : hasB (bk bs L) e = true) (lb : hasB (bk bs L) b = true)
    (cf : c ≠ f) (de : d ≠ e) (bc : b ≠ c) (bf : b ≠ f) (bd : b ≠ d) (be : b ≠ e) : candP bs i j t = some (ascL [(i : Int), (j : Int), (K : Int), (L : Int)]) := by
  obtain ⟨e1, e2⟩ := third_is hU hK kc kf kb cf bc bf
  obtain ⟨e3, e4⟩ := third_is hU hL ld le lb de bd be
  unfold candP
  dsimp only
  rw [h0, if_neg ha, hp, hd, hf]
  dsimp only
  have hb0 : 0 ≤ b := by
    have hg := goodB_iff.1 (hU.good K hK)
    rw [has_iff] at kb
    omega
  rw [e1, e2, e3, e4, if_pos ⟨hb0, rfl⟩]
theorem cand_complete (hU : SysU v bs) {r : List Int} (h : PasR bs r) : ∃ i j t, j < i ∧ i < bs.length ∧ t < 2 ∧ candP bs i j t = some r := by
  obtain ⟨x, rfl, hl4, hs, hP⟩ := h
  obtain ⟨hnd, hlt, hm, h3⟩ := hP
  match x, hl4 with
  | [j, i, K, L], _ =>
    have hs2 := hs
    simp only [List.pairwise_cons, List.mem_cons, List.not_mem_nil, or_false, forall_eq_or_imp, forall_eq, List.Pairwise.nil, and_true, false_implies, implies_true] at hs2
    obtain ⟨⟨q1, q2, q3⟩, ⟨q4, q5⟩, q6⟩ := hs2
    have hj := hlt j (by simp)
    have hi := hlt i (by simp)
    have hK := hlt K (by simp)
    have hL := hlt L (by simp)
    obtain ⟨t0, m1, m2⟩ := hm i (by simp) j (by simp) (by omega)
    obtain ⟨a, ea⟩ := comP_of m1 m2
    obtain ⟨ia, ja⟩ := comP_some ea
    have h0 : comI (bk bs i) (bk bs j) = a := by unfold comI; rw [ea]; rfl
    have ha : ¬ a < 0 := by
      have hg := goodB_iff.1 (hU.good i hi)
      rw [has_iff] at ia
      omega
    obtain ⟨p, ip, kp⟩ := hm i (by simp) K (by simp) (by omega)
    obtain ⟨p', ip', lp'⟩ := hm i (by simp) L (by simp) (by omega)
    obtain ⟨q, jq, kq⟩ := hm j (by simp) K (by simp) (by omega)
    obtain ⟨q', jq', lq'⟩ := hm j (by simp) L (by simp) (by omega)
    obtain ⟨b, kb, lb⟩ := hm K (by simp) L (by simp) (by omega)
    have pa : p ≠ a := fun h => h3 i (by simp) j (by simp) K (by simp) (by omega) (by omega) (by omega) a ia ja (h ▸ kp)
    have pa' : p' ≠ a := fun h => h3 i (by simp) j (by simp) L (by simp) (by omega) (by omega) (by omega) a ia ja (h ▸ lp')
    have qa : q ≠ a := fun h => h3 i (by simp) j (by simp) K (by simp) (by omega) (by omega) (by omega) a ia ja (h ▸ kq)
    have qa' : q' ≠ a := fun h => h3 i (by simp) j (by simp) L (by simp) (by omega) (by omega) (by omega) a ia ja (h ▸ lq')
    have pp : p ≠ p' := fun h => h3 i (by simp) K (by simp) L (by simp) (by omega) (by omega) (by omega) p ip kp (h ▸ lp')
    have qq : q ≠ q' := fun h => h3 j (by simp) K (by simp) L (by simp) (by omega) (by omega) (by omega) q jq kq (h ▸ lq')
    have bp : b ≠ p := fun h => h3 i (by simp) K (by simp) L (by simp) (by omega) (by omega) (by omega) p ip kp (h ▸ lb)
    have bp' : b ≠ p' := fun h => h3 i (by simp) K (by simp) L (by simp) (by omega) (by omega) (by omega) p' ip' (h ▸ kb) lp'
    have bq : b ≠ q := fun h => h3 j (by simp) K (by simp) L (by simp) (by omega) (by omega) (by omega) q jq kq (h ▸ lb)
    have bq' : b ≠ q' := fun h => h3 j (by simp) K (by simp) L (by simp) (by omega) (by omega) (by omega) q' jq' (h ▸ kb) lq'
    have x1 : p ≠ q := fun h => pa (hU.uni i j hi hj (by omega) p a ip (h ▸ jq) ia ja)
    have x2 : p' ≠ q' := fun h => pa' (hU.uni i j hi hj (by omega) p' a ip' (h ▸ jq') ia ja)
    obtain ⟨ic, ie, ica, iea, ice, iall⟩ := others_is (hU.good i hi) ia
    obtain ⟨jd, jf, jda, jfa, jdf, jall⟩ := others_is (hU.good j hj) ja
    have hp1 := iall p ip
    have hp2 := iall p' ip'
    have hq1 := jall q jq
    have hq2 := jall q' jq'
    have perm1 : [i, j, K, L].Perm [j, i, K, L] := List.Perm.swap _ _ _
    have perm2 : [i, j, L, K].Perm [j, i, K, L] := (List.Perm.swap _ _ _).trans (((List.Perm.swap _ _ _).cons _).cons _)
    rcases hp1 with e | e | e
    · exact absurd e pa
    · have e' : p' = (othersP (bk bs i) a).2 := by
        rcases hp2 with h | h | h
        · exact absurd h pa'
        · exact absurd (e.trans h.symm) pp
        · exact h
      have hpe : othersP (bk bs i) a = (p, p') := by rw [e, e']
      rcases hq1 with k | k | k
      · exact absurd k qa
      · have k' : q' = (othersP (bk bs j) a).2 := by
          rcases hq2 with h | h | h
          · exact absurd h qa'
          · exact absurd (k.trans h.symm) qq
          · exact h
        refine ⟨i, j, 1, q1, hi, by omega, ?_⟩
        rw [cand_some hU hK hL (t := 1) h0 ha hpe (d := q') (f := q) (b := b) (by simp [k']) (by simp [k]) kp kq kb lq' lp' lb x1 (Ne.symm x2) bp bq bq' bp']
        exact congrArg some (castL_asc perm1 hs)
      · have k' : q' = (othersP (bk bs j) a).1 := by
          rcases hq2 with h | h | h
          · exact absurd h qa'
          · exact h
          · exact absurd (k.trans h.symm) qq
        refine ⟨i, j, 0, q1, hi, by omega, ?_⟩
        rw [cand_some hU hK hL (t := 0) h0 ha hpe (d := q') (f := q) (b := b) (by simp [k']) (by simp [k]) kp kq kb lq' lp' lb x1 (Ne.symm x2) bp bq bq' bp']
        exact congrArg some (castL_asc perm1 hs)
    · have e' : p' = (othersP (bk bs i) a).1 := by
        rcases hp2 with h | h | h
        · exact absurd h pa'
        · exact h
        · exact absurd (e.trans h.symm) pp
      have hpe : othersP (bk bs i) a = (p', p) := by rw [e, e']
      rcases hq1 with k | k | k
      · exact absurd k qa
      · have k' : q' = (othersP (bk bs j) a).2 := by
          rcases hq2 with h | h | h
          · exact absurd h qa'
          · exact absurd (k.trans h.symm) qq
          · exact h
        refine ⟨i, j, 0, q1, hi, by omega, ?_⟩
        rw [cand_some hU hL hK (t := 0) h0 ha hpe (d := q) (f := q') (b := b) (by simp [k]) (by simp [k']) lp' lq' lb kq kp kb x2 (Ne.symm x1) bp' bq' bq bp]
        exact congrArg some (castL_asc perm2 hs)
      · have k' : q' = (othersP (bk bs j) a).1 := by
          rcases hq2 with h | h | h
          · exact absurd h qa'
          · exact h
          · exact absurd (k.trans h.symm) qq
        refine ⟨i, j, 1, q1, hi, by omega, ?_⟩
        rw [cand_some hU hL hK (t := 1) h0 ha hpe (d := q) (f := q') (b := b) (by simp [k]) (by simp [k']) lp' lq' lb kq kp kb x2 (Ne.symm x1) bp' bq' bq bp]
        exact congrArg some (castL_asc perm2 hs)
/-- The model's candidates in their order: of the pair i, j, then of the j before, then of the i before. -/
def candJ (bs : List Blk) (i j : Nat) : List (List Int) := (candP bs i j 0).toList ++ (candP bs i j 1).toList
def candI (bs : List Blk) (i : Nat) (k : Nat) : List (List Int) := (List.range k).flatMap (candJ bs i)
def candA (bs : List Blk) (k : Nat) : List (List Int) := (List.range k).flatMap fun i => candI bs i i
theorem candJ_len (bs : List Blk) (i j : Nat) : (candJ bs i j).length ≤ 2 := by
  unfold candJ
  cases candP bs i j 0 <;> cases candP bs i j 1 <;> simp
theorem candI_succ (bs : List Blk) (i k : Nat) : candI bs i (k + 1) = candI bs i k ++ candJ bs i k := by simp [candI, List.range_succ]
theorem candA_succ (bs : List Blk) (k : Nat) : candA bs (k + 1) = candA bs k ++ candI bs k k := by simp [candA, List.range_succ]
theorem candA_mem (hU : SysU v bs) (r : List Int) : r ∈ candA bs bs.length ↔ PasR bs r := by
  constructor
  · intro h
    obtain ⟨i, hi, h⟩ := List.mem_flatMap.1 h
    obtain ⟨j, hj, h⟩ := List.mem_flatMap.1 h
    rw [List.mem_range] at hi hj
    rcases List.mem_append.1 h with h | h
    · exact cand_sound hU hi (by omega) (by omega) (Option.mem_toList.1 h)
    · exact cand_sound hU hi (by omega) (by omega) (Option.mem_toList.1 h)
  · intro h
    obtain ⟨i, j, t, hji, hi, ht, hc⟩ := cand_complete hU h
    refine List.mem_flatMap.2 ⟨i, List.mem_range.2 hi, List.mem_flatMap.2 ⟨j, List.mem_range.2 hji, ?_⟩⟩
    have : t = 0 ∨ t = 1 := by omega
    rcases this with rfl | rfl
    · exact List.mem_append.2 (.inl (Option.mem_toList.2 hc))
    · exact List.mem_append.2 (.inr (Option.mem_toList.2 hc))
/-- All Pasch. -/
def pasL (bs : List Blk) : List (List Int) := (pfrom bs 4 []).map castL
theorem pas_same (hU : SysU v bs) : setR (candA bs bs.length) = pasL bs := by
  refine setR_of (pfrom_asc bs 4 []) fun r => ?_
  rw [candA_mem hU]
  unfold pasL
  rw [List.mem_map]
  constructor
  · rintro ⟨x, hx, rfl⟩
    exact ⟨x, rfl, (pfrom_iff hU x).1 hx⟩
  · rintro ⟨x, rfl, hx⟩
    exact ⟨x, (pfrom_iff hU x).2 hx, rfl⟩
end
end Go.Proofs.Ytiomdfhhejdoiaa

namespace Go.Proofs.Ytiomdfhhejdoiaa
open Go.RowKit Go.Maps Go.Shelf
theorem paschFrom_any (v : Int) (s : Value) (bs : List Blk) (hb35 : bs.length ≤ 35) : ∀ (d : Nat), d ≤ 4 → ∀ (beg : List Nat) (sb : Value) (lo : Nat) (w : World), beg.length + d = 4 → (∀ k ∈ beg, k < bs.length) → SB w s bs → BegI w lo sb beg d → lo ≤ w.heap.size →
    Calls Try.prog 73 #[.agg #[.int .i64 v, s], sb] w (PFQ bs d beg lo w)
  | 0, _, beg, sb, lo, w, hl, _, hS, hB, hlo => paschFrom_zero v s bs beg sb lo w (by obtain ⟨a, c, h⟩ := hS.slice; exact ⟨a, _, c, h⟩) hl hB hlo
  | d + 1, hd, beg, sb, lo, w, hl, hk, hS, hB, hlo => paschFrom_step v s bs hb35 d (by omega) (paschFrom_any v s bs hb35 d (by omega)) beg sb lo w hl hk hS hB hlo
def pasF (v : Int) (bs : List Blk) : List (List Int) × Int := if isSysImpl v bs then (pasL bs, 0) else ([], 1)
theorem pasL_len {v : Int} {bs : List Blk} (h : isSysImpl v bs = true) : (pasL bs).length ≤ 2450 := by
  rw [← pas_same (sysU h)]
  refine Nat.le_trans (setR_len _) ?_
  have hb := (sys_size h).2.2
  unfold candA
  refine Nat.le_trans (flatm_le _ 70 _ fun i hi => ?_) ?_
  · unfold candI
    refine Nat.le_trans (flatm_le _ 2 _ fun j _ => candJ_len bs i j) ?_
    rw [List.length_range]
    have := List.mem_range.1 hi
    omega
  · rw [List.length_range]
    omega
theorem pas_row {v : Int} {bs : List Blk} (h : isSysImpl v bs = true) : ∀ r ∈ pasL bs, r.length = 4 := fun r hr => by
  obtain ⟨x, hx, rfl⟩ := List.mem_map.1 hr
  rw [castL_len]
  exact ((pfrom_iff (sysU h) x).1 hx).1
theorem pasF_len (v : Int) (bs : List Blk) : (pasF v bs).1.length ≤ 2450 := by
  unfold pasF
  split
  · rename_i h; exact pasL_len h
  · simp
theorem pasF_tot (v : Int) (bs : List Blk) : tot (rowsF (pasF v bs).1) (pasF v bs).1.length ≤ 1100000 := by
  have hl := pasF_len v bs
  have h1 : ∀ k, (rowsF (pasF v bs).1 k).length ≤ 4 := by
    intro k
    unfold rowsF pasF
    split
    · rename_i h
      cases hq : (pasL bs)[k]? with
      | none => simp [hq]
      | some r => simp only [hq, Option.getD_some]; exact Nat.le_of_eq (pas_row h r (List.mem_of_getElem? hq))
    · simp
  have h2 : ∀ n, tot (rowsF (pasF v bs).1) n ≤ n * 4 := by
    intro n
    induction n with
    | zero => simp [tot]
    | succ n ih =>
      have := h1 n
      simp only [tot]
      omega
  have := h2 (pasF v bs).1.length
  omega
set_option maxRecDepth 100000 in
theorem PaschList_any (v : Int) (s : Value) (bs : List Blk) (w : World) (h : SB w s bs) :
    Calls Try.prog 34 #[.agg #[.int .i64 v, s]] w (RRows (pasF v bs) w) := by
  have hs := h.slice
  have HI := Lib.hid fun W (hb : Below w.heap.size w W) => IsSystem_any v s bs W (h.below hb (Nat.le_refl _))
  have hb0 : Below w.heap.size w (w.alloc (.cells #[.int .i64 v, s] 31)) := (Below.refl _ _).alloc (Nat.le_refl _) _
  cases hi : isSysImpl v bs with
  | false =>
    have HV := Lib.hid (show pasF v bs = ([], 1) by simp [pasF, hi])
    rw [hi] at HI
    rw [HV.out]
    clear hi h
    obtain ⟨a0, c0, rfl⟩ := hs
    go_enter Try.func34, Try.ntmps34
    go_wp2_with fail
    refine (HI.out _ hb0).mono ?_
    rintro e w1 ⟨rfl, hb1⟩
    have hbw := below_new hb1
    clear hb1
    go_wp2
    go_ret2
    exact ⟨_, rfl, .inl ⟨rfl, _, _, rfl⟩, hbw⟩
  | true =>
    have HV := Lib.hid (show pasF v bs = (pasL bs, 0) by simp [pasF, hi])
    have hb35 := (sys_size hi).2.2
    have HP := Lib.hid fun W (hb : Below w.heap.size w W) => paschFrom_any v s bs hb35 4 (Nat.le_refl _) [] (.slice none 0 0) W.heap.size W (by simp) (by simp) (h.below hb (Nat.le_refl _)) ⟨⟨by simp [castL], .inl ⟨_, _, rfl, rfl⟩⟩, fun h => by omega⟩ (Nat.le_refl _)
    rw [hi] at HI
    rw [HV.out]
    clear hi h hb35
    obtain ⟨a0, c0, rfl⟩ := hs
    go_enter Try.func34, Try.ntmps34
    go_wp2_with fail
    refine (HI.out _ hb0).mono ?_
    rintro e w1 ⟨rfl, hb1⟩
    have q0 := cell_new hb1 0 rfl
    have q1 := cell_new hb1 1 rfl
    have hbw := below_new hb1
    clear hb1
    go_wp2_with fail
    refine (HP.out _ hbw).mono ?_
    rintro e w2 ⟨u, Rs, rfl, hM, hR, hb2⟩
    have hres := (hM.base hbw.size).res
    rw [hR] at hres
    have HRES := Lib.hid hres
    obtain ⟨a1, c1, rfl⟩ := hM.form
    have hz := hbw.size
    clear hM hR hres
    go_wp2
    go_ret2
    exact ⟨_, rfl, HRES.out, hbw.trans (hb2.mono hz)⟩
def cpV (v : Int) (bs : List Blk) : Value := .tuple #[.int .i64 ((pasF v bs).1.length : Int), .int .i64 (pasF v bs).2]
set_option maxRecDepth 100000 in
theorem CountPasch_any (v : Int) (s : Value) (bs : List Blk) (w : World) (h : SB w s bs) :
    Calls Try.prog 36 #[.agg #[.int .i64 v, s]] w (RV (cpV v bs) w) := by
  have hs := h.slice
  have HP := Lib.hid fun W (hb : Below w.heap.size w W) => PaschList_any v s bs W (h.below hb (Nat.le_refl _))
  have hb0 : Below w.heap.size w (w.alloc (.cells #[.int .i64 v, s] 31)) := (Below.refl _ _).alloc (Nat.le_refl _) _
  clear h
  obtain ⟨a0, c0, rfl⟩ := hs
  unfold cpV
  generalize pasF v bs = r at HP ⊢
  obtain ⟨L, κ⟩ := r
  dsimp only
  obtain ⟨m, hm⟩ : ∃ m, m = L.length := ⟨_, rfl⟩
  rw [← hm]
  have HM := Lib.hid hm
  clear hm
  go_enter Try.func36, Try.ntmps36
  go_wp2_with fail
  refine (HP.out _ hb0).mono ?_
  rintro e w1 ⟨u, rfl, hr, hb1⟩
  obtain ⟨a1, c1, hu⟩ : ∃ a c, u = .slice a L.length c := by
    rcases hr with ⟨h0, a, c, rfl⟩ | ⟨G, cap, gs, caps, rfl, _⟩
    · exact ⟨a, c, by dsimp only at h0; rw [h0]⟩
    · exact ⟨_, _, rfl⟩
  rw [← HM.out] at hu
  subst hu
  have hbw := below_new hb1
  clear hb1 hr
  go_wp2
  go_ret2
  exact RV_of rfl hbw
end Go.Proofs.Ytiomdfhhejdoiaa

namespace Go.Proofs.Ytiomdfhhejdoiaa
open Go.RowKit Go.Maps Go.Shelf
/-- The candidates of the first turns. -/
def partJ (bs : List Blk) (i j t : Nat) : List (List Int) := (List.range t).flatMap fun t => (candP bs i j t).toList
theorem partJ_succ (bs : List Blk) (i j t : Nat) : partJ bs i j (t + 1) = partJ bs i j t ++ (candP bs i j t).toList := by simp [partJ, List.range_succ]
theorem partJ_two (bs : List Blk) (i j : Nat) : partJ bs i j 2 = candJ bs i j := by simp [partJ, candJ, List.range_succ]
theorem partJ_neg {bs : List Blk} {i j : Nat} (h : comI (bk bs i) (bk bs j) < 0) (t : Nat) : candP bs i j t = none := by
  unfold candP
  dsimp only
  rw [if_pos h]
/-- d and f at a turn. -/
def dT (q : Int × Int) (t : Nat) : Int := if t % 2 = 0 then q.1 else q.2
def fT (q : Int × Int) (t : Nat) : Int := if t % 2 = 0 then q.2 else q.1
theorem dT_succ (q : Int × Int) (t : Nat) : dT q (t + 1) = fT q t ∧ fT q (t + 1) = dT q t := by
  unfold dT fT
  have : t % 2 = 0 ∨ t % 2 = 1 := by omega
  rcases this with h | h
  · have : (t + 1) % 2 = 1 := by omega
    simp [h, this]
  · have : (t + 1) % 2 = 0 := by omega
    simp [h, this]
theorem candP_at {bs : List Blk} {i j t : Nat} (ht : t < 2) {a : Int} (ha : comI (bk bs i) (bk bs j) = a) (h0 : ¬ a < 0) :
    candP bs i j t = if 0 ≤ third1 bs (othersP (bk bs i) a).1 (fT (othersP (bk bs j) a) t) ∧ third1 bs (dT (othersP (bk bs j) a) t) (othersP (bk bs i) a).2 = third1 bs (othersP (bk bs i) a).1 (fT (othersP (bk bs j) a) t) then some (ascL [(i : Int), (j : Int), numGo (bothB (othersP (bk bs i) a).1 (fT (othersP (bk bs j) a) t)) bs 0, numGo (bothB (dT (othersP (bk bs j) a) t) (othersP (bk bs i) a).2) bs 0]) else none := by
  have : t = 0 ∨ t = 1 := by omega
  unfold candP
  dsimp only
  rw [ha, if_neg h0]
  rcases this with rfl | rfl <;> rfl
theorem bk_bounds {v : Int} {bs : List Blk} (hU : SysU v bs) (hv : v ≤ 15) {i : Nat} (hi : i < bs.length) (a : Int) :
    (0 ≤ (othersP (bk bs i) a).1 ∧ (othersP (bk bs i) a).1 ≤ 15) ∧ (0 ≤ (othersP (bk bs i) a).2 ∧ (othersP (bk bs i) a).2 ≤ 15) := by
  have hg := goodB_iff.1 (hU.good i hi)
  unfold othersP
  split
  · exact ⟨⟨by omega, by omega⟩, by omega, by omega⟩
  · split
    · exact ⟨⟨by omega, by omega⟩, by omega, by omega⟩
    · exact ⟨⟨by omega, by omega⟩, by omega, by omega⟩
theorem dfT_bounds {q : Int × Int} (h : (0 ≤ q.1 ∧ q.1 ≤ 15) ∧ (0 ≤ q.2 ∧ q.2 ≤ 15)) (t : Nat) : (0 ≤ dT q t ∧ dT q t ≤ 15) ∧ (0 ≤ fT q t ∧ fT q t ≤ 15) := by
  unfold dT fT
  split
  · exact h
  · exact ⟨h.2, h.1⟩
theorem comI_bounds {v : Int} {bs : List Blk} (hU : SysU v bs) (hv : v ≤ 15) {i j : Nat} (hi : i < bs.length) : -1 ≤ comI (bk bs i) (bk bs j) ∧ comI (bk bs i) (bk bs j) ≤ 15 := by
  have hg := goodB_iff.1 (hU.good i hi)
  by_cases h : comI (bk bs i) (bk bs j) < 0
  · unfold comI at h ⊢
    cases e : comP (bk bs i) (bk bs j) with
    | none => simp
    | some a =>
      rw [e] at h
      have := (comP_some e).1
      rw [has_iff] at this
      simp at h
      omega
  · have := (comI_ok h).1
    rw [has_iff] at this
    omega
theorem lit4 (W : World) (a b c d : Int) : Ints (W.alloc (.cells #[.int .i64 a, .int .i64 b, .int .i64 c, .int .i64 d] 2)) W.heap.size 0 [a, b, c, d] := fun k hk => by
  match k, hk with
  | 0, _ => simp [go_sem]
  | 1, _ => simp [go_sem]
  | 2, _ => simp [go_sem]
  | 3, _ => simp [go_sem]
theorem cand_le (bs : List Blk) {i j t : Nat} (hb : bs.length ≤ 35) (hi : i ≤ bs.length) (hj : j ≤ i) (ht : t ≤ 2) : (candA bs i ++ candI bs i j ++ partJ bs i j t).length ≤ 5000 := by
  have h1 : (candA bs i).length ≤ 35 * 70 := by
    refine Nat.le_trans (flatm_le _ 70 _ fun i' hi' => ?_) ?_
    · refine Nat.le_trans (flatm_le _ 2 _ fun j' _ => candJ_len bs i' j') ?_
      rw [List.length_range]
      have := List.mem_range.1 hi'
      omega
    · rw [List.length_range]
      omega
  have h2 : (candI bs i j).length ≤ 70 := by
    refine Nat.le_trans (flatm_le _ 2 _ fun j' _ => candJ_len bs i j') ?_
    rw [List.length_range]
    omega
  have h3 : (partJ bs i j t).length ≤ 2 := by
    refine Nat.le_trans (flatm_le _ 1 _ fun t' _ => ?_) ?_
    · cases candP bs i j t' <;> simp
    · rw [List.length_range]
      omega
  simp only [List.length_append]
  omega
theorem cand_four {bs : List Blk} {i j t : Nat} {r : List Int} (hr : candP bs i j t = some r) : r.length = 4 := by
  unfold candP at hr
  dsimp only at hr
  by_cases h0 : comI (bk bs i) (bk bs j) < 0
  · rw [if_pos h0] at hr
    cases hr
  · rw [if_neg h0] at hr
    generalize (if t = 0 then (othersP (bk bs j) (comI (bk bs i) (bk bs j))).1 else (othersP (bk bs j) (comI (bk bs i) (bk bs j))).2) = d at hr
    generalize (if t = 0 then (othersP (bk bs j) (comI (bk bs i) (bk bs j))).2 else (othersP (bk bs j) (comI (bk bs i) (bk bs j))).1) = f at hr
    generalize othersP (bk bs i) (comI (bk bs i) (bk bs j)) = p at hr
    by_cases h1 : 0 ≤ third1 bs p.1 f ∧ third1 bs d p.2 = third1 bs p.1 f
    · rw [if_pos h1] at hr
      have := (Option.some.inj hr).symm
      rw [this, ascL_len]
      rfl
    · rw [if_neg h1] at hr
      cases hr
theorem all_four {bs : List Blk} {i j t : Nat} : ∀ r ∈ candA bs i ++ candI bs i j ++ partJ bs i j t, r.length = 4 := fun r hr => by
  have hJ : ∀ i j r, r ∈ candJ bs i j → r.length = 4 := fun i j r h => by
    rcases List.mem_append.1 h with h | h
    · exact cand_four (Option.mem_toList.1 h)
    · exact cand_four (Option.mem_toList.1 h)
  rcases List.mem_append.1 hr with hr | hr
  · rcases List.mem_append.1 hr with hr | hr
    · obtain ⟨i', _, h⟩ := List.mem_flatMap.1 hr
      obtain ⟨j', _, h⟩ := List.mem_flatMap.1 h
      exact hJ i' j' r h
    · obtain ⟨j', _, h⟩ := List.mem_flatMap.1 hr
      exact hJ i j' r h
  · obtain ⟨t', _, h⟩ := List.mem_flatMap.1 hr
    exact cand_four (Option.mem_toList.1 h)
/-- The rows so far. -/
def PasI (bs : List Blk) (w1 W : World) (u : Value) (i j t : Nat) : Prop := Below w1.heap.size w1 W ∧ ∃ Rs, RowsM W w1.heap.size u Rs ∧ rowsP Rs = setR (candA bs i ++ candI bs i j ++ partJ bs i j t)
theorem PasI.form {bs : List Blk} {w1 W : World} {u : Value} {i j t : Nat} (h : PasI bs w1 W u i j t) : ∃ a n c, u = .slice a n c := by
  obtain ⟨_, Rs, hM, _⟩ := h
  obtain ⟨a, c, h⟩ := hM.form
  exact ⟨a, _, c, h⟩
theorem PasI.step {bs : List Blk} {w1 W W' : World} {u : Value} {i j t : Nat} (h : PasI bs w1 W u i j t) (hb : Below W.heap.size W W') : PasI bs w1 W' u i j t := by
  obtain ⟨h1, Rs, hM, hR⟩ := h
  exact ⟨h1.trans (hb.mono h1.size), Rs, hM.below hb, hR⟩
theorem PasI.turn0 {bs : List Blk} {w1 W : World} {u : Value} {i j : Nat} (h : PasI bs w1 W u i j 0) (hn : comI (bk bs i) (bk bs j) < 0) : PasI bs w1 W u i (j + 1) 0 := by
  obtain ⟨h1, Rs, hM, hR⟩ := h
  refine ⟨h1, Rs, hM, ?_⟩
  rw [hR, candI_succ]
  simp [candJ, partJ_neg hn, partJ]
theorem PasI.next {bs : List Blk} {w1 W : World} {u : Value} {i j : Nat} (h : PasI bs w1 W u i j 2) : PasI bs w1 W u i (j + 1) 0 := by
  obtain ⟨h1, Rs, hM, hR⟩ := h
  refine ⟨h1, Rs, hM, ?_⟩
  rw [hR, candI_succ, partJ_two]
  simp [partJ]
theorem PasI.row {bs : List Blk} {w1 W : World} {u : Value} {i : Nat} (h : PasI bs w1 W u i i 0) : PasI bs w1 W u (i + 1) 0 0 := by
  obtain ⟨h1, Rs, hM, hR⟩ := h
  refine ⟨h1, Rs, hM, ?_⟩
  rw [hR, candA_succ]
  simp [partJ, candI]
theorem PasI.no {bs : List Blk} {w1 W : World} {u : Value} {i j t : Nat} (h : PasI bs w1 W u i j t) (hn : candP bs i j t = none) : PasI bs w1 W u i j (t + 1) := by
  obtain ⟨h1, Rs, hM, hR⟩ := h
  refine ⟨h1, Rs, hM, ?_⟩
  rw [hR, partJ_succ, hn]
  simp
/-- One row put in. -/
theorem PasI.yes {bs : List Blk} {w1 W W3 : World} {u : Value} {i j t : Nat} (hb35 : bs.length ≤ 35) (hi : i ≤ bs.length) (hj : j ≤ i) (ht : t ≤ 2) (h : PasI bs w1 W u i j t) (hb : Below W.heap.size W W3) {r : List Int} (hr : candP bs i j t = some r) {g c : Nat} (hg : W.heap.size ≤ g) (ho : OwnAtI W3 g r) :
    Calls Try.prog 94 #[u, .slice (some ⟨g, 0, none⟩) 4 c] W3 fun e w' => ∃ u', e = .returned u' ∧ PasI bs w1 w' u' i j (t + 1) := by
  obtain ⟨h1, Rs, hM, hR⟩ := h
  have hz := h1.size
  have hz3 := hb.size
  have hl4 : r.length = 4 := cand_four hr
  have hM3 := hM.below hb
  have hlen : Rs.length ≤ 5000 := by
    have e1 : Rs.length = (rowsP Rs).length := by simp [rowsP]
    rw [e1, hR]
    exact Nat.le_trans (setR_len _) (cand_le bs hb35 hi hj ht)
  have hrl : ∀ y ∈ Rs, y.r.length ≤ 1100000 := fun y hy => by
    have hm : y.r ∈ rowsP Rs := List.mem_map.2 ⟨y, hy, rfl⟩
    rw [hR, setR_mem] at hm
    rw [all_four y.r hm]
    omega
  have hx : (RowP.mk g c r).hdr = .slice (some ⟨g, 0, none⟩) 4 c := by unfold RowP.hdr; rw [hl4]
  have hput := l03Put_any w1.heap.size u Rs (RowP.mk g c r) W3 hM3 (by omega) (by omega) hrl (by rw [hl4]; omega) ho (fun e => by have := (hM.blk g e).2; omega) (fun hm => by
    obtain ⟨y, hy, e⟩ := List.mem_map.1 hm
    have := hM.lt y hy
    dsimp only at e
    omega) (by dsimp only; omega)
  rw [hx] at hput
  refine hput.mono ?_
  intro e w' hq
  obtain ⟨u', Rs', rfl, hM', hR', hg', _, _⟩ := hq.one hM3
  refine ⟨u', rfl, (h1.trans (hb.mono hz)).grown hg' (by omega) (fun r e => (hM.blk r e).1), Rs', hM', ?_⟩
  rw [hR', hR, partJ_succ, hr, Option.toList_some, ← List.append_assoc, setR_snoc]
end Go.Proofs.Ytiomdfhhejdoiaa

namespace Go.Proofs.Ytiomdfhhejdoiaa
theorem three_points {x : Blk} {s1 s2 s3 t : Int} (h1 : hasB x s1 = true) (h2 : hasB x s2 = true) (h3 : hasB x s3 = true) (ht : hasB x t = true) (n12 : s1 ≠ s2) (n13 : s1 ≠ s3) (n23 : s2 ≠ s3) : t = s1 ∨ t = s2 ∨ t = s3 := by
  rw [has_iff] at h1 h2 h3 ht
  rcases h1 with rfl | rfl | rfl <;> rcases h2 with rfl | rfl | rfl <;> first | exact absurd rfl n12 | (rcases h3 with rfl | rfl | rfl <;> first | exact absurd rfl n13 | exact absurd rfl n23 | (rcases ht with rfl | rfl | rfl <;> simp))
theorem has_other {bs : List Blk} {x : List Nat} (hP : PQ bs x) {p q1 q2 q3 : Nat} (h : p ∈ x) (h1 : q1 ∈ x) (h2 : q2 ∈ x) (h3 : q3 ∈ x) (n1 : p ≠ q1) (n2 : p ≠ q2) (n3 : p ≠ q3) (m12 : q1 ≠ q2) (m13 : q1 ≠ q3) (m23 : q2 ≠ q3) {t : Int} (ht : hasB (bk bs p) t = true) :
    hasB (bk bs q1) t = true ∨ hasB (bk bs q2) t = true ∨ hasB (bk bs q3) t = true := by
  obtain ⟨_, _, hm, h3t⟩ := hP
  obtain ⟨s1, a1, b1⟩ := hm p h q1 h1 n1
  obtain ⟨s2, a2, b2⟩ := hm p h q2 h2 n2
  obtain ⟨s3, a3, b3⟩ := hm p h q3 h3 n3
  have k12 : s1 ≠ s2 := fun e => h3t p h q1 h1 q2 h2 n1 m12 n2 s1 a1 b1 (e ▸ b2)
  have k13 : s1 ≠ s3 := fun e => h3t p h q1 h1 q3 h3 n1 m13 n3 s1 a1 b1 (e ▸ b3)
  have k23 : s2 ≠ s3 := fun e => h3t p h q2 h2 q3 h3 n2 m23 n3 s2 a2 b2 (e ▸ b3)
  rcases three_points a1 a2 a3 ht k12 k13 k23 with e | e | e
  · exact .inl (e ▸ b1)
  · exact .inr (.inl (e ▸ b2))
  · exact .inr (.inr (e ▸ b3))
theorem four_bool : ∀ b1 b2 b3 b4 : Bool, (b1 = true → b2 = true ∨ b3 = true ∨ b4 = true) → (b2 = true → b1 = true ∨ b3 = true ∨ b4 = true) → (b3 = true → b1 = true ∨ b2 = true ∨ b4 = true) → (b4 = true → b1 = true ∨ b2 = true ∨ b3 = true) →
    (b1 = true → b2 = true → b3 = true → False) → (b1 = true → b2 = true → b4 = true → False) → (b1 = true → b3 = true → b4 = true → False) → (b2 = true → b3 = true → b4 = true → False) → [b1, b2, b3, b4].countP id = if [b1, b2, b3, b4].any id then 2 else 0 := by
  intro b1 b2 b3 b4
  cases b1 <;> cases b2 <;> cases b3 <;> cases b4 <;> simp
/-- A point of a Pasch is in just two of its blocks. -/
theorem two_of {bs : List Blk} {x : List Nat} (hP : PQ bs x) (h4 : x.length = 4) (t : Int) : x.countP (fun i => hasB (bk bs i) t) = if x.any (fun i => hasB (bk bs i) t) then 2 else 0 := by
  match x, h4 with
  | [i, j, k, l], _ =>
    have hnd := hP.1
    simp only [List.nodup_cons, List.mem_cons, List.not_mem_nil, or_false, not_or] at hnd
    obtain ⟨⟨n1, n2, n3⟩, ⟨n4, n5⟩, n6, _⟩ := hnd
    have o1 := fun h => has_other hP (p := i) (q1 := j) (q2 := k) (q3 := l) (by simp) (by simp) (by simp) (by simp) n1 n2 n3 n4 n5 n6 (t := t) h
    have o2 := fun h => has_other hP (p := j) (q1 := i) (q2 := k) (q3 := l) (by simp) (by simp) (by simp) (by simp) (Ne.symm n1) n4 n5 n2 n3 n6 (t := t) h
    have o3 := fun h => has_other hP (p := k) (q1 := i) (q2 := j) (q3 := l) (by simp) (by simp) (by simp) (by simp) (Ne.symm n2) (Ne.symm n4) n6 n1 n3 n5 (t := t) h
    have o4 := fun h => has_other hP (p := l) (q1 := i) (q2 := j) (q3 := k) (by simp) (by simp) (by simp) (by simp) (Ne.symm n3) (Ne.symm n5) (Ne.symm n6) n1 n2 n4 (t := t) h
    have t1 := hP.2.2.2 i (by simp) j (by simp) k (by simp) n1 n4 n2 t
    have t2 := hP.2.2.2 i (by simp) j (by simp) l (by simp) n1 n5 n3 t
    have t3 := hP.2.2.2 i (by simp) k (by simp) l (by simp) n2 n6 n3 t
    have t4 := hP.2.2.2 j (by simp) k (by simp) l (by simp) n4 n6 n5 t
    have h := four_bool _ _ _ _ o1 o2 o3 o4 t1 t2 t3 t4
    have e1 : [i, j, k, l].countP (fun i => hasB (bk bs i) t) = [hasB (bk bs i) t, hasB (bk bs j) t, hasB (bk bs k) t, hasB (bk bs l) t].countP id := by
      rw [show [hasB (bk bs i) t, hasB (bk bs j) t, hasB (bk bs k) t, hasB (bk bs l) t] = [i, j, k, l].map (fun i => hasB (bk bs i) t) from rfl, List.countP_map]
      rfl
    rw [e1, h]
    rfl
/-- The points of a block. -/
def ptsB (x : Blk) : List Int := [x.a, x.b, x.c]
def ptsR (bs : List Blk) (r : List Int) : List Int := r.flatMap fun i => ptsB (bk bs i.toNat)
def ptsL (bs : List Blk) (L : List (List Int)) : List Int := L.flatMap (ptsR bs)
/-- How often each point is in the list. -/
def ctV (v : Nat) (P : List Int) : List Int := (List.range v).map fun (p : Nat) => ((P.count (p : Int) : Nat) : Int)
theorem ctV_len (v : Nat) (P : List Int) : (ctV v P).length = v := by simp [ctV]
theorem ctV_at {v : Nat} (P : List Int) {p : Nat} (hp : p < v) : (ctV v P)[p]?.getD 0 = ((P.count (p : Int) : Nat) : Int) := by simp [ctV, hp]
theorem ctV_nil (v : Nat) : ctV v [] = List.replicate v 0 := by
  apply List.ext_getElem
  · simp [ctV]
  · intro i h1 h2
    simp [ctV]
theorem ctV_set {v : Nat} (P : List Int) {a : Nat} (_ha : a < v) : (ctV v P).set a (((P.count (a : Int) : Nat) : Int) + 1) = ctV v (P ++ [(a : Int)]) := by
  apply List.ext_getElem
  · simp [ctV]
  · intro i h1 h2
    rw [List.getElem_set]
    simp only [ctV, List.getElem_map, List.getElem_range, List.count_append]
    by_cases h : a = i
    · subst h
      simp
    · have : (a : Int) ≠ (i : Int) := by omega
      simp [h, this]
/-- Has a row of numbers of blocks the point? -/
def inR (bs : List Blk) (r : List Int) (p : Int) : Bool := r.any fun i => hasB (bk bs i.toNat) p
/-- How many rows have each point. -/
def patV (v : Nat) (bs : List Blk) (L : List (List Int)) : List Int := (List.range v).map fun (p : Nat) => ((L.countP (fun r => inR bs r (p : Int)) : Nat) : Int)
theorem cnt_block {v : Int} {x : Blk} (hg : goodB v x = true) (t : Int) : (ptsB x).count t = if hasB x t then 1 else 0 := by
  rw [goodB_iff] at hg
  unfold ptsB hasB
  simp only [List.count_cons, List.count_nil]
  by_cases h1 : x.a = t <;> by_cases h2 : x.b = t <;> by_cases h3 : x.c = t <;> simp [h1, h2, h3] <;> omega
theorem cnt_row {v : Int} {bs : List Blk} (hU : SysU v bs) (t : Int) : ∀ (x : List Nat), (∀ p ∈ x, p < bs.length) → (ptsR bs (castL x)).count t = x.countP fun i => hasB (bk bs i) t
  | [], _ => by simp [ptsR, castL]
  | i :: x, h => by
    have ih := cnt_row hU t x (fun p hp => h p (by simp [hp]))
    unfold ptsR castL at ih ⊢
    rw [List.map_cons, List.flatMap_cons, List.count_append, ih, Int.toNat_natCast, cnt_block (hU.good i (h i (by simp))), List.countP_cons]
    omega
theorem cnt_pas {v : Int} {bs : List Blk} (hU : SysU v bs) (t : Int) : ∀ (L : List (List Int)), (∀ r ∈ L, PasR bs r) → (ptsL bs L).count t = 2 * L.countP fun r => inR bs r t
  | [], _ => by simp [ptsL]
  | r :: L, h => by
    have ih := cnt_pas hU t L (fun r hr => h r (by simp [hr]))
    obtain ⟨x, hx, h4, _, hP⟩ := h r (by simp)
    unfold ptsL at ih ⊢
    rw [List.flatMap_cons, List.count_append, ih, List.countP_cons]
    have e1 : (ptsR bs r).count t = if inR bs r t then 2 else 0 := by
      rw [hx, cnt_row hU t x hP.2.1, two_of hP h4]
      have : inR bs (castL x) t = x.any (fun i => hasB (bk bs i) t) := by
        unfold inR castL
        rw [List.any_map]
        rfl
      rw [this]
    rw [e1]
    split <;> omega
theorem pas_all {v : Int} {bs : List Blk} (hU : SysU v bs) : ∀ r ∈ pasL bs, PasR bs r := fun r hr => by
  obtain ⟨x, hx, rfl⟩ := List.mem_map.1 hr
  exact ⟨x, rfl, (pfrom_iff hU x).1 hx⟩
/-- Halved up to k. -/
def hfV (v : Nat) (P : List Int) (k : Nat) : List Int := (List.range v).map fun (p : Nat) => if p < k then ((P.count (p : Int) / 2 : Nat) : Int) else ((P.count (p : Int) : Nat) : Int)
theorem hfV_len (v : Nat) (P : List Int) (k : Nat) : (hfV v P k).length = v := by simp [hfV]
theorem hfV_zero (v : Nat) (P : List Int) : hfV v P 0 = ctV v P := by simp [hfV, ctV]
theorem hfV_at {v : Nat} (P : List Int) {k : Nat} (hk : k < v) : (hfV v P k)[k]?.getD 0 = ((P.count (k : Int) : Nat) : Int) := by simp [hfV, hk]
theorem hfV_set {v : Nat} (P : List Int) {k : Nat} (_hk : k < v) : (hfV v P k).set k (((P.count (k : Int) / 2 : Nat) : Int)) = hfV v P (k + 1) := by
  apply List.ext_getElem
  · simp [hfV]
  · intro i h1 h2
    rw [List.getElem_set]
    simp only [hfV, List.getElem_map, List.getElem_range]
    by_cases h : k = i
    · subst h
      simp
    · by_cases h3 : i < k
      · simp [h, h3, show i < k + 1 by omega]
      · simp [h, h3, show ¬ i < k + 1 by omega]
theorem hfV_end {v : Int} {bs : List Blk} (hU : SysU v bs) (n : Nat) : hfV n (ptsL bs (pasL bs)) n = patV n bs (pasL bs) := by
  unfold hfV patV
  apply List.map_congr_left
  intro p hp
  rw [if_pos (List.mem_range.1 hp), cnt_pas hU (p : Int) _ (pas_all hU)]
  omega
def patF (v : Int) (bs : List Blk) : List Int × Int := if isSysImpl v bs then (patV v.toNat bs (pasL bs), 0) else ([], 1)
end Go.Proofs.Ytiomdfhhejdoiaa

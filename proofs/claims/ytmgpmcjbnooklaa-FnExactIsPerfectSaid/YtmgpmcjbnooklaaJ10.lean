
/- The outline's l03Put. The outline's ascending list. impl.typeFrom: the type of two points. TypeOf: the program's answer. What DoubleSystem answers: plain. Renumbered systems, and systems of blocks in any order: plain. The model's l01Order. -/
import Derived.Test.YtmgpmcjbnooklaaJ9
namespace Go.Proofs.Ytmgpmcjbnooklaa
open Go.RowKit Go.Maps
/-- What l03Put gives: the same list, or one with the row in its place. -/
def PutQ (base : Nat) (u : Value) (Rs : List RowP) (x : RowP) (w : World) (e : Ending) (w' : World) : Prop :=
  (putHas (rowsP Rs) x.r = true ∧ e = .returned u ∧ ∃ n, w' = w.drewN n) ∨
  (putHas (rowsP Rs) x.r = false ∧ ∃ G cap, e = .returned (.slice (some ⟨G, 0, none⟩) (Rs.length + 1) cap) ∧ RowsM w' base (.slice (some ⟨G, 0, none⟩) (Rs.length + 1) cap) (insP Rs (putAt (rowsP Rs) x.r Rs.length) x) ∧ w.grownBy w' u.ownBlock ∧ (u.ownBlock = some G ∨ w.heap.size ≤ G))
theorem putHas_no {L : List (List Int)} {r : List Int} {m j : Nat} (hm : m = L.length) (hj : putAt L r m = j) (h : j = 0 ∨ ∃ k, j = k + 1 ∧ L[k]?.getD [] ≠ r) : putHas L r = false := by
  unfold putHas
  rw [← hm, hj]
  rcases h with rfl | ⟨k, rfl, h⟩
  · simp
  · rw [show decide (L[k + 1 - 1]?.getD [] = r) = false from decide_eq_false h]; simp
theorem putHas_yes {L : List (List Int)} {r : List Int} {m k : Nat} (hm : m = L.length) (hj : putAt L r m = k + 1) (h : L[k]?.getD [] = r) : putHas L r = true := by
  unfold putHas
  rw [← hm, hj]
  simp [h]
set_option maxRecDepth 100000 in
set_option maxHeartbeats 4000000 in
theorem l03Put_any (base : Nat) (u : Value) (Rs : List RowP) (x : RowP) (w : World) (hM : RowsM w base u Rs) (hbase : base ≤ w.heap.size) (hl : Rs.length ≤ 1000000) (hrl : ∀ y ∈ Rs, y.r.length ≤ 1100000) (hxl : x.r.length ≤ 1100000)
    (hx : OwnAtI w x.g x.r) (hxu : u.ownBlock ≠ some x.g) (hxn : x.g ∉ Rs.map RowP.g) (hxb : base ≤ x.g) :
    Calls Try.prog 99 #[u, x.hdr] w (PutQ base u Rs x w) := by
  have HM := Lib.hid hM
  obtain ⟨m, hm⟩ : ∃ m, m = Rs.length := ⟨_, rfl⟩
  have hmL : m = (rowsP Rs).length := by simp [rowsP, hm]
  have HML := Lib.hid hmL
  have HMR := Lib.hid hm
  obtain ⟨a, c, hu⟩ := hM.form
  rw [← hm] at hu hl
  have HHD := Lib.hid (show ∀ k : Nat, k < m → ∃ G y, Rs[k]? = some y ∧ a = some ⟨G, 0, none⟩ ∧ w.cell? ⟨G, k, none⟩ = some (.slice (some ⟨y.g, 0, none⟩) y.r.length y.c) ∧ IB w (.slice (some ⟨y.g, 0, none⟩) y.r.length y.c) y.r ∧ (rowsP Rs)[k]?.getD [] = y.r from fun k hk => by
    have hy : Rs[k]? = some Rs[k] := List.getElem?_eq_getElem (by omega)
    obtain ⟨G, c', e, hc, ho⟩ := hM.at_ hy
    rw [hu] at e
    simp at e
    exact ⟨G, _, hy, e.1, hc, RowP.ib ho (hrl _ (List.getElem_mem (by omega))), by simp [rowsP, hy]⟩)
  have HXI := Lib.hid (show IB w (.slice (some ⟨x.g, 0, none⟩) x.r.length x.c) x.r from RowP.ib hx hxl)
  have HX := Lib.hid (And.intro hx (And.intro hxu (And.intro hxn hxb)))
  have HE := Lib.hid hu
  show Calls Try.prog 99 #[u, .slice (some ⟨x.g, 0, none⟩) x.r.length x.c] w (PutQ base u Rs x w)
  obtain ⟨xn, hxn2⟩ : ∃ n, n = x.r.length := ⟨_, rfl⟩
  rw [← hxn2] at HXI ⊢
  have HXN := Lib.hid hxn2
  clear hM hm hmL hrl hxl hx hxu hxn hxb hxn2
  subst hu
  go_enter Try.func99, Try.ntmps99
  go_wp2_with fail
  go_loopw [5] (fun t wr => ∃ k n' : Nat, k ≤ m ∧ t = .int .i64 k ∧ wr = w.drewN n' ∧ Hid (putAt (rowsP Rs) x.r m = putAt (rowsP Rs) x.r k)) (fun t _ => (intOf t).toNat)
  case atStart => exact ⟨m, 0, Nat.le_refl _, rfl, rfl, Lib.hid rfl⟩
  case round =>
    obtain ⟨k, n', hk, rfl, rfl, HP⟩ := hrel
    rcases Nat.eq_zero_or_pos k with hk0 | hk0
    · have i1 : decide ((0 : Int) < (k : Int)) = false := decide_eq_false (by omega)
      have i2 : decide (0 < k) = false := decide_eq_false (by omega)
      have HAT := Lib.hid (show putAt (rowsP Rs) x.r m = k by rw [HP.out, hk0]; rfl)
      have HNO := Lib.hid (putHas_no HML.out HAT.out (.inl hk0))
      clear HP hk0
      go_upto_region 6 with (fail)
      obtain ⟨W1, hW1⟩ : ∃ W, W = w.drewN n' := ⟨_, rfl⟩
      have hBW : Below w.heap.size w W1 := by rw [hW1]; exact below_drewN (Below.refl _ _) _
      rw [← hW1]
      clear hW1 i1 i2
      have hM1 := HM.out.below hBW
      have hzW := hBW.size
      have HV := Lib.hid (hM1.own.below ((Below.refl W1.heap.size W1).alloc (Nat.le_refl _) (.cells #[.slice none 0 0] 26)) (Nat.le_refl _))
      have HGW := Lib.hid (gb_trans (gb_below hBW) (World.grownBy_alloc W1 (.cells #[.slice none 0 0] 26) none))
      have hlm : (Rs.map RowP.hdr).length = m := by rw [List.length_map, ← HMR.out]
      have hlm2 : (Rs.map RowP.hdr).length ≤ 1100000 := by omega
      have hkm : k ≤ (Rs.map RowP.hdr).length := by omega
      have HBW := Lib.hid hBW
      clear hBW hM1
      go_wp2_with (at_builtin; refine wpList_append_hdr rfl _ _ rfl base _ (Rs.map RowP.hdr) rfl HV.out W1.heap.size 1 rfl none 0 0 (by simp [go_sem]) hlm2 (by simp; omega) ?_; intro G' cap' w4 hV4 hg4 hat4; rw [hlm] at hV4 ⊢; have hG4 : (Value.slice a m c).ownBlock = some G' ∨ w.heap.size ≤ G' := (by rcases hat4 with h | h; exact .inl h; exact .inr (by rw [h]; simp; omega)); have HG4 := Lib.hid hG4; have HV4 := Lib.hid hV4; have HGB := Lib.hid (gb_trans HGW.out hg4); clear hV4 hg4 hat4 hG4)
      go_loopw [6] (fun t wr => ∃ q z, k ≤ q ∧ q ≤ m ∧ t = .int .i64 (q : Nat) ∧ RowsV wr base (.slice (some ⟨G', 0, none⟩) (m + 1) cap') (insV (Rs.map RowP.hdr) q z) ∧ w.grownBy wr (Value.slice a m c).ownBlock) (fun t _ => (intOf t).toNat)
      case atStart => exact ⟨m, .slice none 0 0, hk, Nat.le_refl _, by first | rfl | (congr 1; omega) | go_num, by have h := HV4.out; rw [← insV_end, hlm] at h; exact h, HGB.out⟩
      case round =>
        obtain ⟨q, z, hq1, hq2, rfl, hVq, hgq⟩ := hrel
        by_cases hqk : k < q
        · obtain ⟨q', hqq⟩ : ∃ q', q = q' + 1 := ⟨q - 1, by omega⟩
          obtain ⟨G2, y2, hy2, _, _, _, _⟩ := HHD.out q' (by omega)
          have hh : (Rs.map RowP.hdr)[q']? = some y2.hdr := by rw [List.getElem?_map, hy2]; rfl
          have hat := hVq.at_ (i := q') (x := y2.hdr) (by rw [hqq, insV_get _ _ _ (by omega)]; exact hh)
          obtain ⟨u0', _, u1, _, _⟩ := hat
          have u0 : wr.cell? ⟨G', q', none⟩ = some (.slice (some ⟨y2.g, 0, none⟩) y2.r.length y2.c) := u0'
          clear u0'
          have hst := hVq.setT (i := q) (x := y2.hdr)
          have hfr : wr.frozen? ⟨G', q, none⟩ = false := by
            rcases hVq.2 with ⟨h, _⟩ | ⟨g', cap2, cur, e, _, hcur, _⟩
            · cases h
            · simp at e
              obtain ⟨rfl, _⟩ := e
              simp [World.frozen?, hcur]
          obtain ⟨old, hold⟩ : ∃ v, wr.cell? ⟨G', q, none⟩ = some v := by
            have hh2 : (insV (Rs.map RowP.hdr) q z)[q]? = some z := by
              unfold insV
              rw [List.getElem?_append_right (by rw [List.length_take]; omega), List.length_take, Nat.min_eq_left (by omega), Nat.sub_self]
              rfl
            exact ⟨z, (hVq.at_ (i := q) (x := z) hh2).1⟩
          have HSH := Lib.hid (show RowsV (wr.setCell ⟨G', q, none⟩ (.slice (some ⟨y2.g, 0, none⟩) y2.r.length y2.c)) base (.slice (some ⟨G', 0, none⟩) (m + 1) cap') (insV (Rs.map RowP.hdr) q' (.slice (some ⟨y2.g, 0, none⟩) y2.r.length y2.c)) from by
            have h := hst.1
            rw [hqq, insV_shift _ _ _ _ (by omega) hh] at h
            rw [hqq]
            exact h)
          have HGS := Lib.hid (gb_store hgq HG4.out q (.slice (some ⟨y2.g, 0, none⟩) y2.r.length y2.c))
          have d1 : decide ((k : Int) < (q : Int)) = true := decide_eq_true (by omega)
          have d2 : decide (k < q) = true := decide_eq_true (by omega)
          have w1 : IntKind.i64.wrap ((q : Int) - 1) = (q' : Int) := by rw [IntWalk.i64_in _ (by omega)]; omega
          have w2 : (q : Int) - 1 = (q' : Int) := by omega
          have b0 : (0 : Int) ≤ (q' : Int) := by omega
          have b1 : (q' : Int) < (m : Int) + 1 := by omega
          have b2 : (0 : Int) ≤ (q : Int) := by omega
          have b3 : (q : Int) < (m : Int) + 1 := by omega
          have HQQ := Lib.hid hqq
          clear hst hVq hgq hh hy2 hqq
          go_wp2
          go_roundw
          case rel => exact ⟨q', _, by have := HQQ.out; omega, by have := HQQ.out; omega, by first | rfl | go_num, HSH.out, HGS.out⟩
          case measure => (have h1 := HQQ.out; simp [intOf]; omega)
        · have hqe : q = k := by omega
          have hst := hVq.setT (i := k) (x := .slice (some ⟨x.g, 0, none⟩) xn x.c)
          have hfr : wr.frozen? ⟨G', k, none⟩ = false := by
            rcases hVq.2 with ⟨h, _⟩ | ⟨g', cap2, cur, e, _, hcur, _⟩
            · cases h
            · simp at e
              obtain ⟨rfl, _⟩ := e
              simp [World.frozen?, hcur]
          obtain ⟨old, hold⟩ : ∃ v, wr.cell? ⟨G', k, none⟩ = some v := by
            have hh2 : (insV (Rs.map RowP.hdr) q z)[q]? = some z := by
              unfold insV
              rw [List.getElem?_append_right (by rw [List.length_take]; omega), List.length_take, Nat.min_eq_left (by omega), Nat.sub_self]
              rfl
            have := (hVq.at_ (i := q) (x := z) hh2).1
            rw [hqe] at this
            exact ⟨z, this⟩
          have HGS := Lib.hid (gb_store hgq HG4.out k (.slice (some ⟨x.g, 0, none⟩) xn x.c))
          have HSH := Lib.hid (show RowsV (wr.setCell ⟨G', k, none⟩ (.slice (some ⟨x.g, 0, none⟩) xn x.c)) base (.slice (some ⟨G', 0, none⟩) (m + 1) cap') (insV (Rs.map RowP.hdr) k (.slice (some ⟨x.g, 0, none⟩) xn x.c)) from by
            have h := hst.1
            rw [hqe, insV_set _ _ _ _ hkm] at h
            exact h)
          have d1 : decide ((k : Int) < (q : Int)) = false := decide_eq_false (by omega)
          have d2 : decide (k < q) = false := decide_eq_false (by omega)
          have b2 : (0 : Int) ≤ (k : Int) := by omega
          have b3 : (k : Int) < (m : Int) + 1 := by omega
          clear hst hVq hgq hqe
          go_wp2
          go_ret
          refine .inr ⟨HNO.out, G', cap', by rw [← HMR.out]; rfl, ?_, HGS.out, HG4.out⟩
          rw [← HMR.out, HAT.out]
          have hput := HM.out.put HX.out.1 HX.out.2.1 HX.out.2.2.1 HX.out.2.2.2 (by rw [← HMR.out, show RowP.hdr x = .slice (some ⟨x.g, 0, none⟩) xn x.c from by rw [HXN.out]; rfl]; exact HSH.out) HGS.out HG4.out
          rw [← HMR.out] at hput
          exact hput
    · obtain ⟨k', hkk⟩ : ∃ k', k = k' + 1 := ⟨k - 1, by omega⟩
      obtain ⟨G, y, hy, rfl, hcy, hiy, hry⟩ := HHD.out k' (by omega)
      have i1 : decide ((0 : Int) < (k : Int)) = true := decide_eq_true (by omega)
      have i2 : decide (0 < k) = true := decide_eq_true (by omega)
      have hwk : IntKind.i64.wrap ((k : Int) - 1) = (k' : Int) := by rw [IntWalk.i64_in _ (by omega)]; omega
      have hk1 : (k : Int) - 1 = (k' : Int) := by omega
      have g0 : (0 : Int) ≤ (k' : Int) := by omega
      have g1 : (k' : Int) < (m : Int) := by omega
      have HLS := Lib.hid fun W (hb : Below w.heap.size w W) => l03LessD_any _ _ x.r y.r W (HXI.out.below hb (Nat.le_refl _)) (hiy.below hb (Nat.le_refl _))
      have HSM := Lib.hid fun W (hb : Below w.heap.size w W) => l03SameD_any _ _ y.r x.r W (hiy.below hb (Nat.le_refl _)) (HXI.out.below hb (Nat.le_refl _))
      have hcy' : (w.drewN n').cell? ⟨G, k', none⟩ = some (.slice (some ⟨y.g, 0, none⟩) y.r.length y.c) := hcy
      cases hlx : lexL x.r y.r with
      | true =>
        rw [hlx] at HLS
        have HP2 := Lib.hid (show putAt (rowsP Rs) x.r m = putAt (rowsP Rs) x.r k' by rw [HP.out, hkk, putAt, hry, if_pos hlx])
        clear hlx hcy hiy hry hy
        go_wp2_with fail
        refine (HLS.out _ (below_drewN (Below.refl _ _) _)).mono ?_
        rintro e w1 ⟨rfl, n1, rfl⟩
        go_wp2
        go_roundw
        case rel => exact ⟨k', n' + n1, by omega, by first | rfl | go_num, by first | rfl | rw [drewN_add], HP2⟩
        case measure => simp [intOf]; omega
      | false =>
        rw [hlx] at HLS
        have HAT := Lib.hid (show putAt (rowsP Rs) x.r m = k by rw [HP.out, hkk, putAt, hry, if_neg (by rw [hlx]; decide)])
        by_cases hsame : y.r = x.r
        · rw [show decide (y.r = x.r) = true from decide_eq_true hsame] at HSM
          have HYES := Lib.hid (putHas_yes HML.out (HAT.out.trans hkk) (hry.trans hsame))
          clear hlx hiy hry hy hsame hkk HP
          go_wp2_with fail
          refine (HLS.out _ (below_drewN (Below.refl _ _) _)).mono ?_
          rintro e w1 ⟨rfl, n1, rfl⟩
          have hcy2 : (w.drewN (n' + n1)).cell? ⟨G, k', none⟩ = some (.slice (some ⟨y.g, 0, none⟩) y.r.length y.c) := hcy
          go_wp2_with fail
          refine (HSM.out _ (below_drewN (Below.refl _ _) _)).mono ?_
          rintro e w2 ⟨rfl, n2, rfl⟩
          go_wp2
          go_ret
          exact .inl ⟨HYES.out, rfl, _, by first | rfl | rw [drewN_add] | (rw [drewN_add, drewN_add])⟩
        · rw [show decide (y.r = x.r) = false from decide_eq_false hsame] at HSM
          have HNO := Lib.hid (putHas_no HML.out HAT.out (.inr ⟨k', hkk, by rw [hry]; exact hsame⟩))
          clear hlx hiy hry hy hsame hkk HP
          go_wp2_with fail
          refine (HLS.out _ (below_drewN (Below.refl _ _) _)).mono ?_
          rintro e w1 ⟨rfl, n1, rfl⟩
          have hcy2 : (w.drewN (n' + n1)).cell? ⟨G, k', none⟩ = some (.slice (some ⟨y.g, 0, none⟩) y.r.length y.c) := hcy
          go_wp2_with fail
          refine (HSM.out _ (below_drewN (Below.refl _ _) _)).mono ?_
          rintro e w2 ⟨rfl, n2, rfl⟩
          go_upto_region 6 with (fail)
          obtain ⟨W1, hW1⟩ : ∃ W, W = w.drewN (n' + n1 + n2) := ⟨_, rfl⟩
          have hBW : Below w.heap.size w W1 := by rw [hW1]; exact below_drewN (Below.refl _ _) _
          rw [← hW1]
          clear hW1 i1 i2 hwk hk1 g0 g1 hcy hcy' hcy2 HLS HSM
          have hM1 := HM.out.below hBW
          have hzW := hBW.size
          have HV := Lib.hid (hM1.own.below ((Below.refl W1.heap.size W1).alloc (Nat.le_refl _) (.cells #[.slice none 0 0] 26)) (Nat.le_refl _))
          have HGW := Lib.hid (gb_trans (gb_below hBW) (World.grownBy_alloc W1 (.cells #[.slice none 0 0] 26) none))
          have hlm : (Rs.map RowP.hdr).length = m := by rw [List.length_map, ← HMR.out]
          have hlm2 : (Rs.map RowP.hdr).length ≤ 1100000 := by omega
          have hkm : k ≤ (Rs.map RowP.hdr).length := by omega
          have HBW := Lib.hid hBW
          clear hBW hM1
          go_wp2_with (at_builtin; refine wpList_append_hdr rfl _ _ rfl base _ (Rs.map RowP.hdr) rfl HV.out W1.heap.size 1 rfl none 0 0 (by simp [go_sem]) hlm2 (by simp; omega) ?_; intro G' cap' w4 hV4 hg4 hat4; rw [hlm] at hV4 ⊢; have hG4 : (Value.slice (some ⟨G, 0, none⟩) m c).ownBlock = some G' ∨ w.heap.size ≤ G' := (by rcases hat4 with h | h; exact .inl h; exact .inr (by rw [h]; simp; omega)); have HG4 := Lib.hid hG4; have HV4 := Lib.hid hV4; have HGB := Lib.hid (gb_trans HGW.out hg4); clear hV4 hg4 hat4 hG4)
          go_loopw [6] (fun t wr => ∃ q z, k ≤ q ∧ q ≤ m ∧ t = .int .i64 (q : Nat) ∧ RowsV wr base (.slice (some ⟨G', 0, none⟩) (m + 1) cap') (insV (Rs.map RowP.hdr) q z) ∧ w.grownBy wr (Value.slice (some ⟨G, 0, none⟩) m c).ownBlock) (fun t _ => (intOf t).toNat)
          case atStart => exact ⟨m, .slice none 0 0, hk, Nat.le_refl _, by first | rfl | (congr 1; omega) | go_num, by have h := HV4.out; rw [← insV_end, hlm] at h; exact h, HGB.out⟩
          case round =>
            obtain ⟨q, z, hq1, hq2, rfl, hVq, hgq⟩ := hrel
            by_cases hqk : k < q
            · obtain ⟨q', hqq⟩ : ∃ q', q = q' + 1 := ⟨q - 1, by omega⟩
              obtain ⟨G2, y2, hy2, _, _, _, _⟩ := HHD.out q' (by omega)
              have hh : (Rs.map RowP.hdr)[q']? = some y2.hdr := by rw [List.getElem?_map, hy2]; rfl
              have hat := hVq.at_ (i := q') (x := y2.hdr) (by rw [hqq, insV_get _ _ _ (by omega)]; exact hh)
              obtain ⟨u0', _, u1, _, _⟩ := hat
              have u0 : wr.cell? ⟨G', q', none⟩ = some (.slice (some ⟨y2.g, 0, none⟩) y2.r.length y2.c) := u0'
              clear u0'
              have hst := hVq.setT (i := q) (x := y2.hdr)
              have hfr : wr.frozen? ⟨G', q, none⟩ = false := by
                rcases hVq.2 with ⟨h, _⟩ | ⟨g', cap2, cur, e, _, hcur, _⟩
                · cases h
                · simp at e
                  obtain ⟨rfl, _⟩ := e
                  simp [World.frozen?, hcur]
              obtain ⟨old, hold⟩ : ∃ v, wr.cell? ⟨G', q, none⟩ = some v := by
                have hh2 : (insV (Rs.map RowP.hdr) q z)[q]? = some z := by
                  unfold insV
                  rw [List.getElem?_append_right (by rw [List.length_take]; omega), List.length_take, Nat.min_eq_left (by omega), Nat.sub_self]
                  rfl
                exact ⟨z, (hVq.at_ (i := q) (x := z) hh2).1⟩
              have HSH := Lib.hid (show RowsV (wr.setCell ⟨G', q, none⟩ (.slice (some ⟨y2.g, 0, none⟩) y2.r.length y2.c)) base (.slice (some ⟨G', 0, none⟩) (m + 1) cap') (insV (Rs.map RowP.hdr) q' (.slice (some ⟨y2.g, 0, none⟩) y2.r.length y2.c)) from by
                have h := hst.1
                rw [hqq, insV_shift _ _ _ _ (by omega) hh] at h
                rw [hqq]
                exact h)
              have HGS := Lib.hid (gb_store hgq HG4.out q (.slice (some ⟨y2.g, 0, none⟩) y2.r.length y2.c))
              have d1 : decide ((k : Int) < (q : Int)) = true := decide_eq_true (by omega)
              have d2 : decide (k < q) = true := decide_eq_true (by omega)
              have w1 : IntKind.i64.wrap ((q : Int) - 1) = (q' : Int) := by rw [IntWalk.i64_in _ (by omega)]; omega
              have w2 : (q : Int) - 1 = (q' : Int) := by omega
              have b0 : (0 : Int) ≤ (q' : Int) := by omega
              have b1 : (q' : Int) < (m : Int) + 1 := by omega
              have b2 : (0 : Int) ≤ (q : Int) := by omega
              have b3 : (q : Int) < (m : Int) + 1 := by omega
              have HQQ := Lib.hid hqq
              clear hst hVq hgq hh hy2 hqq
              go_wp2
              go_roundw
              case rel => exact ⟨q', _, by have := HQQ.out; omega, by have := HQQ.out; omega, by first | rfl | go_num, HSH.out, HGS.out⟩
              case measure => (have h1 := HQQ.out; simp [intOf]; omega)
            · have hqe : q = k := by omega
              have hst := hVq.setT (i := k) (x := .slice (some ⟨x.g, 0, none⟩) xn x.c)
              have hfr : wr.frozen? ⟨G', k, none⟩ = false := by
                rcases hVq.2 with ⟨h, _⟩ | ⟨g', cap2, cur, e, _, hcur, _⟩
                · cases h
                · simp at e
                  obtain ⟨rfl, _⟩ := e
                  simp [World.frozen?, hcur]
              obtain ⟨old, hold⟩ : ∃ v, wr.cell? ⟨G', k, none⟩ = some v := by
                have hh2 : (insV (Rs.map RowP.hdr) q z)[q]? = some z := by
                  unfold insV
                  rw [List.getElem?_append_right (by rw [List.length_take]; omega), List.length_take, Nat.min_eq_left (by omega), Nat.sub_self]
                  rfl
                have := (hVq.at_ (i := q) (x := z) hh2).1
                rw [hqe] at this
                exact ⟨z, this⟩
              have HGS := Lib.hid (gb_store hgq HG4.out k (.slice (some ⟨x.g, 0, none⟩) xn x.c))
              have HSH := Lib.hid (show RowsV (wr.setCell ⟨G', k, none⟩ (.slice (some ⟨x.g, 0, none⟩) xn x.c)) base (.slice (some ⟨G', 0, none⟩) (m + 1) cap') (insV (Rs.map RowP.hdr) k (.slice (some ⟨x.g, 0, none⟩) xn x.c)) from by
                have h := hst.1
                rw [hqe, insV_set _ _ _ _ hkm] at h
                exact h)
              have d1 : decide ((k : Int) < (q : Int)) = false := decide_eq_false (by omega)
              have d2 : decide (k < q) = false := decide_eq_false (by omega)
              have b2 : (0 : Int) ≤ (k : Int) := by omega
              have b3 : (k : Int) < (m : Int) + 1 := by omega
              clear hst hVq hgq hqe
              go_wp2
              go_ret
              refine .inr ⟨HNO.out, G', cap', by rw [← HMR.out]; rfl, ?_, HGS.out, HG4.out⟩
              rw [← HMR.out, HAT.out]
              have hput := HM.out.put HX.out.1 HX.out.2.1 HX.out.2.2.1 HX.out.2.2.2 (by rw [← HMR.out, show RowP.hdr x = .slice (some ⟨x.g, 0, none⟩) xn x.c from by rw [HXN.out]; rfl]; exact HSH.out) HGS.out HG4.out
              rw [← HMR.out] at hput
              exact hput
end Go.Proofs.Ytmgpmcjbnooklaa

namespace Go.Proofs.Ytmgpmcjbnooklaa
open Go.RowKit Go.Maps
def ins (s : List Int) (j : Nat) (y : Int) : List Int := s.take j ++ y :: s.drop j
theorem ins_len (s : List Int) (j : Nat) (y : Int) : (ins s j y).length = s.length + 1 := by
  unfold ins
  simp
  omega
theorem ins_end (s : List Int) (y : Int) : ins s s.length y = s ++ [y] := by simp [ins]
theorem ins_set (s : List Int) (j : Nat) (y x : Int) (h : j ≤ s.length) : (ins s j y).set j x = ins s j x := by
  have e : (s.take j).length = j := by rw [List.length_take]; omega
  unfold ins
  rw [List.set_append_right _ _ (by omega), e, Nat.sub_self, List.set_cons_zero]
theorem ins_get (s : List Int) (j : Nat) (y : Int) (h : j < s.length) : (ins s (j + 1) y)[j]?.getD 0 = s[j]?.getD 0 := by
  unfold ins
  rw [List.getElem?_append_left (by rw [List.length_take]; omega), List.getElem?_take_of_lt (by omega)]
theorem ins_shift (s : List Int) (j : Nat) (y : Int) (h : j < s.length) : (ins s (j + 1) y).set (j + 1) (s[j]?.getD 0) = ins s j (s[j]?.getD 0) := by
  rw [ins_set s (j + 1) y _ (by omega)]
  unfold ins
  rw [List.take_add_one, List.getElem?_eq_getElem h, List.append_assoc]
  conv => rhs; rw [List.drop_eq_getElem_cons h]
  simp
theorem ins_perm {s zs : List Int} {k : Nat} {x : Int} (hp : s.Perm (zs.take k)) (hx : zs.take (k + 1) = zs.take k ++ [x]) (j : Nat) : (ins s j x).Perm (zs.take (k + 1)) := by
  unfold ins
  refine List.perm_middle.trans ?_
  rw [List.take_append_drop, hx]
  exact (hp.cons x).trans (List.perm_append_comm (l₁ := [x]) (l₂ := zs.take k))
theorem ins_sorted {s : List Int} {j : Nat} {x : Int} (hs : s.Pairwise (· ≤ ·)) (_hj : j ≤ s.length) (hle : ∀ z ∈ s.take j, z ≤ x) (hgt : ∀ z ∈ s.drop j, x < z) : (ins s j x).Pairwise (· ≤ ·) := by
  have h0 := hs
  rw [← List.take_append_drop j s, List.pairwise_append] at h0
  unfold ins
  rw [List.pairwise_append, List.pairwise_cons]
  refine ⟨h0.1, ⟨fun z hz => by have := hgt z hz; omega, h0.2.1⟩, fun p hp q hq => ?_⟩
  rcases List.mem_cons.1 hq with rfl | hq
  · exact hle p hp
  · exact h0.2.2 p hp q hq
theorem sorted_le {s : List Int} {j : Nat} {x : Int} (hs : s.Pairwise (· ≤ ·)) (hj : j < s.length) (h : s[j]?.getD 0 ≤ x) : ∀ z ∈ s.take (j + 1), z ≤ x := by
  rw [List.getElem?_eq_getElem hj, Option.getD_some] at h
  intro z hz
  obtain ⟨i, hi, rfl⟩ := List.mem_iff_getElem.1 hz
  rw [List.length_take] at hi
  rw [List.getElem_take]
  rcases Nat.lt_or_ge i j with h1 | h1
  · have := List.pairwise_iff_getElem.1 hs i j (by omega) hj h1
    omega
  · have e : i = j := by omega
    subst e
    exact h
theorem OwnJ.setT {w : World} {base g n cap : Nat} {zs : List Int} (h : OwnJ w base (.slice (some ⟨g, 0, none⟩) n cap) zs) {i : Nat} {x : Int} (_hi : i < zs.length) :
    OwnJ (w.setCell ⟨g, i, none⟩ (.int .i64 x)) base (.slice (some ⟨g, 0, none⟩) n cap) (zs.set i x) ∧ w.grownBy (w.setCell ⟨g, i, none⟩ (.int .i64 x)) (some g) := by
  refine ⟨?_, only_setCell (only_refl w (some g)) rfl _⟩
  obtain ⟨_, h | ⟨g', cap', cur, e, hb, hcur, hn, hc, hsz, hx⟩⟩ := h
  · simp at h
  · simp at e
    obtain ⟨rfl, rfl, rfl⟩ := e
    have hl : (zs.set i x).length = zs.length := List.length_set
    unfold OwnJ
    rw [hl]
    refine ⟨by simp, .inr ⟨g, cap, cur.setIfInBounds i (.int .i64 x), rfl, hb, heap_setCell_same w g i cur _ _ hcur, hn, hc, by simp [hsz], ?_⟩⟩
    rw [Array.toList_setIfInBounds, List.take_set, hx, List.map_set]
theorem OwnJ.at_ {w : World} {base g n cap : Nat} {zs : List Int} (h : OwnJ w base (.slice (some ⟨g, 0, none⟩) n cap) zs) {i : Nat} (hi : i < zs.length) : w.cell? ⟨g, i, none⟩ = some (.int .i64 (zs[i]?.getD 0)) ∧ base ≤ g ∧ g < w.heap.size ∧ n = zs.length ∧ w.frozen? ⟨g, i, none⟩ = false := by
  obtain ⟨_, h | ⟨g', cap', cur, e, hb, hcur, hn, hc, hsz, hx⟩⟩ := h
  · simp at h
  · simp at e
    obtain ⟨rfl, rfl, rfl⟩ := e
    refine ⟨?_, hb, (Array.getElem?_eq_some_iff.1 hcur).1, rfl, by simp [World.frozen?, hcur]⟩
    have e : (zs.map (Value.int .i64))[i]? = some (.int .i64 zs[i]) := by simp [hi]
    rw [← hx, List.getElem?_take_of_lt (by omega)] at e
    rw [List.getElem?_eq_getElem hi, Option.getD_some]
    simp [World.cell?, hcur]
    simpa using e
set_option maxRecDepth 100000 in
set_option maxHeartbeats 2000000 in
theorem l03Ascending_any (b0 off cap : Nat) (zs : List Int) (w : World) (h : Ints w b0 off zs) (hlt : b0 < w.heap.size) (hl : zs.length ≤ 1000) :
    Calls Try.prog 117 #[.slice (some ⟨b0, off, none⟩) zs.length cap] w (fun e w' => ∃ u, e = .returned u ∧ (∃ g c, u = .slice (some ⟨g, 0, none⟩) zs.length c) ∧ OwnJ w' w.heap.size u (ascL zs) ∧ Below w.heap.size w w') := by
  have HI := Lib.hid h
  obtain ⟨m, hm⟩ : ∃ m, m = zs.length := ⟨_, rfl⟩
  have HM := Lib.hid hm
  rw [← hm] at hl ⊢
  clear h hm
  obtain ⟨W0, rfl⟩ : ∃ W0, W0 = w := ⟨_, rfl⟩
  go_enter Try.func117, Try.ntmps117
  go_wp2_with fail
  go_loopw [3, 4, 5] (fun o i _ wr => ∃ (k : Nat) (s : List Int) (g c : Nat), k ≤ m ∧ i = .int .i64 k ∧ o = .slice (some ⟨g, 0, none⟩) k c ∧ Below W0.heap.size W0 wr ∧ OwnJ wr W0.heap.size (.slice (some ⟨g, 0, none⟩) k c) s ∧ Hid (s.Perm (zs.take k) ∧ s.Pairwise (· ≤ ·) ∧ s.length = k)) (fun _ i _ _ => m - (intOf i).toNat)
  case atStart => exact ⟨0, [], _, _, Nat.zero_le _, rfl, rfl, (Below.refl _ _).alloc (Nat.le_refl _) _, OwnJ.new0 _ (Nat.le_refl _), Lib.hid ⟨by simp, List.Pairwise.nil, rfl⟩⟩
  case round =>
    obtain ⟨k, s, g, c, hk, rfl, rfl, hB, hO, HP⟩ := hrel
    have hz := hB.size
    by_cases hkl : k < m
    · have q := (hB.cell (p := ⟨b0, off + k, none⟩) hlt).trans (HI.out k (by rw [← HM.out]; exact hkl))
      have hxk : zs.take (k + 1) = zs.take k ++ [zs[k]?.getD 0] := by
        have hk' : k < zs.length := by rw [← HM.out]; exact hkl
        rw [List.take_add_one, List.getElem?_eq_getElem hk']
        rfl
      obtain ⟨x, hx⟩ : ∃ x, x = zs[k]?.getD 0 := ⟨_, rfl⟩
      rw [← hx] at q hxk
      have HXK := Lib.hid hxk
      have HO := Lib.hid hO
      have HB := Lib.hid hB
      have HQ := Lib.hid q
      have g0 : (0 : Int) ≤ (k : Int) := by omega
      have g1 : (k : Int) < (m : Int) := by omega
      clear hx hxk hB hO
      go_wp2_with (at_builtin; refine wpList_append_int rfl _ _ rfl W0.heap.size _ s rfl (HO.out.below ((Below.refl _ _).alloc (Nat.le_refl _) _) (Nat.le_refl _)) _ _ x rfl (by simp [go_sem]) (by have := HP.out.2.2; omega) (by simp; omega) ?_; intro g' cap' w4 hO4 hg4)
      have hrow := HO.out.row
      have hgo : wr.grownBy w4 (some g) := ⟨hg4.os, hg4.tape, hg4.output, by have := hg4.size; simp at this; omega, fun i hi hne => by
        rw [hg4.block i (by simp; omega) hne, Below.heap_alloc _ _ _ hi]⟩
      have hB4 := HB.out.grown hgo hz (fun r e => hrow r e)
      rw [HP.out.2.2] at hO4 ⊢
      have hz4 := hB4.size
      have HO4 := Lib.hid hO4
      have HB4 := Lib.hid hB4
      clear hg4 hgo hrow hO4 hB4 q
      go_wp2_with fail
      go_loopw [5] (fun t wr' => ∃ (j : Nat) (y : Int), j ≤ k ∧ t = .int .i64 j ∧ Below W0.heap.size W0 wr' ∧ OwnJ wr' W0.heap.size (.slice (some ⟨g', 0, none⟩) (k + 1) cap') (ins s j y) ∧ Hid (∀ z ∈ s.drop j, x < z)) (fun t _ => (intOf t).toNat)
      case atStart => exact ⟨k, x, Nat.le_refl _, rfl, HB4.out, by have := HP.out.2.2; rw [← this, ins_end, this]; exact HO4.out, Lib.hid (by rw [List.drop_of_length_le (by have := HP.out.2.2; omega)]; simp)⟩
      case round =>
        obtain ⟨j, y, hjk, rfl, hB5, hO5, HGT⟩ := hrel
        have hz5 := hB5.size
        have q5 := (hB5.cell (p := ⟨b0, off + k, none⟩) hlt).trans ((HB.out.cell (p := ⟨b0, off + k, none⟩) hlt).symm.trans HQ.out)
        have hO6a := Lib.hid hO5
        have hB6a := Lib.hid hB5
        have hls := HP.out.2.2
        have hAt := hO5.at_ (i := j) (by rw [ins_len]; omega)
        have hgl := hAt.2.1
        have fz := hAt.2.2.2.2
        have c6 := hAt.1
        generalize (ins s j y)[j]?.getD 0 = old at c6
        rcases Nat.eq_zero_or_pos j with rfl | hj0
        · have hjs : 0 ≤ s.length := Nat.zero_le _
          have HLE := Lib.hid (show ∀ z ∈ s.take 0, z ≤ x by simp)
          have i1 : decide ((0 : Int) < ((0 : Nat) : Int)) = false := by simp
          clear hB5 hO5 hAt
          go_wp2
          go_quiet (fail)
          have hB6 := Lib.hid (below_drewN hB6a.out nq)
          have hO6 := Lib.hid (show OwnJ (wr.drewN nq) _ _ _ from hO6a.out)
          have hs6 := hO6.out.setT (i := 0) (x := x) (by rw [ins_len]; omega)
          rw [ins_set s 0 y x hjs] at hs6
          have hB7 := hB6.out.grown hs6.2 (by have := hB6.out.size; omega) (fun r e => by cases e; exact hgl)
          have HS6 := Lib.hid hs6.1
          have HB7 := Lib.hid hB7
          have HFIN := Lib.hid (show (ins s 0 x).Perm (zs.take (k + 1)) ∧ (ins s 0 x).Pairwise (· ≤ ·) ∧ (ins s 0 x).length = k + 1 from ⟨ins_perm HP.out.1 HXK.out 0, ins_sorted HP.out.2.1 hjs HLE.out HGT.out, by rw [ins_len, HP.out.2.2]⟩)
          clear hs6 hB7
          go_wp2
          go_roundw
          case rel => exact ⟨k + 1, ins s 0 x, g', cap', by omega, by go_num, rfl, HB7.out, HS6.out, HFIN⟩
          case measure => simp [intOf]; omega
        · obtain ⟨j', rfl⟩ : ∃ j', j = j' + 1 := ⟨j - 1, by omega⟩
          have hjk2 : j' < s.length := by omega
          have hv := ins_get s j' y hjk2
          have hsh := ins_shift s j' y hjk2
          have hA2 := hO5.at_ (i := j') (by rw [ins_len]; omega)
          have c5 := hA2.1
          have fz2 := hA2.2.2.2.2
          rw [hv] at c5
          obtain ⟨v, hvv⟩ : ∃ v, v = s[j']?.getD 0 := ⟨_, rfl⟩
          rw [← hvv] at c5 hsh
          have hdr : s.drop j' = v :: s.drop (j' + 1) := by rw [List.drop_eq_getElem_cons hjk2, hvv, List.getElem?_eq_getElem hjk2]; rfl
          have HDR := Lib.hid hdr
          have HSH := Lib.hid hsh
          have HVV := Lib.hid hvv
          have i1 : decide ((0 : Int) < (j' : Int) + 1) = true := by simp
          have e5 : ((j' + 1 : Nat) : Int) = (j' : Int) + 1 := by omega
          rw [e5]
          clear hB5 hO5 hAt hA2 hv hsh hvv hdr hls
          by_cases hc : x < v
          · have i2 : decide (x < v) = true := decide_eq_true hc
            go_wp2
            go_quiet (fail)
            have hB6 := Lib.hid (below_drewN hB6a.out nq)
            have hO6 := Lib.hid (show OwnJ (wr.drewN nq) _ _ _ from hO6a.out)
            have hs6 := hO6.out.setT (i := j' + 1) (x := v) (by rw [ins_len]; omega)
            rw [HSH.out] at hs6
            have hB7 := hB6.out.grown hs6.2 (by have := hB6.out.size; omega) (fun r e => by cases e; exact hgl)
            have HS6 := Lib.hid hs6.1
            have HB7 := Lib.hid hB7
            have HGT2 := Lib.hid (show ∀ z ∈ s.drop j', x < z by
              rw [HDR.out]
              intro z hz
              rcases List.mem_cons.1 hz with rfl | hz
              · exact hc
              · exact HGT.out z hz)
            clear hs6 hB7
            go_wp2
            go_roundw
            case rel => exact ⟨j', v, by omega, by go_num, HB7.out, HS6.out, HGT2⟩
            case measure => simp [intOf] <;> omega
          · have i2 : decide (x < v) = false := decide_eq_false hc
            have hjs : j' + 1 ≤ s.length := hjk2
            have HLE := Lib.hid (sorted_le HP.out.2.1 hjk2 (x := x) (by rw [← HVV.out]; omega))
            go_wp2
            go_quiet (fail)
            have hB6 := Lib.hid (below_drewN hB6a.out nq)
            have hO6 := Lib.hid (show OwnJ (wr.drewN nq) _ _ _ from hO6a.out)
            have hs6 := hO6.out.setT (i := (j' + 1)) (x := x) (by rw [ins_len]; omega)
            rw [ins_set s (j' + 1) y x hjs] at hs6
            have hB7 := hB6.out.grown hs6.2 (by have := hB6.out.size; omega) (fun r e => by cases e; exact hgl)
            have HS6 := Lib.hid hs6.1
            have HB7 := Lib.hid hB7
            have HFIN := Lib.hid (show (ins s (j' + 1) x).Perm (zs.take (k + 1)) ∧ (ins s (j' + 1) x).Pairwise (· ≤ ·) ∧ (ins s (j' + 1) x).length = k + 1 from ⟨ins_perm HP.out.1 HXK.out (j' + 1), ins_sorted HP.out.2.1 hjs HLE.out HGT.out, by rw [ins_len, HP.out.2.2]⟩)
            clear hs6 hB7
            go_wp2
            go_roundw
            case rel => exact ⟨k + 1, ins s (j' + 1) x, g', cap', by omega, by go_num, rfl, HB7.out, HS6.out, HFIN⟩
            case measure => simp [intOf]; omega
    · have e : k = m := by omega
      subst e
      have e2 : s = ascL zs := ascL_of (by have := HP.out.1; rw [HM.out, List.take_length] at this; exact this) HP.out.2.1
      subst e2
      clear HP
      go_wp2
      go_ret
      exact ⟨_, rfl, ⟨_, _, rfl⟩, hO, hB⟩
end Go.Proofs.Ytmgpmcjbnooklaa

namespace Go.Proofs.Ytmgpmcjbnooklaa
open Go.RowKit Go.Maps
theorem ResSS.cells {w : World} {lo : Nat} {u : Value} {L : List (List Int)} (h : ResSS w lo u L.length (rowsF L)) : L = [] ∧ (∃ a c, u = .slice a 0 c) ∨ ∃ G cap gs caps, u = .slice (some ⟨G, 0, none⟩) L.length cap ∧ lo ≤ G ∧ SSR w lo G gs caps L.length (rowsF L) := by
  rcases h with ⟨h0, a, c, e⟩ | ⟨G, cap, gs, caps, e, h1, h2⟩
  · exact .inl ⟨List.length_eq_zero_iff.1 h0, a, c, e⟩
  · exact .inr ⟨G, cap, gs, caps, e, h1, h2⟩
set_option maxRecDepth 100000 in
set_option maxHeartbeats 2000000 in
theorem typeFrom_any (G lo : Nat) (tgs tcaps : Nat → Nat) (n c : Nat) (bs : List Blk) (a b : Nat) (w : World) (h : SSR w lo G tgs tcaps n (rowT n (tabN bs))) (hi : isSysImpl (n : Int) bs = true) (hf : fullB (n : Int) bs = true) (ha : a < n) (hb : b < n) (hab : a ≠ b) :
    Calls Try.prog 66 #[.slice (some ⟨G, 0, none⟩) n c, .int .i64 (a : Int), .int .i64 (b : Int)] w (fun e w' => ∃ u, e = .returned u ∧ OwnJ w' w.heap.size u (typL (cyS bs a b n)) ∧ Below w.heap.size w w') := by
  have HC := Lib.hid (cyclesFrom_any G lo tgs tcaps n c bs a b w h hi hf ha hb hab)
  have hl15 := cyS_len (bs := bs) (a := a) (b := b) n
  have hn15 := (sys_size hi).2.1
  have hlr := cyS_rows hi hf ha hb hab n (Nat.le_refl _)
  obtain ⟨L, hL⟩ : ∃ L, L = cyS bs a b n := ⟨_, rfl⟩
  rw [← hL] at HC hl15 hlr ⊢
  have hL15 : L.length ≤ 15 := by omega
  have HR := Lib.hid hlr
  clear h hi hf ha hb hab hL hl15 hn15 hlr
  obtain ⟨W0, rfl⟩ : ∃ W0, W0 = w := ⟨_, rfl⟩
  go_enter Try.func66, Try.ntmps66
  go_wp2_with fail
  refine HC.out.mono ?_
  rintro e w1 ⟨u, rfl, hr, hb1⟩
  have hz1 := hb1.size
  rcases hr.cells with ⟨rfl, a0, c0, rfl⟩ | ⟨G1, cap1, gs, caps, rfl, hlo, hS⟩
  · clear HC hr hL15 HR
    go_wp2_with fail
    go_loopw [7, 15] (fun o i wr => i = .int .i64 0 ∧ o = .slice none 0 0 ∧ wr = w1) (fun _ _ _ => 0)
    case atStart => exact ⟨rfl, rfl, rfl⟩
    case round =>
      obtain ⟨rfl, rfl, rfl⟩ := hrel
      go_wp2_with fail
      refine (sortJ_any W0.heap.size _ [] _ (OwnJ.nil _ _) (Nat.zero_le _)).mono ?_
      rintro e w2 ⟨rfl, hg2, hO2⟩
      go_wp2_with fail
      refine (revJ_any W0.heap.size _ (ascL []) _ hO2 (by rw [ascL_len]; exact Nat.zero_le _)).mono ?_
      rintro e w3 ⟨rfl, hg3, hO3⟩
      go_wp2
      go_ret
      exact ⟨_, rfl, hO3, (hb1.grown hg2 (by omega) (fun r e => by cases e)).grown hg3 (by have := hg2.size; omega) (fun r e => by cases e)⟩
  · obtain ⟨m, hm⟩ : ∃ m, m = L.length := ⟨_, rfl⟩
    have HCE := Lib.hid fun k (hk : k < m) => hS.cell k (by omega)
    have HRL := Lib.hid fun k (hk : k < m) => show (rowsF L k).length ≤ 15 from HR.out _ (by unfold rowsF; rw [List.getElem?_eq_getElem (by omega)]; exact List.getElem_mem _)
    have HSL := Lib.hid fun k (hk : k < m) => lensL_take (L := L) (k := k) (by omega)
    have hlt1 := hS.lt
    have HLL := Lib.hid fun k => show (lensL (L.take k)).length ≤ 15 from by rw [lensL_len, List.length_take]; omega
    have HFU := Lib.hid (show lensL (L.take m) = lensL L by rw [hm, List.take_length])
    have hm15 : m ≤ 15 := by omega
    rw [← hm]
    clear HC hr hL15 HR hS hm
    have HB1 := Lib.hid hb1
    clear hb1
    go_wp2_with fail
    go_loopw [7, 15] (fun o i wr => ∃ k : Nat, k ≤ m ∧ i = .int .i64 k ∧ Below w1.heap.size w1 wr ∧ OwnJ wr w1.heap.size o (lensL (L.take k)) ∧ ∃ a n c, o = .slice a n c) (fun _ i _ => m - (intOf i).toNat)
    case atStart => exact ⟨0, Nat.zero_le _, rfl, Below.refl _ _, OwnJ.nil _ _, _, _, _, rfl⟩
    case round =>
      obtain ⟨k, hk, rfl, hB, hO, hform⟩ := hrel
      have hz := hB.size
      obtain ⟨a3, n3, c3, rfl⟩ := hform
      have HO := Lib.hid hO
      have HB := Lib.hid hB
      by_cases hkl : k < m
      · have q := (hB.cell (p := ⟨G1, k, none⟩) hlt1).trans (HCE.out k hkl)
        have hS := HSL.out k hkl
        have hl := HLL.out k
        have hrl := HRL.out k hkl
        obtain ⟨z, hz'⟩ : ∃ z, z = (rowsF L k).length := ⟨_, rfl⟩
        rw [← hz'] at q hS hrl
        have HS := Lib.hid hS
        have HL := Lib.hid hl
        clear hB hO hS hz' hl
        go_wp2_with (at_builtin; refine wpList_append_int rfl _ _ rfl w1.heap.size _ (lensL (L.take k)) rfl (HO.out.below ((Below.refl _ _).alloc (Nat.le_refl _) _) (Nat.le_refl _)) _ _ (z : Int) rfl (by simp [go_sem]) (by have := HL.out; omega) (by simp; omega) ?_; intro g' cap' w4 hO4 hg4)
        have hrow := HO.out.row
        have hgo : wr.grownBy w4 (Value.slice a3 n3 c3).ownBlock := ⟨hg4.os, hg4.tape, hg4.output, by have := hg4.size; simp at this; omega, fun i hi hne => by
          rw [hg4.block i (by simp; omega) hne, Below.heap_alloc _ _ _ hi]⟩
        clear hg4
        go_roundw
        case rel => exact ⟨k + 1, by omega, by go_num, HB.out.grown hgo hz (fun j e => hrow j e), by rw [HS.out]; exact hO4, _, _, _, rfl⟩
        case measure => simp [intOf]; omega
      · have e : k = m := by omega
        subst e
        have hO5 := HO.out
        rw [HFU.out] at hO5
        have HO5 := Lib.hid hO5
        have hrow := HO5.out.row
        have hlf : (lensL L).length ≤ 15 := by rw [← HFU.out]; exact HLL.out _
        have HLF := Lib.hid hlf
        clear hB hO hO5 hrow hlf
        go_wp2_with fail
        refine (sortJ_any w1.heap.size _ (lensL L) _ HO5.out (by have := HLF.out; omega)).mono ?_
        rintro e w2 ⟨rfl, hg2, hO2⟩
        have hz2 := hg2.size
        go_wp2_with fail
        refine (revJ_any w1.heap.size _ (ascL (lensL L)) _ hO2 (by rw [ascL_len]; have := HLF.out; omega)).mono ?_
        rintro e w3 ⟨rfl, hg3, hO3⟩
        go_wp2
        go_ret
        have hrow := HO5.out.row
        exact ⟨_, rfl, hO3.baseT hz1, HB1.out.trans ((((HB.out).grown hg2 hz (fun r e => hrow r e)).grown hg3 (by omega) (fun r e => hrow r e)).mono hz1)⟩
end Go.Proofs.Ytmgpmcjbnooklaa

namespace Go.Proofs.Ytmgpmcjbnooklaa
open Go.RowKit Go.Maps
theorem OwnJ.formT {W : World} {base : Nat} {u : Value} {zs : List Int} (h : OwnJ W base u zs) : ∃ a c, u = .slice a zs.length c := by
  rcases h.2 with ⟨e, h0⟩ | ⟨g, cap, cur, e, _⟩
  · exact ⟨none, 0, by rw [e, h0]⟩
  · exact ⟨_, _, e⟩
theorem tyF_len (v : Int) (bs : List Blk) (a b : Int) : (tyF v bs a b).1.length ≤ 15 := by
  unfold tyF
  split
  · rename_i hc
    obtain ⟨hi, _, _, _, _⟩ := cyCode_good hc
    obtain ⟨h3, h15, _⟩ := sys_size hi
    have := cyS_len (bs := bs) (a := a.toNat) (b := b.toNat) v.toNat
    show (typL (cyS bs a.toNat b.toNat v.toNat)).length ≤ 15
    rw [typL_len]
    omega
  · exact Nat.zero_le _
end Go.Proofs.Ytmgpmcjbnooklaa

namespace Go.Proofs.Ytmgpmcjbnooklaa
def dblB (v : Int) (x : Blk) : List Blk := [⟨x.a, v + x.b, v + x.c⟩, ⟨x.b, v + x.a, v + x.c⟩, ⟨x.c, v + x.a, v + x.b⟩]
def dblP (v : Int) (k : Nat) : List Blk := (List.range k).map fun (a : Nat) => ⟨(a : Int), v + (a : Int), 2 * v⟩
theorem dblP_succ (v : Int) (k : Nat) : dblP v (k + 1) = dblP v k ++ [⟨(k : Int), v + (k : Int), 2 * v⟩] := by simp [dblP, List.range_succ]
theorem dblP_len (v : Int) (k : Nat) : (dblP v k).length = k := by simp [dblP]
def dblA (v : Int) (bs : List Blk) (k : Nat) : List Blk := bs ++ (bs.take k).flatMap (dblB v)
theorem dblA_succ {v : Int} {bs : List Blk} {k : Nat} (hk : k < bs.length) {x : Blk} (hx : bs[k]? = some x) : dblA v bs (k + 1) = dblA v bs k ++ dblB v x := by
  have e : bs[k] = x := by
    rw [List.getElem?_eq_getElem hk] at hx
    simpa using hx
  unfold dblA
  rw [List.take_succ_eq_append_getElem hk, e, List.flatMap_append, List.append_assoc]
  simp
theorem dblB_len (v : Int) : ∀ l : List Blk, (l.flatMap (dblB v)).length = 3 * l.length
  | [] => rfl
  | x :: r => by rw [List.flatMap_cons, List.length_append, dblB_len v r]; simp [dblB]; omega
theorem dblA_len (v : Int) (bs : List Blk) {k : Nat} (hk : k ≤ bs.length) : (dblA v bs k).length = bs.length + 3 * k := by
  unfold dblA
  rw [List.length_append, dblB_len, List.length_take, Nat.min_eq_left hk]
def dblL (v : Int) (bs : List Blk) : List Blk := dblA v bs bs.length ++ dblP v v.toNat
theorem dblL_len (v : Int) (bs : List Blk) : (dblL v bs).length = bs.length + 3 * bs.length + v.toNat := by
  unfold dblL
  rw [List.length_append, dblA_len v bs (Nat.le_refl _), dblP_len]
theorem dblL_mem {v : Int} (hv : 0 ≤ v) (hv15 : v ≤ 15) {bs : List Blk} (hg : ∀ x ∈ bs, goodB v x = true) : ∀ x ∈ dblL v bs, (0 ≤ x.a ∧ x.a ≤ 1000) ∧ (0 ≤ x.b ∧ x.b ≤ 1000) ∧ (0 ≤ x.c ∧ x.c ≤ 1000) := by
  intro x hx
  unfold dblL dblA at hx
  rw [List.take_length] at hx
  rcases List.mem_append.1 hx with hx | hx
  · rcases List.mem_append.1 hx with hx | hx
    · have := goodB_iff.1 (hg x hx); omega
    · obtain ⟨y, hy, hxy⟩ := List.mem_flatMap.1 hx
      have := goodB_iff.1 (hg y hy)
      simp only [dblB, List.mem_cons, List.not_mem_nil, or_false] at hxy
      rcases hxy with rfl | rfl | rfl <;> (dsimp only; omega)
  · obtain ⟨a, ha, rfl⟩ := List.mem_map.1 hx
    have := List.mem_range.1 ha
    dsimp only
    omega
/-- The smallest, the middle and the greatest of three. -/
def blk3 (a b c : Int) : Blk := ⟨min (min a b) c, a + b + c - min (min a b) c - max (max a b) c, max (max a b) c⟩
theorem blk3_of {a b c p q r : Int} (hp : p = min (min a b) c) (hr : r = max (max a b) c) (hq : q = a + b + c - p - r) : blk3 a b c = ⟨p, q, r⟩ := by
  unfold blk3
  rw [← hp, ← hr, ← hq]
end Go.Proofs.Ytmgpmcjbnooklaa

namespace Go.Proofs.Ytmgpmcjbnooklaa
/-- Each number is a point, and comes once. -/
def rnGo (v : Int) : List Int → List Int → Bool
  | _, [] => true
  | seen, a :: r => inP v a && !(decide (a ∈ seen)) && rnGo v (seen ++ [a]) r
def isRen (v : Int) (p : List Int) : Bool := decide ((p.length : Int) = v) && rnGo v [] p
theorem rnGo_in {v : Int} : ∀ {l seen : List Int}, rnGo v seen l = true → ∀ a ∈ l, inP v a = true
  | [], _, _, a, h => by cases h
  | b :: r, seen, h, a, ha => by
    simp only [rnGo, Bool.and_eq_true] at h
    rcases List.mem_cons.1 ha with rfl | ha
    · exact h.1.1
    · exact rnGo_in h.2 a ha
theorem rnGo_bad {v : Int} {a : Int} {r seen : List Int} (h : inP v a = false) : rnGo v seen (a :: r) = false := by simp [rnGo, h]
theorem rnGo_dup {v : Int} {a : Int} {r seen : List Int} (h : a ∈ seen) : rnGo v seen (a :: r) = false := by simp [rnGo, h]
theorem rnGo_next {v : Int} {a : Int} {r seen : List Int} (h : inP v a = true) (h2 : a ∉ seen) : rnGo v seen (a :: r) = rnGo v (seen ++ [a]) r := by simp [rnGo, h, h2]
def at0 (p : List Int) (a : Int) : Int := p[a.toNat]?.getD 0
def renB (p : List Int) (x : Blk) : Blk := blk3 (at0 p x.a) (at0 p x.b) (at0 p x.c)
/-- A system and a code: points, blocks, code. -/
def renF (v : Int) (bs : List Blk) (p : List Int) : Int × List Blk × Int :=
  if isSysImpl v bs then (if isRen v p then (v, sortB (bs.map (renB p)), 0) else (0, [], 2)) else (0, [], 1)
theorem renF_len (v : Int) (bs : List Blk) (p : List Int) : (renF v bs p).2.1.length ≤ bs.length := by
  unfold renF
  split
  · split
    · simp only [sortB_length, List.length_map]; exact Nat.le_refl _
    · simp
  · simp
theorem at0_in {v : Int} {p : List Int} (h : isRen v p = true) {a : Int} (h0 : 0 ≤ a) (h1 : a < v) : 0 ≤ at0 p a ∧ at0 p a < v := by
  unfold isRen at h
  simp only [Bool.and_eq_true, decide_eq_true_eq] at h
  have hl : a.toNat < p.length := by omega
  have := rnGo_in h.2 p[a.toNat] (List.getElem_mem hl)
  rw [inP] at this
  simp only [Bool.and_eq_true, decide_eq_true_eq] at this
  unfold at0
  rw [List.getElem?_eq_getElem hl]
  exact this
theorem blk3_in {v a b c : Int} (ha : 0 ≤ a ∧ a < v) (hb : 0 ≤ b ∧ b < v) (hc : 0 ≤ c ∧ c < v) : (0 ≤ (blk3 a b c).a ∧ (blk3 a b c).a < v) ∧ (0 ≤ (blk3 a b c).b ∧ (blk3 a b c).b < v) ∧ (0 ≤ (blk3 a b c).c ∧ (blk3 a b c).c < v) := by
  unfold blk3
  dsimp only
  omega
/-- The middle one. -/
theorem blk3_good {v a b c : Int} : goodB v (blk3 a b c) = true ↔ (0 ≤ a ∧ a < v) ∧ (0 ≤ b ∧ b < v) ∧ (0 ≤ c ∧ c < v) ∧ a ≠ b ∧ b ≠ c ∧ a ≠ c := by
  rw [goodB_iff]
  unfold blk3
  dsimp only
  omega
def b3 (x : Blk) : Blk := blk3 x.a x.b x.c
def sysOfF (v : Int) (bs : List Blk) : Int × List Blk × Int :=
  if decide (3 ≤ v) && decide (v ≤ 15) && decide (bs.length ≤ 35) && bs.all (fun x => goodB v (b3 x)) then
    (if shareGo [] (bs.map b3) then (0, [], 5) else (v, sortB (bs.map b3), 0))
  else (0, [], 2)
theorem sort3 (a b c : Int) : [a, b, c].mergeSort (fun x y => decide (x ≤ y)) = [(blk3 a b c).a, (blk3 a b c).b, (blk3 a b c).c] := by
  have hs : ([a, b, c].mergeSort (fun x y => decide (x ≤ y))).Pairwise (· ≤ ·) := by
    have := List.pairwise_mergeSort (le := fun x y : Int => decide (x ≤ y)) (fun x y z h1 h2 => by simp at *; omega) (fun x y => by simp; omega) [a, b, c]
    exact this.imp (by simp)
  have hp := List.mergeSort_perm [a, b, c] (fun x y : Int => decide (x ≤ y))
  have hs2 : [(blk3 a b c).a, (blk3 a b c).b, (blk3 a b c).c].Pairwise (· ≤ ·) := by
    unfold blk3
    simp
    omega
  have hp2 : [(blk3 a b c).a, (blk3 a b c).b, (blk3 a b c).c].Perm [a, b, c] := by
    unfold blk3
    dsimp only
    rw [List.perm_iff_count]
    intro x
    simp only [List.count_cons, List.count_nil, beq_iff_eq]
    by_cases h1 : a ≤ b <;> by_cases h2 : b ≤ c <;> by_cases h3 : a ≤ c <;> simp only [Int.min_def, Int.max_def, h1, h2, h3, if_true, if_false] <;> (try omega) <;> (repeat' split) <;> omega
  exact (hp.trans hp2.symm).eq_of_pairwise (fun x y _ _ h1 h2 => by omega) hs hs2
end Go.Proofs.Ytmgpmcjbnooklaa

namespace Go.Proofs.Ytmgpmcjbnooklaa
open Go.RowKit Go.Maps
theorem infoBoolT : (Try.prog.info? 4).map (fun i => (i.zero, i.size, i.bytes)) = some (some (.bool false), 1, 1) := by kernel_rfl
theorem mkBoolsR (n : Nat) (hn : n ≤ 1100000) (W : World) : (Instr.makeSlice 151 (.int .i64 (n : Int)) (.int .i64 (n : Int))).run Try.prog W = .ok (.slice (some ⟨W.heap.size, 0, none⟩) n n) (W.alloc (.cells (madeCells #[.bool false] n) 4)) := by
  obtain ⟨i0, hi, hz0, hz1, hz2⟩ := info_parts infoBoolT
  have hr := run_make (P := Try.prog) W 151 4 i0 (.bool false) Try.underlying151 hi hz0 .i64 .i64 n n (by omega) (by omega) (by rw [hz2]; omega) (by omega)
  simp only [Int.toNat_natCast, hz1, Nat.mul_one] at hr
  exact hr
/-- A row of bools. -/
structure BoolsAt (w : World) (g n : Nat) (f : Nat → Bool) : Prop where
  lt : g < w.heap.size
  cell : ∀ q, q < n → w.cell? ⟨g, q, none⟩ = some (.bool (f q))
  free : ∀ o, w.frozen? ⟨g, o, none⟩ = false
theorem BoolsAt.made (w : World) (n : Nat) (T : TypeId) : BoolsAt (w.alloc (.cells (madeCells #[.bool false] n) T)) w.heap.size n (fun _ => false) := by
  refine ⟨by simp, fun k hk => ?_, fun o => by simp⟩
  rw [World.cell?_alloc_at _ _ _ _ rfl]
  simp [madeCells, hk, Nat.mod_one]
theorem BoolsAt.set {w : World} {g n : Nat} {f : Nat → Bool} (h : BoolsAt w g n f) {i : Nat} (hi : i < n) : BoolsAt (w.setCell ⟨g, i, none⟩ (.bool true)) g n (fun q => if q = i then true else f q) := by
  refine ⟨by simpa [World.setCell] using h.lt, fun q hq => ?_, fun o => by rw [World.frozen?_setCell]; exact h.free o⟩
  by_cases e : q = i
  · subst e
    rw [World.cell?_setCell_same' _ _ _ (by rw [h.cell q hq]; rfl)]
    simp
  · rw [World.cell?_setCell_other _ _ _ _ (by simp <;> omega), h.cell q hq, if_neg e]
theorem BoolsAt.congr {w : World} {g n : Nat} {f f' : Nat → Bool} (h : BoolsAt w g n f) (e : ∀ q, q < n → f q = f' q) : BoolsAt w g n f' := ⟨h.lt, fun q hq => by rw [← e q hq]; exact h.cell q hq, h.free⟩
theorem BoolsAt.kept {w w' : World} {g n : Nat} {f : Nat → Bool} {row : Option Nat} (h : BoolsAt w g n f) (hg : w.grownBy w' row) (hne : some g ≠ row) : BoolsAt w' g n f :=
  ⟨Nat.lt_of_lt_of_le h.lt hg.size, fun q hq => (World.cell?_of_block (w := w) (a := ⟨g, _, none⟩) (hg.block g h.lt hne)).trans (h.cell q hq), fun o => (World.frozen?_of_block (w := w) (a := ⟨g, o, none⟩) (hg.block g h.lt hne)).trans (h.free o)⟩
theorem take_snoc2 {l : List Int} {k : Nat} (h : k < l.length) : l.take (k + 1) = l.take k ++ [l[k]?.getD 0] := by
  rw [List.take_succ_eq_append_getElem h]; simp [h]
end Go.Proofs.Ytmgpmcjbnooklaa

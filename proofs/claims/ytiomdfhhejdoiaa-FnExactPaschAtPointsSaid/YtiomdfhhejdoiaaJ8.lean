
/- The outline's l03Put. What the outline's lists of rows hold: ascending, each row once. The laws' copies of rows of rows, and how much they hold. The laws' copy of rows of rows. Walks by two involutions, by turns: plain. Third points of full systems: plain. A table of rows, written in place. append of many blocks to a list of the call's own. Worlds that grow behind a draw. -/
import Derived.Test.YtiomdfhhejdoiaaJ7
import Derived.Deep.RegionLaw
import Derived.Deep.AppendLies
namespace Go.Proofs.Ytiomdfhhejdoiaa
open Go.RowKit Go.Maps
/-- What l03Put gives: the same list, or one with the row in its place. -/
def PutQ (base : Nat) (u : Value) (Rs : List RowP) (x : RowP) (w : World) (e : Ending) (w' : World) : Prop :=
  (putHas (rowsP Rs) x.r = true ∧ e = .returned u ∧ ∃ n, w' = w.drewN n) ∨
  (putHas (rowsP Rs) x.r = false ∧ ∃ G cap, e = .returned (.slice (some ⟨G, 0, none⟩) (Rs.length + 1) cap) ∧ RowsM w' base (.slice (some ⟨G, 0, none⟩) (Rs.length + 1) cap) (insP Rs (putAt (rowsP Rs) x.r Rs.length) x) ∧ w.grownBy w' u.ownBlock ∧ (u.ownBlock = some G ∨ w.heap.size ≤ G))
theorem putHas_no {L : List (List Int)} {r : List Int} {m j : Nat} (hm : m = L.length) (hj : putAt L r m = j) (h : j = 0 ∨ ∃ k, j = k + 1 ∧ L[k]?.getD [] ≠ r) : putHas L r = false := by
  unfold putHas
  rw [← hm, hj]
  rcases h with rfl | ⟨k, rfl, h⟩
  · simp
  · rw [show decide (L[k + 1 - 1]?.getD [] = r) = false from decide_eq_false h]; simp
theorem putHas_yes {L : List (List Int)} {r : List Int} {m k : Nat} (hm : m = L.length) (hj : putAt L r m = k + 1) (h : L[k]?.getD [] = r) : putHas L r = true := by
  unfold putHas
  rw [← hm, hj]
  simp [h]
set_option maxRecDepth 100000 in
set_option maxHeartbeats 4000000 in
theorem l03Put_any (base : Nat) (u : Value) (Rs : List RowP) (x : RowP) (w : World) (hM : RowsM w base u Rs) (hbase : base ≤ w.heap.size) (hl : Rs.length ≤ 1000000) (hrl : ∀ y ∈ Rs, y.r.length ≤ 1100000) (hxl : x.r.length ≤ 1100000)
    (hx : OwnAtI w x.g x.r) (hxu : u.ownBlock ≠ some x.g) (hxn : x.g ∉ Rs.map RowP.g) (hxb : base ≤ x.g) :
    Calls Try.prog 94 #[u, x.hdr] w (PutQ base u Rs x w) := by
  have HM := Lib.hid hM
  obtain ⟨m, hm⟩ : ∃ m, m = Rs.length := ⟨_, rfl⟩
  have hmL : m = (rowsP Rs).length := by simp [rowsP, hm]
  have HML := Lib.hid hmL
  have HMR := Lib.hid hm
  obtain ⟨a, c, hu⟩ := hM.form
  rw [← hm] at hu hl
  have HHD := Lib.hid (show ∀ k : Nat, k < m → ∃ G y, Rs[k]? = some y ∧ a = some ⟨G, 0, none⟩ ∧ w.cell? ⟨G, k, none⟩ = some (.slice (some ⟨y.g, 0, none⟩) y.r.length y.c) ∧ IB w (.slice (some ⟨y.g, 0, none⟩) y.r.length y.c) y.r ∧ (rowsP Rs)[k]?.getD [] = y.r from fun k hk => by
    have hy : Rs[k]? = some Rs[k] := List.getElem?_eq_getElem (by omega)
    obtain ⟨G, c', e, hc, ho⟩ := hM.at_ hy
    rw [hu] at e
    simp at e
    exact ⟨G, _, hy, e.1, hc, RowP.ib ho (hrl _ (List.getElem_mem (by omega))), by simp [rowsP, hy]⟩)
  have HXI := Lib.hid (show IB w (.slice (some ⟨x.g, 0, none⟩) x.r.length x.c) x.r from RowP.ib hx hxl)
  have HX := Lib.hid (And.intro hx (And.intro hxu (And.intro hxn hxb)))
  have HE := Lib.hid hu
  show Calls Try.prog 94 #[u, .slice (some ⟨x.g, 0, none⟩) x.r.length x.c] w (PutQ base u Rs x w)
  obtain ⟨xn, hxn2⟩ : ∃ n, n = x.r.length := ⟨_, rfl⟩
  rw [← hxn2] at HXI ⊢
  have HXN := Lib.hid hxn2
  clear hM hm hmL hrl hxl hx hxu hxn hxb hxn2
  subst hu
  go_enter Try.func94, Try.ntmps94
  go_wp2_with fail
  go_loopw [5] (fun t wr => ∃ k n' : Nat, k ≤ m ∧ t = .int .i64 k ∧ wr = w.drewN n' ∧ Hid (putAt (rowsP Rs) x.r m = putAt (rowsP Rs) x.r k)) (fun t _ => (intOf t).toNat)
  case atStart => exact ⟨m, 0, Nat.le_refl _, rfl, rfl, Lib.hid rfl⟩
  case round =>
    obtain ⟨k, n', hk, rfl, rfl, HP⟩ := hrel
    rcases Nat.eq_zero_or_pos k with hk0 | hk0
    · have i1 : decide ((0 : Int) < (k : Int)) = false := decide_eq_false (by omega)
      have i2 : decide (0 < k) = false := decide_eq_false (by omega)
      have HAT := Lib.hid (show putAt (rowsP Rs) x.r m = k by rw [HP.out, hk0]; rfl)
      have HNO := Lib.hid (putHas_no HML.out HAT.out (.inl hk0))
      clear HP hk0
      go_upto_region 6 with (fail)
      obtain ⟨W1, hW1⟩ : ∃ W, W = w.drewN n' := ⟨_, rfl⟩
      have hBW : Below w.heap.size w W1 := by rw [hW1]; exact below_drewN (Below.refl _ _) _
      rw [← hW1]
      clear hW1 i1 i2
      have hM1 := HM.out.below hBW
      have hzW := hBW.size
      have HV := Lib.hid (hM1.own.below ((Below.refl W1.heap.size W1).alloc (Nat.le_refl _) (.cells #[.slice none 0 0] 26)) (Nat.le_refl _))
      have HGW := Lib.hid (gb_trans (gb_below hBW) (World.grownBy_alloc W1 (.cells #[.slice none 0 0] 26) none))
      have hlm : (Rs.map RowP.hdr).length = m := by rw [List.length_map, ← HMR.out]
      have hlm2 : (Rs.map RowP.hdr).length ≤ 1100000 := by omega
      have hkm : k ≤ (Rs.map RowP.hdr).length := by omega
      have HBW := Lib.hid hBW
      clear hBW hM1
      go_wp2_with (at_builtin; refine wpList_append_hdr rfl _ _ rfl base _ (Rs.map RowP.hdr) rfl HV.out W1.heap.size 1 rfl none 0 0 (by simp [go_sem]) hlm2 (by simp; omega) ?_; intro G' cap' w4 hV4 hg4 hat4; rw [hlm] at hV4 ⊢; have hG4 : (Value.slice a m c).ownBlock = some G' ∨ w.heap.size ≤ G' := (by rcases hat4 with h | h; exact .inl h; exact .inr (by rw [h]; simp; omega)); have HG4 := Lib.hid hG4; have HV4 := Lib.hid hV4; have HGB := Lib.hid (gb_trans HGW.out hg4); clear hV4 hg4 hat4 hG4)
      go_loopw [6] (fun t wr => ∃ q z, k ≤ q ∧ q ≤ m ∧ t = .int .i64 (q : Nat) ∧ RowsV wr base (.slice (some ⟨G', 0, none⟩) (m + 1) cap') (insV (Rs.map RowP.hdr) q z) ∧ w.grownBy wr (Value.slice a m c).ownBlock) (fun t _ => (intOf t).toNat)
      case atStart => exact ⟨m, .slice none 0 0, hk, Nat.le_refl _, by first | rfl | (congr 1; omega) | go_num, by have h := HV4.out; rw [← insV_end, hlm] at h; exact h, HGB.out⟩
      case round =>
        obtain ⟨q, z, hq1, hq2, rfl, hVq, hgq⟩ := hrel
        by_cases hqk : k < q
        · obtain ⟨q', hqq⟩ : ∃ q', q = q' + 1 := ⟨q - 1, by omega⟩
          obtain ⟨G2, y2, hy2, _, _, _, _⟩ := HHD.out q' (by omega)
          have hh : (Rs.map RowP.hdr)[q']? = some y2.hdr := by rw [List.getElem?_map, hy2]; rfl
          have hat := hVq.at_ (i := q') (x := y2.hdr) (by rw [hqq, insV_get _ _ _ (by omega)]; exact hh)
          obtain ⟨u0', _, u1, _, _⟩ := hat
          have u0 : wr.cell? ⟨G', q', none⟩ = some (.slice (some ⟨y2.g, 0, none⟩) y2.r.length y2.c) := u0'
          clear u0'
          have hst := hVq.setT (i := q) (x := y2.hdr)
          have hfr : wr.frozen? ⟨G', q, none⟩ = false := by
            rcases hVq.2 with ⟨h, _⟩ | ⟨g', cap2, cur, e, _, hcur, _⟩
            · cases h
            · simp at e
              obtain ⟨rfl, _⟩ := e
              simp [World.frozen?, hcur]
          obtain ⟨old, hold⟩ : ∃ v, wr.cell? ⟨G', q, none⟩ = some v := by
            have hh2 : (insV (Rs.map RowP.hdr) q z)[q]? = some z := by
              unfold insV
              rw [List.getElem?_append_right (by rw [List.length_take]; omega), List.length_take, Nat.min_eq_left (by omega), Nat.sub_self]
              rfl
            exact ⟨z, (hVq.at_ (i := q) (x := z) hh2).1⟩
          have HSH := Lib.hid (show RowsV (wr.setCell ⟨G', q, none⟩ (.slice (some ⟨y2.g, 0, none⟩) y2.r.length y2.c)) base (.slice (some ⟨G', 0, none⟩) (m + 1) cap') (insV (Rs.map RowP.hdr) q' (.slice (some ⟨y2.g, 0, none⟩) y2.r.length y2.c)) from by
            have h := hst.1
            rw [hqq, insV_shift _ _ _ _ (by omega) hh] at h
            rw [hqq]
            exact h)
          have HGS := Lib.hid (gb_store hgq HG4.out q (.slice (some ⟨y2.g, 0, none⟩) y2.r.length y2.c))
          have d1 : decide ((k : Int) < (q : Int)) = true := decide_eq_true (by omega)
          have d2 : decide (k < q) = true := decide_eq_true (by omega)
          have w1 : IntKind.i64.wrap ((q : Int) - 1) = (q' : Int) := by rw [IntWalk.i64_in _ (by omega)]; omega
          have w2 : (q : Int) - 1 = (q' : Int) := by omega
          have b0 : (0 : Int) ≤ (q' : Int) := by omega
          have b1 : (q' : Int) < (m : Int) + 1 := by omega
          have b2 : (0 : Int) ≤ (q : Int) := by omega
          have b3 : (q : Int) < (m : Int) + 1 := by omega
          have HQQ := Lib.hid hqq
          clear hst hVq hgq hh hy2 hqq
          go_wp2
          go_roundw
          case rel => exact ⟨q', _, by have := HQQ.out; omega, by have := HQQ.out; omega, by first | rfl | go_num, HSH.out, HGS.out⟩
          case measure => (have h1 := HQQ.out; simp [intOf]; omega)
        · have hqe : q = k := by omega
          have hst := hVq.setT (i := k) (x := .slice (some ⟨x.g, 0, none⟩) xn x.c)
          have hfr : wr.frozen? ⟨G', k, none⟩ = false := by
            rcases hVq.2 with ⟨h, _⟩ | ⟨g', cap2, cur, e, _, hcur, _⟩
            · cases h
            · simp at e
              obtain ⟨rfl, _⟩ := e
              simp [World.frozen?, hcur]
          obtain ⟨old, hold⟩ : ∃ v, wr.cell? ⟨G', k, none⟩ = some v := by
            have hh2 : (insV (Rs.map RowP.hdr) q z)[q]? = some z := by
              unfold insV
              rw [List.getElem?_append_right (by rw [List.length_take]; omega), List.length_take, Nat.min_eq_left (by omega), Nat.sub_self]
              rfl
            have := (hVq.at_ (i := q) (x := z) hh2).1
            rw [hqe] at this
            exact ⟨z, this⟩
          have HGS := Lib.hid (gb_store hgq HG4.out k (.slice (some ⟨x.g, 0, none⟩) xn x.c))
          have HSH := Lib.hid (show RowsV (wr.setCell ⟨G', k, none⟩ (.slice (some ⟨x.g, 0, none⟩) xn x.c)) base (.slice (some ⟨G', 0, none⟩) (m + 1) cap') (insV (Rs.map RowP.hdr) k (.slice (some ⟨x.g, 0, none⟩) xn x.c)) from by
            have h := hst.1
            rw [hqe, insV_set _ _ _ _ hkm] at h
            exact h)
          have d1 : decide ((k : Int) < (q : Int)) = false := decide_eq_false (by omega)
          have d2 : decide (k < q) = false := decide_eq_false (by omega)
          have b2 : (0 : Int) ≤ (k : Int) := by omega
          have b3 : (k : Int) < (m : Int) + 1 := by omega
          clear hst hVq hgq hqe
          go_wp2
          go_ret
          refine .inr ⟨HNO.out, G', cap', by rw [← HMR.out]; rfl, ?_, HGS.out, HG4.out⟩
          rw [← HMR.out, HAT.out]
          have hput := HM.out.put HX.out.1 HX.out.2.1 HX.out.2.2.1 HX.out.2.2.2 (by rw [← HMR.out, show RowP.hdr x = .slice (some ⟨x.g, 0, none⟩) xn x.c from by rw [HXN.out]; rfl]; exact HSH.out) HGS.out HG4.out
          rw [← HMR.out] at hput
          exact hput
    · obtain ⟨k', hkk⟩ : ∃ k', k = k' + 1 := ⟨k - 1, by omega⟩
      obtain ⟨G, y, hy, rfl, hcy, hiy, hry⟩ := HHD.out k' (by omega)
      have i1 : decide ((0 : Int) < (k : Int)) = true := decide_eq_true (by omega)
      have i2 : decide (0 < k) = true := decide_eq_true (by omega)
      have hwk : IntKind.i64.wrap ((k : Int) - 1) = (k' : Int) := by rw [IntWalk.i64_in _ (by omega)]; omega
      have hk1 : (k : Int) - 1 = (k' : Int) := by omega
      have g0 : (0 : Int) ≤ (k' : Int) := by omega
      have g1 : (k' : Int) < (m : Int) := by omega
      have HLS := Lib.hid fun W (hb : Below w.heap.size w W) => l03LessD_any _ _ x.r y.r W (HXI.out.below hb (Nat.le_refl _)) (hiy.below hb (Nat.le_refl _))
      have HSM := Lib.hid fun W (hb : Below w.heap.size w W) => l03SameD_any _ _ y.r x.r W (hiy.below hb (Nat.le_refl _)) (HXI.out.below hb (Nat.le_refl _))
      have hcy' : (w.drewN n').cell? ⟨G, k', none⟩ = some (.slice (some ⟨y.g, 0, none⟩) y.r.length y.c) := hcy
      cases hlx : lexL x.r y.r with
      | true =>
        rw [hlx] at HLS
        have HP2 := Lib.hid (show putAt (rowsP Rs) x.r m = putAt (rowsP Rs) x.r k' by rw [HP.out, hkk, putAt, hry, if_pos hlx])
        clear hlx hcy hiy hry hy
        go_wp2_with fail
        refine (HLS.out _ (below_drewN (Below.refl _ _) _)).mono ?_
        rintro e w1 ⟨rfl, n1, rfl⟩
        go_wp2
        go_roundw
        case rel => exact ⟨k', n' + n1, by omega, by first | rfl | go_num, by first | rfl | rw [drewN_add], HP2⟩
        case measure => simp [intOf]; omega
      | false =>
        rw [hlx] at HLS
        have HAT := Lib.hid (show putAt (rowsP Rs) x.r m = k by rw [HP.out, hkk, putAt, hry, if_neg (by rw [hlx]; decide)])
        by_cases hsame : y.r = x.r
        · rw [show decide (y.r = x.r) = true from decide_eq_true hsame] at HSM
          have HYES := Lib.hid (putHas_yes HML.out (HAT.out.trans hkk) (hry.trans hsame))
          clear hlx hiy hry hy hsame hkk HP
          go_wp2_with fail
          refine (HLS.out _ (below_drewN (Below.refl _ _) _)).mono ?_
          rintro e w1 ⟨rfl, n1, rfl⟩
          have hcy2 : (w.drewN (n' + n1)).cell? ⟨G, k', none⟩ = some (.slice (some ⟨y.g, 0, none⟩) y.r.length y.c) := hcy
          go_wp2_with fail
          refine (HSM.out _ (below_drewN (Below.refl _ _) _)).mono ?_
          rintro e w2 ⟨rfl, n2, rfl⟩
          go_wp2
          go_ret
          exact .inl ⟨HYES.out, rfl, _, by first | rfl | rw [drewN_add] | (rw [drewN_add, drewN_add])⟩
        · rw [show decide (y.r = x.r) = false from decide_eq_false hsame] at HSM
          have HNO := Lib.hid (putHas_no HML.out HAT.out (.inr ⟨k', hkk, by rw [hry]; exact hsame⟩))
          clear hlx hiy hry hy hsame hkk HP
          go_wp2_with fail
          refine (HLS.out _ (below_drewN (Below.refl _ _) _)).mono ?_
          rintro e w1 ⟨rfl, n1, rfl⟩
          have hcy2 : (w.drewN (n' + n1)).cell? ⟨G, k', none⟩ = some (.slice (some ⟨y.g, 0, none⟩) y.r.length y.c) := hcy
          go_wp2_with fail
          refine (HSM.out _ (below_drewN (Below.refl _ _) _)).mono ?_
          rintro e w2 ⟨rfl, n2, rfl⟩
          go_upto_region 6 with (fail)
          obtain ⟨W1, hW1⟩ : ∃ W, W = w.drewN (n' + n1 + n2) := ⟨_, rfl⟩
          have hBW : Below w.heap.size w W1 := by rw [hW1]; exact below_drewN (Below.refl _ _) _
          rw [← hW1]
          clear hW1 i1 i2 hwk hk1 g0 g1 hcy hcy' hcy2 HLS HSM
          have hM1 := HM.out.below hBW
          have hzW := hBW.size
          have HV := Lib.hid (hM1.own.below ((Below.refl W1.heap.size W1).alloc (Nat.le_refl _) (.cells #[.slice none 0 0] 26)) (Nat.le_refl _))
          have HGW := Lib.hid (gb_trans (gb_below hBW) (World.grownBy_alloc W1 (.cells #[.slice none 0 0] 26) none))
          have hlm : (Rs.map RowP.hdr).length = m := by rw [List.length_map, ← HMR.out]
          have hlm2 : (Rs.map RowP.hdr).length ≤ 1100000 := by omega
          have hkm : k ≤ (Rs.map RowP.hdr).length := by omega
          have HBW := Lib.hid hBW
          clear hBW hM1
          go_wp2_with (at_builtin; refine wpList_append_hdr rfl _ _ rfl base _ (Rs.map RowP.hdr) rfl HV.out W1.heap.size 1 rfl none 0 0 (by simp [go_sem]) hlm2 (by simp; omega) ?_; intro G' cap' w4 hV4 hg4 hat4; rw [hlm] at hV4 ⊢; have hG4 : (Value.slice (some ⟨G, 0, none⟩) m c).ownBlock = some G' ∨ w.heap.size ≤ G' := (by rcases hat4 with h | h; exact .inl h; exact .inr (by rw [h]; simp; omega)); have HG4 := Lib.hid hG4; have HV4 := Lib.hid hV4; have HGB := Lib.hid (gb_trans HGW.out hg4); clear hV4 hg4 hat4 hG4)
          go_loopw [6] (fun t wr => ∃ q z, k ≤ q ∧ q ≤ m ∧ t = .int .i64 (q : Nat) ∧ RowsV wr base (.slice (some ⟨G', 0, none⟩) (m + 1) cap') (insV (Rs.map RowP.hdr) q z) ∧ w.grownBy wr (Value.slice (some ⟨G, 0, none⟩) m c).ownBlock) (fun t _ => (intOf t).toNat)
          case atStart => exact ⟨m, .slice none 0 0, hk, Nat.le_refl _, by first | rfl | (congr 1; omega) | go_num, by have h := HV4.out; rw [← insV_end, hlm] at h; exact h, HGB.out⟩
          case round =>
            obtain ⟨q, z, hq1, hq2, rfl, hVq, hgq⟩ := hrel
            by_cases hqk : k < q
            · obtain ⟨q', hqq⟩ : ∃ q', q = q' + 1 := ⟨q - 1, by omega⟩
              obtain ⟨G2, y2, hy2, _, _, _, _⟩ := HHD.out q' (by omega)
              have hh : (Rs.map RowP.hdr)[q']? = some y2.hdr := by rw [List.getElem?_map, hy2]; rfl
              have hat := hVq.at_ (i := q') (x := y2.hdr) (by rw [hqq, insV_get _ _ _ (by omega)]; exact hh)
              obtain ⟨u0', _, u1, _, _⟩ := hat
              have u0 : wr.cell? ⟨G', q', none⟩ = some (.slice (some ⟨y2.g, 0, none⟩) y2.r.length y2.c) := u0'
              clear u0'
              have hst := hVq.setT (i := q) (x := y2.hdr)
              have hfr : wr.frozen? ⟨G', q, none⟩ = false := by
                rcases hVq.2 with ⟨h, _⟩ | ⟨g', cap2, cur, e, _, hcur, _⟩
                · cases h
                · simp at e
                  obtain ⟨rfl, _⟩ := e
                  simp [World.frozen?, hcur]
              obtain ⟨old, hold⟩ : ∃ v, wr.cell? ⟨G', q, none⟩ = some v := by
                have hh2 : (insV (Rs.map RowP.hdr) q z)[q]? = some z := by
                  unfold insV
                  rw [List.getElem?_append_right (by rw [List.length_take]; omega), List.length_take, Nat.min_eq_left (by omega), Nat.sub_self]
                  rfl
                exact ⟨z, (hVq.at_ (i := q) (x := z) hh2).1⟩
              have HSH := Lib.hid (show RowsV (wr.setCell ⟨G', q, none⟩ (.slice (some ⟨y2.g, 0, none⟩) y2.r.length y2.c)) base (.slice (some ⟨G', 0, none⟩) (m + 1) cap') (insV (Rs.map RowP.hdr) q' (.slice (some ⟨y2.g, 0, none⟩) y2.r.length y2.c)) from by
                have h := hst.1
                rw [hqq, insV_shift _ _ _ _ (by omega) hh] at h
                rw [hqq]
                exact h)
              have HGS := Lib.hid (gb_store hgq HG4.out q (.slice (some ⟨y2.g, 0, none⟩) y2.r.length y2.c))
              have d1 : decide ((k : Int) < (q : Int)) = true := decide_eq_true (by omega)
              have d2 : decide (k < q) = true := decide_eq_true (by omega)
              have w1 : IntKind.i64.wrap ((q : Int) - 1) = (q' : Int) := by rw [IntWalk.i64_in _ (by omega)]; omega
              have w2 : (q : Int) - 1 = (q' : Int) := by omega
              have b0 : (0 : Int) ≤ (q' : Int) := by omega
              have b1 : (q' : Int) < (m : Int) + 1 := by omega
              have b2 : (0 : Int) ≤ (q : Int) := by omega
              have b3 : (q : Int) < (m : Int) + 1 := by omega
              have HQQ := Lib.hid hqq
              clear hst hVq hgq hh hy2 hqq
              go_wp2
              go_roundw
              case rel => exact ⟨q', _, by have := HQQ.out; omega, by have := HQQ.out; omega, by first | rfl | go_num, HSH.out, HGS.out⟩
              case measure => (have h1 := HQQ.out; simp [intOf]; omega)
            · have hqe : q = k := by omega
              have hst := hVq.setT (i := k) (x := .slice (some ⟨x.g, 0, none⟩) xn x.c)
              have hfr : wr.frozen? ⟨G', k, none⟩ = false := by
                rcases hVq.2 with ⟨h, _⟩ | ⟨g', cap2, cur, e, _, hcur, _⟩
                · cases h
                · simp at e
                  obtain ⟨rfl, _⟩ := e
                  simp [World.frozen?, hcur]
              obtain ⟨old, hold⟩ : ∃ v, wr.cell? ⟨G', k, none⟩ = some v := by
                have hh2 : (insV (Rs.map RowP.hdr) q z)[q]? = some z := by
                  unfold insV
                  rw [List.getElem?_append_right (by rw [List.length_take]; omega), List.length_take, Nat.min_eq_left (by omega), Nat.sub_self]
                  rfl
                have := (hVq.at_ (i := q) (x := z) hh2).1
                rw [hqe] at this
                exact ⟨z, this⟩
              have HGS := Lib.hid (gb_store hgq HG4.out k (.slice (some ⟨x.g, 0, none⟩) xn x.c))
              have HSH := Lib.hid (show RowsV (wr.setCell ⟨G', k, none⟩ (.slice (some ⟨x.g, 0, none⟩) xn x.c)) base (.slice (some ⟨G', 0, none⟩) (m + 1) cap') (insV (Rs.map RowP.hdr) k (.slice (some ⟨x.g, 0, none⟩) xn x.c)) from by
                have h := hst.1
                rw [hqe, insV_set _ _ _ _ hkm] at h
                exact h)
              have d1 : decide ((k : Int) < (q : Int)) = false := decide_eq_false (by omega)
              have d2 : decide (k < q) = false := decide_eq_false (by omega)
              have b2 : (0 : Int) ≤ (k : Int) := by omega
              have b3 : (k : Int) < (m : Int) + 1 := by omega
              clear hst hVq hgq hqe
              go_wp2
              go_ret
              refine .inr ⟨HNO.out, G', cap', by rw [← HMR.out]; rfl, ?_, HGS.out, HG4.out⟩
              rw [← HMR.out, HAT.out]
              have hput := HM.out.put HX.out.1 HX.out.2.1 HX.out.2.2.1 HX.out.2.2.2 (by rw [← HMR.out, show RowP.hdr x = .slice (some ⟨x.g, 0, none⟩) xn x.c from by rw [HXN.out]; rfl]; exact HSH.out) HGS.out HG4.out
              rw [← HMR.out] at hput
              exact hput
end Go.Proofs.Ytiomdfhhejdoiaa

namespace Go.Proofs.Ytiomdfhhejdoiaa
/-- Ascending, each row once. -/
def AscR (L : List (List Int)) : Prop := L.Pairwise fun a b => lexL a b = true
theorem lexL_asym {p q : List Int} (h : lexL p q = true) : lexL q p = false := by
  cases e : lexL q p with
  | false => rfl
  | true =>
    have := lexL_trans h e
    rw [lexL_irr] at this
    cases this
theorem lexL_of_ne {p q : List Int} (h : lexL q p = false) (hne : p ≠ q) : lexL p q = true := by
  cases e : lexL p q with
  | true => rfl
  | false => exact absurd (lexL_eq p q e h) hne
theorem AscR.nodup {L : List (List Int)} (h : AscR L) : L.Nodup := List.Pairwise.imp (fun {a b} h e => by
  subst e
  rw [lexL_irr] at h
  cases h) h
theorem AscR.ext {L M : List (List Int)} (hL : AscR L) (hM : AscR M) (h : ∀ x, x ∈ L ↔ x ∈ M) : L = M := by
  have hp : L.Perm M := (List.perm_ext_iff_of_nodup hL.nodup hM.nodup).2 h
  exact hp.eq_of_pairwise (fun a b _ _ h1 h2 => by
    have := lexL_asym h1
    rw [h2] at this
    cases this) hL hM
theorem putAt_hi (L : List (List Int)) (r : List Int) : ∀ k i, putAt L r k ≤ i → i < k → lexL r (L[i]?.getD []) = true
  | 0, i, _, h => absurd h (Nat.not_lt_zero i)
  | k + 1, i, h1, h2 => by
    unfold putAt at h1
    by_cases hx : lexL r (L[k]?.getD []) = true
    · rw [if_pos hx] at h1
      by_cases e : i = k
      · rw [e]; exact hx
      · exact putAt_hi L r k i h1 (by omega)
    · rw [if_neg hx] at h1
      omega
theorem putAt_lo (L : List (List Int)) (r : List Int) : ∀ k j, putAt L r k = j + 1 → lexL r (L[j]?.getD []) = false
  | 0, j, h => by simp [putAt] at h
  | k + 1, j, h => by
    unfold putAt at h
    by_cases hx : lexL r (L[k]?.getD []) = true
    · rw [if_pos hx] at h
      exact putAt_lo L r k j h
    · rw [if_neg hx] at h
      obtain rfl : k = j := by omega
      simpa using hx
theorem take_before {L : List (List Int)} {r : List Int} (hL : AscR L) (hn : putHas L r = false) : ∀ x ∈ L.take (putAt L r L.length), lexL x r = true := by
  intro x hx
  have hle := putAt_le L r L.length
  obtain ⟨i, hi, rfl⟩ := List.mem_iff_getElem.1 hx
  rw [List.length_take] at hi
  obtain ⟨j, hj⟩ : ∃ j, putAt L r L.length = j + 1 := ⟨putAt L r L.length - 1, by omega⟩
  have hjl : j < L.length := by omega
  have hlo := putAt_lo L r _ j hj
  rw [List.getElem?_eq_getElem hjl, Option.getD_some] at hlo
  have hne : L[j] ≠ r := by
    intro e
    rw [putHas, hj] at hn
    simp [List.getElem?_eq_getElem hjl, e] at hn
  have hlast := lexL_of_ne hlo hne
  rw [List.getElem_take]
  by_cases e : i = j
  · subst e
    exact hlast
  · have hp := (List.pairwise_iff_getElem.1 hL) i j (by omega) hjl (by omega)
    exact lexL_trans hp hlast
theorem drop_behind {L : List (List Int)} {r : List Int} : ∀ x ∈ L.drop (putAt L r L.length), lexL r x = true := by
  intro x hx
  obtain ⟨i, hi, rfl⟩ := List.mem_iff_getElem.1 hx
  rw [List.length_drop] at hi
  rw [List.getElem_drop]
  have := putAt_hi L r L.length (putAt L r L.length + i) (by omega) (by omega)
  rw [List.getElem?_eq_getElem (by omega), Option.getD_some] at this
  exact this
theorem putL_asc {L : List (List Int)} (hL : AscR L) (r : List Int) : AscR (putL L r) := by
  unfold putL
  cases hn : putHas L r with
  | true => simpa using hL
  | false =>
    rw [if_neg (by decide)]
    have h1 := take_before hL hn
    have h2 := drop_behind (L := L) (r := r)
    refine List.pairwise_append.2 ⟨hL.sublist (List.take_sublist _ _), List.pairwise_cons.2 ⟨fun x hx => h2 x hx, hL.sublist (List.drop_sublist _ _)⟩, ?_⟩
    intro x hx y hy
    rcases List.mem_cons.1 hy with rfl | hy
    · exact h1 x hx
    · exact lexL_trans (h1 x hx) (h2 y hy)
theorem putL_mem {L : List (List Int)} {r x : List Int} : x ∈ putL L r ↔ x = r ∨ x ∈ L := by
  unfold putL
  cases hn : putHas L r with
  | true =>
    rw [if_pos rfl]
    refine ⟨.inr, fun h => h.elim (fun e => ?_) id⟩
    subst e
    simp only [putHas, Bool.and_eq_true, decide_eq_true_eq] at hn
    have hle := putAt_le L x L.length
    have := hn.2
    rw [List.getElem?_eq_getElem (by omega), Option.getD_some] at this
    rw [← this]
    exact List.getElem_mem _
  | false =>
    rw [if_neg (by decide), List.mem_append, List.mem_cons]
    have : x ∈ L ↔ x ∈ L.take (putAt L r L.length) ∨ x ∈ L.drop (putAt L r L.length) := by
      conv => lhs; rw [← List.take_append_drop (putAt L r L.length) L]
      rw [List.mem_append]
    rw [this]
    constructor
    · rintro (h | h | h)
      · exact .inr (.inl h)
      · exact .inl h
      · exact .inr (.inr h)
    · rintro (h | h | h)
      · exact .inr (.inl h)
      · exact .inl h
      · exact .inr (.inr h)
theorem putL_len (L : List (List Int)) (r : List Int) : (putL L r).length ≤ L.length + 1 := by
  have := putAt_le L r L.length
  unfold putL
  split
  · omega
  · simp
    omega
/-- The outline's list of the rows of a list. -/
def setR (Rs : List (List Int)) : List (List Int) := Rs.foldl putL []
theorem setR_snoc (Rs : List (List Int)) (r : List Int) : setR (Rs ++ [r]) = putL (setR Rs) r := by simp [setR]
theorem foldl_put {Rs : List (List Int)} : ∀ {L : List (List Int)}, AscR L → AscR (Rs.foldl putL L) ∧ (∀ x, x ∈ Rs.foldl putL L ↔ x ∈ Rs ∨ x ∈ L) ∧ (Rs.foldl putL L).length ≤ L.length + Rs.length := by
  induction Rs with
  | nil => exact fun hL => ⟨hL, fun x => by simp, by simp⟩
  | cons r Rs ih =>
    intro L hL
    obtain ⟨h1, h2, h3⟩ := ih (putL_asc hL r)
    refine ⟨h1, fun x => ?_, ?_⟩
    · rw [List.foldl_cons, h2 x, putL_mem, List.mem_cons]
      constructor
      · rintro (h | h | h)
        · exact .inl (.inr h)
        · exact .inl (.inl h)
        · exact .inr h
      · rintro ((h | h) | h)
        · exact .inr (.inl h)
        · exact .inl h
        · exact .inr (.inr h)
    · have := putL_len L r
      rw [List.foldl_cons, List.length_cons]
      omega
theorem setR_asc (Rs : List (List Int)) : AscR (setR Rs) := (foldl_put (Rs := Rs) (L := []) List.Pairwise.nil).1
theorem setR_mem {Rs : List (List Int)} {x : List Int} : x ∈ setR Rs ↔ x ∈ Rs := by
  have := (foldl_put (Rs := Rs) (L := []) List.Pairwise.nil).2.1 x
  simpa [setR] using this
theorem setR_len (Rs : List (List Int)) : (setR Rs).length ≤ Rs.length := by
  have := (foldl_put (Rs := Rs) (L := []) List.Pairwise.nil).2.2
  simpa [setR] using this
theorem setR_of {Rs L : List (List Int)} (hL : AscR L) (h : ∀ x, x ∈ L ↔ x ∈ Rs) : setR Rs = L := (setR_asc Rs).ext hL fun x => by rw [setR_mem, h]
end Go.Proofs.Ytiomdfhhejdoiaa

namespace Go.Proofs.Ytiomdfhhejdoiaa
open Go.RowKit Go.Maps
/-- How many elements rows of these lengths hold, the first k of them. -/
def totL (l : Nat → Nat) : Nat → Nat
  | 0 => 0
  | k + 1 => totL l k + l k
theorem totL_le (l : Nat → Nat) {j n : Nat} (h : j ≤ n) : totL l j ≤ totL l n := by
  induction h with
  | refl => exact Nat.le_refl _
  | step _ ih => exact Nat.le_trans ih (by simp [totL])
/-- A slice of n slices of these lengths. -/
def HeadS (w : World) (s : Value) (n : Nat) (l : Nat → Nat) : Prop :=
  (n = 0 ∧ ∃ a c, s = .slice a 0 c) ∨ ∃ b off cap, s = .slice (some ⟨b, off, none⟩) n cap ∧ ∀ k, k < n → (l k : Int) ≤ 9223372036854775807 ∧ ∃ a c, w.cell? ⟨b, off + k, none⟩ = some (.slice a (l k) c)
theorem HeadS.slice {w : World} {s : Value} {n : Nat} {l : Nat → Nat} (h : HeadS w s n l) : ∃ a c, s = .slice a n c := by
  rcases h with ⟨rfl, a, c, rfl⟩ | ⟨b, off, cap, rfl, _⟩ <;> exact ⟨_, _, rfl⟩
end Go.Proofs.Ytiomdfhhejdoiaa

namespace Go.Proofs.Ytiomdfhhejdoiaa
open Go.RowKit Go.Maps
theorem mkRows (n : Nat) (hn : n ≤ 1100000) (W : World) : (Instr.makeSlice 44 (.int .i64 (n : Int)) (.int .i64 (n : Int))).run Try.prog W = .ok (.slice (some ⟨W.heap.size, 0, none⟩) n n) (W.alloc (.cells (madeCells #[.slice none 0 0] n) 26)) := by
  obtain ⟨i0, hi, hz0, hz1, hz2⟩ := info_parts infoRow
  have hr := run_make (P := Try.prog) W 44 26 i0 (.slice none 0 0) Try.underlying44 hi hz0 .i64 .i64 n n (by omega) (by omega) (by rw [hz2]; omega) (by omega)
  simp only [Int.toNat_natCast, hz1, Nat.mul_one] at hr
  exact hr
end Go.Proofs.Ytiomdfhhejdoiaa

namespace Go.Proofs.Ytiomdfhhejdoiaa
section
variable {X : Type} (f g : X → X) (S : X → Prop)
/-- The k-th point of the walk: by f first, then by g, and so on. -/
def stepN (p : X) : Nat → X
  | 0 => p
  | k + 1 => if k % 2 = 0 then f (stepN p k) else g (stepN p k)
/-- Two involutions of a set that have no fixed point and nowhere agree. -/
structure Two : Prop where
  fin : ∀ x, S x → S (f x)
  gin : ∀ x, S x → S (g x)
  ff : ∀ x, S x → f (f x) = x
  gg : ∀ x, S x → g (g x) = x
  fne : ∀ x, S x → f x ≠ x
  gne : ∀ x, S x → g x ≠ x
  fg : ∀ x, S x → f x ≠ g x
variable {f g S}
theorem Two.mem (h : Two f g S) {p : X} (hp : S p) : ∀ k, S (stepN f g p k)
  | 0 => hp
  | k + 1 => by
    unfold stepN
    split
    · exact h.fin _ (h.mem hp k)
    · exact h.gin _ (h.mem hp k)
/-- A step back. -/
theorem Two.back (h : Two f g S) {p : X} (hp : S p) (k : Nat) : (if k % 2 = 0 then f (stepN f g p (k + 1)) else g (stepN f g p (k + 1))) = stepN f g p k := by
  have hk := h.mem hp k
  show (if k % 2 = 0 then f (if k % 2 = 0 then f (stepN f g p k) else g (stepN f g p k)) else g (if k % 2 = 0 then f (stepN f g p k) else g (stepN f g p k))) = stepN f g p k
  split
  · exact h.ff _ hk
  · exact h.gg _ hk
/-- Until k no point comes twice. -/
def Fresh (f g : X → X) (p : X) (k : Nat) : Prop := ∀ i j, i < j → j < k → stepN f g p i ≠ stepN f g p j
/-- The first point that comes again is the first one, behind a step by g. -/
theorem Two.first (h : Two f g S) {p : X} (hp : S p) {j i : Nat} (hf : Fresh f g p j) (hij : i < j) (he : stepN f g p j = stepN f g p i) : i = 0 ∧ j % 2 = 0 := by
  obtain ⟨m, rfl⟩ : ∃ m, j = m + 1 := ⟨j - 1, by omega⟩
  have hb := h.back hp m
  rw [he] at hb
  -- the neighbours of the i-th point
  by_cases hi : i = 0
  · subst hi
    refine ⟨rfl, ?_⟩
    apply Classical.byContradiction
    intro hodd
    rw [if_pos (by omega)] at hb
    -- f p is the first point, and the m-th
    have h1 : stepN f g p 1 = f (stepN f g p 0) := rfl
    rw [← h1] at hb
    rcases Nat.eq_zero_or_pos m with rfl | hm
    · exact h.fne _ (h.mem hp 0) (hb : f (stepN f g p 0) = stepN f g p 0)
    · rcases Nat.lt_or_ge 1 m with h2 | h2
      · exact hf 1 m h2 (by omega) hb
      · omega
  · exfalso
    obtain ⟨l, rfl⟩ : ∃ l, i = l + 1 := ⟨i - 1, by omega⟩
    have hback := h.back hp l
    have hnext : stepN f g p (l + 1 + 1) = if (l + 1) % 2 = 0 then f (stepN f g p (l + 1)) else g (stepN f g p (l + 1)) := rfl
    by_cases hpar : l % 2 = m % 2
    · -- the same kind of step: the m-th is the l-th
      have : stepN f g p m = stepN f g p l := by
        rw [← hb, ← hback]
        simp only [hpar]
      exact hf l m (by omega) (by omega) this.symm
    · have hq : stepN f g p m = stepN f g p (l + 1 + 1) := by
        rw [← hb, hnext]
        by_cases e : m % 2 = 0
        · rw [if_pos e, if_pos (by omega)]
        · rw [if_neg e, if_neg (by omega)]
      rcases Nat.lt_or_ge (l + 1 + 1) m with h2 | h2
      · exact hf (l + 1 + 1) m h2 (by omega) hq.symm
      · rcases Nat.eq_or_lt_of_le h2 with h3 | h3
        · -- m = l + 2: the kinds are the same
          omega
        · -- m = l + 1: a fixed point
          have hm : m = l + 1 := by omega
          subst hm
          have hx := h.mem hp (l + 1)
          rw [hnext] at hq
          split at hq
          · exact h.fne _ hx hq.symm
          · exact h.gne _ hx hq.symm
/-- There is a first point that comes again: within as many steps as the set has points. -/
theorem fresh_len {p : X} {l : List X} (hl : ∀ k, stepN f g p k ∈ l) {k : Nat} (hf : Fresh f g p k) : k ≤ l.length := by
  have hn : ((List.range k).map (stepN f g p)).Nodup := by
    rw [List.Nodup, List.pairwise_map]
    exact List.pairwise_lt_range.imp_of_mem fun {a b} _ hb hab e => hf a b hab (List.mem_range.1 hb) e
  have := List.Nodup.length_le_of_subset hn (l₂ := l) (fun x hx => by obtain ⟨i, _, rfl⟩ := List.mem_map.1 hx; exact hl i)
  simpa using this
theorem fresh_zero (p : X) : Fresh f g p 0 := fun _ _ _ h => absurd h (Nat.not_lt_zero _)
theorem fresh_succ {p : X} {k : Nat} (hf : Fresh f g p k) (h : ∀ i, i < k → stepN f g p k ≠ stepN f g p i) : Fresh f g p (k + 1) := fun i j hij hj => by
  rcases Nat.lt_or_ge j k with h1 | h1
  · exact hf i j hij h1
  · obtain rfl : j = k := by omega
    exact fun e => h i hij e.symm
/-- The period. -/
theorem Two.period (h : Two f g S) {p : X} (hp : S p) {l : List X} (hl : ∀ x, S x → x ∈ l) : ∃ N, 0 < N ∧ N % 2 = 0 ∧ N ≤ l.length ∧ Fresh f g p N ∧ stepN f g p N = p := by
  have hs : ∀ n k, l.length + 1 - k ≤ n → Fresh f g p k → 0 < k → ∃ N, 0 < N ∧ N % 2 = 0 ∧ N ≤ l.length ∧ Fresh f g p N ∧ stepN f g p N = p := by
    intro n
    induction n with
    | zero =>
      intro k hk hf _
      have := fresh_len (l := l) (fun k => hl _ (h.mem hp k)) hf
      omega
    | succ n ih =>
      intro k hk hf h0
      by_cases hc : ∃ i, i < k ∧ stepN f g p k = stepN f g p i
      · obtain ⟨i, hi, he⟩ := hc
        obtain ⟨rfl, h2⟩ := h.first hp hf hi he
        exact ⟨k, h0, h2, fresh_len (l := l) (fun k => hl _ (h.mem hp k)) hf, hf, he⟩
      · refine ih (k + 1) (by omega) (fresh_succ hf fun i hi e => hc ⟨i, hi, e⟩) (by omega)
  exact hs _ 1 (Nat.le_refl _) (fun i j hij hj => by omega) (by decide)
/-- The points of a cycle are closed under both. -/
theorem Two.closed (h : Two f g S) {p : X} (hp : S p) {N : Nat} (h0 : 0 < N) (h2 : N % 2 = 0) (he : stepN f g p N = p) {k : Nat} (hk : k < N) : (∃ i, i < N ∧ f (stepN f g p k) = stepN f g p i) ∧ ∃ i, i < N ∧ g (stepN f g p k) = stepN f g p i := by
  by_cases hk2 : k % 2 = 0
  · refine ⟨⟨k + 1, by omega, by show _ = (if k % 2 = 0 then _ else _); rw [if_pos hk2]⟩, ?_⟩
    rcases Nat.eq_zero_or_pos k with rfl | h1
    · refine ⟨N - 1, by omega, ?_⟩
      have hb := h.back hp (N - 1)
      rw [show N - 1 + 1 = N by omega, he, if_neg (by omega)] at hb
      exact hb
    · refine ⟨k - 1, by omega, ?_⟩
      have hb := h.back hp (k - 1)
      rw [show k - 1 + 1 = k by omega, if_neg (by omega)] at hb
      exact hb
  · constructor
    · refine ⟨k - 1, by omega, ?_⟩
      have hb := h.back hp (k - 1)
      rw [show k - 1 + 1 = k by omega, if_pos (by omega)] at hb
      exact hb
    · rcases Nat.lt_or_ge (k + 1) N with h3 | h3
      · exact ⟨k + 1, h3, by show _ = (if k % 2 = 0 then _ else _); rw [if_neg hk2]⟩
      · have hN : k + 1 = N := by omega
        have hst : stepN f g p (k + 1) = g (stepN f g p k) := by
          show (if k % 2 = 0 then _ else _) = _
          rw [if_neg hk2]
        refine ⟨0, h0, ?_⟩
        rw [← hst, hN, he]
        rfl
end
end Go.Proofs.Ytiomdfhhejdoiaa

namespace Go.Proofs.Ytiomdfhhejdoiaa
def pairsV (n : Nat) : List (Int × Int) := (List.range n).flatMap fun (b : Nat) => (List.range b).map fun (a : Nat) => ((a : Int), (b : Int))
theorem pairsV_len : ∀ n : Fin 16, 2 * (pairsV n.val).length = n.val * (n.val - 1) := by decide +kernel
theorem mem_pairsV {n : Nat} {a b : Int} : (a, b) ∈ pairsV n ↔ 0 ≤ a ∧ a < b ∧ b < (n : Int) := by
  simp only [pairsV, List.mem_flatMap, List.mem_range, List.mem_map, Prod.mk.injEq]
  constructor
  · rintro ⟨b', hb, a', ha, rfl, rfl⟩
    omega
  · rintro ⟨h0, h1, h2⟩
    exact ⟨b.toNat, by omega, a.toNat, by omega, by omega, by omega⟩
theorem full_pair {n : Nat} {bs : List Blk} (h : isSysImpl (n : Int) bs = true) (hf : fullB (n : Int) bs = true) {a b : Int} (h0 : 0 ≤ a) (h1 : a < b) (h2 : b < (n : Int)) : (a, b) ∈ prs bs := by
  obtain ⟨h3, h15, hg, _⟩ := sys_parts h
  have hl := pairsV_len ⟨n, by omega⟩
  simp only at hl
  simp only [fullB, decide_eq_true_eq] at hf
  refine sub_back (prs_nodup h) (m := pairsV n) ?_ ?_ (a, b) (mem_pairsV.2 ⟨h0, h1, h2⟩)
  · rintro ⟨p, q⟩ hp
    obtain ⟨x, hx, hp⟩ := List.mem_flatMap.1 hp
    have := goodB_iff.1 (hg x hx)
    simp only [pairsL, List.mem_cons, List.not_mem_nil, or_false, Prod.mk.injEq] at hp
    rw [mem_pairsV]
    omega
  · rw [prs_length]
    have e : ((n * (n - 1) : Nat) : Int) = (n : Int) * ((n : Int) - 1) := by
      have : ((n - 1 : Nat) : Int) = (n : Int) - 1 := by omega
      rw [Int.natCast_mul, this]
    rw [← e] at hf
    omega
theorem flat_unique {α β : Type} {f : α → List β} : ∀ {l : List α}, (l.flatMap f).Nodup → ∀ {x y : α} {p : β}, x ∈ l → y ∈ l → p ∈ f x → p ∈ f y → x = y
  | [], _, _, _, _, hx, _, _, _ => by cases hx
  | z :: r, hn, x, y, p, hx, hy, hp, hq => by
    rw [List.flatMap_cons, List.nodup_append] at hn
    obtain ⟨_, h2, h3⟩ := hn
    rcases List.mem_cons.1 hx with ex | hx'
    · rcases List.mem_cons.1 hy with ey | hy'
      · rw [ex, ey]
      · exact absurd rfl (h3 p (ex ▸ hp) p (List.mem_flatMap.2 ⟨y, hy', hq⟩))
    · rcases List.mem_cons.1 hy with ey | hy'
      · exact absurd rfl (h3 p (ey ▸ hq) p (List.mem_flatMap.2 ⟨x, hx', hp⟩))
      · exact flat_unique h2 hx' hy' hp hq
/-- Three points of a block. -/
def Tri (bs : List Blk) (a b c : Int) : Prop := ∃ x ∈ bs, hasB x a = true ∧ hasB x b = true ∧ hasB x c = true ∧ a ≠ b ∧ b ≠ c ∧ a ≠ c
theorem Tri.swap {bs : List Blk} {a b c : Int} (h : Tri bs a b c) : Tri bs b a c := by
  obtain ⟨x, hx, h1, h2, h3, h4, h5, h6⟩ := h
  exact ⟨x, hx, h2, h1, h3, fun e => h4 e.symm, h6, h5⟩
theorem Tri.turn {bs : List Blk} {a b c : Int} (h : Tri bs a b c) : Tri bs a c b := by
  obtain ⟨x, hx, h1, h2, h3, h4, h5, h6⟩ := h
  exact ⟨x, hx, h1, h3, h2, h6, fun e => h5 e.symm, h4⟩
theorem both_or {v : Int} {x : Blk} (hg : goodB v x = true) {a b : Int} (hab : a ≠ b) : bothB a b x = true ↔ ((if a < b then (a, b) else (b, a)) ∈ pairsL x) := by
  obtain ⟨h1, h2, h3, h4⟩ := goodB_iff.1 hg
  unfold bothB hasB pairsL
  split
  · simp only [Bool.and_eq_true, Bool.or_eq_true, decide_eq_true_iff, List.mem_cons, List.mem_nil_iff, or_false, Prod.mk.injEq]
    omega
  · simp only [Bool.and_eq_true, Bool.or_eq_true, decide_eq_true_iff, List.mem_cons, List.mem_nil_iff, or_false, Prod.mk.injEq]
    omega
section
variable {n : Nat} {bs : List Blk}
theorem tri_has {x : Blk} {v a b c : Int} (hg : goodB v x = true) (ha : hasB x a = true) (hb : hasB x b = true) (hc : hasB x c = true) (h1 : a ≠ b) (h2 : b ≠ c) (h3 : a ≠ c) : thirdOf x a b = c := by
  have := goodB_iff.1 hg
  unfold hasB at ha hb hc
  unfold thirdOf
  simp at ha hb hc
  omega
theorem third_has {x : Blk} {v a b : Int} (hg : goodB v x = true) (ha : hasB x a = true) (hb : hasB x b = true) (h1 : a ≠ b) : hasB x (thirdOf x a b) = true ∧ b ≠ thirdOf x a b ∧ a ≠ thirdOf x a b := by
  have := goodB_iff.1 hg
  unfold hasB at ha hb ⊢
  unfold thirdOf
  simp at ha hb ⊢
  omega
/-- The third point of two that are in a block. -/
theorem third1_of (h : isSysImpl (n : Int) bs = true) {a b c : Int} (ht : Tri bs a b c) : third1 bs a b = c := by
  obtain ⟨x, hx, h1, h2, h3, h4, h5, h6⟩ := ht
  have hg := (sys_parts h).2.2.1
  have hbx : bothB a b x = true := by simp [bothB, h1, h2]
  unfold third1
  cases hf : bs.find? (bothB a b) with
  | none => exact absurd hbx (by simpa using List.find?_eq_none.1 hf x hx)
  | some y =>
    have hy := List.mem_of_find?_eq_some hf
    have hby := List.find?_some hf
    have : x = y := flat_unique (prs_nodup h) hx hy ((both_or (hg x hx) h4).1 hbx) ((both_or (hg y hy) h4).1 hby)
    subst this
    exact tri_has (hg x hx) h1 h2 h3 h4 h5 h6
theorem tri_third (h : isSysImpl (n : Int) bs = true) (hf : fullB (n : Int) bs = true) {a b : Int} (ha : 0 ≤ a ∧ a < (n : Int)) (hb : 0 ≤ b ∧ b < (n : Int)) (hab : a ≠ b) : Tri bs a b (third1 bs a b) := by
  have hg := (sys_parts h).2.2.1
  have hp : (if a < b then (a, b) else (b, a)) ∈ prs bs := by
    split
    · exact full_pair h hf ha.1 (by omega) hb.2
    · exact full_pair h hf hb.1 (by omega) ha.2
  obtain ⟨x, hx, hp⟩ := List.mem_flatMap.1 hp
  have hb2 := (both_or (hg x hx) hab).2 hp
  simp only [bothB, Bool.and_eq_true] at hb2
  obtain ⟨h1, h2, h3⟩ := third_has (hg x hx) hb2.1 hb2.2 hab
  have ht : Tri bs a b (thirdOf x a b) := ⟨x, hx, hb2.1, hb2.2, h1, hab, h2, h3⟩
  rw [third1_of h ht]
  exact ht
theorem Tri.range (h : isSysImpl (n : Int) bs = true) {a b c : Int} (ht : Tri bs a b c) : 0 ≤ c ∧ c < (n : Int) := by
  obtain ⟨x, hx, _, _, h3, _⟩ := ht
  have := goodB_iff.1 ((sys_parts h).2.2.1 x hx)
  unfold hasB at h3
  simp at h3
  omega
/-- The points beyond a, b and their third. -/
def Beyond (n : Nat) (bs : List Blk) (a b : Int) (x : Int) : Prop := (0 ≤ x ∧ x < (n : Int)) ∧ x ≠ a ∧ x ≠ b ∧ x ≠ third1 bs a b
theorem beyond_in (h : isSysImpl (n : Int) bs = true) (hf : fullB (n : Int) bs = true) {a b : Int} (ha : 0 ≤ a ∧ a < (n : Int)) (hb : 0 ≤ b ∧ b < (n : Int)) (hab : a ≠ b) {x : Int} (hx : Beyond n bs a b x) : Beyond n bs a b (third1 bs a x) := by
  obtain ⟨hr, hxa, hxb, hxc⟩ := hx
  have ht := tri_third h hf ha hr (fun e => hxa e.symm)
  have hab3 := tri_third h hf ha hb hab
  obtain ⟨_, _, _, _, _, h4, h5, h6⟩ := id ht
  refine ⟨ht.range h, fun e => h6 e.symm, fun e => ?_, fun e => ?_⟩
  · -- b is the third of a and x: x is that of a and b
    have := third1_of h ht.turn
    rw [e] at this
    exact hxc this.symm
  · -- the same third point: x is b
    have h1 := third1_of h ht.turn
    have h2 := third1_of h hab3.turn
    rw [e] at h1
    rw [h1] at h2
    exact hxb h2
theorem two_thirds (h : isSysImpl (n : Int) bs = true) (hf : fullB (n : Int) bs = true) {a b : Int} (ha : 0 ≤ a ∧ a < (n : Int)) (hb : 0 ≤ b ∧ b < (n : Int)) (hab : a ≠ b) : Two (third1 bs a) (third1 bs b) (Beyond n bs a b) where
  fin := fun x hx => beyond_in h hf ha hb hab hx
  gin := fun x hx => by
    have hs : third1 bs b a = third1 bs a b := third1_of h (tri_third h hf ha hb hab).swap
    have hx' : Beyond n bs b a x := ⟨hx.1, hx.2.2.1, hx.2.1, by rw [hs]; exact hx.2.2.2⟩
    obtain ⟨h1, h2, h3, h4⟩ := beyond_in h hf hb ha (fun e => hab e.symm) hx'
    exact ⟨h1, h3, h2, by rw [← hs]; exact h4⟩
  ff := fun x hx => third1_of h (tri_third h hf ha hx.1 (fun e => hx.2.1 e.symm)).turn
  gg := fun x hx => third1_of h (tri_third h hf hb hx.1 (fun e => hx.2.2.1 e.symm)).turn
  fne := fun x hx => by
    obtain ⟨_, _, _, _, _, _, h5, _⟩ := tri_third h hf ha hx.1 (fun e => hx.2.1 e.symm)
    exact fun e => h5 e.symm
  gne := fun x hx => by
    obtain ⟨_, _, _, _, _, _, h5, _⟩ := tri_third h hf hb hx.1 (fun e => hx.2.2.1 e.symm)
    exact fun e => h5 e.symm
  fg := fun x hx e => by
    have h1 := tri_third h hf ha hx.1 (fun e => hx.2.1 e.symm)
    have h2 := tri_third h hf hb hx.1 (fun e => hx.2.2.1 e.symm)
    have e1 := third1_of h h1.swap.turn
    have e2 := third1_of h h2.swap.turn
    rw [e] at e1
    rw [e1] at e2
    exact hab e2
end
end Go.Proofs.Ytiomdfhhejdoiaa

namespace Go.Proofs.Ytiomdfhhejdoiaa
open Go.RowKit Go.Maps
def rowT (n : Nat) (T : Nat → Nat → Int) (j : Nat) : List Int := (List.range n).map (T j)
def setT (T : Nat → Nat → Int) (i q : Nat) (z : Int) : Nat → Nat → Int := fun j p => if j = i ∧ p = q then z else T j p
theorem rowT_len (n : Nat) (T : Nat → Nat → Int) (j : Nat) : (rowT n T j).length = n := by simp [rowT]
theorem rowT_at {n : Nat} (T : Nat → Nat → Int) (j : Nat) {q : Nat} (h : q < n) : (rowT n T j)[q]?.getD 0 = T j q := by simp [rowT, h]
theorem rowT_congr {n : Nat} {T T' : Nat → Nat → Int} {j : Nat} (h : ∀ q, q < n → T j q = T' j q) : rowT n T j = rowT n T' j :=
  List.map_congr_left fun q hq => h q (List.mem_range.1 hq)
theorem rowT_zero (n j : Nat) : rowT n (fun _ _ => 0) j = List.replicate n 0 := by
  unfold rowT
  rw [List.map_const', List.length_range]
section
variable {w : World} {lo G : Nat} {gs caps : Nat → Nat} {n : Nat}
theorem SSR.inj {F : Nat → List Int} (h : SSR w lo G gs caps n F) {i j : Nat} (hi : i < n) (hj : j < n) (hij : i ≠ j) : gs i ≠ gs j := by
  rcases Nat.lt_or_ge i j with h1 | h1
  · exact h.inc i j h1 hj
  · exact (h.inc j i (by omega) hi).symm
theorem SSR.setT {T : Nat → Nat → Int} (h : SSR w lo G gs caps n (rowT n T)) {i q : Nat} (hi : i < n) (hq : q < n) (z : Int) : SSR (w.setCell ⟨gs i, q, none⟩ (.int .i64 z)) lo G gs caps n (rowT n (setT T i q z)) := by
  have hst := only_setCell (only_refl w (some (gs i))) (p := ⟨gs i, q, none⟩) rfl (.int .i64 z)
  refine ⟨fun k hk => ?_, fun k hk => ?_, h.ne, h.inc, h.low, by have := h.lt; simpa [World.setCell] using this⟩
  · have := hst.cell (h.cell k hk) (fun e => h.ne i hi (by cases e; rfl))
    rw [rowT_len] at this ⊢
    exact this
  · by_cases e : k = i
    · subst e
      have ho := h.row k hk
      refine ⟨by have := ho.lt; simpa [World.setCell] using this, fun p hp => ?_, fun o => by rw [World.frozen?_setCell]; exact ho.free o⟩
      rw [rowT_len] at hp
      have hc := ho.at_ p (by rw [rowT_len]; exact hp)
      have hcq := ho.at_ q (by rw [rowT_len]; exact hq)
      rw [rowT_at _ _ hp]
      rw [Nat.zero_add] at hc hcq ⊢
      by_cases e2 : p = q
      · subst e2
        rw [World.cell?_setCell_same' _ _ _ (by rw [hcq]; rfl)]
        simp [Go.Proofs.Ytiomdfhhejdoiaa.setT]
      · rw [World.cell?_setCell_other _ _ _ _ (by simp <;> omega), hc, rowT_at _ _ hp]
        simp [Go.Proofs.Ytiomdfhhejdoiaa.setT, e2]
    · have := (h.row k hk).kept hst (by have := h.inj hk hi e; simpa using this)
      rw [rowT_congr (T' := T) (fun p _ => by simp [Go.Proofs.Ytiomdfhhejdoiaa.setT, e])]
      exact this
end
/-- The table, and the block that is looked at. -/
structure TBx (W1 W : World) (lo G Bb : Nat) (gs caps : Nat → Nat) (n : Nat) (T : Nat → Nat → Int) (p q r : Nat) : Prop where
  below : Below lo W1 W
  tab : SSR W lo G gs caps n (rowT n T)
  c0 : W.cell? ⟨Bb, 0, none⟩ = some (.int .i64 (p : Int))
  c1 : W.cell? ⟨Bb, 1, none⟩ = some (.int .i64 (q : Int))
  c2 : W.cell? ⟨Bb, 2, none⟩ = some (.int .i64 (r : Int))
  bb : ∀ j, j < n → gs j < Bb
theorem TBx.step {W1 W : World} {lo G Bb : Nat} {gs caps : Nat → Nat} {n : Nat} {T : Nat → Nat → Int} {p q r : Nat} (h : TBx W1 W lo G Bb gs caps n T p q r) {i k : Nat} (hi : i < n) (hk : k < n) (z : Int) :
    TBx W1 (W.setCell ⟨gs i, k, none⟩ (.int .i64 z)).drew lo G Bb gs caps n (setT T i k z) p q r := by
  show TBx W1 (W.drew.setCell ⟨gs i, k, none⟩ (.int .i64 z)) lo G Bb gs caps n (setT T i k z) p q r
  have hbb := h.bb i hi
  have ht : SSR W.drew lo G gs caps n (rowT n T) := ⟨h.tab.cell, fun k hk => ⟨(h.tab.row k hk).lt, (h.tab.row k hk).at_, (h.tab.row k hk).free⟩, h.tab.ne, h.tab.inc, h.tab.low, h.tab.lt⟩
  refine ⟨(h.below.drew).setCell (p := ⟨gs i, k, none⟩) (h.tab.low i hi) _, ht.setT hi hk z, ?_, ?_, ?_, h.bb⟩
  · rw [World.cell?_setCell_other _ _ _ _ (by simp <;> omega)]; exact h.c0
  · rw [World.cell?_setCell_other _ _ _ _ (by simp <;> omega)]; exact h.c1
  · rw [World.cell?_setCell_other _ _ _ _ (by simp <;> omega)]; exact h.c2
/-- The table after some blocks. -/
def tabI (bs : List Blk) (a b : Int) : Int := if a = b then 0 else match bs.find? (bothB a b) with | some x => thirdOf x a b | none => 0
def tabN (bs : List Blk) (j q : Nat) : Int := tabI bs (j : Int) (q : Int)
theorem tabI_snoc {n : Nat} {bs : List Blk} (h : isSysImpl (n : Int) bs = true) {m : Nat} {x : Blk} (hm : m < bs.length) (hx : bs[m]? = some x) (a b : Int) :
    tabI (bs.take (m + 1)) a b = if a ≠ b ∧ bothB a b x = true then thirdOf x a b else tabI (bs.take m) a b := by
  have e : bs[m] = x := by
    rw [List.getElem?_eq_getElem hm] at hx
    simpa using hx
  have hxm : x ∈ bs := by rw [← e]; exact List.getElem_mem _
  have hg := (sys_parts h).2.2.1
  unfold tabI
  by_cases hab : a = b
  · simp [hab]
  · rw [if_neg hab, if_neg hab, List.take_succ_eq_append_getElem hm, e, List.find?_append]
    cases hf : (bs.take m).find? (bothB a b) with
    | none =>
      by_cases hb : bothB a b x = true
      · rw [if_pos ⟨hab, hb⟩]; simp [hb]
      · rw [if_neg (fun e => hb e.2)]; simp [hb]
    | some y =>
      have hy := List.mem_of_mem_take (List.mem_of_find?_eq_some hf)
      have hby := List.find?_some hf
      by_cases hb : bothB a b x = true
      · rw [if_pos ⟨hab, hb⟩]
        have : y = x := flat_unique (prs_nodup h) hy hxm ((both_or (hg y hy) hab).1 hby) ((both_or (hg x hxm) hab).1 hb)
        simp [this]
      · rw [if_neg (fun e => hb e.2)]
        simp
/-- The six pairs of a block. -/
def sixT (T : Nat → Nat → Int) (p q r : Nat) : Nat → Nat → Int :=
  setT (setT (setT (setT (setT (setT T p q r) p r q) q p r) q r p) r p q) r q p
theorem six_tab {n : Nat} {bs : List Blk} (h : isSysImpl (n : Int) bs = true) {m p q r : Nat} (hm : m < bs.length) (hx : bs[m]? = some ⟨(p : Int), (q : Int), (r : Int)⟩) (hpq : p < q) (hqr : q < r) (j k : Nat) :
    sixT (tabN (bs.take m)) p q r j k = tabN (bs.take (m + 1)) j k := by
  unfold tabN
  rw [tabI_snoc h hm hx]
  unfold sixT setT bothB hasB thirdOf
  simp only [Bool.and_eq_true, Bool.or_eq_true, decide_eq_true_eq]
  by_cases h1 : j = p
  · subst h1
    by_cases h2 : k = q
    · subst h2
      rw [if_neg (by omega), if_neg (by omega), if_neg (by omega), if_neg (by omega), if_neg (by omega), if_pos ⟨rfl, rfl⟩, if_pos (by omega)]
      omega
    · by_cases h3 : k = r
      · subst h3
        rw [if_neg (by omega), if_neg (by omega), if_neg (by omega), if_neg (by omega), if_pos ⟨rfl, rfl⟩, if_pos (by omega)]
        omega
      · rw [if_neg (by omega), if_neg (by omega), if_neg (by omega), if_neg (by omega), if_neg (by omega), if_neg (by omega), if_neg (by omega)]
  · by_cases h2 : j = q
    · subst h2
      by_cases h3 : k = p
      · subst h3
        rw [if_neg (by omega), if_neg (by omega), if_neg (by omega), if_pos ⟨rfl, rfl⟩, if_pos (by omega)]
        omega
      · by_cases h4 : k = r
        · subst h4
          rw [if_neg (by omega), if_neg (by omega), if_pos ⟨rfl, rfl⟩, if_pos (by omega)]
          omega
        · rw [if_neg (by omega), if_neg (by omega), if_neg (by omega), if_neg (by omega), if_neg (by omega), if_neg (by omega), if_neg (by omega)]
    · by_cases h3 : j = r
      · subst h3
        by_cases h4 : k = p
        · subst h4
          rw [if_neg (by omega), if_pos ⟨rfl, rfl⟩, if_pos (by omega)]
          omega
        · by_cases h5 : k = q
          · subst h5
            rw [if_pos ⟨rfl, rfl⟩, if_pos (by omega)]
            omega
          · rw [if_neg (by omega), if_neg (by omega), if_neg (by omega), if_neg (by omega), if_neg (by omega), if_neg (by omega), if_neg (by omega)]
      · rw [if_neg (by omega), if_neg (by omega), if_neg (by omega), if_neg (by omega), if_neg (by omega), if_neg (by omega), if_neg (by omega)]
end Go.Proofs.Ytiomdfhhejdoiaa

namespace Go.Proofs.Ytiomdfhhejdoiaa
open Go.RowKit Go.Maps
/-- The value is a slice of just these blocks; of the numbers nothing is said. -/
def SX (w : World) (s : Value) (bs : List Blk) : Prop := (∃ a c, s = .slice a 0 c ∧ bs = []) ∨ ∃ b off cap, s = .slice (some ⟨b, off, none⟩) bs.length cap ∧ b < w.heap.size ∧ Blks w b off bs
theorem SB.sx {w : World} {s : Value} {bs : List Blk} (h : SB w s bs) : SX w s bs := h.2.2
theorem SX.below {w w' : World} {s : Value} {bs : List Blk} (h : SX w s bs) {B : Nat} (hb : Below B w w') (hB : w.heap.size ≤ B) : SX w' s bs := by
  rcases h with h3 | ⟨b, off, cap, rfl, hl, hr⟩
  · exact .inl h3
  · exact .inr ⟨b, off, cap, rfl, by have := hb.size; omega, hr.below hb (by omega)⟩
theorem OwnR.sx {w : World} {base : Nat} {s : Value} {bs : List Blk} (h : OwnR w base s bs) : SX w s bs := by
  rcases h.res with ⟨rfl, a, c, rfl⟩ | ⟨g, cap, rfl, _, _, ho⟩
  · exact .inl ⟨a, c, rfl, rfl⟩
  · exact .inr ⟨g, 0, cap, rfl, ho.lt, ho.at_⟩
theorem OwnR.form {w : World} {base : Nat} {s : Value} {bs : List Blk} (h : OwnR w base s bs) : ∃ a c, s = .slice a bs.length c := by
  rcases h.res with ⟨rfl, a, c, rfl⟩ | ⟨g, cap, rfl, _⟩ <;> exact ⟨_, _, rfl⟩
theorem blks_flat {w : World} {b off : Nat} {bs : List Blk} (h : Blks w b off bs) (j : Nat) (u : Value) (hu : (bs.flatMap cells3)[j]? = some u) : w.cell? ⟨b, off + j, none⟩ = some u := by
  have hj : j < bs.length * 3 := by
    rw [← flat_length]
    exact (List.getElem?_eq_some_iff.1 hu).1
  obtain ⟨h0, h1, h2⟩ := h (j / 3) (by omega)
  obtain ⟨f0, f1, f2⟩ := flat_at bs (j / 3) (by omega)
  have hm : j % 3 = 0 ∨ j % 3 = 1 ∨ j % 3 = 2 := by omega
  rcases hm with hm | hm | hm
  · rw [show j / 3 * 3 = j by omega] at f0
    rw [show off + j / 3 * 3 = off + j by omega] at h0
    rw [h0, ← hu, f0]
  · rw [show j / 3 * 3 + 1 = j by omega] at f1
    rw [show off + j / 3 * 3 + 1 = off + j by omega] at h1
    rw [h1, ← hu, f1]
  · rw [show j / 3 * 3 + 2 = j by omega] at f2
    rw [show off + j / 3 * 3 + 2 = off + j by omega] at h2
    rw [h2, ← hu, f2]
theorem flat_one (bs : List Blk) : ∀ u ∈ bs.flatMap cells3, u.oneCell' = true := by
  intro u hu
  obtain ⟨x, _, hx⟩ := List.mem_flatMap.1 hu
  simp [cells3] at hx
  rcases hx with rfl | rfl | rfl <;> rfl
theorem run_append_many (w : World) (ty : TypeId) (base : Nat) (v : Value) (bs : List Blk) (hown : OwnR w base v bs) (x : Value) (cs : List Blk) (hx : SX w x cs) (hl : bs.length + cs.length ≤ 2200000) (hb : base ≤ w.heap.size) :
    ∃ v' w', (Builtin.append_ #[29, 29] ty #[v, x]).run Try.prog w = .ok v' w' ∧ OwnR w' base v' (bs ++ cs) ∧ w.grownBy w' v.ownBlock := by
  obtain ⟨i0, hi, hz0, hz1, hz2⟩ := info_parts infoBlock
  have key : ∀ (a : Addr) (m c : Nat) (news : List Value), x = .slice (some a) m c → m = cs.length → news = cs.flatMap cells3 → (∀ j u, news[j]? = some u → w.cell? (a.add j) = some u) →
      ∃ v' w', (Builtin.append_ #[29, 29] ty #[v, x]).run Try.prog w = .ok v' w' ∧ OwnR w' base v' (bs ++ cs) ∧ w.grownBy w' v.ownBlock := by
    intro a m c news ex em en hn
    subst ex
    subst en
    subst em
    obtain ⟨v', w', h1, h2, h3, _⟩ := run_append_own_at (P := Try.prog) w base 29 ty 68 i0 _ 3 24 Try.underlying29 hi hz0 hz1 hz2 rfl (by decide) v bs.length (bs.flatMap cells3) hown a cs.length c (cs.flatMap cells3) (flat_length cs) hn (flat_one cs) (by unfold maxLen; omega) (by omega) hb
    exact ⟨v', w', h1, by unfold OwnR; rw [List.length_append, List.flatMap_append]; exact h2, h3⟩
  rcases hx with ⟨a, c, rfl, rfl⟩ | ⟨b, off, cap, rfl, _, hbl⟩
  · cases a with
    | some a => exact key a 0 c [] rfl rfl rfl (by simp)
    | none =>
      refine ⟨v, w, ?_, by rw [List.append_nil]; exact hown, only_refl _ _⟩
      obtain ⟨a, c', rfl⟩ := hown.form
      have hroom : bs.length ≤ c' := by
        rcases hown.2 with ⟨h, h0⟩ | ⟨g, cap, cur, h, _, _, hn, _⟩
        · rw [h0]; exact Nat.zero_le _
        · simp at h; omega
      have hc : ∀ W : World, (Builtin.lenOf (.slice none 0 c)).run Try.prog W = .ok 0 W := fun _ => rfl
      have hc2 : ∀ W : World, (Builtin.firstCells 3 0 (.slice none 0 c)).run Try.prog W = .ok #[] W := fun _ => rfl
      simp [Builtin.append_, run_underlying Try.underlying29, sizeOf, typeInfo, hi, hz1, hc, hc2, hroom]
      cases a <;> rfl
  · refine key ⟨b, off, none⟩ cs.length cap (cs.flatMap cells3) rfl rfl rfl fun j u hu => ?_
    rw [addr_at]
    exact blks_flat hbl j u hu
theorem wp_append_many {w : World} {o : Oper} {a : Act} {K : Act → World → Prop} {Q : Exit → Act → World → Prop} (s x : Operand)
    (ho : o.op = .call { callee := .builtin .append, args := #[s, x], argTypes := #[29, 29] })
    (base : Nat) (v : Value) (bs : List Blk) (hs : a.eval s = v) (hown : OwnR w base v bs) (xv : Value) (cs : List Blk) (hxv : a.eval x = xv) (hx : SX w xv cs) (hl : bs.length + cs.length ≤ 2200000) (hb : base ≤ w.heap.size)
    (h : ∀ (a' : Option Addr) (c' : Nat) (w' : World), OwnR w' base (.slice a' (bs.length + cs.length) c') (bs ++ cs) → w.grownBy w' v.ownBlock → K (a.put o.dst (.slice a' (bs.length + cs.length) c')) w') : o.wp Try.prog a w K Q := by
  obtain ⟨v', w', hr, h2, h3⟩ := run_append_many w o.type base v bs hown xv cs hx hl hb
  obtain ⟨a', c', hv⟩ := h2.form
  rw [List.length_append] at hv
  subst hv
  unfold Oper.wp execOp
  simp only [ho, resolve, invoke, builtin, Sem.run_bind, Sem.run_pure, Result.andThen_ok, List.map_toArray, List.map_cons, List.map_nil, hs, hxv, hr]
  exact h a' c' w' h2 h3
theorem wpList_append_many {w : World} {ops : Array Oper} {rest : List Oper} {o : Oper} {a : Act} {Q : Exit → Act → World → Prop} (hgd : o.guard = none) (s x : Operand)
    (ho : o.op = .call { callee := .builtin .append, args := #[s, x], argTypes := #[29, 29] })
    (base : Nat) (v : Value) (bs : List Blk) (hs : a.eval s = v) (hown : OwnR w base v bs) (xv : Value) (cs : List Blk) (hxv : a.eval x = xv) (hx : SX w xv cs) (hl : bs.length + cs.length ≤ 2200000) (hb : base ≤ w.heap.size)
    (h : ∀ (a' : Option Addr) (c' : Nat) (w' : World), OwnR w' base (.slice a' (bs.length + cs.length) c') (bs ++ cs) → w.grownBy w' v.ownBlock → wpList Try.prog ops Q rest (a.put o.dst (.slice a' (bs.length + cs.length) c')) w') : wpList Try.prog ops Q (o :: rest) a w :=
  wpList_plain hgd fun _ hK => wp_append_many s x ho base v bs hs hown xv cs hxv hx hl hb fun a' c' w' h1 h2 => hK _ _ (h a' c' w' h1 h2)
theorem step_append_many {w : World} {ops : Array Oper} {o : Oper} {a : Act} {K : Act → World → Prop} {Q : Exit → Act → World → Prop} {E : Prop} (hgd : o.guard = none) (s x : Operand)
    (ho : o.op = .call { callee := .builtin .append, args := #[s, x], argTypes := #[29, 29] })
    (base : Nat) (v : Value) (bs : List Blk) (hs : a.eval s = v) (hown : OwnR w base v bs) (xv : Value) (cs : List Blk) (hxv : a.eval x = xv) (hx : SX w xv cs) (hl : bs.length + cs.length ≤ 2200000) (hb : base ≤ w.heap.size)
    (h : ∀ (a' : Option Addr) (c' : Nat) (w' : World), OwnR w' base (.slice a' (bs.length + cs.length) c') (bs ++ cs) → w.grownBy w' v.ownBlock → K (a.put o.dst (.slice a' (bs.length + cs.length) c')) w') :
    if Region.wanted o (yielded ops a.tmps) = true then Oper.wp Try.prog o a w K Q else E := by
  have hw : Region.wanted o (yielded ops a.tmps) = true := by simp [Region.wanted, hgd]
  rw [if_pos hw]
  exact wp_append_many s x ho base v bs hs hown xv cs hxv hx hl hb h
end Go.Proofs.Ytiomdfhhejdoiaa

namespace Go.Proofs.Ytiomdfhhejdoiaa
theorem gb_drewL {w w' : World} {row : Option Nat} (h : w.drew.grownBy w' row) : w.grownBy w' row := ⟨h.os, h.tape, h.output, h.size, h.block⟩
end Go.Proofs.Ytiomdfhhejdoiaa


/- The outline's l03Types. TypesOf whatever the system; IsUniform on both sides. IsPerfect on both sides. How the laws' arguments are read. How the laws' other arguments are read: slices of integers, slices of blocks, a block, rows. What a law over one system whose result is a system knows of the memory between two of its steps. The law FnExactIsPerfect returns true. The dump's head word by word, cheaply: what every row asks of it. -/
import Derived.Test.YtmgpmcjbnooklaaJ12
import Derived.Test.YtmgpmcjbnooklaaRows
import Derived.ProofKit
import Derived.OpenShut
import Derived.Deep.Slices
import Derived.Lib.SmallJoins
import Derived.ChangeOld
import Derived.Deep.RegionWith
import Derived.Deep.DeepCutAuto
namespace Go.Proofs.Ytmgpmcjbnooklaa
open Go.RowKit Go.Maps
set_option maxRecDepth 100000 in
set_option maxHeartbeats 4000000 in
theorem l03Types_any (n : Nat) (s : Value) (bs : List Blk) (w : World) (h : SB w s bs) (hi : isSysImpl (n : Int) bs = true) (hf : fullB (n : Int) bs = true) :
    Calls Try.prog 64 #[.agg #[.int .i64 (n : Int), s]] w (fun e w' => ∃ u1 u2 Rs, e = .returned (.tuple #[u1, u2]) ∧ RowsM w' w.heap.size u1 Rs ∧ rowsP Rs = setR (tyAll bs n n) ∧ OwnJ w' w.heap.size u2 (cntTT (setR (tyAll bs n n)) (tyAll bs n n)) ∧ Below w.heap.size w w') := by
  have HT := Lib.hid fun (a b : Nat) (ha : a < n) (hb : b < n) (hab : a ≠ b) W (hB : Below w.heap.size w W) => l03TypeS_any n s bs a b W (h.below hB (Nat.le_refl _)) hi hf ha hb hab
  have hn15 : n ≤ 15 := by have := (sys_size hi).2.1; omega
  have hs := h.slice
  clear h hi hf
  obtain ⟨a0, c0, rfl⟩ := hs
  go_enter Try.func64, Try.ntmps64
  go_wp2_with fail
  obtain ⟨w1, hw1⟩ : ∃ w1, w1 = w.alloc (.cells #[.int .i64 n, .slice a0 bs.length c0] 31) := ⟨_, rfl⟩
  have hz1 : w1.heap.size = w.heap.size + 1 := by rw [hw1]; simp
  have hB01 : Below w.heap.size w w1 := by rw [hw1]; exact (Below.refl _ _).alloc (Nat.le_refl _) _
  have p0 : w1.cell? ⟨w.heap.size, 0, none⟩ = some (.int .i64 n) := by rw [hw1]; exact new_at 0 rfl
  have p1 : w1.cell? ⟨w.heap.size, 1, none⟩ = some (.slice a0 bs.length c0) := by rw [hw1]; exact new_at 1 rfl
  have hT0 : TyI bs n w1 ((w1.alloc (.cells #[] 26)).alloc (.cells #[] 26)) (w.heap.size + 1) (.slice (some ⟨w.heap.size + 1, 0, none⟩) 0 0) (.slice (some ⟨w.heap.size + 1 + 1, 0, none⟩) 0 0) 0 0 := by
    have m4 := (RowsM.new0 w1 (base := w.heap.size + 1) (by omega)).below ((Below.refl _ _).alloc (Nat.le_refl _) (.cells #[] 26))
    have m5 := RowsM.new0 (w1.alloc (.cells #[] 26)) (base := w.heap.size + 1) (by simp; omega)
    simp only [World.size_alloc, hz1] at m4 m5
    refine ⟨((Below.refl _ _).alloc (by omega) _).alloc (by simp; omega) _, [], [], ⟨m4, m5, fun r e e' => ?_, by simp, by simp⟩, by simp [tyTo, tyAll, tyRow, rowsP], by simp [tyTo, tyAll, tyRow, rowsP, setR]⟩
    simp [Value.ownBlock] at e e'
    omega
  rw [← hw1]
  have HT0 := Lib.hid hT0
  have HB01 := Lib.hid hB01
  clear hT0 hB01 hw1
  go_loopw [4, 5, 6] (fun u4 u5 i wr => ∃ a : Nat, a ≤ n ∧ i = .int .i64 a ∧ TyI bs n w1 wr (w.heap.size + 1) u4 u5 a 0) (fun _ _ i _ => n - (intOf i).toNat)
  case atStart => exact ⟨0, Nat.zero_le _, rfl, HT0.out⟩
  case round =>
    obtain ⟨a, ha, rfl, hTI⟩ := hrel
    obtain ⟨Rs, Ls, a4, c4, a5, c5, rfl, rfl, lR, lL, hB, hL, hrL, hrR⟩ := hTI.forms (by omega) (by omega)
    have r0 := (hB.cell (p := ⟨w.heap.size, 0, none⟩) (by show w.heap.size < _; omega)).trans p0
    have hzr := hB.size
    have HTI := Lib.hid hTI
    clear hB hL hrL hrR hTI
    by_cases hal : a < n
    · go_wp2_with fail
      go_loopw [4, 5, 7] (fun u4 u5 i wx => ∃ b : Nat, b ≤ a ∧ i = .int .i64 b ∧ TyI bs n w1 wx (w.heap.size + 1) u4 u5 a b) (fun _ _ i _ => a - (intOf i).toNat)
      case atStart => exact ⟨0, Nat.zero_le _, rfl, HTI.out⟩
      case round =>
        clear HTI r0
        obtain ⟨b, hb, rfl, hTI⟩ := hrel
        obtain ⟨Rs, Ls, a4, c4, a5, c5, rfl, rfl, lR, lL, hB, hL, hrL, hrR⟩ := hTI.forms (by omega) (by omega)
        obtain ⟨V, hV⟩ : ∃ V, V = wr := ⟨_, rfl⟩
        have r0 := (hB.cell (p := ⟨w.heap.size, 0, none⟩) (by show w.heap.size < _; omega)).trans p0
        have r1 := (hB.cell (p := ⟨w.heap.size, 1, none⟩) (by show w.heap.size < _; omega)).trans p1
        have hzr := hB.size
        have HTI := Lib.hid hTI
        have HB := Lib.hid hB
        have HL := Lib.hid hL
        have HRL := Lib.hid hrL
        have HRR := Lib.hid hrR
        clear hB hL hrL hrR hTI
        by_cases hbl : b < a
        · go_wp2_with fail
          refine (HT.out a b hal (by omega) (by omega) wr (HB01.out.trans (HB.out.mono (by omega)))).mono ?_
          rintro e w3 ⟨u, rfl, ⟨g, c, rfl⟩, hO3, hb3⟩
          have hl15 := tyT_len bs (n := n) (a := a) (b := b) hn15
          obtain ⟨x, hx⟩ : ∃ x : RowP, x = ⟨g, c, tyT bs n a b⟩ := ⟨_, rfl⟩
          obtain ⟨hxo, hxb⟩ := hO3.atI (by unfold tyT at hl15; omega)
          have hz3 := hb3.size
          have hL3 := HL.out.below hb3
          have hxo' : OwnAtI w3 x.g x.r := by rw [hx]; exact hxo
          have hxg : x.g = g := by rw [hx]
          have hxr : x.r = tyT bs n a b := by rw [hx]
          have hn4 : (Value.slice a4 Rs.length c4).ownBlock ≠ some x.g := fun e => by
            have := (HL.out.m4.blk _ e).2
            omega
          have hn5 : (Value.slice a5 Ls.length c5).ownBlock ≠ some x.g := fun e => by
            have := (HL.out.m5.blk _ e).2
            omega
          have hnR : ∀ y ∈ Rs, y.g ≠ x.g := fun y hy e => by
            have := HL.out.m4.lt y hy
            omega
          have hnL : x.g ∉ Ls.map RowP.g := fun hm => by
            obtain ⟨y, hy, e⟩ := List.mem_map.1 hm
            have := HL.out.m5.lt y hy
            omega
          have hput := l03Put_any (w.heap.size + 1) (.slice a4 Rs.length c4) Rs x w3 hL3.m4 (by omega) (by omega) (rows_len hn15 HRR.out) (by rw [hxr]; omega) hxo' hn4 (fun hm => by
            obtain ⟨y, hy, e⟩ := List.mem_map.1 hm
            exact hnR y hy e) (by omega)
          rw [show x.hdr = .slice (some ⟨g, 0, none⟩) (typL (cyS bs a b n)).length c by rw [hx]; rfl] at hput
          have HPUT := Lib.hid hput
          have HX := Lib.hid (And.intro hxo' (And.intro hn4 (And.intro hn5 (And.intro hnR hnL))))
          have HL3 := Lib.hid hL3
          have HXE := Lib.hid hx
          have HXR := Lib.hid hxr
          have HB3 := Lib.hid (HB.out.trans (hb3.mono (by omega)))
          clear hO3 hb3 hput hL3 hxo' hn4 hn5 hnR hnL hxo hx hxr HT hl15
          obtain ⟨tl, htl⟩ : ∃ tl, tl = (typL (cyS bs a b n)).length := ⟨_, rfl⟩
          rw [← htl] at HPUT ⊢
          have HTL := Lib.hid htl
          clear htl
          go_wp2_with fail
          refine HPUT.out.mono ?_
          intro e w4 hq
          obtain ⟨u4', Rs', rfl, hM4, hrows4, hg4, hG4, hsub⟩ := hq.one HL3.out.m4
          obtain ⟨a4', c4', rfl⟩ := hM4.form
          have hz4 := hg4.size
          have HM4 := Lib.hid (And.intro hM4 (And.intro hrows4 (And.intro hg4 (And.intro hG4 hsub))))
          have h54 : RowsM w4 (w.heap.size + 1) (.slice a5 Ls.length c5) Ls := HL3.out.m5.kept hg4 fun r e => ⟨HL3.out.d45 r e, fun y hy e' => HL3.out.d4 y hy (by rw [e, e'])⟩
          have HV := Lib.hid h54.own
          clear hq hM4 hrows4 hg4 hG4 hsub h54 HPUT
          have hll : (Ls.map RowP.hdr).length = Ls.length := List.length_map _
          go_wp2_with (at_builtin; refine wpList_append_hdr rfl _ _ rfl (w.heap.size + 1) _ (Ls.map RowP.hdr) rfl (HV.out.below ((Below.refl _ _).alloc (Nat.le_refl _) _) (Nat.le_refl _)) w4.heap.size 1 rfl (some ⟨g, 0, none⟩) tl c (by simp [go_sem]) (by omega) (by simp; omega) ?_; intro G5 cap5 w5 hV5 hg5 hG5)
          have hxh : x.hdr = .slice (some ⟨g, 0, none⟩) tl c := by rw [HXE.out, HTL.out]; rfl
          have hV5' : RowsV w5 (w.heap.size + 1) (.slice (some ⟨G5, 0, none⟩) (Ls.length + 1) cap5) (Ls.map RowP.hdr ++ [x.hdr]) := by
            have h5 := hV5
            rw [hll] at h5
            rw [hxh]
            exact h5
          have hg5' : w4.grownBy w5 (Value.slice a5 Ls.length c5).ownBlock := gb_trans (World.grownBy_alloc _ _ none) hg5
          have hG5' : (Value.slice a5 Ls.length c5).ownBlock = some G5 ∨ w4.heap.size ≤ G5 := by
            rcases hG5 with h | h
            · exact .inl h
            · exact .inr (by rw [h]; simp)
          obtain ⟨hM4, hrows4, hg4, hG4, hsub⟩ := HM4.out
          obtain ⟨hxo, hn4, hn5, hnR, hnL⟩ := HX.out
          obtain ⟨hT5, hr5⟩ := TwoL.step HL3.out hxo hn4 hn5 hnR hnL (by omega) hM4 hg4 hG4 hsub hV5' hg5' hG5'
          have hB4 := HB3.out.grown hg4 (by omega) (fun r e => (HL3.out.m4.blk r e).1)
          have hB5 := hB4.grown hg5' (by omega) (fun r e => (HL3.out.m5.blk r e).1)
          refine ⟨⟨b + 1, by omega, by go_num, hB5, Rs', Ls ++ [x], hT5, ?_, ?_⟩, by simp [intOf]; omega⟩
          · rw [hr5, HRL.out, HXR.out, tyTo_succ]
          · rw [hrows4, HRR.out, HXR.out, tyTo_succ, setR_snoc]
        · have e : b = a := by omega
          subst e
          have hTN := HTI.out.next
          have HTN := Lib.hid hTN
          clear hTN HTI
          go_wp2
          go_roundw
          case rel => exact ⟨b + 1, by omega, by go_num, HTN.out⟩
          case measure => simp [intOf]; omega
    · have e : a = n := by omega
      subst e
      obtain ⟨hB, RsX, LsX, hTX, hrL, hrR⟩ := HTI.out
      have hfR := hTX.m4.form
      have hfL := hTX.m5.form
      have eR : RsX.length = Rs.length := by
        obtain ⟨_, _, e⟩ := hfR
        simp at e
        exact e.2.1.symm
      have eL : LsX.length = Ls.length := by
        obtain ⟨_, _, e⟩ := hfL
        simp at e
        exact e.2.1.symm
      rw [tyTo_end] at hrL hrR
      obtain ⟨R, hR⟩ : ∃ R, R = Rs.length := ⟨_, rfl⟩
      obtain ⟨L, hL⟩ : ∃ L, L = Ls.length := ⟨_, rfl⟩
      rw [← hR] at lR eR hTX
      rw [← hL] at lL eL hTX
      have HTX := Lib.hid hTX
      have hall : ∀ y ∈ LsX, y.r.length ≤ 1100000 := fun y hy => by
        have : y.r ∈ rowsP LsX := List.mem_map.2 ⟨y, hy, rfl⟩
        rw [hrL, ← tyTo_end] at this
        have := tyTo_row (by omega) _ this
        omega
      have hset : ∀ y ∈ RsX, y.r.length ≤ 1100000 := rows_len (by omega) (by rw [hrR, tyTo_end])
      obtain ⟨T, hTT⟩ : ∃ T, T = rowsP RsX := ⟨_, rfl⟩
      obtain ⟨A, hAA⟩ : ∃ A, A = rowsP LsX := ⟨_, rfl⟩
      have hTl : T.length = R := by rw [hTT, ← eR]; simp [rowsP]
      have hAl : A.length = L := by rw [hAA, ← eL]; simp [rowsP]
      obtain ⟨V, hV⟩ : ∃ V, V = wr := ⟨_, rfl⟩
      rw [← hV] at HTX hB hzr r0 ⊢
      have HH4 := Lib.hid fun (k : Nat) (hk : k < R) W (hb : Below V.heap.size V W) => show ∃ G g l cp, a4 = some ⟨G, 0, none⟩ ∧ W.cell? ⟨G, k, none⟩ = some (.slice (some ⟨g, 0, none⟩) l cp) ∧ IB W (.slice (some ⟨g, 0, none⟩) l cp) (T[k]?.getD []) from by
        obtain ⟨G, g, l, cp, e1, _, e3, e4⟩ := HTX.out.m4.hdr hb hset (k := k) (by omega)
        exact ⟨G, g, l, cp, e1, e3, by rw [hTT]; exact e4⟩
      have HH5 := Lib.hid fun (k : Nat) (hk : k < L) W (hb : Below V.heap.size V W) => show ∃ G g l cp, a5 = some ⟨G, 0, none⟩ ∧ W.cell? ⟨G, k, none⟩ = some (.slice (some ⟨g, 0, none⟩) l cp) ∧ IB W (.slice (some ⟨g, 0, none⟩) l cp) (A[k]?.getD []) from by
        obtain ⟨G, g, l, cp, e1, _, e3, e4⟩ := HTX.out.m5.hdr hb hall (k := k) (by omega)
        exact ⟨G, g, l, cp, e1, e3, by rw [hAA]; exact e4⟩
      have hEND : cntRT T A L 0 = cntTT (setR (tyAll bs a a)) (tyAll bs a a) := by
        rw [← hAl, cntRT_end, hTT, hAA, hrL, hrR]
      have HEND := Lib.hid hEND
      have HRR := Lib.hid hrR
      have HTL := Lib.hid hTl
      have HAL := Lib.hid hAl
      have hBV := HB01.out.trans (hB.mono (by omega))
      have HBV := Lib.hid hBV
      have hm := mkRow R (by omega)
      have HO0 := Lib.hid (OwnJ.made1 V R (by omega) (Nat.le_refl V.heap.size))
      rw [← hTl, ← cntRT_start T A, hTl] at HO0
      clear hEND hrR hrL hTl hAl hall hset hTT hAA hTX hfR hfL hBV hB HTI HT HB01 HT0 hV
      rw [← hR, ← hL]
      clear hR hL
      go_wp2_with fail
      obtain ⟨g9, hg9⟩ : ∃ g9, g9 = V.heap.size := ⟨_, rfl⟩
      rw [← hg9] at HO0 ⊢
      have hg9a : g9 ≤ V.heap.size := Nat.le_of_eq hg9
      have hg9b : V.heap.size ≤ g9 := Nat.le_of_eq hg9.symm
      have HG9 := Lib.hid hg9
      clear hg9
      go_loopw [10] (fun i wr => ∃ k : Nat, k ≤ L ∧ i = .int .i64 k ∧ Below g9 V wr ∧ OwnJ wr g9 (.slice (some ⟨g9, 0, none⟩) R R) (cntRT T A k 0)) (fun i _ => L - (intOf i).toNat)
      case atStart => exact ⟨0, Nat.zero_le _, rfl, (Below.refl _ _).alloc (by omega) _, HO0.out⟩
      case round =>
        obtain ⟨i, hiL, rfl, hB, hO⟩ := hrel
        have HO := Lib.hid hO
        have HB := Lib.hid hB
        clear hO hB HO0
        by_cases hil : i < L
        · go_wp2_with fail
          go_loopw [11] (fun j wr => ∃ k : Nat, k ≤ R ∧ j = .int .i64 k ∧ Below g9 V wr ∧ OwnJ wr g9 (.slice (some ⟨g9, 0, none⟩) R R) (cntRT T A i k)) (fun j _ => R - (intOf j).toNat)
          case atStart => exact ⟨0, Nat.zero_le _, rfl, HB.out, HO.out⟩
          case round =>
            clear HO HB
            obtain ⟨k, hkR, rfl, hB, hO⟩ := hrel
            have hzk := hB.size
            have HO := Lib.hid hO
            have HB := Lib.hid hB
            by_cases hkl : k < R
            · obtain ⟨G4, p4, l4, cp4, rfl, x4, ib4⟩ := HH4.out k hkl wr (by rw [← HG9.out]; exact hB)
              obtain ⟨G5, p5, l5, cp5, rfl, x5, ib5⟩ := HH5.out i hil wr (by rw [← HG9.out]; exact hB)
              have HSM := Lib.hid fun (nq : Nat) => l03SameD_any _ _ _ _ (wr.drewN nq) (ib4.below (below_drewN (Below.refl wr.heap.size wr) nq) (Nat.le_refl _)) (ib5.below (below_drewN (Below.refl wr.heap.size wr) nq) (Nat.le_refl _))
              clear ib4 ib5
              by_cases he : T[k]?.getD [] = A[i]?.getD []
              · rw [show decide (T[k]?.getD [] = A[i]?.getD []) = true from decide_eq_true he] at HSM
                have HST := Lib.hid (cntRT_yes (T := T) (L := A) (i := i) (k := k) (by rw [HTL.out]; exact hkl) (by rw [HAL.out]; exact hil) he)
                have HCA := Lib.hid (cntRT_at T A (i := i) (k := k) (by rw [HTL.out]; exact hkl))
                have hcl := cntRT_le T A i k
                rw [HAL.out] at hcl
                obtain ⟨cn, hcn⟩ : ∃ cn, cn = (A.take i).count (T[k]?.getD []) := ⟨_, rfl⟩
                rw [← hcn] at HST HCA hcl
                have hat := hO.at_ (i := k) (by rw [cntRT_len, HTL.out]; exact hkl)
                have q9 := hat.1
                rw [HCA.out] at q9
                have f9 := hat.2.2.2.2
                have HSET := Lib.hid fun (nq : Nat) => show OwnJ ((wr.drewN nq).setCell ⟨g9, k, none⟩ (.int .i64 ((cn : Int) + 1))) g9 (.slice (some ⟨g9, 0, none⟩) R R) (cntRT T A i (k + 1)) from by
                  have h9 := ((hO.below (below_drewN (Below.refl wr.heap.size wr) nq) (Nat.le_refl _)).setT (i := k) (x := (cn : Int) + 1) (by rw [cntRT_len, HTL.out]; exact hkl)).1
                  rw [HST.out] at h9
                  exact h9
                have hwr : IntKind.i64.wrap ((cn : Int) + 1) = (cn : Int) + 1 := IntWalk.i64_in _ (by omega)
                clear hat he hcn hO hB
                go_wp2
                go_quiet (exact RD.quiet (HSM.out _))
                have q9' : (wr.drewN nq).cell? ⟨g9, k, none⟩ = some (.int .i64 (cn : Int)) := q9
                have f9' : (wr.drewN nq).frozen? ⟨g9, k, none⟩ = false := f9
                obtain ⟨W9, hW9⟩ : ∃ W9, W9 = wr.drewN nq := ⟨_, rfl⟩
                have HS9 := Lib.hid (HSET.out nq)
                have HB9 := Lib.hid (below_drewN HB.out nq)
                rw [← hW9] at q9' f9' HS9 HB9 ⊢
                clear hW9 q9 f9
                go_wp2
                go_roundw
                case rel => exact ⟨k + 1, by omega, by go_num, HB9.out.setCell (p := ⟨g9, k, none⟩) (Nat.le_refl _) _, HS9.out⟩
                case measure => simp [intOf]; omega
              · rw [show decide (T[k]?.getD [] = A[i]?.getD []) = false from decide_eq_false he] at HSM
                have HST := Lib.hid (cntRT_no (T := T) (L := A) (i := i) (k := k) (by rw [HAL.out]; exact hil) he)
                clear he hO hB
                go_wp2
                go_quiet (exact RD.quiet (HSM.out _))
                go_wp2
                go_roundw
                case rel => exact ⟨k + 1, by omega, by go_num, below_drewN HB.out nq, by rw [← HST.out]; exact HO.out.below (below_drewN (Below.refl wr.heap.size wr) nq) (Nat.le_refl _)⟩
                case measure => simp [intOf]; omega
            · have e : k = R := by omega
              subst e
              have HN := Lib.hid (show OwnJ wr g9 (.slice (some ⟨g9, 0, none⟩) k k) (cntRT T A (i + 1) 0) by
                have h9 := hO
                rw [show cntRT T A i k = cntRT T A i T.length by rw [HTL.out], cntRT_next] at h9
                exact h9)
              clear hO hB
              go_wp2
              go_roundw
              case rel => exact ⟨i + 1, by omega, by go_num, HB.out, HN.out⟩
              case measure => simp [intOf]; omega
        · have e : i = L := by omega
          subst e
          go_wp2
          go_ret2
          have hO9 := HO.out
          rw [HEND.out] at hO9
          have hBf : Below w.heap.size w wr := HBV.out.trans (HB.out.mono (by omega))
          exact ⟨_, _, _, rfl, (HTX.out.m4.below (by rw [← HG9.out]; exact HB.out)).base (by omega), HRR.out, hO9.baseT (by omega), hBf⟩
end Go.Proofs.Ytmgpmcjbnooklaa

namespace Go.Proofs.Ytmgpmcjbnooklaa
open Go.RowKit Go.Maps
noncomputable def typsF (v : Int) (bs : List Blk) : List (List Int) := if fullC v bs = 0 then setR (tyAll bs v.toNat v.toNat) else []
noncomputable def uniF (v : Int) (bs : List Blk) : Bool × Int := (decide ((typsF v bs).length = 1), fullC v bs)
noncomputable def perF (v : Int) (bs : List Blk) : Bool × Int := (decide (fullC v bs = 0) && (typsF v bs).all fun r => decide (r.length = 1), fullC v bs)
theorem beq_one (n : Nat) : ((n : Int) == 1) = decide (n = 1) := by
  by_cases h : n = 1
  · subst h; rfl
  · rw [decide_eq_false h]; simp; omega
theorem fullC_good {v : Int} {bs : List Blk} (h : fullC v bs = 0) : isSysImpl v bs = true ∧ fullB v bs = true := by
  unfold fullC at h
  cases hi : isSysImpl v bs with
  | false => rw [hi] at h; simp at h
  | true =>
    rw [hi, if_pos rfl] at h
    cases hf : fullB v bs with
    | false => rw [hf] at h; simp at h
    | true => exact ⟨rfl, rfl⟩
theorem typsF_full {n : Nat} {bs : List Blk} (h : fullC (n : Int) bs = 0) : typsF (n : Int) bs = setR (tyAll bs n n) := by unfold typsF; rw [if_pos h, Int.toNat_natCast]
theorem typsF_not {v : Int} {bs : List Blk} (h : fullC v bs ≠ 0) : typsF v bs = [] := by unfold typsF; rw [if_neg h]
def TypQ (v : Int) (bs : List Blk) (w : World) (e : Ending) (w' : World) : Prop := ∃ u1 u2 T, e = .returned (.tuple #[u1, u2, .int .i64 (fullC v bs)]) ∧ RowsI w' w.heap.size u1 T ∧ rowsH T = typsF v bs ∧ Below w.heap.size w w'
set_option maxRecDepth 100000 in
set_option maxHeartbeats 1000000 in
theorem TypesOf_any (v : Int) (s : Value) (bs : List Blk) (w : World) (h : SB w s bs) : Calls Try.prog 31 #[.agg #[.int .i64 v, s]] w (TypQ v bs w) := by
  by_cases hc : fullC v bs = 0
  · obtain ⟨hi, hf⟩ := fullC_good hc
    obtain ⟨n, rfl⟩ : ∃ n : Nat, v = n := ⟨v.toNat, by have := (sys_size hi).1; omega⟩
    refine (TypesOf_main n s bs w h hi hf hc).mono ?_
    rintro e w' ⟨u1, u2, T, rfl, h1, h2, _, h4⟩
    exact ⟨u1, u2, T, by rw [hc], h1, by rw [h2, typsF_full hc], h4⟩
  · have HF := Lib.hid fun B W (hb : Below w.heap.size w W) c0 c1 => fullCode_one B v s bs W (h.below hb (Nat.le_refl _)) c0 c1
    have HT := Lib.hid (typsF_not hc)
    obtain ⟨a0, c0, rfl⟩ := h.slice
    obtain ⟨κ, hκ⟩ : ∃ κ, κ = fullC v bs := ⟨_, rfl⟩
    have HK := Lib.hid hκ
    rw [← hκ] at HF hc
    have hne : (κ != 0) = true := by simpa using hc
    clear h hc hκ
    go_enter Try.func31, Try.ntmps31
    go_wp2_with fail
    obtain ⟨wa, hwa⟩ : ∃ wa, wa = (w.alloc (.cells #[.int .i64 v, .slice a0 bs.length c0] 31)).alloc (.cells #[.int .i64 v, .slice a0 bs.length c0] 31) := ⟨_, rfl⟩
    have hBa : Below w.heap.size w wa := by rw [hwa]; exact ((Below.refl _ _).alloc (Nat.le_refl _) _).alloc (by simp) _
    have k0 : wa.cell? ⟨w.heap.size + 1, 0, none⟩ = some (.int .i64 v) := by rw [hwa]; simp [go_sem]
    have k1 : wa.cell? ⟨w.heap.size + 1, 1, none⟩ = some (.slice a0 bs.length c0) := by rw [hwa]; simp [go_sem]
    rw [← hwa]
    clear hwa
    refine (HF.out (w.heap.size + 1) wa hBa k0 k1).mono ?_
    rintro e w2 ⟨rfl, hb2⟩
    have HB2 := Lib.hid (hBa.trans (hb2.mono hBa.size))
    clear hBa k0 k1 hb2 HF
    go_wp2
    exact bodyPost_ret (v := .tuple #[.slice none 0 0, .slice none 0 0, .int .i64 κ]) (by simp [results, Try.results31, go_sem, *]) rfl ⟨_, _, [], by rw [← HK.out], RowsI.nil _ _, by rw [HT.out]; rfl, HB2.out⟩
set_option maxRecDepth 100000 in
theorem IsUniform_any (v : Int) (s : Value) (bs : List Blk) (w : World) (h : SB w s bs) : Calls Try.prog 34 #[.agg #[.int .i64 v, s]] w (RV (boolCode (uniF v bs).1 (uniF v bs).2) w) := by
  have HT := Lib.hid fun W (hb : Below w.heap.size w W) => TypesOf_any v s bs W (h.below hb (Nat.le_refl _))
  have hs := h.slice
  clear h
  obtain ⟨a0, c0, rfl⟩ := hs
  go_enter Try.func34, Try.ntmps34
  go_wp2_with fail
  refine (HT.out _ ((Below.refl _ _).alloc (Nat.le_refl _) _)).mono ?_
  rintro e w1 ⟨u1, u2, T, rfl, h1, h2, h4⟩
  obtain ⟨a, c, rfl⟩ := h1.form
  have hlen : T.length = (typsF v bs).length := by rw [← h2]; simp [rowsH]
  have hbw := below_new h4
  have HV := Lib.hid (show uniF v bs = (decide (T.length = 1), fullC v bs) by unfold uniF; rw [hlen])
  obtain ⟨κ, hκ⟩ : ∃ κ, κ = fullC v bs := ⟨_, rfl⟩
  rw [← hκ] at HV ⊢
  clear HT h1 h2 h4 hlen hκ
  rw [HV.out]
  go_wp2
  exact bodyPost_ret (v := boolCode ((T.length : Int) == 1) κ) (by simp [results, Try.results34, boolCode, go_sem, *]) rfl (RV_of (by rw [HV.out, beq_one]) hbw)
set_option maxRecDepth 100000 in
theorem l03Whole_any (v : Int) (s : Value) (bs : List Blk) (w : World) (h : SB w s bs) : Calls Try.prog 63 #[.agg #[.int .i64 v, s]] w (RV (.int .i64 (fullC v bs)) w) := by
  have HC := Lib.hid fun W (hb : Below w.heap.size w W) => l01Is_any v s bs W (h.below hb (Nat.le_refl _))
  have hs := h.slice
  have hlen := h.2.1
  have hb0 := (Below.refl w.heap.size w).alloc (Nat.le_refl _) (.cells #[.int .i64 v, s] 31)
  clear h
  obtain ⟨a0, c0, rfl⟩ := hs
  cases hi : isSysImpl v bs with
  | false =>
    have hv : fullC v bs = 1 := by simp [fullC, hi]
    rw [hv]
    rw [hi] at HC
    clear hv hi
    go_enter Try.func63, Try.ntmps63
    go_wp2_with fail
    refine (HC.out _ hb0).mono ?_
    rintro e w1 ⟨rfl, hb1⟩
    have hbw := below_new hb1
    clear hb1
    go_wp2
    go_ret
    exact RV_of rfl hbw
  | true =>
    obtain ⟨v3, v15, _⟩ := sys_size hi
    have HFL := Lib.hid fun W => l01Full_any v (.slice a0 bs.length c0) bs W ⟨_, _, rfl⟩ v3 v15 hlen
    rw [hi] at HC
    cases hf : fullB v bs with
    | false =>
      have hv : fullC v bs = 5 := by simp [fullC, hi, hf]
      rw [hv]
      rw [hf] at HFL
      clear hv hi hf v3 v15
      go_enter Try.func63, Try.ntmps63
      go_wp2_with fail
      refine (HC.out _ hb0).mono ?_
      rintro e w1 ⟨rfl, hb1⟩
      have q0 := cell_new hb1 0 rfl
      have q1 := cell_new hb1 1 rfl
      have hbw := below_new hb1
      clear hb1
      go_wp2_with fail
      refine (HFL.out _).mono ?_
      rintro e w2 ⟨rfl, hb2⟩
      have hbw2 := hbw.trans (hb2.mono hbw.size)
      clear hb2
      go_wp2
      go_ret
      exact RV_of rfl hbw2
    | true =>
      have hv : fullC v bs = 0 := by simp [fullC, hi, hf]
      rw [hv]
      rw [hf] at HFL
      clear hv hi hf v3 v15
      go_enter Try.func63, Try.ntmps63
      go_wp2_with fail
      refine (HC.out _ hb0).mono ?_
      rintro e w1 ⟨rfl, hb1⟩
      have q0 := cell_new hb1 0 rfl
      have q1 := cell_new hb1 1 rfl
      have hbw := below_new hb1
      clear hb1
      go_wp2_with fail
      refine (HFL.out _).mono ?_
      rintro e w2 ⟨rfl, hb2⟩
      have hbw2 := hbw.trans (hb2.mono hbw.size)
      clear hb2
      go_wp2
      go_ret
      exact RV_of rfl hbw2
set_option maxRecDepth 100000 in
theorem specIsUniform_any (v : Int) (s : Value) (bs : List Blk) (w : World) (h : SB w s bs) : Calls Try.prog 33 #[.agg #[.int .i64 v, s]] w (RV (boolCode (uniF v bs).1 (uniF v bs).2) w) := by
  have HW := Lib.hid (l03Whole_any v s bs _ (h.below ((Below.refl w.heap.size w).alloc (Nat.le_refl _) (.cells #[.int .i64 v, s] 31)) (Nat.le_refl _)))
  have HSB := Lib.hid h
  have hs := h.slice
  clear h
  obtain ⟨a0, c0, rfl⟩ := hs
  by_cases hc : fullC v bs = 0
  · obtain ⟨hi, hf⟩ := fullC_good hc
    obtain ⟨n, rfl⟩ : ∃ n : Nat, v = n := ⟨v.toNat, by have := (sys_size hi).1; omega⟩
    have HT := Lib.hid fun W (hb : Below w.heap.size w W) => l03Types_any n _ bs W (HSB.out.below hb (Nat.le_refl _)) hi hf
    have HV := Lib.hid (show uniF (n : Int) bs = (decide ((setR (tyAll bs n n)).length = 1), 0) by unfold uniF; rw [typsF_full hc, hc])
    rw [hc] at HW
    clear hc hi hf
    rw [HV.out]
    go_enter Try.func33, Try.ntmps33
    go_wp2_with fail
    refine HW.out.mono ?_
    rintro e w1 ⟨rfl, hb1⟩
    have q0 := cell_new hb1 0 rfl
    have q1 := cell_new hb1 1 rfl
    have hbw := below_new hb1
    clear hb1
    go_wp2_with fail
    refine (HT.out _ hbw).mono ?_
    rintro e w2 ⟨u1, u2, Rs, rfl, hM, hrs, _, hb2⟩
    obtain ⟨a, c, rfl⟩ := hM.form
    have hlen : Rs.length = (setR (tyAll bs n n)).length := by rw [← hrs]; simp [rowsP]
    have hbw2 := hbw.trans (hb2.mono hbw.size)
    have HLEN := Lib.hid hlen
    clear hM hrs hb2 HT HW hlen HV
    go_wp2
    exact bodyPost_ret (v := boolCode ((Rs.length : Int) == 1) 0) (by simp [results, Try.results33, boolCode, go_sem, *]) rfl (RV_of (by rw [beq_one, HLEN.out]) hbw2)
  · have HV := Lib.hid (show uniF v bs = (false, fullC v bs) by unfold uniF; rw [typsF_not hc]; simp)
    obtain ⟨κ, hκ⟩ : ∃ κ, κ = fullC v bs := ⟨_, rfl⟩
    rw [← hκ] at HW HV hc
    have hne : (κ != 0) = true := by simpa using hc
    clear hc hκ
    rw [HV.out]
    go_enter Try.func33, Try.ntmps33
    go_wp2_with fail
    refine HW.out.mono ?_
    rintro e w1 ⟨rfl, hb1⟩
    have hbw := below_new hb1
    clear hb1 HV
    go_wp2
    exact bodyPost_ret (v := boolCode false κ) (by simp [results, Try.results33, boolCode, go_sem, *]) rfl (RV_of rfl hbw)
end Go.Proofs.Ytmgpmcjbnooklaa

namespace Go.Proofs.Ytmgpmcjbnooklaa
open Go.RowKit Go.Maps
theorem hasMore_any (u : Value) (zs : List Int) (w : World) (h : ∃ a c, u = .slice a zs.length c) : Calls Try.prog 70 #[u] w (RS (.bool (!decide (zs.length = 1))) w) := by
  obtain ⟨a, c, rfl⟩ := h
  obtain ⟨m, hm⟩ : ∃ m, m = zs.length := ⟨_, rfl⟩
  rw [← hm]
  clear hm
  go_enter Try.func70, Try.ntmps70
  go_wp2
  go_ret
  exact RS_of (bool_eq (by rw [← beq_one]; rfl))
/-- Where the first row of more than one number is. -/
def firstMore (T : List RowH) (k : Nat) : Bool := (T.take k).all fun x => decide (x.r.length = 1)
set_option maxRecDepth 100000 in
theorem IndexFunc_any (B : Nat) (u : Value) (T : List RowH) (w : World) (h : RowsI w B u T) (hl : T.length ≤ 1100000) :
    Calls Try.prog 107 #[u, .func (.func 70) #[] #[]] w (fun e w' => ∃ z : Int, e = .returned (.int .i64 z) ∧ w' = w ∧ (decide (z ≥ 0) = !(T.all fun x => decide (x.r.length = 1)))) := by
  have HR := Lib.hid h
  obtain ⟨a, c, rfl⟩ := h.form
  clear h
  go_enter Try.func107, Try.ntmps107
  go_wp2
  go_loop [8] (fun i => ∃ k : Nat, k ≤ T.length ∧ i = .int .i64 k ∧ Hid (firstMore T k = true)) (fun i => T.length - (intOf i).toNat)
  case atStart => exact ⟨0, Nat.zero_le _, rfl, Lib.hid rfl⟩
  case round =>
    obtain ⟨k, hk, rfl, HF⟩ := hrel
    by_cases hkl : k < T.length
    · obtain ⟨G, p, l, cp, rfl, hc, heh, hra⟩ := HR.out.hdr hkl
      have hlr : l = T[k].r.length := by
        have h2 := hra.ib.2
        rw [heh] at h2
        rcases h2 with ⟨a', c', e, e2⟩ | ⟨b, off, cap, e, _⟩
        · simp at e
          rw [e2, e.2.1]
          rfl
        · simp at e
          exact e.2.1
      have HN := Lib.hid (show firstMore T (k + 1) = (firstMore T k && decide (T[k].r.length = 1)) by
        unfold firstMore
        rw [List.take_add_one, List.getElem?_eq_getElem hkl, List.all_append]
        simp only [Option.toList, List.all_cons, List.all_nil, Bool.and_true])
      have HALL := Lib.hid (show decide (T[k].r.length = 1) = false → (T.all fun x => decide (x.r.length = 1)) = false from fun e => by
        rw [List.all_eq_false]
        exact ⟨T[k], List.getElem_mem hkl, by simpa using e⟩)
      have HM := Lib.hid (hasMore_any (.slice p l cp) T[k].r w ⟨p, cp, by rw [hlr]⟩)
      obtain ⟨β, hβ⟩ : ∃ β, β = decide (T[k].r.length = 1) := ⟨_, rfl⟩
      rw [← hβ] at HN HALL HM
      clear heh hra hlr hβ
      cases β with
      | true =>
        have HN2 := Lib.hid (show firstMore T (k + 1) = true by rw [HN.out, HF.out]; rfl)
        clear HN HALL
        go_wp2_with fail
        refine HM.out.mono ?_
        rintro e w2 ⟨rfl, rfl⟩
        go_wp2
        go_round
        case rel => exact ⟨k + 1, by omega, by go_num, HN2⟩
        case measure => simp [intOf]; omega
      | false =>
        have HA := Lib.hid (HALL.out rfl)
        clear HN HALL
        go_wp2_with fail
        refine HM.out.mono ?_
        rintro e w2 ⟨rfl, rfl⟩
        go_wp2
        go_ret
        exact ⟨_, rfl, rfl, by rw [HA.out]; simp⟩
    · have e : k = T.length := by omega
      have HA := Lib.hid (show (T.all fun x => decide (x.r.length = 1)) = true by
        have := HF.out
        unfold firstMore at this
        rw [e, List.take_length] at this
        exact this)
      clear HF
      go_wp2
      go_ret
      exact ⟨_, rfl, rfl, by rw [HA.out]; simp⟩
theorem ContainsFunc_any (B : Nat) (u : Value) (T : List RowH) (w : World) (h : RowsI w B u T) (hl : T.length ≤ 1100000) :
    Calls Try.prog 71 #[u, .func (.func 70) #[] #[]] w (RS (.bool (!(T.all fun x => decide (x.r.length = 1)))) w) := by
  have HI := Lib.hid (IndexFunc_any B u T w h hl)
  clear h hl
  go_enter Try.func71, Try.ntmps71
  go_wp2_with fail
  refine HI.out.mono ?_
  rintro e w2 ⟨z, rfl, rfl, hz⟩
  go_wp2
  go_ret
  exact RS_of rfl
theorem rows_all (T : List RowH) : (T.all fun x => decide (x.r.length = 1)) = (rowsH T).all fun r => decide (r.length = 1) := by
  unfold rowsH
  rw [List.all_map]
  rfl
theorem typsF_len (v : Int) (bs : List Blk) : (typsF v bs).length ≤ 1000 := by
  by_cases hc : fullC v bs = 0
  · obtain ⟨hi, _⟩ := fullC_good hc
    obtain ⟨h3, h15, _⟩ := sys_size hi
    have h1 := setR_len (tyAll bs v.toNat v.toNat)
    have h2 := tyTo_len bs (n := v.toNat) (a := v.toNat) (b := 0) (by omega) (by omega)
    rw [tyTo_end] at h2
    unfold typsF
    rw [if_pos hc]
    omega
  · rw [typsF_not hc]; simp
set_option maxRecDepth 100000 in
theorem IsPerfect_any (v : Int) (s : Value) (bs : List Blk) (w : World) (h : SB w s bs) : Calls Try.prog 36 #[.agg #[.int .i64 v, s]] w (RV (boolCode (perF v bs).1 (perF v bs).2) w) := by
  have HT := Lib.hid fun W (hb : Below w.heap.size w W) => TypesOf_any v s bs W (h.below hb (Nat.le_refl _))
  have hs := h.slice
  clear h
  obtain ⟨a0, c0, rfl⟩ := hs
  go_enter Try.func36, Try.ntmps36
  go_wp2_with fail
  refine (HT.out _ ((Below.refl _ _).alloc (Nat.le_refl _) _)).mono ?_
  rintro e w1 ⟨u1, u2, T, rfl, h1, h2, h4⟩
  have hlen : T.length = (typsF v bs).length := by rw [← h2]; simp [rowsH]
  have hbw := below_new h4
  have hll := typsF_len v bs
  have HCF := Lib.hid (ContainsFunc_any _ u1 T w1 h1 (by omega))
  have HV := Lib.hid (show perF v bs = (decide (fullC v bs = 0) && (T.all fun x => decide (x.r.length = 1)), fullC v bs) by unfold perF; rw [rows_all, h2])
  obtain ⟨κ, hκ⟩ : ∃ κ, κ = fullC v bs := ⟨_, rfl⟩
  obtain ⟨β, hβ⟩ : ∃ β, β = (T.all fun x => decide (x.r.length = 1)) := ⟨_, rfl⟩
  rw [← hκ] at HV ⊢
  rw [← hβ] at HV HCF
  clear HT h1 h2 h4 hlen hκ hβ hll
  by_cases h0 : κ = 0
  · subst h0
    go_wp2_with (go_at_call 71; refine HCF.out.mono ?_; rintro e w2 ⟨rfl, rfl⟩)
    exact bodyPost_ret (v := boolCode β 0) (by simp [results, Try.results36, boolCode, go_sem, *]) rfl (RV_of (by rw [HV.out]; simp) hbw)
  · have hne : (κ == 0) = false := by simpa using h0
    go_wp2_with (go_at_call 71; refine HCF.out.mono ?_; rintro e w2 ⟨rfl, rfl⟩)
    exact bodyPost_ret (v := boolCode false κ) (by simp [results, Try.results36, boolCode, go_sem, *]) rfl (RV_of (by rw [HV.out, decide_eq_false h0]; rfl) hbw)
set_option maxRecDepth 100000 in
theorem specIsPerfect_any (v : Int) (s : Value) (bs : List Blk) (w : World) (h : SB w s bs) : Calls Try.prog 35 #[.agg #[.int .i64 v, s]] w (RV (boolCode (perF v bs).1 (perF v bs).2) w) := by
  have HW := Lib.hid (l03Whole_any v s bs _ (h.below ((Below.refl w.heap.size w).alloc (Nat.le_refl _) (.cells #[.int .i64 v, s] 31)) (Nat.le_refl _)))
  have HSB := Lib.hid h
  have hs := h.slice
  clear h
  obtain ⟨a0, c0, rfl⟩ := hs
  by_cases hc : fullC v bs = 0
  · obtain ⟨hi, hf⟩ := fullC_good hc
    have hll := typsF_len v bs
    obtain ⟨n, rfl⟩ : ∃ n : Nat, v = n := ⟨v.toNat, by have := (sys_size hi).1; omega⟩
    have HT := Lib.hid fun W (hb : Below w.heap.size w W) => l03Types_any n _ bs W (HSB.out.below hb (Nat.le_refl _)) hi hf
    have HV := Lib.hid (show perF (n : Int) bs = ((setR (tyAll bs n n)).all fun r => decide (r.length = 1), 0) by unfold perF; rw [typsF_full hc, hc]; simp)
    rw [typsF_full hc] at hll
    rw [hc] at HW
    clear hc hi hf
    go_enter Try.func35, Try.ntmps35
    go_wp2_with fail
    refine HW.out.mono ?_
    rintro e w1 ⟨rfl, hb1⟩
    have q0 := cell_new hb1 0 rfl
    have q1 := cell_new hb1 1 rfl
    have hbw := below_new hb1
    clear hb1
    go_wp2_with fail
    refine (HT.out _ hbw).mono ?_
    rintro e w2 ⟨u1, u2, Rs, rfl, hM, hrs, _, hb2⟩
    have hlen : Rs.length = (setR (tyAll bs n n)).length := by rw [← hrs]; simp [rowsP]
    have hbw2 := hbw.trans (hb2.mono hbw.size)
    have HM := Lib.hid hM
    have HRS := Lib.hid hrs
    obtain ⟨a, c, rfl⟩ := hM.form
    have hl2 : Rs.length ≤ 1000 := by omega
    clear hM hrs hb2 HT HW hlen hll
    go_wp2_with fail
    go_loop [7] (fun i => ∃ k : Nat, k ≤ Rs.length ∧ i = .int .i64 k ∧ Hid (((Rs.take k).all fun x => decide (x.r.length = 1)) = true)) (fun i => Rs.length - (intOf i).toNat)
    case atStart => exact ⟨0, Nat.zero_le _, rfl, Lib.hid rfl⟩
    case round =>
      obtain ⟨k, hk, rfl, HF⟩ := hrel
      have HALL := Lib.hid (show (setR (tyAll bs n n)).all (fun r => decide (r.length = 1)) = Rs.all fun x => decide (x.r.length = 1) by
        rw [← HRS.out]; unfold rowsP; rw [List.all_map]; rfl)
      by_cases hkl : k < Rs.length
      · obtain ⟨G, c', e, hcell, _⟩ := HM.out.at_ (k := k) (x := Rs[k]) (List.getElem?_eq_getElem hkl)
        simp at e
        obtain ⟨rfl, _⟩ := e
        have hcell' : w2.cell? ⟨G, k, none⟩ = some (.slice (some ⟨Rs[k].g, 0, none⟩) Rs[k].r.length Rs[k].c) := hcell
        obtain ⟨m, hm⟩ : ∃ m, m = Rs[k].r.length := ⟨_, rfl⟩
        obtain ⟨g, hg⟩ : ∃ g, g = Rs[k].g := ⟨_, rfl⟩
        obtain ⟨cp, hcp⟩ : ∃ cp, cp = Rs[k].c := ⟨_, rfl⟩
        rw [← hm, ← hg, ← hcp] at hcell'
        have HN := Lib.hid (show ((Rs.take (k + 1)).all fun x => decide (x.r.length = 1)) = decide (m = 1) by
          rw [List.take_add_one, List.getElem?_eq_getElem hkl, List.all_append, HF.out, hm]
          simp only [Option.toList, List.all_cons, List.all_nil, Bool.and_true, Bool.true_and])
        have HX := Lib.hid (show m ≠ 1 → (Rs.all fun x => decide (x.r.length = 1)) = false from fun e => by
          rw [List.all_eq_false]
          exact ⟨Rs[k], List.getElem_mem hkl, by rw [← hm]; simpa using e⟩)
        clear hcell hm hg hcp HF
        by_cases h1 : m = 1
        · have hd : ((m : Int) != 1) = false := by simp; omega
          have HN2 := Lib.hid (show ((Rs.take (k + 1)).all fun x => decide (x.r.length = 1)) = true by rw [HN.out]; exact decide_eq_true h1)
          clear HN HX h1
          go_wp2
          go_round
          case rel => exact ⟨k + 1, by omega, by go_num, HN2⟩
          case measure => simp [intOf]; omega
        · have hd : ((m : Int) != 1) = true := by simp; omega
          have HX2 := Lib.hid (HX.out h1)
          clear HN HX h1
          go_wp2
          exact bodyPost_ret (v := boolCode false 0) (by simp [results, Try.results35, boolCode, go_sem, *]) rfl (RV_of (by rw [HV.out, HALL.out, HX2.out]) hbw2)
      · have e : k = Rs.length := by omega
        have HX2 := Lib.hid (show (Rs.all fun x => decide (x.r.length = 1)) = true by
          have := HF.out
          rw [e, List.take_length] at this
          exact this)
        clear HF
        go_wp2
        exact bodyPost_ret (v := boolCode true 0) (by simp [results, Try.results35, boolCode, go_sem, *]) rfl (RV_of (by rw [HV.out, HALL.out, HX2.out]) hbw2)
  · have HV := Lib.hid (show perF v bs = (false, fullC v bs) by unfold perF; rw [decide_eq_false hc]; simp)
    obtain ⟨κ, hκ⟩ : ∃ κ, κ = fullC v bs := ⟨_, rfl⟩
    rw [← hκ] at HW HV hc
    have hne : (κ != 0) = true := by simpa using hc
    clear hc hκ
    rw [HV.out]
    go_enter Try.func35, Try.ntmps35
    go_wp2_with fail
    refine HW.out.mono ?_
    rintro e w1 ⟨rfl, hb1⟩
    have hbw := below_new hb1
    clear hb1 HV
    go_wp2
    exact bodyPost_ret (v := boolCode false κ) (by simp [results, Try.results35, boolCode, go_sem, *]) rfl (RV_of rfl hbw)
end Go.Proofs.Ytmgpmcjbnooklaa

namespace Go.Proofs.Ytmgpmcjbnooklaa
open Go.ChangeShapes Go.WideShapes Go.ChangeAt Go.RowKit Go.Deep Go.Joins
theorem ownKnobs : ownKnob Try.prog.godebug = none := by kernel_rfl
section
variable {H : Type} {enc : TypeId × Value → H} {W : World} {base : Nat} {held : Bool}
theorem arrCells : Try.prog.cellsOf 67 = 3 := by kernel_rfl
set_option maxRecDepth 100000 in
theorem open_arr3 {fuel : Nat} {cs : List Value} {x : DataW H × List MemPlace} (h : DataW.trod enc Try.prog W base (fun _ => true) held fuel 67 cs = some x) :
    ∃ a b c : Int, cs = [.int .i64 a, .int .i64 b, .int .i64 c] ∧ (Lit.int .i64 a).wf = true ∧ (Lit.int .i64 b).wf = true ∧ (Lit.int .i64 c).wf = true := by
  obtain ⟨xs, m, rfl, rfl, hl, hx, hat⟩ := DataW.trod_array Try.underlying67 h
  rw [arrCells] at hl
  match cs, hl with
  | [c0, c1, c2], _ =>
    match xs, hx with
    | [x0, x1, x2], _ =>
      have h0 := hat 0 (by omega)
      have h1 := hat 1 (by omega)
      have h2 := hat 2 (by omega)
      rw [int64Cells] at h0 h1 h2
      simp at h0 h1 h2
      obtain ⟨a, ha, _, wa⟩ := DataW.trod_int Try.underlying2 h0
      obtain ⟨b, hb, _, wb⟩ := DataW.trod_int Try.underlying2 h1
      obtain ⟨c, hc, _, wc⟩ := DataW.trod_int Try.underlying2 h2
      simp at ha hb hc
      exact ⟨a, b, c, by rw [ha, hb, hc], wa, wb, wc⟩
theorem add_at (b off i : Nat) : (⟨b, off, none⟩ : Addr).add i = ⟨b, off + i, none⟩ := by
  unfold Addr.add
  split
  · subst_vars; rfl
  · rfl
set_option maxRecDepth 100000 in
theorem open_arrs {fuel : Nat} {s : Value} {x : DataW H × List MemPlace} (h : DataW.trod enc Try.prog W base (fun _ => true) held fuel 22 [s] = some x) : ∃ bs, InB W s bs := by
  rcases open_slice Try.underlying22 h with ⟨hcs, _⟩ | ⟨a, len, cap, m, n, D, Pl, hcs, hb, hl, hm, hmm, hx, hi⟩
  · simp at hcs
    exact ⟨[], by simp, by simp, .inl ⟨none, 0, hcs, rfl⟩⟩
  · simp at hcs
    subst hcs
    simp at hmm
    subst hmm
    have hm' : m ≤ 9223372036854775807 := by unfold maxLen at hm; exact hm
    by_cases h0 : len = 0
    · subst h0
      exact ⟨[], by simp, by simp, .inl ⟨_, _, rfl, rfl⟩⟩
    · have cell : ∀ i, i < m → ∃ y : Blk, WFB y ∧ ∀ j (v : Value), [Value.int .i64 y.a, Value.int .i64 y.b, Value.int .i64 y.c][j]? = some v → W.cell? (a.add (i * 3 + j)) = some v := fun i him => by
        obtain ⟨cs', hc, ht⟩ := hi i him
        obtain ⟨p, q, r, rfl, wp, wq, wr⟩ := open_arr3 ht
        rw [arrCells] at hc
        obtain ⟨_, _, hat⟩ := World.cells?_some hc
        refine ⟨⟨p, q, r⟩, ⟨wp, wq, wr⟩, fun j v hv => ?_⟩
        have hj : j < 3 := by
          have := (List.getElem?_eq_some_iff.1 hv).1
          simpa using this
        rw [← Go.Deep.add_add, hat j hj]
        exact hv
      obtain ⟨F, hF⟩ := choose_lt (α := Blk) cell
      obtain ⟨b, off, spot⟩ := a
      have hc0 := (hF 0 (by omega)).2 0 _ rfl
      have hspot : spot = none := by simpa [Addr.add] using World.cell?_spot hc0
      subst hspot
      refine ⟨(List.range len).map F, ?_, by simp; omega, .inr ⟨b, off, m, by simp, ?_, ?_⟩⟩
      · intro y hy
        obtain ⟨i, hi', rfl⟩ := List.mem_map.1 hy
        exact (hF i (by have := List.mem_range.1 hi'; omega)).1
      · exact block_lt_of_cell hc0
      · intro k hk
        simp at hk
        have e : ((List.range len).map F)[k]?.getD default = F k := by simp [hk]
        rw [e]
        have := (hF k (by omega)).2
        refine ⟨?_, ?_, ?_⟩
        · have h0 := this 0 _ rfl
          rw [add_at] at h0
          exact h0
        · have h1 := this 1 _ rfl
          rw [add_at, ← Nat.add_assoc] at h1
          exact h1
        · have h2 := this 2 _ rfl
          rw [add_at, ← Nat.add_assoc] at h2
          exact h2
theorem isSys : ∃ f0 f1 : Field, Try.prog.underlying 24 = some (.struct #[f0, f1]) ∧ f0.type = 2 ∧ f1.type = 22 ∧ oneCellFields Try.prog #[f0, f1] = true :=
  ⟨_, _, Try.underlying24, rfl, rfl, by kernel_rfl⟩
theorem sysCells : Try.prog.cellsOf 24 = 2 := by kernel_rfl
set_option maxRecDepth 100000 in
theorem open_system {r : Reach} {b0 : Nat} {v : Value} {d : DataW H} {p : List MemPlace} (hv : Value.okWide Try.prog W r b0 24 v) (h : DataW.Trod enc Try.prog W base (fun _ => true) held 24 v d p) :
    ∃ (n : Int) (s : Value) (bs : List Blk), v = .agg #[.int .i64 n, s] ∧ WF n ∧ InB W s bs := by
  obtain ⟨f0, f1, hu, e0, e1, hone⟩ := isSys
  obtain ⟨v0, v1, y0, y1, n, rfl, _, _, h0, h1⟩ := open_agg2 hu hone sysCells hv h
  rw [e0] at h0
  rw [e1] at h1
  obtain ⟨k, hk, _, wk⟩ := DataW.trod_int Try.underlying2 h0
  simp at hk
  subst hk
  obtain ⟨bs, hbs⟩ := open_arrs h1
  exact ⟨k, v1, bs, rfl, wk, hbs⟩
end
end Go.Proofs.Ytmgpmcjbnooklaa

namespace Go.Proofs.Ytmgpmcjbnooklaa
open Go.ChangeShapes Go.WideShapes Go.ChangeAt Go.RowKit Go.Deep Go.Joins
/-- The value is a slice of just these integers, however many. -/
def InZ (w : World) (s : Value) (zs : List Int) : Prop :=
  (∀ z ∈ zs, WF z) ∧ zs.length ≤ 9223372036854775807 ∧ ((∃ a c, s = .slice a 0 c ∧ zs = []) ∨ ∃ b off cap, s = .slice (some ⟨b, off, none⟩) zs.length cap ∧ b < w.heap.size ∧ Ints w b off zs)
theorem InZ.slice {w : World} {s : Value} {zs : List Int} (h : InZ w s zs) : ∃ a c, s = .slice a zs.length c := by
  rcases h.2.2 with ⟨a, c, rfl, rfl⟩ | ⟨b, off, cap, rfl, _⟩ <;> exact ⟨_, _, rfl⟩
theorem InZ.ib {w : World} {s : Value} {zs : List Int} (h : InZ w s zs) (hl : zs.length ≤ 1048576) : IB w s zs := ⟨by omega, h.2.2⟩
/-- The value is a slice of just these rows, however many. -/
def InSS (w : World) (s : Value) (n : Nat) (F : Nat → List Int) : Prop :=
  n ≤ 9223372036854775807 ∧ ((n = 0 ∧ ∃ a c, s = .slice a 0 c) ∨ ∃ b off cap, s = .slice (some ⟨b, off, none⟩) n cap ∧ b < w.heap.size ∧ ∀ k, k < n → ∃ u, w.cell? ⟨b, off + k, none⟩ = some u ∧ InZ w u (F k))
theorem okWide_array {P : Program} {w : World} {r : Reach} {base : Nat} {t : TypeId} {v : Value} {n : Nat} {e : TypeId} (ht : P.underlying t = some (.array n e)) (h : Value.okWide P w r base t v) : ∃ cs, v = .agg cs ∧ cs.size = P.cellsOf t := by
  simp only [Value.okWide, ht] at h
  obtain ⟨cs, h1, h2, _⟩ := h
  exact ⟨cs, h1, h2⟩
section
variable {H : Type} {enc : TypeId × Value → H} {W : World} {base : Nat} {held : Bool}
set_option maxRecDepth 100000 in
theorem open_zs {fuel : Nat} {s : Value} {x : DataW H × List MemPlace} (h : DataW.trod enc Try.prog W base (fun _ => true) held fuel 26 [s] = some x) : ∃ zs, InZ W s zs := by
  rcases open_slice1 Try.underlying26 int64Cells h with ⟨hcs, _⟩ | ⟨a, len, cap, m, n, V, D, Pl, hcs, hb, hl, hm, hmm, hx, hi⟩
  · simp at hcs
    exact ⟨[], by simp, by simp, .inl ⟨none, 0, hcs, rfl⟩⟩
  · simp at hcs
    subst hcs
    simp at hmm
    subst hmm
    have hm' : m ≤ 9223372036854775807 := by unfold maxLen at hm; exact hm
    by_cases h0 : len = 0
    · subst h0
      exact ⟨[], by simp, by simp, .inl ⟨_, _, rfl, rfl⟩⟩
    · have cell : ∀ i, i < m → ∃ y : Int, WF y ∧ W.cell? (a.add i) = some (.int .i64 y) := fun i him => by
        obtain ⟨hc, ht⟩ := hi i him
        obtain ⟨k, hk, _, wk⟩ := DataW.trod_int Try.underlying2 ht
        simp at hk
        exact ⟨k, wk, by rw [hc, hk]⟩
      obtain ⟨F, hF⟩ := choose_lt (α := Int) cell
      obtain ⟨b, off, spot⟩ := a
      have hc0 := (hF 0 (by omega)).2
      have hspot : spot = none := by simpa [Addr.add] using World.cell?_spot hc0
      subst hspot
      refine ⟨(List.range len).map F, ?_, by simp; omega, .inr ⟨b, off, m, by simp, ?_, ?_⟩⟩
      · intro y hy
        obtain ⟨i, hi', rfl⟩ := List.mem_map.1 hy
        exact (hF i (by have := List.mem_range.1 hi'; omega)).1
      · exact block_lt_of_cell hc0
      · intro k hk
        simp at hk
        have e : ((List.range len).map F)[k]?.getD 0 = F k := by simp [hk]
        rw [e]
        have h1 := (hF k (by omega)).2
        rw [add_at] at h1
        exact h1
set_option maxRecDepth 100000 in
theorem open_ints64 {r : Reach} {b0 : Nat} {v : Value} {d : DataW H} {p : List MemPlace} (hv : Value.okWide Try.prog W r b0 26 v) (h : DataW.Trod enc Try.prog W base (fun _ => true) held 26 v d p) : ∃ zs, InZ W v zs := by
  obtain ⟨a, len, cap, rfl⟩ := okWide_slice Try.underlying26 hv
  obtain ⟨fuel, hf⟩ := h
  exact open_zs hf
set_option maxRecDepth 100000 in
theorem open_blocks {r : Reach} {b0 : Nat} {v : Value} {d : DataW H} {p : List MemPlace} (hv : Value.okWide Try.prog W r b0 22 v) (h : DataW.Trod enc Try.prog W base (fun _ => true) held 22 v d p) : ∃ bs, InB W v bs := by
  obtain ⟨a, len, cap, rfl⟩ := okWide_slice Try.underlying22 hv
  obtain ⟨fuel, hf⟩ := h
  exact open_arrs hf
theorem sliceCells : Try.prog.cellsOf 26 = 1 := by kernel_rfl
set_option maxRecDepth 100000 in
theorem open_rows {r : Reach} {b0 : Nat} {v : Value} {d : DataW H} {p : List MemPlace} (hv : Value.okWide Try.prog W r b0 45 v) (h : DataW.Trod enc Try.prog W base (fun _ => true) held 45 v d p) : ∃ n F, InSS W v n F := by
  obtain ⟨A0, L0, C0, rfl⟩ := okWide_slice Try.underlying45 hv
  obtain ⟨fuel, hf⟩ := h
  have hf' : DataW.trod enc Try.prog W base (fun _ => true) held fuel 45 [.slice A0 L0 C0] = some (d, p) := hf
  rcases open_slice1 Try.underlying45 sliceCells hf' with ⟨hcs, _⟩ | ⟨a, len, cap, m, n, V, D, Pl, hcs, hb, hl, hm, hmm, hx, hi⟩
  · simp at hcs
    obtain ⟨rfl, rfl, rfl⟩ := hcs
    exact ⟨0, fun _ => [], by omega, .inl ⟨rfl, _, _, rfl⟩⟩
  · simp at hcs
    obtain ⟨e1, e2, e3⟩ := hcs
    subst e1
    subst e2
    subst e3
    simp at hmm
    subst hmm
    have hm' : m ≤ 9223372036854775807 := by unfold maxLen at hm; exact hm
    by_cases h0 : L0 = 0
    · subst h0
      exact ⟨0, fun _ => [], by omega, .inl ⟨rfl, _, _, rfl⟩⟩
    · have cell : ∀ i, i < m → ∃ y : List Int, ∃ u, W.cell? (a.add i) = some u ∧ InZ W u y := fun i him => by
        obtain ⟨hc, ht⟩ := hi i him
        obtain ⟨zs, hz⟩ := open_zs ht
        exact ⟨zs, _, hc, hz⟩
      obtain ⟨F, hF⟩ := choose_lt (α := List Int) cell
      obtain ⟨b, off, spot⟩ := a
      obtain ⟨u0, hc0, _⟩ := hF 0 (by omega)
      have hspot : spot = none := by simpa [Addr.add] using World.cell?_spot hc0
      subst hspot
      refine ⟨L0, F, by omega, .inr ⟨b, off, m, rfl, block_lt_of_cell hc0, fun k hk => ?_⟩⟩
      obtain ⟨u, h1, h2⟩ := hF k (by omega)
      rw [add_at] at h1
      exact ⟨u, h1, h2⟩
set_option maxRecDepth 100000 in
theorem open_blk {r : Reach} {b0 : Nat} {v : Value} {d : DataW H} {p : List MemPlace} (hv : Value.okWide Try.prog W r b0 67 v) (h : DataW.Trod enc Try.prog W base (fun _ => true) held 67 v d p) : ∃ x, v = bv x ∧ WFB x := by
  obtain ⟨cs, rfl, hsz⟩ := okWide_array Try.underlying67 hv
  obtain ⟨fuel, hf⟩ := h
  obtain ⟨a, b, c, e, wa, wb, wc⟩ := open_arr3 hf
  have : cs.toList = [.int .i64 a, .int .i64 b, .int .i64 c] := e
  refine ⟨⟨a, b, c⟩, ?_, wa, wb, wc⟩
  unfold bv
  rw [← this]
end
end Go.Proofs.Ytmgpmcjbnooklaa

namespace Go.Proofs.Ytmgpmcjbnooklaa
open Go.RowKit Go.Maps
structure CS (w : World) (v p : Int) (s sW s8 sG : Value) (XW X XG i0 i1 j1 j2 k1 k2 : Nat) (LW L8 LG : List Blk) (W : World) : Prop where
  st : St1 w v s W
  o0 : w.heap.size < i0
  o1 : i0 ≤ i1
  o2 : i1 ≤ XW
  o3 : XW < j1
  o4 : j1 ≤ j2
  o5 : j2 ≤ X
  o6 : X < k1
  o7 : k1 ≤ k2
  o8 : k2 ≤ XG
  rW : ResR W i0 i1 sW LW
  vW : VarB W XW p sW
  r8 : ResR W j1 j2 s8 L8
  vX : VarB W X v s8
  rG : ResR W k1 k2 sG LG
  vG : VarB W XG p sG
section
variable {w : World} {v p : Int} {s sW s8 sG : Value} {XW X XG i0 i1 j1 j2 k1 k2 : Nat} {LW L8 LG : List Blk} {W W' : World}
theorem CS.step (h : CS w v p s sW s8 sG XW X XG i0 i1 j1 j2 k1 k2 LW L8 LG W) (hg : W.grownBy W' none) : CS w v p s sW s8 sG XW X XG i0 i1 j1 j2 k1 k2 LW L8 LG W' :=
  ⟨h.st.step hg (by simp), h.o0, h.o1, h.o2, h.o3, h.o4, h.o5, h.o6, h.o7, h.o8, h.rW.kept hg (by simp), h.vW.step hg (by simp), h.r8.kept hg (by simp), h.vX.step hg (by simp), h.rG.kept hg (by simp), h.vG.step hg (by simp)⟩
theorem CS.mark8 (h : CS w v p s sW s8 sG XW X XG i0 i1 j1 j2 k1 k2 LW L8 LG W) {row : Option Nat} (hg : W.grownBy W' row) (hr : ∀ r, row = some r → j1 ≤ r ∧ r < j2) {L : List Blk} (hn : ResR W' j1 j2 s8 L) :
    CS w v p s sW s8 sG XW X XG i0 i1 j1 j2 k1 k2 LW L LG W' := by
  obtain ⟨st, o0, o1, o2, o3, o4, o5, o6, o7, o8, rW, vW, r8, vX, rG, vG⟩ := h
  exact ⟨st.step hg (fun r e => by have := hr r e; omega), o0, o1, o2, o3, o4, o5, o6, o7, o8, rW.kept hg (fun r e => by have := hr r e; omega), vW.step hg (fun e => by have := hr _ e; omega), hn, vX.step hg (fun e => by have := hr _ e; omega), rG.kept hg (fun r e => by have := hr r e; omega), vG.step hg (fun e => by have := hr _ e; omega)⟩
theorem CS.markG (h : CS w v p s sW s8 sG XW X XG i0 i1 j1 j2 k1 k2 LW L8 LG W) {row : Option Nat} (hg : W.grownBy W' row) (hr : ∀ r, row = some r → k1 ≤ r ∧ r < k2) {L : List Blk} (hn : ResR W' k1 k2 sG L) :
    CS w v p s sW s8 sG XW X XG i0 i1 j1 j2 k1 k2 LW L8 L W' := by
  obtain ⟨st, o0, o1, o2, o3, o4, o5, o6, o7, o8, rW, vW, r8, vX, rG, vG⟩ := h
  exact ⟨st.step hg (fun r e => by have := hr r e; omega), o0, o1, o2, o3, o4, o5, o6, o7, o8, rW.kept hg (fun r e => by have := hr r e; omega), vW.step hg (fun e => by have := hr _ e; omega), r8.kept hg (fun r e => by have := hr r e; omega), vX.step hg (fun e => by have := hr _ e; omega), hn, vG.step hg (fun e => by have := hr _ e; omega)⟩
end
end Go.Proofs.Ytmgpmcjbnooklaa



namespace Go.Proofs.Ytmgpmcjbnooklaa
open Go.RowKit Go.Maps
set_option maxRecDepth 100000 in
set_option maxHeartbeats 2000000 in
theorem FnExactIsPerfect_main (v0 : Int) (s0 : Value) (bs0 : List Blk) (w : World) (h0 : InB w s0 bs0) (hl : bs0.length ≤ 1048576) :
    Calls Try.prog 8 #[.agg #[.int .i64 v0, s0]] w (RV (.bool true) w) := by
  have hsl0 := h0.slice
  have hbd0 := h0.2.1
  have hsz0 := szSystem_any v0 s0 bs0.length hsl0 (by omega) 1048576 (by omega) (by omega)
  rw [if_neg (by omega)] at hsz0
  obtain ⟨m0, hm0⟩ : ∃ m, m = (1048576 : Int) - (bs0.length : Int) := ⟨_, rfl⟩
  rw [← hm0] at hsz0
  have hmp0 : 0 ≤ m0 := by omega
  have HSZ0 := Lib.hid hsz0
  have HSB0 := Lib.hid (h0.sb (by omega))
  have HBD0 := Lib.hid (show bs0.length ≤ 1100000 by omega)
  have HWF0 := Lib.hid h0.1
  obtain ⟨L, hL⟩ : ∃ L, L = (perF v0 bs0).1 := ⟨_, rfl⟩
  obtain ⟨κ, hκ⟩ : ∃ κ, κ = (perF v0 bs0).2 := ⟨_, rfl⟩
  have hp : perF v0 bs0 = (L, κ) := by rw [hL, hκ]
  have HSP := Lib.hid fun (W : World) (t0 : Value) (r0 : SC W t0 bs0) => specIsPerfect_any v0 t0 bs0 W r0.1
  have HIM := Lib.hid fun (W : World) (t0 : Value) (r0 : SB W t0 bs0) => IsPerfect_any v0 t0 bs0 W r0
  rw [hp] at HSP HIM
  try unfold boolCode at HSP HIM
  try dsimp only at HSP HIM
  have hnk : (κ != κ) = false := by simp
  have hnb : (L != L) = false := by simp
  clear hsz0 hm0 hbd0 hL hκ hp h0 hl
  obtain ⟨a0, c0, rfl⟩ := hsl0
  go_enter Try.func8, Try.ntmps8
  have hm := ((Mem.start w).pushVar v0 (.slice a0 bs0.length c0) 24)
  have fA00 := (hm.var 0 rfl).c0
  have fA01 := (hm.var 0 rfl).c1
  have HM := Lib.hid hm
  clear hm
  go_wp2_with fail
  refine (HSZ0.out _).mono ?_
  rintro e w1 ⟨rfl, hbw1⟩
  have hm := HM.out.step (gb_below hbw1)
  clear fA00 fA01
  clear HM hbw1
  have fA00 := (hm.var 0 rfl).c0
  have fA01 := (hm.var 0 rfl).c1
  have HM := Lib.hid hm
  clear hm
  go_wp2_with fail
  refine (toSystem_any v0 _ bs0 _ (HSB0.out.below HM.out.below (Nat.le_refl _))).mono ?_
  rintro e w2 ⟨tw2, rfl, how2, hbw2⟩
  have r3 := how2.sc HWF0.out HBD0.out
  obtain ⟨gw2, capw2, hsw2, _⟩ := id how2
  subst hsw2
  have hm := HM.out.step (gb_below hbw2)
  clear fA00 fA01
  clear HM hbw2 how2
  have fA00 := (hm.var 0 rfl).c0
  have fA01 := (hm.var 0 rfl).c1
  have HM := Lib.hid hm
  clear hm
  go_wp2_with fail
  refine (HSP.out _ _ r3).mono ?_
  rintro e w4 ⟨rfl, hbw4⟩
  clear r3
  have hm := HM.out.step (gb_below hbw4)
  clear fA00 fA01
  clear HM hbw4
  have fA00 := (hm.var 0 rfl).c0
  have fA01 := (hm.var 0 rfl).c1
  have HM := Lib.hid hm
  clear hm
  go_wp2_with fail
  refine (toSystem_any v0 _ bs0 _ (HSB0.out.below HM.out.below (Nat.le_refl _))).mono ?_
  rintro e w5 ⟨tw5, rfl, how5, hbw5⟩
  have hrw5 := how5.res
  obtain ⟨gw5, capw5, hsw5, _⟩ := id how5
  subst hsw5
  have hm := (HM.out.pushB hbw5 hrw5).pushVar v0 (.slice (some ⟨gw5, 0, none⟩) bs0.length capw5) 31
  clear fA00 fA01
  clear HM hbw5 hrw5 how5
  have fVX00 := (hm.var 0 rfl).c0
  have fVX01 := (hm.var 0 rfl).c1
  have fA00 := (hm.var 2 rfl).c0
  have fA01 := (hm.var 2 rfl).c1
  have HM := Lib.hid hm
  clear hm
  go_wp2_with fail
  refine (HIM.out _ _ ((HM.out.blks 1 rfl).sb HWF0.out HBD0.out)).mono ?_
  rintro e w6 ⟨rfl, hbw6⟩
  have hm := HM.out.step (gb_below hbw6)
  clear fVX00 fVX01 fA00 fA01
  clear HM hbw6
  have fVX00 := (hm.var 0 rfl).c0
  have fVX01 := (hm.var 0 rfl).c1
  have fA00 := (hm.var 2 rfl).c0
  have fA01 := (hm.var 2 rfl).c1
  have HM := Lib.hid hm
  clear hm
  go_upto_region 10 with fail
  go_cut [39] (fun sq wx => sq = .bool false ∧ MemOf HM.out wx)
  case first =>
    go_region_with (first | (go_at_call 11; refine (toSystem_any v0 _ bs0 _ ?_).mono ?_; (exact HSB0.out.below HM.out.below.drew (Nat.le_refl _)); rintro e w7 ⟨tw7, rfl, how7, hbw7⟩; have hmx := (HM.out.step (gb_drew1 _)).step (gb_below hbw7); have ec0 := (hmx.var 0 rfl).c0; have ec1 := (hmx.var 0 rfl).c1; have HMX := Lib.hid hmx; clear hmx; have hsbw7 := how7.sb HWF0.out HBD0.out; obtain ⟨gw7, capw7, hsw7, _⟩ := id how7; subst hsw7) | (go_at_call 14; refine (eqSystem_same v0 _ _ bs0 _ ?_ ?_).mono ?_; (exact ((HMX.out.blks 1 rfl).sb HWF0.out HBD0.out)); (exact hsbw7); rintro e w8 ⟨rfl, hbw8⟩))
    all_goals
      go_wp2_with fail
      go_meet
      exact ⟨rfl, HMX.out.step (gb_below hbw8)⟩
  case rest =>
  obtain ⟨rfl, hm⟩ := hcut
  unfold MemOf at hm
  obtain ⟨yc0, rfl⟩ : ∃ W, W = wc := ⟨_, rfl⟩
  clear fVX00 fVX01 fA00 fA01
  clear HM
  have fVX00 := (hm.var 0 rfl).c0
  have fVX01 := (hm.var 0 rfl).c1
  have fA00 := (hm.var 2 rfl).c0
  have fA01 := (hm.var 2 rfl).c1
  have HM := Lib.hid hm
  clear hm
  go_wp2
  go_ret
  exact RV_of rfl HM.out.below
set_option maxRecDepth 100000 in
theorem FnExactIsPerfect_long0 (v0 : Int) (s0 : Value) (bs0 : List Blk) (w : World) (h0 : InB w s0 bs0)  (hl : ¬ bs0.length ≤ 1048576) : Calls Try.prog 8 #[.agg #[.int .i64 v0, s0]] w (RV (.bool true) w) := by
  have hsl0 := h0.slice
  have hbd0 := h0.2.1
  have hsz0 := szSystem_any v0 s0 bs0.length hsl0 (by omega) (1048576) (by omega) (by omega)
  rw [if_pos (by omega)] at hsz0
  have HSZ0 := Lib.hid hsz0
  clear hl h0 hsz0 hbd0
  obtain ⟨a0, c0, rfl⟩ := hsl0
  go_enter Try.func8, Try.ntmps8
  go_wp2_with fail
  refine (HSZ0.out _).mono ?_
  rintro e y0 ⟨rfl, hy0⟩
  go_wp2
  go_ret
  exact RV_of rfl (((Below.refl _ _).alloc (by simp <;> omega) _).trans (hy0.mono (by first | (simp <;> omega) | (have := ((Below.refl _ _).alloc (by simp <;> omega) _).size; omega))))
theorem FnExactIsPerfect_any (v0 : Int) (s0 : Value) (bs0 : List Blk) (w : World) (h0 : InB w s0 bs0) : Calls Try.prog 8 #[.agg #[.int .i64 v0, s0]] w (RV (.bool true) w) := by
  by_cases hs0 : bs0.length ≤ 1048576
  case neg => exact FnExactIsPerfect_long0 v0 s0 bs0 w h0   hs0
  exact FnExactIsPerfect_main v0 s0 bs0 w h0 hs0 
end Go.Proofs.Ytmgpmcjbnooklaa

namespace Go.Proofs.Ytmgpmcjbnooklaa
set_option maxRecDepth 100000 in
noncomputable def iniP : { L : List Char // Try.prog.initOrder = String.ofList L } := ⟨_, by unfold Try.prog; rfl⟩
theorem iniL : Try.prog.initOrder.toList = iniP.1 := (congrArg String.toList iniP.2).trans String.toList_ofList
theorem words_cons (c : Char) (r : List Char) (h : c ≠ Char.ofNat 32) : wordsSigns (c :: r) = match wordsSigns r with | w :: ws => (c :: w) :: ws | [] => [[c]] := by
  rw [wordsSigns]
  all_goals first | rfl | exact h | (intro e; exact h e)
theorem words_word : ∀ (a b : List Char), (a.all fun c => c != Char.ofNat 32) = true → wordsSigns (a ++ Char.ofNat 32 :: b) = a :: wordsSigns b
  | [], b, _ => rfl
  | c :: a, b, h => by
    simp only [List.all_cons, Bool.and_eq_true, bne_iff_ne, ne_eq] at h
    rw [List.cons_append, words_cons _ _ h.1, words_word a b (by simpa using h.2)]
set_option maxRecDepth 100000 in
theorem split1 : iniP.1 = iniP.1.take 7 ++ Char.ofNat 32 :: iniP.1.drop 8 := by kernel_rfl
set_option maxRecDepth 100000 in
theorem split2 : iniP.1.drop 8 = (iniP.1.drop 8).take 64 ++ Char.ofNat 32 :: iniP.1.drop 73 := by kernel_rfl
set_option maxRecDepth 100000 in
theorem split3 : iniP.1.drop 73 = (iniP.1.drop 73).take 3 ++ Char.ofNat 32 :: iniP.1.drop 77 := by kernel_rfl
theorem isCut : (iniP.1.drop 73).take 3 = "cut".toList := by kernel_rfl
set_option maxRecDepth 100000 in
theorem isHead : ((iniP.1.take 7 == "harness".toList || iniP.1.take 7 == "ownmain".toList) && isSumSigns ((iniP.1.drop 8).take 64)) = true := by kernel_rfl
theorem wordsL : wordsSigns iniP.1 = iniP.1.take 7 :: (iniP.1.drop 8).take 64 :: "cut".toList :: wordsSigns (iniP.1.drop 77) := by
  rw [← isCut]
  conv => lhs; rw [split1]
  rw [words_word _ _ (by kernel_rfl)]
  conv => lhs; rw [split2]
  rw [words_word _ _ (by kernel_rfl)]
  conv => lhs; rw [split3]
  rw [words_word _ _ (by kernel_rfl)]
theorem behindL : behindMainWord (wordsSigns Try.prog.initOrder.toList) = "cut".toList :: wordsSigns (iniP.1.drop 77) := by
  rw [iniL, wordsL]
  unfold behindMainWord
  simp only [isHead, if_true]
theorem stripL (ws : List (List Char)) : stripLifts liftWords ("cut".toList :: ws) = ([], "cut".toList :: ws) := by kernel_rfl
section
variable (P : Program) (ws : List (List Char)) (h : behindMainWord (wordsSigns P.initOrder.toList) = "cut".toList :: ws)
include h
theorem head_of : P.headLifts = [] := by
  unfold Program.headLifts
  rw [h]
  simp only [stripL]
  kernel_rfl
theorem make_of : P.make = some .cut := by
  unfold Program.make
  rw [h, head_of P ws h]
  kernel_rfl
theorem lifts_of : P.liftsFinal = false := by
  unfold Program.liftsFinal
  rw [h, head_of P ws h]
  kernel_rfl
theorem enter_of (h1 : P.laysLater = false) (h2 : P.bearsReflect = false) (h3 : P.doorFits [] = true) : P.mayEnter = true := by
  unfold Program.mayEnter
  rw [h]
  simp only [stripL]
  rw [h1, h2, h3]
  kernel_rfl
end
theorem mayE : Try.pinned.checked.prog.mayEnter = true := enter_of _ _ behindL (by kernel_rfl) (by kernel_rfl) (by kernel_rfl)
theorem liftsF : Try.pinned.checked.prog.liftsFinal = false := lifts_of _ _ behindL
theorem makeF : Try.pinned.checked.prog.make = some .cut := make_of _ _ behindL
theorem both {a b : Bool} (h : a = true) (k : b = true) : (a && b) = true := by rw [h, k]; rfl
end Go.Proofs.Ytmgpmcjbnooklaa

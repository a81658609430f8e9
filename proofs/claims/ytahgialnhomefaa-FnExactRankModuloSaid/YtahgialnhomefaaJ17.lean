
/- The methods of words modulo 3. mark, weight and lead of words modulo 3. reduce of words modulo 3. rowsOf modulo 3. rowsOf modulo 3, walked. basisOf modulo 3. RankModulo of the program. -/
import Derived.Test.YtahgialnhomefaaJ16
import Derived.Handy
namespace Go.Proofs.Ytahgialnhomefaa
open Go.RowKit Go.Maps
/-- The number that is read and written. -/
def WdS3 (b o : Nat) (v : Value) (W : World) : Prop := W.cell? ⟨b, o, none⟩ = some v ∧ W.frozen? ⟨b, o, none⟩ = false
set_option maxRecDepth 100000 in
theorem modulus3_any (r : Value) (W : World) : Calls Try.prog 165 #[r] W (RS (.int .i64 3) W) := by
  go_enter Try.func165, Try.ntmps165
  go_wp2
  go_ret
  exact RS_of rfl
theorem invM3 (r : Int) (W : World) : Sem.run Try.prog (callMethod (.iface 75 (.int .i64 r)) "loop.example/g01355/impl.modulus" #[]) W = .ok (.enter 165 #[.int .i64 r]) W := by kernel_rfl
set_option maxRecDepth 100000 in
theorem leadF3_any (r : Int) (W : World) : Calls Try.prog 141 #[.int .i64 r] W (RS (.bool (decide (r ≠ 0))) W) := by
  by_cases h : r = 0
  · subst h
    go_enter Try.func141, Try.ntmps141
    go_wp2
    go_ret
    exact RS_of rfl
  · have e : (r != 0) = true := by simpa using h
    go_enter Try.func141, Try.ntmps141
    go_wp2
    go_ret
    exact RS_of (bool_eq (by simp [h]))
set_option maxRecDepth 100000 in
set_option maxHeartbeats 1000000 in
theorem add3_any (b off n c1 b2 off2 c2 : Nat) (t : Int) (ws os : List Int) (w : World) (hw : Ints w b off ws) (ho : Ints w b2 off2 os) (hwl : ws.length = n) (hol : os.length = n) (hwf : ∀ x ∈ ws, 0 ≤ x ∧ x < 3) (hof : ∀ x ∈ os, 0 ≤ x ∧ x < 3) (ht : 0 ≤ t ∧ t ≤ 100)
    (hfz : ∀ k, k < n → w.frozen? ⟨b, off + k, none⟩ = false) (hd : b2 ≠ b ∨ off + n ≤ off2 ∨ off2 + n ≤ off) (hb2 : b2 < w.heap.size) (hn : n ≤ 1000) :
    Calls Try.prog 123 #[.slice (some ⟨b, off, none⟩) n c1, .int .i64 t, .slice (some ⟨b2, off2, none⟩) n c2] w (fun e w' => e = .returned (.tuple #[]) ∧ Wr w w' b off n ∧ Ints w' b off (addL 3 t os ws)) := by
  have HO := Lib.hid fun W' (h : Wr w W' b off n) => ho.wr h hb2 (by rw [hol]; exact hd)
  obtain ⟨A, hA⟩ : ∃ A, A = addL 3 t os ws := ⟨_, rfl⟩
  have hAl : A.length = ws.length := by rw [hA, addL_len]; omega
  have HAT := Lib.hid fun k (hk : k < n) => (show A[k]?.getD 0 = (ws[k]?.getD 0 + t * (os[k]?.getD 0)) % 3 by rw [hA]; exact addL_at hwl hol hk)
  have HW0 := Lib.hid (show Ints w b off (mixT A ws 0) by rw [mixT_zero]; exact hw)
  have HWF := Lib.hid fun k (hk : k < n) => hwf (ws[k]?.getD 0) (by rw [List.getElem?_eq_getElem (by omega)]; exact List.getElem_mem _)
  have HOF := Lib.hid fun k (hk : k < n) => hof (os[k]?.getD 0) (by rw [List.getElem?_eq_getElem (by omega)]; exact List.getElem_mem _)
  have HFZ := Lib.hid hfz
  have HAL := Lib.hid hAl
  have HWL := Lib.hid hwl
  have HOL := Lib.hid hol
  rw [← hA]
  obtain ⟨t0, t1⟩ := ht
  have HM := Lib.hid fun r W => modulus3_any r W
  have HIV := Lib.hid fun r W => invM3 r W
  clear hw ho hwl hol hwf hof hfz hd hA hAl
  go_enter Try.func123, Try.ntmps123
  go_wp2
  go_loopw [10] (fun i wr => ∃ k : Nat, k ≤ n ∧ i = .int .i64 k ∧ Wr w wr b off n ∧ Ints wr b off (mixT A ws k)) (fun i _ => n - (intOf i).toNat)
  case atStart => exact ⟨0, Nat.zero_le _, rfl, Wr.refl _ _ _ _, HW0.out⟩
  case round =>
    obtain ⟨k, hk, rfl, hR, hI⟩ := hrel
    by_cases hkl : k < n
    · have c1' := hI k (by rw [mixT_len HAL.out, HWL.out]; exact hkl)
      rw [mixT_at HAL.out (by rw [HWL.out]; exact hkl)] at c1'
      have c2' := (HO.out wr hR) k (by rw [HOL.out]; exact hkl)
      have f1 := (hR.fz (off + k)).trans (HFZ.out k hkl)
      have hat := HAT.out k hkl
      obtain ⟨x0, x1⟩ := HWF.out k hkl
      obtain ⟨y0, y1⟩ := HOF.out k hkl
      have hset := hI.setK (k := k) (by rw [mixT_len HAL.out, HWL.out]; exact hkl) (A[k]?.getD 0)
      rw [mixT_set HAL.out (by rw [HWL.out]; exact hkl), hat] at hset
      obtain ⟨x, hx⟩ : ∃ x, x = ws[k]?.getD 0 := ⟨_, rfl⟩
      obtain ⟨y, hy⟩ : ∃ y, y = os[k]?.getD 0 := ⟨_, rfl⟩
      rw [← hx] at c1' x0 x1 hset
      rw [← hy] at c2' y0 y1 hset
      have hm0 : 0 ≤ t * y := Int.mul_nonneg t0 y0
      have hm1 : t * y ≤ 100 * 3 := Int.mul_le_mul t1 (by omega) y0 (by omega)
      have hwr := hR.trans (Wr.set wr b off n hkl (.int .i64 ((x + t * y) % 3)))
      have HSET := Lib.hid hset
      have HWR := Lib.hid hwr
      have g0 : (0 : Int) ≤ (k : Int) := by omega
      have g1 : (k : Int) < (n : Int) := by omega
      clear hx hy hat hset hwr hI
      have wm : IntKind.i64.wrap (t * y) = t * y := IntWalk.i64_in _ (by omega)
      have wa : IntKind.i64.wrap (x + t * y) = x + t * y := IntWalk.i64_in _ (by omega)
      have hmd : Int.tmod (x + t * y) 3 = (x + t * y) % 3 := Int.tmod_eq_emod_of_nonneg (by omega)
      have hS0 : WdS3 b (off + k) (.int .i64 x) wr.drew := ⟨c1', f1⟩
      go_upto_region 3 with fail
      refine wp_region_B (S := WdS3 b (off + k) (.int .i64 x)) 16 (by kernel_rfl) (by kernel_rfl) ?_
      refine wpAnyB_take (i := 0) (v := ?vv0) rfl (by kernel_rfl) (by kernel_rfl) (by kernel_rfl) (by kernel_rfl) (fun _ _ _ h => h) (Or.inl ⟨by rfl, ?yy0⟩) hS0 ?rr0
      case yy0 =>
        intro wq hSw
        obtain ⟨q0, q1⟩ := hSw
        go_simp
        try with_reducible rfl
      simp only [Act.put, List.setIfInBounds_toArray, List.set_cons_zero, List.set_cons_succ]
      refine wpAnyB_take (i := 1) (v := ?vv1) rfl (by kernel_rfl) (by kernel_rfl) (by kernel_rfl) (by kernel_rfl) (fun _ _ _ h => h) (Or.inl ⟨by rfl, ?yy1⟩) hS0 ?rr1
      case yy1 =>
        intro wq hSw
        obtain ⟨q0, q1⟩ := hSw
        go_simp
        try with_reducible rfl
      simp only [Act.put, List.setIfInBounds_toArray, List.set_cons_zero, List.set_cons_succ]
      refine wpAnyB_take (i := 2) (v := ?vv2) rfl (by kernel_rfl) (by kernel_rfl) (by kernel_rfl) (by kernel_rfl) (fun _ _ _ h => h) (Or.inl ⟨by rfl, ?yy2⟩) hS0 ?rr2
      case yy2 =>
        intro wq hSw
        obtain ⟨q0, q1⟩ := hSw
        go_simp
        try with_reducible rfl
      simp only [Act.put, List.setIfInBounds_toArray, List.set_cons_zero, List.set_cons_succ]
      refine wpAnyB_take (i := 3) (v := ?vv3) rfl (by kernel_rfl) (by kernel_rfl) (by kernel_rfl) (by kernel_rfl) (fun _ _ _ h => h) (Or.inl ⟨by rfl, ?yy3⟩) hS0 ?rr3
      case yy3 =>
        intro wq hSw
        obtain ⟨q0, q1⟩ := hSw
        go_simp
        try with_reducible rfl
      simp only [Act.put, List.setIfInBounds_toArray, List.set_cons_zero, List.set_cons_succ]
      refine wpAnyB_take (i := 4) (v := ?vv4) rfl (by kernel_rfl) (by kernel_rfl) (by kernel_rfl) (by kernel_rfl) (fun _ _ _ h => h) (Or.inl ⟨by rfl, ?yy4⟩) hS0 ?rr4
      case yy4 =>
        intro wq hSw
        obtain ⟨q0, q1⟩ := hSw
        go_simp
        try with_reducible rfl
      simp only [Act.put, List.setIfInBounds_toArray, List.set_cons_zero, List.set_cons_succ]
      refine wpAnyB_take (i := 5) (v := ?vv5) rfl (by kernel_rfl) (by kernel_rfl) (by kernel_rfl) (by kernel_rfl) (fun _ _ _ h => h) (Or.inl ⟨by rfl, ?yy5⟩) hS0 ?rr5
      case yy5 =>
        intro wq hSw
        obtain ⟨q0, q1⟩ := hSw
        go_simp
        try with_reducible rfl
      simp only [Act.put, List.setIfInBounds_toArray, List.set_cons_zero, List.set_cons_succ]
      refine wpAnyB_take (i := 6) (v := ?vv6) rfl (by kernel_rfl) (by kernel_rfl) (by kernel_rfl) (by kernel_rfl) (fun _ _ _ h => h) (Or.inl ⟨by rfl, ?yy6⟩) hS0 ?rr6
      case yy6 =>
        intro wq hSw
        obtain ⟨q0, q1⟩ := hSw
        go_simp
        try with_reducible rfl
      simp only [Act.put, List.setIfInBounds_toArray, List.set_cons_zero, List.set_cons_succ]
      refine wpAnyB_take (i := 7) (v := ?vv7) rfl (by kernel_rfl) (by kernel_rfl) (by kernel_rfl) (by kernel_rfl) (fun _ _ _ h => h) (Or.inl ⟨by rfl, ?yy7⟩) hS0 ?rr7
      case yy7 =>
        intro wq hSw
        obtain ⟨q0, q1⟩ := hSw
        go_simp
        try with_reducible rfl
      simp only [Act.put, List.setIfInBounds_toArray, List.set_cons_zero, List.set_cons_succ]
      refine wpAnyB_take (i := 8) (v := ?vv8) rfl (by kernel_rfl) (by kernel_rfl) (by kernel_rfl) (by kernel_rfl) (fun _ _ _ h => h) (Or.inl ⟨by rfl, ?yy8⟩) hS0 ?rr8
      case yy8 =>
        intro wq hSw
        obtain ⟨q0, q1⟩ := hSw
        go_simp
        try with_reducible rfl
      simp only [Act.put, List.setIfInBounds_toArray, List.set_cons_zero, List.set_cons_succ]
      refine wpAnyB_take (i := 9) (v := ?vv9) rfl (by kernel_rfl) (by kernel_rfl) (by kernel_rfl) (by kernel_rfl) (fun _ _ _ h => h) (Or.inl ⟨by rfl, ?yy9⟩) hS0 ?rr9
      case yy9 =>
        intro wq hSw
        obtain ⟨q0, q1⟩ := hSw
        go_simp
        try with_reducible rfl
      simp only [Act.put, List.setIfInBounds_toArray, List.set_cons_zero, List.set_cons_succ]
      refine wpAnyB_take (i := 10) (v := ?vv10) rfl (by kernel_rfl) (by kernel_rfl) (by kernel_rfl) (by kernel_rfl) (fun _ _ _ h => h) (Or.inl ⟨by rfl, ?yy10⟩) hS0 ?rr10
      case yy10 =>
        intro wq hSw
        obtain ⟨q0, q1⟩ := hSw
        go_simp
        try with_reducible rfl
      simp only [Act.put, List.setIfInBounds_toArray, List.set_cons_zero, List.set_cons_succ]
      refine wpAnyB_take (i := 11) (v := ?vv11) rfl (by kernel_rfl) (by kernel_rfl) (by kernel_rfl) (by kernel_rfl) (fun _ _ _ h => h) (Or.inl ⟨by rfl, ?yy11⟩) hS0 ?rr11
      case yy11 =>
        intro wq hSw
        obtain ⟨q0, q1⟩ := hSw
        go_simp
        try with_reducible rfl
      simp only [Act.put, List.setIfInBounds_toArray, List.set_cons_zero, List.set_cons_succ]
      refine wpAnyB_ready (rs := [12]) (by kernel_rfl) (by simp) ?_
      refine (AllReadyB.cons rfl (fun K1 hK1 => ?_) AllReadyB.nil)
      go_simp
      go_upon
      refine (HM.out _ _).mono ?_
      rintro e w6 ⟨rfl, rfl⟩
      go_wp2_with fail
      refine hK1.out _ _ hS0 (fun hS1 => ?_)
      clear hK1 K1
      try simp only [Act.put, List.setIfInBounds_toArray, List.set_cons_zero, List.set_cons_succ]
      refine wpAnyB_ready (rs := [13]) (by kernel_rfl) (by simp) ?_
      refine (AllReadyB.cons rfl (fun K2 hK2 => ?_) AllReadyB.nil)
      go_simp
      refine hK2.out _ _ hS0 (fun hS2 => ?_)
      clear hK2 K2
      try simp only [Act.put, List.setIfInBounds_toArray, List.set_cons_zero, List.set_cons_succ]
      refine wpAnyB_ready (rs := [14]) (by kernel_rfl) (by simp) ?_
      refine (AllReadyB.cons rfl (fun K3 hK3 => ?_) AllReadyB.nil)
      go_simp
      refine hK3.out _ _ hS0 (fun hS3 => ?_)
      clear hK3 K3
      try simp only [Act.put, List.setIfInBounds_toArray, List.set_cons_zero, List.set_cons_succ]
      refine wpAnyB_ready (rs := [15]) (by kernel_rfl) (by simp) ?_
      refine AllReadyB.last rfl (by kernel_rfl) (by kernel_rfl) (fun K4 hK4 => ?_)
      go_simp
      refine hK4.out _ _ ?_
      clear hK4 K4
      go_wp2_with fail
      go_roundw
      case rel => exact ⟨k + 1, by omega, by go_num, HWR.out.drew, HSET.out⟩
      case measure => simp [intOf]; omega
    · have e : k = n := by omega
      have hI2 : Ints wr b off A := by
        have := hI
        rw [e, ← HWL.out, mixT_end HAL.out] at this
        exact this
      have HI2 := Lib.hid hI2
      have HR2 := Lib.hid hR
      clear hI hI2 hR
      go_wp2
      go_returns
      exact ⟨rfl, HR2.out, HI2.out⟩
end Go.Proofs.Ytahgialnhomefaa

namespace Go.Proofs.Ytahgialnhomefaa
open Go.RowKit Go.Maps
set_option maxRecDepth 100000 in
set_option maxHeartbeats 1000000 in
theorem mark3_any (b off n c1 : Nat) (ws zs : List Int) (t : Value) (w : World) (hw : Ints w b off ws) (hwl : ws.length = n) (ht : IB w t zs) (htb : ∀ b2 off2, ∀ m c, t = .slice (some ⟨b2, off2, none⟩) m c → b2 ≠ b) (hz : ∀ z ∈ zs, 0 ≤ z ∧ z < (n : Int))
    (hfz : ∀ k, k < n → w.frozen? ⟨b, off + k, none⟩ = false) :
    Calls Try.prog 121 #[.slice (some ⟨b, off, none⟩) n c1, t] w (fun e w' => e = .returned (.tuple #[]) ∧ Wr w w' b off n ∧ Ints w' b off (mrkL ws zs)) := by
  have HIB := Lib.hid ht
  have hzl := ht.1
  have HZ := Lib.hid hz
  have HFZ := Lib.hid hfz
  have HLN := Lib.hid fun k => (show (mrkL ws (zs.take k)).length = n by rw [mrkL_len]; exact hwl)
  have HTK := Lib.hid fun k (hk : k < zs.length) => mrkL_take (ws := ws) hk
  have HW0 := Lib.hid (show Ints w b off (mrkL ws (zs.take 0)) from hw)
  have htv : ∃ a c, t = .slice a zs.length c := by
    rcases ht.2 with ⟨a, c, rfl, rfl⟩ | ⟨b, off, cap, rfl, _⟩ <;> exact ⟨_, _, rfl⟩
  obtain ⟨ta, tc, rfl⟩ := htv
  have HTB := Lib.hid htb
  clear hw hwl ht htb hz hfz
  go_enter Try.func121, Try.ntmps121
  go_wp2
  go_loopw [8] (fun i wr => ∃ k : Nat, k ≤ zs.length ∧ i = .int .i64 k ∧ Wr w wr b off n ∧ Ints wr b off (mrkL ws (zs.take k))) (fun i _ => zs.length - (intOf i).toNat)
  case atStart => exact ⟨0, Nat.zero_le _, rfl, Wr.refl _ _ _ _, HW0.out⟩
  case round =>
    obtain ⟨k, hk, rfl, hR, hI⟩ := hrel
    by_cases hkl : k < zs.length
    · obtain ⟨b2, off2, hta, hblt, hc⟩ := HIB.out.get hkl
      subst hta
      have hne := HTB.out b2 off2 _ _ rfl
      have hc2 := (hR.cell (p := ⟨b2, off2 + k, none⟩) hne hblt).trans hc
      obtain ⟨z0, z1⟩ := HZ.out (zs[k]?.getD 0) (by rw [List.getElem?_eq_getElem hkl]; exact List.getElem_mem _)
      have HT := Lib.hid (HTK.out k hkl)
      obtain ⟨z, hze⟩ : ∃ z : Nat, zs[k]?.getD 0 = (z : Int) := ⟨(zs[k]?.getD 0).toNat, by omega⟩
      rw [hze] at hc2 z0 z1 HT
      have hzn : z < n := by omega
      have c1' := hI z (by rw [HLN.out]; exact hzn)
      have f1 := (hR.fz (off + z)).trans (HFZ.out z hzn)
      have hset := hI.setK (k := z) (by rw [HLN.out]; exact hzn) 1
      rw [show (mrkL ws (zs.take k)).set z 1 = mrkL ws (zs.take (k + 1)) by rw [HT.out]; rfl] at hset
      have hwr := hR.trans (Wr.set wr b off n hzn (.int .i64 1))
      generalize (mrkL ws (zs.take k))[z]?.getD 0 = old at c1'
      have HSET := Lib.hid hset
      have HWR := Lib.hid hwr
      have g0 : (0 : Int) ≤ (k : Int) := by omega
      have g1 : (k : Int) < (zs.length : Int) := by omega
      clear hc hze HT hset hwr hI hR
      go_wp2
      go_roundw
      case rel => exact ⟨k + 1, by omega, by go_num, HWR.out, HSET.out⟩
      case measure => simp [intOf]; omega
    · have e : k = zs.length := by omega
      rw [e, List.take_length] at hI
      have HI2 := Lib.hid hI
      have HR2 := Lib.hid hR
      clear hI hR
      go_wp2
      go_returns
      exact ⟨rfl, HR2.out, HI2.out⟩
set_option maxRecDepth 100000 in
theorem weight3_any (b off n c1 : Nat) (ws : List Int) (w : World) (hw : Ints w b off ws) (hwl : ws.length = n) (hn : n ≤ 1000) :
    Calls Try.prog 104 #[.slice (some ⟨b, off, none⟩) n c1] w (RS (.int .i64 (wtL ws : Int)) w) := by
  have HW := Lib.hid hw
  have HTK := Lib.hid fun k (hk : k < n) => wtL_take (ws := ws) (k := k) (by omega)
  have HWL := Lib.hid hwl
  have HLE := Lib.hid fun k => wtL_le (ws.take k)
  clear hw hwl
  go_enter Try.func104, Try.ntmps104
  go_wp2
  go_loopw [3, 8] (fun m i wr => ∃ k : Nat, k ≤ n ∧ i = .int .i64 k ∧ m = .int .i64 (wtL (ws.take k) : Int) ∧ wr = w) (fun _ i _ => n - (intOf i).toNat)
  case atStart => exact ⟨0, Nat.zero_le _, rfl, rfl, rfl⟩
  case round =>
    obtain ⟨k, hk, rfl, rfl, hwe⟩ := hrel
    subst hwe
    by_cases hkl : k < n
    · have c1' := HW.out k (by rw [HWL.out]; exact hkl)
      have hT := HTK.out k hkl
      have hle := HLE.out k
      rw [List.length_take] at hle
      obtain ⟨x, hx⟩ : ∃ x, x = ws[k]?.getD 0 := ⟨_, rfl⟩
      rw [← hx] at c1' hT
      obtain ⟨M, hM⟩ : ∃ M, M = wtL (ws.take k) := ⟨_, rfl⟩
      rw [← hM] at hT hle ⊢
      have HT := Lib.hid hT
      have wm : IntKind.i64.wrap ((M : Int) + 1) = (M : Int) + 1 := IntWalk.i64_in _ (by omega)
      have g0 : (0 : Int) ≤ (k : Int) := by omega
      have g1 : (k : Int) < (n : Int) := by omega
      clear hx hT hM
      by_cases h0 : x = 0
      · have HE := Lib.hid (show wtL (ws.take (k + 1)) = M by rw [HT.out, if_neg (by simpa using h0)]; rfl)
        have e0 : (x != 0) = false := by simp [h0]
        clear h0 HT
        go_wp2
        go_roundw
        case rel => exact ⟨k + 1, by omega, by go_num, by rw [HE.out], by first | rfl | trivial⟩
        case measure => simp [intOf]; omega
      · have HE := Lib.hid (show wtL (ws.take (k + 1)) = M + 1 by rw [HT.out, if_pos h0])
        have e0 : (x != 0) = true := by simpa using h0
        clear h0 HT
        go_wp2
        go_roundw
        case rel => exact ⟨k + 1, by omega, by go_num, by rw [HE.out]; first | rfl | (simp; done) | go_num, by first | rfl | trivial⟩
        case measure => simp [intOf]; omega
    · have e : k = n := by omega
      have HE := Lib.hid (show wtL (ws.take k) = wtL ws by rw [e, ← HWL.out, List.take_length])
      clear e
      go_wp2
      go_ret
      exact RS_of (int_eq (by rw [HE.out]))
set_option maxRecDepth 100000 in
theorem leadI3_any (b off n c1 : Nat) (ws : List Int) (w : World) (hw : Ints w b off ws) (hwl : ws.length = n) (hne : ∃ x ∈ ws, x ≠ 0) (hn : n ≤ 1000) :
    Calls Try.prog 140 #[.slice (some ⟨b, off, none⟩) n c1, .func (.func 141) #[] #[]] w (RS (.int .i64 (ldL ws : Int)) w) := by
  have HW := Lib.hid hw
  have HWL := Lib.hid hwl
  have HF := Lib.hid fun r W => leadF3_any r W
  have HST := Lib.hid fun k (hk : k < n) h0 h => ldL_stop (ws := ws) (k := k) (by omega) h0 h
  have HNE := Lib.hid (show ¬ ∀ j, j < n → ws[j]?.getD 0 = 0 from fun h => by
    obtain ⟨x, hx, hx0⟩ := hne
    obtain ⟨j, hj, rfl⟩ := List.getElem_of_mem hx
    have := h j (by omega)
    rw [List.getElem?_eq_getElem hj] at this
    exact hx0 this)
  clear hw hwl hne
  go_enter Try.func140, Try.ntmps140
  go_wp2
  go_loopw [8] (fun i wr => ∃ k : Nat, k ≤ n ∧ i = .int .i64 k ∧ wr = w ∧ Hid (∀ j, j < k → ws[j]?.getD 0 = 0)) (fun i _ => n - (intOf i).toNat)
  case atStart => exact ⟨0, Nat.zero_le _, rfl, rfl, Lib.hid fun j h => absurd h (Nat.not_lt_zero _)⟩
  case round =>
    obtain ⟨k, hk, rfl, hwe, h0⟩ := hrel
    subst hwe
    by_cases hkl : k < n
    · have c1' := HW.out k (by rw [HWL.out]; exact hkl)
      have hS := HST.out k hkl h0.out
      obtain ⟨x, hx⟩ : ∃ x, x = ws[k]?.getD 0 := ⟨_, rfl⟩
      rw [← hx] at c1' hS
      have HX := Lib.hid hx
      have HS := Lib.hid hS
      have HFx := Lib.hid (HF.out x)
      have g0 : (0 : Int) ≤ (k : Int) := by omega
      have g1 : (k : Int) < (n : Int) := by omega
      clear hx hS
      by_cases hx0 : x = 0
      · have hd : decide (x ≠ 0) = false := by simp [hx0]
        rw [hd] at HFx
        have HN := Lib.hid (show ∀ j, j < k + 1 → ws[j]?.getD 0 = 0 from fun j hj => by
          rcases Nat.lt_succ_iff_lt_or_eq.1 hj with hj | hj
          · exact h0.out j hj
          · rw [hj, ← HX.out, hx0])
        clear hx0 hd
        go_wp2_with fail
        refine (HFx.out _).mono ?_
        rintro e w1 ⟨rfl, rfl⟩
        go_wp2
        go_roundw
        case rel => exact ⟨k + 1, by omega, by go_num, by first | rfl | trivial, HN⟩
        case measure => simp [intOf]; omega
      · have hd : decide (x ≠ 0) = true := by simp [hx0]
        rw [hd] at HFx
        have HE := Lib.hid (HS.out hx0)
        clear hx0 hd HS
        go_wp2_with fail
        refine (HFx.out _).mono ?_
        rintro e w1 ⟨rfl, rfl⟩
        go_wp2
        go_ret
        exact RS_of (int_eq (by rw [HE.out]))
    · exfalso
      exact HNE.out fun j hj => h0.out j (by omega)
set_option maxRecDepth 100000 in
theorem lead3_any (b off n c1 : Nat) (ws : List Int) (w : World) (hw : Ints w b off ws) (hwl : ws.length = n) (hne : ∃ x ∈ ws, x ≠ 0) (hn : n ≤ 1000) :
    Calls Try.prog 122 #[.slice (some ⟨b, off, none⟩) n c1] w (RS (.int .i64 (ldL ws : Int)) w) := by
  have HI := Lib.hid (leadI3_any b off n c1 ws w hw hwl hne hn)
  clear hw hwl hne
  go_enter Try.func122, Try.ntmps122
  go_wp2_with fail
  refine HI.out.mono ?_
  rintro e w1 ⟨rfl, rfl⟩
  go_wp2
  go_ret
  exact RS_of rfl
end Go.Proofs.Ytahgialnhomefaa

namespace Go.Proofs.Ytahgialnhomefaa
open Go.RowKit Go.Maps
set_option maxRecDepth 100000 in
set_option maxHeartbeats 2000000 in
theorem reduce3_any (b off n c1 : Nat) (ws : List Int) (ta : Option Addr) (tc m : Nat) (B : List (List Int)) (w : World) (hw : Ints w b off ws) (hwf : Wf 3 n ws) (hB : RdB w ta b off n B) (hBw : ∀ o ∈ B, Wf 3 n o) (hBn : ∀ o ∈ B, ∃ x ∈ o, x ≠ 0)
    (hfz : ∀ k, k < n → w.frozen? ⟨b, off + k, none⟩ = false) (hn : n ≤ 1000) (hm : m = B.length) (hm1 : m ≤ 1000) :
    Calls Try.prog 103 #[.slice (some ⟨b, off, none⟩) n c1, .slice ta m tc] w (fun e w' => e = .returned (.tuple #[]) ∧ Wr w w' b off n ∧ Ints w' b off (redL 3 ws B)) := by
  have HB := Lib.hid fun W' (h : Wr w W' b off n) i (hi : i < m) => (hB.wr h (fun o ho => (hBw o ho).1)) i (by omega)
  have HWF := Lib.hid fun k => redL_wf (n := n) (p := 3) (.inr rfl) hwf (B := B.take k) (fun o ho => hBw o (List.mem_of_mem_take ho))
  have HBW := Lib.hid fun i (hi : i < m) => hBw (B[i]?.getD []) (by rw [List.getElem?_eq_getElem (by omega)]; exact List.getElem_mem _)
  have HBN := Lib.hid fun i (hi : i < m) => hBn (B[i]?.getD []) (by rw [List.getElem?_eq_getElem (by omega)]; exact List.getElem_mem _)
  have HSN := Lib.hid fun k (hk : k < m) => (show redL 3 ws (B.take (k + 1)) = redS 3 (redL 3 ws (B.take k)) (B[k]?.getD []) by
    rw [List.take_add_one, List.getElem?_eq_getElem (by omega)]
    exact redL_snoc _ _ _)
  have HW0 := Lib.hid (show Ints w b off (redL 3 ws (B.take 0)) from hw)
  have HFZ := Lib.hid hfz
  have HEN := Lib.hid (show redL 3 ws (B.take m) = redL 3 ws B by rw [hm, List.take_length])
  have HM := Lib.hid fun r W => modulus3_any r W
  clear hw hwf hB hBw hBn hfz hm
  go_enter Try.func103, Try.ntmps103
  go_wp2
  go_loopw [9] (fun i wr => ∃ k : Nat, k ≤ m ∧ i = .int .i64 k ∧ Wr w wr b off n ∧ Ints wr b off (redL 3 ws (B.take k))) (fun i _ => m - (intOf i).toNat)
  case atStart => exact ⟨0, Nat.zero_le _, rfl, Wr.refl _ _ _ _, HW0.out⟩
  case round =>
    obtain ⟨k, hk, rfl, hR, hI⟩ := hrel
    by_cases hkl : k < m
    · obtain ⟨H, ho, ch, bi, oi, rfl, hHl, hHb, hcell, hIo, hbi, hdis⟩ := HB.out wr hR k hkl
      have hwfo := HBW.out k hkl
      have hwfr := HWF.out k
      have hne := HBN.out k hkl
      have hNX := HSN.out k hkl
      obtain ⟨cur, hcur⟩ : ∃ cur, cur = redL 3 ws (B.take k) := ⟨_, rfl⟩
      obtain ⟨o, hoe⟩ : ∃ o, o = B[k]?.getD [] := ⟨_, rfl⟩
      rw [← hcur] at hI hwfr hNX
      rw [← hoe] at hIo hwfo hne hNX
      have HLD := Lib.hid fun W' (hW : W' = wr) => (show Calls Try.prog 122 #[.slice (some ⟨bi, oi, none⟩) n ch] W' (RS (.int .i64 (ldL o : Int)) W') by rw [hW]; exact lead3_any bi oi n ch o wr hIo hwfo.1 hne hn)
      have hln := (ldL_lead (p := 3) (.inr rfl) hwfo hne).2
      have hFR : ∀ k, k < n → wr.frozen? ⟨b, off + k, none⟩ = false := fun k hk => (hR.fz (off + k)).trans (HFZ.out k hk)
      obtain ⟨l, hl⟩ : ∃ l, l = ldL o := ⟨_, rfl⟩
      have hNX2 : redL 3 ws (B.take (k + 1)) = addL 3 (vec cur l * vec o l * (3 - 1)) o cur := by rw [hNX, hl]; rfl
      rw [← hl] at HLD hln
      have k1 := hI l (by rw [hwfr.1]; exact hln)
      have k2 := hIo l (by rw [hwfo.1]; exact hln)
      obtain ⟨x0, x1⟩ := hwfr.at (by decide) l
      obtain ⟨y0, y1⟩ := hwfo.at (by decide) l
      obtain ⟨x, hx⟩ : ∃ x, x = vec cur l := ⟨_, rfl⟩
      obtain ⟨y, hy⟩ : ∃ y, y = vec o l := ⟨_, rfl⟩
      rw [show cur[l]?.getD 0 = x from hx.symm] at k1
      rw [show o[l]?.getD 0 = y from hy.symm] at k2
      rw [← hx] at x0 x1 hNX2
      rw [← hy] at y0 y1 hNX2
      have hm0 : 0 ≤ x * y := Int.mul_nonneg x0 y0
      have hm4 : x * y ≤ 3 * 3 := Int.mul_le_mul (by omega) (by omega) y0 (by omega)
      have w1 : IntKind.i64.wrap (x * y) = x * y := IntWalk.i64_in _ (by omega)
      have w2 : IntKind.i64.wrap (x * y * 2) = x * y * 2 := IntWalk.i64_in _ (by omega)
      have HNX := Lib.hid hNX2
      have HADD := Lib.hid fun t (ht : t = x * y * (3 - 1)) => (show Calls Try.prog 123 #[.slice (some ⟨b, off, none⟩) n c1, .int .i64 t, .slice (some ⟨bi, oi, none⟩) n ch] wr.drew (fun e w' => e = .returned (.tuple #[]) ∧ Wr wr w' b off n ∧ Ints w' b off (addL 3 (x * y * (3 - 1)) o cur)) by
        have h := add3_any b off n c1 bi oi ch t cur o wr.drew hI hIo hwfr.1 hwfo.1 hwfr.2 hwfo.2 (by omega) hFR hdis hbi hn
        rw [ht] at h ⊢
        exact h.mono fun e w' ⟨h1, h2, h3⟩ => ⟨h1, ⟨⟨h2.gr.os, h2.gr.tape, h2.gr.output, h2.gr.size, h2.gr.block⟩, h2.out, h2.fz⟩, h3⟩)
      have hR2 := Lib.hid hR
      have g0 : (0 : Int) ≤ (k : Int) := by omega
      have g1 : (k : Int) < (m : Int) := by omega
      have l0 : (0 : Int) ≤ (l : Int) := by omega
      have l1 : (l : Int) < (n : Int) := by omega
      clear hI hIo hwfo hwfr hne hNX hNX2 hcur hoe hl hx hy hFR hR hdis
      go_upto_region 3 with fail
      go_upto_region 4 with (first | (go_at_call 122; refine (HLD.out _ rfl).mono ?_; rintro e w3 ⟨rfl, rfl⟩))
      refine wp_region_B (S := fun W => W = wr.drew) 20 (by kernel_rfl) (by kernel_rfl) ?_
      have hS0 : wr.drew = wr.drew := rfl
      refine wpAnyB_take (i := 0) (v := ?vv0) rfl (by kernel_rfl) (by kernel_rfl) (by kernel_rfl) (by kernel_rfl) (fun _ _ _ h => h) (Or.inl ⟨by rfl, ?yy0⟩) hS0 ?rr0
      case yy0 =>
        intro wq hSw
        subst hSw
        go_simp
        try with_reducible rfl
      simp only [Act.put, List.setIfInBounds_toArray, List.set_cons_zero, List.set_cons_succ]
      refine wpAnyB_take (i := 1) (v := ?vv1) rfl (by kernel_rfl) (by kernel_rfl) (by kernel_rfl) (by kernel_rfl) (fun _ _ _ h => h) (Or.inl ⟨by rfl, ?yy1⟩) hS0 ?rr1
      case yy1 =>
        intro wq hSw
        subst hSw
        go_simp
        try with_reducible rfl
      simp only [Act.put, List.setIfInBounds_toArray, List.set_cons_zero, List.set_cons_succ]
      refine wpAnyB_take (i := 2) (v := ?vv2) rfl (by kernel_rfl) (by kernel_rfl) (by kernel_rfl) (by kernel_rfl) (fun _ _ _ h => h) (Or.inl ⟨by rfl, ?yy2⟩) hS0 ?rr2
      case yy2 =>
        intro wq hSw
        subst hSw
        go_simp
        try with_reducible rfl
      simp only [Act.put, List.setIfInBounds_toArray, List.set_cons_zero, List.set_cons_succ]
      refine wpAnyB_take (i := 3) (v := ?vv3) rfl (by kernel_rfl) (by kernel_rfl) (by kernel_rfl) (by kernel_rfl) (fun _ _ _ h => h) (Or.inl ⟨by rfl, ?yy3⟩) hS0 ?rr3
      case yy3 =>
        intro wq hSw
        subst hSw
        go_simp
        try with_reducible rfl
      simp only [Act.put, List.setIfInBounds_toArray, List.set_cons_zero, List.set_cons_succ]
      refine wpAnyB_take (i := 4) (v := ?vv4) rfl (by kernel_rfl) (by kernel_rfl) (by kernel_rfl) (by kernel_rfl) (fun _ _ _ h => h) (Or.inl ⟨by rfl, ?yy4⟩) hS0 ?rr4
      case yy4 =>
        intro wq hSw
        subst hSw
        go_simp
        try with_reducible rfl
      simp only [Act.put, List.setIfInBounds_toArray, List.set_cons_zero, List.set_cons_succ]
      refine wpAnyB_take (i := 5) (v := ?vv5) rfl (by kernel_rfl) (by kernel_rfl) (by kernel_rfl) (by kernel_rfl) (fun _ _ _ h => h) (Or.inl ⟨by rfl, ?yy5⟩) hS0 ?rr5
      case yy5 =>
        intro wq hSw
        subst hSw
        go_simp
        try with_reducible rfl
      simp only [Act.put, List.setIfInBounds_toArray, List.set_cons_zero, List.set_cons_succ]
      refine wpAnyB_take (i := 6) (v := ?vv6) rfl (by kernel_rfl) (by kernel_rfl) (by kernel_rfl) (by kernel_rfl) (fun _ _ _ h => h) (Or.inl ⟨by rfl, ?yy6⟩) hS0 ?rr6
      case yy6 =>
        intro wq hSw
        subst hSw
        go_simp
        try with_reducible rfl
      simp only [Act.put, List.setIfInBounds_toArray, List.set_cons_zero, List.set_cons_succ]
      refine wpAnyB_take (i := 7) (v := ?vv7) rfl (by kernel_rfl) (by kernel_rfl) (by kernel_rfl) (by kernel_rfl) (fun _ _ _ h => h) (Or.inl ⟨by rfl, ?yy7⟩) hS0 ?rr7
      case yy7 =>
        intro wq hSw
        subst hSw
        go_simp
        try with_reducible rfl
      simp only [Act.put, List.setIfInBounds_toArray, List.set_cons_zero, List.set_cons_succ]
      refine wpAnyB_take (i := 8) (v := ?vv8) rfl (by kernel_rfl) (by kernel_rfl) (by kernel_rfl) (by kernel_rfl) (fun _ _ _ h => h) (Or.inl ⟨by rfl, ?yy8⟩) hS0 ?rr8
      case yy8 =>
        intro wq hSw
        subst hSw
        go_simp
        try with_reducible rfl
      simp only [Act.put, List.setIfInBounds_toArray, List.set_cons_zero, List.set_cons_succ]
      refine wpAnyB_take (i := 9) (v := ?vv9) rfl (by kernel_rfl) (by kernel_rfl) (by kernel_rfl) (by kernel_rfl) (fun _ _ _ h => h) (Or.inl ⟨by rfl, ?yy9⟩) hS0 ?rr9
      case yy9 =>
        intro wq hSw
        subst hSw
        go_simp
        try with_reducible rfl
      simp only [Act.put, List.setIfInBounds_toArray, List.set_cons_zero, List.set_cons_succ]
      refine wpAnyB_take (i := 10) (v := ?vv10) rfl (by kernel_rfl) (by kernel_rfl) (by kernel_rfl) (by kernel_rfl) (fun _ _ _ h => h) (Or.inl ⟨by rfl, ?yy10⟩) hS0 ?rr10
      case yy10 =>
        intro wq hSw
        subst hSw
        go_simp
        try with_reducible rfl
      simp only [Act.put, List.setIfInBounds_toArray, List.set_cons_zero, List.set_cons_succ]
      refine wpAnyB_take (i := 11) (v := ?vv11) rfl (by kernel_rfl) (by kernel_rfl) (by kernel_rfl) (by kernel_rfl) (fun _ _ _ h => h) (Or.inl ⟨by rfl, ?yy11⟩) hS0 ?rr11
      case yy11 =>
        intro wq hSw
        subst hSw
        go_simp
        try with_reducible rfl
      simp only [Act.put, List.setIfInBounds_toArray, List.set_cons_zero, List.set_cons_succ]
      refine wpAnyB_take (i := 12) (v := ?vv12) rfl (by kernel_rfl) (by kernel_rfl) (by kernel_rfl) (by kernel_rfl) (fun _ _ _ h => h) (Or.inl ⟨by rfl, ?yy12⟩) hS0 ?rr12
      case yy12 =>
        intro wq hSw
        subst hSw
        go_simp
        try with_reducible rfl
      simp only [Act.put, List.setIfInBounds_toArray, List.set_cons_zero, List.set_cons_succ]
      refine wpAnyB_take (i := 13) (v := ?vv13) rfl (by kernel_rfl) (by kernel_rfl) (by kernel_rfl) (by kernel_rfl) (fun _ _ _ h => h) (Or.inl ⟨by rfl, ?yy13⟩) hS0 ?rr13
      case yy13 =>
        intro wq hSw
        subst hSw
        go_simp
        try with_reducible rfl
      simp only [Act.put, List.setIfInBounds_toArray, List.set_cons_zero, List.set_cons_succ]
      refine wpAnyB_take (i := 14) (v := ?vv14) rfl (by kernel_rfl) (by kernel_rfl) (by kernel_rfl) (by kernel_rfl) (fun _ _ _ h => h) (Or.inl ⟨by rfl, ?yy14⟩) hS0 ?rr14
      case yy14 =>
        intro wq hSw
        subst hSw
        go_simp
        try with_reducible rfl
      simp only [Act.put, List.setIfInBounds_toArray, List.set_cons_zero, List.set_cons_succ]
      refine wpAnyB_take (i := 18) (v := ?vv18) rfl (by kernel_rfl) (by kernel_rfl) (by kernel_rfl) (by kernel_rfl) (fun _ _ _ h => h) (Or.inl ⟨by rfl, ?yy18⟩) hS0 ?rr18
      case yy18 =>
        intro wq hSw
        subst hSw
        go_simp
        try with_reducible rfl
      simp only [Act.put, List.setIfInBounds_toArray, List.set_cons_zero, List.set_cons_succ]
      refine wpAnyB_ready (rs := [15]) (by kernel_rfl) (by simp) ?_
      refine (AllReadyB.cons rfl (fun K1 hK1 => ?_) AllReadyB.nil)
      go_simp
      go_upon
      refine (HM.out _ _).mono ?_
      rintro e w6 ⟨rfl, rfl⟩
      go_wp2_with fail
      refine hK1.out _ _ rfl (fun hS1 => ?_)
      clear hK1 K1
      try simp only [Act.put, List.setIfInBounds_toArray, List.set_cons_zero, List.set_cons_succ]
      refine wpAnyB_ready (rs := [16]) (by kernel_rfl) (by simp) ?_
      refine (AllReadyB.cons rfl (fun K2 hK2 => ?_) AllReadyB.nil)
      go_simp
      refine hK2.out _ _ rfl (fun hS2 => ?_)
      clear hK2 K2
      try simp only [Act.put, List.setIfInBounds_toArray, List.set_cons_zero, List.set_cons_succ]
      refine wpAnyB_ready (rs := [17]) (by kernel_rfl) (by simp) ?_
      refine (AllReadyB.cons rfl (fun K3 hK3 => ?_) AllReadyB.nil)
      go_simp
      refine hK3.out _ _ rfl (fun hS3 => ?_)
      clear hK3 K3
      try simp only [Act.put, List.setIfInBounds_toArray, List.set_cons_zero, List.set_cons_succ]
      refine wpAnyB_ready (rs := [19]) (by kernel_rfl) (by simp) ?_
      refine AllReadyB.last rfl (by kernel_rfl) (by kernel_rfl) (fun K4 hK4 => ?_)
      go_simp
      go_at_call 123
      refine (HADD.out _ ?_).mono ?_
      · simp only [show IntKind.i64.wrap 2 = 2 from rfl, w2]; omega
      rintro e w7 ⟨rfl, hwr7, hI7⟩
      have hwr8 := hR2.out.trans hwr7
      have HWR8 := Lib.hid hwr8
      have HI8 := Lib.hid hI7
      clear hwr7 hI7 hwr8
      go_wp2_with fail
      refine hK4.out _ _ ?_
      clear hK4 K4
      go_wp2_with fail
      go_roundw
      case rel => exact ⟨k + 1, by omega, by go_num, HWR8.out, by rw [HNX.out]; exact HI8.out⟩
      case measure => simp [intOf]; omega
    · have e : k = m := by omega
      rw [e, HEN.out] at hI
      have HI2 := Lib.hid hI
      have HR2 := Lib.hid hR
      clear hI hR
      go_wp2
      go_returns
      exact ⟨rfl, HR2.out, HI2.out⟩
end Go.Proofs.Ytahgialnhomefaa

namespace Go.Proofs.Ytahgialnhomefaa
open Go.RowKit Go.Maps
theorem infoR3 : (Try.prog.info? 75).map (fun i => (i.zero, i.size, i.bytes)) = some (some (.int .i64 0), 1, 8) := by kernel_rfl
theorem infoW3 : (Try.prog.info? 106).map (fun i => (i.zero, i.size, i.bytes)) = some (some (.slice none 0 0), 1, 24) := by kernel_rfl
theorem mkW3 (n : Nat) (hn : n ≤ 1100000) (W : World) : (Instr.makeSlice 106 (.int .i64 (n : Int)) (.int .i64 (n : Int))).run Try.prog W = .ok (.slice (some ⟨W.heap.size, 0, none⟩) n n) (W.alloc (.cells (madeCells #[.int .i64 0] n) 75)) := by
  obtain ⟨i0, hi, hz0, hz1, hz2⟩ := info_parts infoR3
  have hr := run_make (P := Try.prog) W 106 75 i0 (.int .i64 0) Try.underlying106 hi hz0 .i64 .i64 n n (by omega) (by omega) (by rw [hz2]; omega) (by omega)
  simp only [Int.toNat_natCast, hz1, Nat.mul_one] at hr
  exact hr
theorem run_slice3_3 (T M lo hi : Nat) (h1 : lo < hi) (h2 : hi ≤ M) (W : World) : (Instr.slice 106 (.slice (some ⟨T, 0, none⟩) M M) (some (.int .i64 (lo : Int))) (some (.int .i64 (hi : Int))) (some (.int .i64 (hi : Int)))).run Try.prog W = .ok (.slice (some ⟨T, lo, none⟩) (hi - lo) (hi - lo)) W := by
  have a0 : (0 : Int) ≤ (lo : Int) := by omega
  have a3 : (0 : Int) ≤ (hi : Int) := by omega
  simp [Instr.slice, Instr.sliceBounds, Instr.sliceBound, run_underlying Try.underlying106, go_sem, a0, a3, addr_at]
  rw [if_pos h2, if_pos (by omega), if_neg (by omega)]
/-- A list of the call's own of rows. -/
def OwnW3 (w : World) (base : Nat) (u : Value) (hs : List Value) : Prop := w.ownsRow base 106 1 u hs.length hs
theorem wpList_append_word3 {w : World} {ops : Array Oper} {rest : List Oper} {o : Oper} {a : Act} {Q : Exit → Act → World → Prop} (hgd : o.guard = none) (s x : Operand)
    (ho : o.op = .call { callee := .builtin .append, args := #[s, x], argTypes := #[73, 73] })
    (base : Nat) (v : Value) (hs : List Value) (hsv : a.eval s = v) (hown : OwnW3 w base v hs) (b0 c : Nat) (hx : a.eval x = .slice (some ⟨b0, 0, none⟩) 1 c) (p : Option Addr) (n0 c0 : Nat)
    (c1 : w.cell? ⟨b0, 0, none⟩ = some (.slice p n0 c0)) (hl : hs.length ≤ 1100000) (hbase : base ≤ w.heap.size)
    (h : ∀ (G cap : Nat) (w' : World), OwnW3 w' base (.slice (some ⟨G, 0, none⟩) (hs.length + 1) cap) (hs ++ [.slice p n0 c0]) → w.grownBy w' v.ownBlock → (v.ownBlock = some G ∨ G = w.heap.size) → wpList Try.prog ops Q rest (a.put o.dst (.slice (some ⟨G, 0, none⟩) (hs.length + 1) cap)) w') : wpList Try.prog ops Q (o :: rest) a w := by
  obtain ⟨i0, hi, hz0, hz1, hz2⟩ := info_parts infoW3
  refine wpList_append_own_at w hgd s x 73 ho base 106 i0 _ 1 24 Try.underlying73 hi hz0 hz1 hz2 rfl (by decide) v hs.length _ hsv hown ⟨b0, 0, none⟩ 1 c [.slice p n0 c0] hx rfl ?_ ?_ (by unfold maxLen; omega) (by omega) hbase ?_
  · intro j u hj
    rw [addr_at, Nat.zero_add]
    match j, hj with
    | 0, hj => simp at hj; rw [← hj]; exact c1
    | j + 1, hj => simp at hj
  · intro u hu
    simp at hu
    rw [hu]
    rfl
  · intro v' w' hown' hg _ hob
    obtain ⟨G, cap, rfl⟩ := row_some hown'
    refine h G cap w' ?_ hg ?_
    · unfold OwnW3
      rw [List.length_append]
      exact hown'
    · rcases hob with e | e
      · exact .inl (by rw [← e]; rfl)
      · exact .inr (by simpa [Value.ownBlock] using e)
theorem OwnW3.kept {w w' : World} {base : Nat} {u : Value} {hs : List Value} (h : OwnW3 w base u hs) {row : Option Nat} (hg : w.grownBy w' row) (hr : ∀ r, row = some r → u.ownBlock ≠ some r) : OwnW3 w' base u hs := World.ownsRow.kept h hg (by
  cases row with
  | none =>
    cases hv : u.ownBlock with
    | none => exact .inl rfl
    | some g => exact .inr (by simp)
  | some r => exact .inr (hr r rfl))
theorem OwnW3.below {w w' : World} {base : Nat} {u : Value} {hs : List Value} (h : OwnW3 w base u hs) (hb : Below w.heap.size w w') : OwnW3 w' base u hs := h.kept (gb_below hb) (fun r e => by cases e)
theorem OwnW3.blk {w : World} {base : Nat} {v : Value} {hs : List Value} (h : OwnW3 w base v hs) : ∀ r, v.ownBlock = some r → base ≤ r ∧ r < w.heap.size := fun r e => by
  rcases h.2 with ⟨hv, _⟩ | ⟨g, cap, cur, hv, hb, hcur, _⟩
  · rw [hv] at e; simp [Value.ownBlock] at e
  · rw [hv] at e
    obtain rfl : g = r := by simpa [Value.ownBlock] using e
    exact ⟨hb, (Array.getElem?_eq_some_iff.1 hcur).1⟩
theorem OwnW3.nil (w : World) (base : Nat) : OwnW3 w base (.slice none 0 0) [] := ⟨rfl, .inl ⟨rfl, rfl⟩⟩
theorem OwnW3.form {w : World} {base : Nat} {u : Value} {hs : List Value} (h : OwnW3 w base u hs) : ∃ a c, u = .slice a hs.length c := by
  rcases h.2 with ⟨rfl, h0⟩ | ⟨g, cap, cur, rfl, _⟩
  · rw [h0]; exact ⟨_, _, rfl⟩
  · exact ⟨_, _, rfl⟩
theorem OwnW3.at_ {w : World} {base : Nat} {u : Value} {hs : List Value} (h : OwnW3 w base u hs) {i : Nat} {x : Value} (hi : hs[i]? = some x) : ∃ g c, u = .slice (some ⟨g, 0, none⟩) hs.length c ∧ base ≤ g ∧ g < w.heap.size ∧ w.cell? ⟨g, i, none⟩ = some x := by
  have hil : i < hs.length := (List.getElem?_eq_some_iff.1 hi).1
  obtain ⟨_, h | ⟨g', cap', cur, rfl, hb, hcur, hn, hc, hsz, hx⟩⟩ := h
  · omega
  · refine ⟨g', cap', rfl, hb, (Array.getElem?_eq_some_iff.1 hcur).1, ?_⟩
    rw [← hx, List.getElem?_take_of_lt (by omega)] at hi
    simp [World.cell?, hcur]
    simpa using hi
end Go.Proofs.Ytahgialnhomefaa

namespace Go.Proofs.Ytahgialnhomefaa
open Go.RowKit Go.Maps
def hdrW3 (T n k : Nat) : List Value := (List.range k).map fun i => .slice (some ⟨T, i * n, none⟩) n n
theorem hdrW3_succ (T n k : Nat) : hdrW3 T n (k + 1) = hdrW3 T n k ++ [.slice (some ⟨T, k * n, none⟩) n n] := by simp [hdrW3, List.range_succ]
theorem hdrW3_len (T n k : Nat) : (hdrW3 T n k).length = k := by simp [hdrW3]
set_option maxRecDepth 100000 in
set_option maxHeartbeats 4000000 in
theorem rowsOf3_any (n : Nat) (s : Value) (bs : List Blk) (w : World) (h : SB w s bs) (hi : isSysImpl (n : Int) bs = true) :
    Calls Try.prog 102 #[.agg #[.int .i64 (n : Int), s]] w (fun e w' => ∃ u T, e = .returned u ∧ OwnW3 w' w.heap.size u (hdrW3 T n bs.length) ∧ TabW w' T n bs.length (fun i => rowB n (bs[i]?.getD default)) ∧ w.heap.size ≤ T ∧ u.ownBlock ≠ some T ∧ Below w.heap.size w w') := by
  have hs := h.slice
  obtain ⟨hv3, hv15, hb35⟩ := sys_size hi
  have HG := Lib.hid fun k (hk : k < bs.length) => goodB_iff.1 (sys_good hi (bs[k]?.getD default) (by rw [List.getElem?_eq_getElem hk]; exact List.getElem_mem _))
  have HSB := Lib.hid h
  obtain ⟨m, hm⟩ : ∃ m, m = bs.length := ⟨_, rfl⟩
  have HMM := Lib.hid hm
  obtain ⟨a0, c0, rfl⟩ := hs
  rw [← hm] at hb35 HG ⊢
  have hNM : n * m ≤ 15 * 35 := Nat.mul_le_mul (by omega) (by omega)
  have hmk := mkW3 (n * m) (by omega)
  rw [Int.natCast_mul] at hmk
  have wnm : IntKind.i64.wrap ((n : Int) * (m : Int)) = (n : Int) * (m : Int) := by rw [← Int.natCast_mul]; exact IntWalk.i64_in _ (by omega)
  clear h hi hm
  go_enter Try.func102, Try.ntmps102
  go_wp2
  have hbA : Below w.heap.size w (w.alloc (.cells #[.int .i64 (n : Int), .slice a0 m c0] 30)) := (Below.refl _ _).alloc (Nat.le_refl _) _
  obtain ⟨w1, hw1e⟩ : ∃ w1, w1 = w.alloc (.cells #[.int .i64 (n : Int), .slice a0 m c0] 30) := ⟨_, rfl⟩
  have hz1 : w1.heap.size = w.heap.size + 1 := by rw [hw1e]; simp
  rw [← hw1e] at hbA ⊢
  rw [← hz1]
  have hT0 : TabW (w1.alloc (.cells (madeCells #[.int .i64 0] (n * m)) 75)) w1.heap.size n m (rowK n bs 0) := by
    refine ⟨by simp, fun i hi k hk => ?_, fun o => by simp⟩
    rw [rowK_len] at hk
    have hlt : i * n + k < n * m := by
      have := Nat.mul_le_mul_right n (show i + 1 ≤ m from hi)
      rw [Nat.add_mul, Nat.one_mul, Nat.mul_comm m n] at this
      omega
    rw [World.cell?_alloc_at _ _ _ _ rfl]
    simp [madeCells, hlt, rowK, Nat.mod_one, hk]
  have hb2 : Below w1.heap.size w1 (w1.alloc (.cells (madeCells #[.int .i64 0] (n * m)) 75)) := (Below.refl _ _).alloc (Nat.le_refl _) _
  obtain ⟨w2, hw2⟩ : ∃ w2, w2 = w1.alloc (.cells (madeCells #[.int .i64 0] (n * m)) 75) := ⟨_, rfl⟩
  have hz2 : w1.heap.size < w2.heap.size := by rw [hw2]; simp
  rw [← hw2] at hT0 hb2 ⊢
  obtain ⟨TT, hTT⟩ : ∃ TT, TT = w1.heap.size := ⟨_, rfl⟩
  rw [← hTT] at hT0 ⊢
  have HTT := Lib.hid hTT
  have HT0 := Lib.hid hT0
  have HB2 := Lib.hid hb2
  have HBA := Lib.hid hbA
  have hwT : w.heap.size < TT := by omega
  have hw1 : w.heap.size ≤ w1.heap.size := by omega
  have hT2 : TT < w2.heap.size := by omega
  clear hw1e hw2 hT0 hb2 hbA hmk hz1 hz2 hTT
  have HSB2 := Lib.hid (HSB.out.below (HBA.out.trans (HB2.out.mono HBA.out.size)) (Nat.le_refl _))
  go_loopw [5, 20] (fun o i wr => ∃ k : Nat, k ≤ m ∧ i = .int .i64 k ∧ Below w1.heap.size w1 wr ∧ w2.heap.size ≤ wr.heap.size ∧ TabW wr TT n m (rowK n bs k) ∧ OwnW3 wr w2.heap.size o (hdrW3 TT n k) ∧ ∃ a q c, o = .slice a q c) (fun _ i _ => m - (intOf i).toNat)
  case atStart => exact ⟨0, Nat.zero_le _, rfl, HB2.out, Nat.le_refl _, HT0.out, OwnW3.nil _ _, _, _, _, rfl⟩
  case round =>
    obtain ⟨k, hk, rfl, hB, hz, hT, hO, oa, om, oc, rfl⟩ := hrel
    have HB := Lib.hid hB
    have HT := Lib.hid hT
    have HO := Lib.hid hO
    clear hB hT hO
    by_cases hkl : k < m
    · rcases HSB.out.2.2 with ⟨_, _, _, hnil⟩ | ⟨b, off, cap, hv, hblt, hbl⟩
      · exfalso; rw [hnil] at HMM; have := HMM.out; simp at this; omega
      simp at hv
      obtain ⟨rfl, _, rfl⟩ := hv
      have hbw : Below w.heap.size w wr := HBA.out.trans (HB.out.mono HBA.out.size)
      obtain ⟨y1, y2, y3⟩ := (hbl.below hbw hblt) k (by rw [← HMM.out]; exact hkl)
      have hg := HG.out k hkl
      obtain ⟨x, hx⟩ : ∃ x, x = bs[k]?.getD default := ⟨_, rfl⟩
      rw [← hx] at y1 y2 y3 hg
      have HX := Lib.hid hx
      obtain ⟨xa, xb, xc⟩ := x
      dsimp only at y1 y2 y3 hg
      have g0 : (0 : Int) ≤ (k : Int) := by omega
      have g1 : (k : Int) < (m : Int) := by omega
      have hkn : k * n + n ≤ n * m := by
        have := Nat.mul_le_mul_right n (show k + 1 ≤ m from hkl)
        rw [Nat.add_mul, Nat.one_mul, Nat.mul_comm m n] at this
        exact this
      have q1 : IntKind.i64.wrap ((k : Int) * (n : Int)) = (k : Int) * (n : Int) := by rw [← Int.natCast_mul]; exact IntWalk.i64_in _ (by omega)
      have q2 : IntKind.i64.wrap ((k : Int) + 1) = (k : Int) + 1 := IntWalk.i64_in _ (by omega)
      have q4 : ((k : Int) + 1) * (n : Int) = ((k * n + n : Nat) : Int) := by rw [Int.add_mul, Int.one_mul, ← Int.natCast_mul]; omega
      have q3 : IntKind.i64.wrap (((k : Int) + 1) * (n : Int)) = ((k : Int) + 1) * (n : Int) := by rw [q4]; exact IntWalk.i64_in _ (by omega)
      have hsl := run_slice3_3 TT (n * m) (k * n) (k * n + n) (by omega) hkn
      rw [Nat.add_sub_cancel_left, ← q4, Int.natCast_mul] at hsl
      clear q4
      clear hbl hx hbw
      go_upto_region 8 with fail
      have hb5 := (Below.refl wr.heap.size wr).alloc (Nat.le_refl _) (.cells #[.int .i64 xa, .int .i64 xb, .int .i64 xc] 84)
      have hIB : IB (wr.alloc (.cells #[.int .i64 xa, .int .i64 xb, .int .i64 xc] 84)) (.slice (some ⟨wr.heap.size, 0, none⟩) 3 3) [xa, xb, xc] :=
        ⟨by simp, .inr ⟨wr.heap.size, 0, 3, rfl, by simp, fun j hj => by
          match j, hj with
          | 0, _ => simp [go_sem]
          | 1, _ => simp [go_sem]
          | 2, _ => simp [go_sem]
          | j + 3, hj => exact absurd hj (by simp)⟩⟩
      obtain ⟨W5, hW5⟩ : ∃ W5, W5 = wr.alloc (.cells #[.int .i64 xa, .int .i64 xb, .int .i64 xc] 84) := ⟨_, rfl⟩
      have hz5 : wr.heap.size < W5.heap.size := by rw [hW5]; simp
      rw [← hW5] at hb5 hIB ⊢
      have HT5 := Lib.hid (HT.out.below hb5)
      have HO5 := Lib.hid (HO.out.below hb5)
      have HB5 := Lib.hid (HB.out.trans (hb5.mono HB.out.size))
      have hr5 := HT5.out.row k hkl
      rw [show rowK n bs k k = List.replicate n 0 by unfold rowK; rw [if_neg (Nat.lt_irrefl k)]] at hr5
      have HMK := Lib.hid (mark3_any TT (k * n) n n (List.replicate n 0) [xa, xb, xc] (.slice (some ⟨wr.heap.size, 0, none⟩) 3 3) W5 hr5 (by simp) hIB (fun b2 off2 q c e => by
          have : wr.heap.size = b2 := by injection e with e1; injection e1 with e1; injection e1
          omega) (fun z hz => by
          simp only [List.mem_cons, List.not_mem_nil, or_false] at hz
          rcases hz with rfl | rfl | rfl <;> omega) (fun j _ => HT5.out.free _))
      have HROW := Lib.hid (show mrkL (List.replicate n 0) [xa, xb, xc] = rowB n (bs[k]?.getD default) by rw [← HX.out]; rfl)
      rw [HROW.out] at HMK
      clear hW5 hb5 hIB hr5 y1 y2 y3 hsl q1 q3
      go_wp2_with fail
      refine HMK.out.mono ?_
      rintro e w6 ⟨rfl, hwr, hI6⟩
      have hT6 := HT5.out.wr (fun i _ => rowK_len n bs k i) hwr hI6
      have hT6' := hT6.congr (F' := rowK n bs (k + 1)) (fun i _ => by
        by_cases e : i = k
        · subst e; rw [if_pos rfl]; unfold rowK; rw [if_pos (Nat.lt_succ_self i)]
        · rw [if_neg e]; unfold rowK
          by_cases h2 : i < k
          · rw [if_pos h2, if_pos (by omega)]
          · rw [if_neg h2, if_neg (by omega)])
      have hO6 := HO5.out.kept hwr.gr (fun r e e2 => by cases e; have := (HO5.out.blk TT e2).1; omega)
      have hB6 := HB5.out.grown hwr.gr HB5.out.size (fun r e => by cases e; have := HTT.out; omega)
      have hz6 := hwr.gr.size
      have HT6 := Lib.hid hT6'
      have HO6 := Lib.hid hO6
      have HB6 := Lib.hid hB6
      have hhl : (hdrW3 TT n k).length ≤ 1100000 := by rw [hdrW3_len]; omega
      have HSC := Lib.hid (hdrW3_succ TT n k)
      clear hT6 hT6' hO6 hB6 hwr hI6
      obtain ⟨HH, hHH⟩ : ∃ HH, HH = hdrW3 TT n k := ⟨_, rfl⟩
      rw [← hHH] at HO6 hhl HSC
      clear hHH
      go_wp2_with (at_builtin; refine wpList_append_word3 rfl _ _ rfl w2.heap.size (.slice oa om oc) HH rfl (HO6.out.below ((Below.refl _ _).alloc (Nat.le_refl _) _)) _ _ rfl (some ⟨TT, k * n, none⟩) n n (by simp [go_sem]) hhl (by simp; omega) ?_; intro G' cap' w7 hV7 hg7 hG7)
      have hgo := gb_trans (World.grownBy_alloc _ _ none) hg7
      have hbk := HO6.out.blk
      have hT7 := HT6.out.kept hgo (fun e => by have := (hbk TT e.symm).1; omega)
      have hB7 := HB6.out.grown hgo HB6.out.size (fun r e => by have := (hbk r e).1; have := HB2.out.size; omega)
      have hz7 := hgo.size
      clear hg7 hgo
      go_roundw
      case rel => first
        | exact ⟨k + 1, by omega, by go_num, hB7, by omega, hT7, by rw [HSC.out]; exact hV7, _, _, _, rfl⟩
        | ((repeat apply Exists.intro); exact ⟨⟨k + 1, by omega, by go_num, hB7, by omega, hT7, by rw [HSC.out]; exact hV7, _, _, _, rfl⟩, rfl⟩)
      case measure => simp [intOf]; omega
    · have e : k = m := by omega
      rw [e] at HT HO
      have hT9 := HT.out.congr (F' := fun i => rowB n (bs[i]?.getD default)) (fun i hi => by unfold rowK; rw [if_pos hi])
      have HT9 := Lib.hid hT9
      clear hT9 e
      go_wp2
      go_ret
      exact ⟨_, TT, rfl, ownsRow_base HO.out (by have := HB2.out.size; omega), HT9.out, by omega, fun e => by have := (HO.out.blk TT e).1; omega, HBA.out.trans (HB.out.mono (by omega))⟩
end Go.Proofs.Ytahgialnhomefaa

namespace Go.Proofs.Ytahgialnhomefaa
open Go.RowKit Go.Maps
def hdrX3 (T n : Nat) (i : Nat) : Value := .slice (some ⟨T, i * n, none⟩) n n
theorem bas_take3 {n : Nat} {bs : List Blk} {k : Nat} (hk : k < bs.length) : basL 3 ((rowsB n bs).take (k + 1)) = basS 3 (basL 3 ((rowsB n bs).take k)) (rowB n (bs[k]?.getD default)) := by
  rw [List.take_add_one, ← rowsB_at n hk, List.getElem?_eq_getElem (by rw [rowsB_len]; exact hk)]
  exact basL_snoc _ _
theorem bas_ok3 (n : Nat) (bs : List Blk) (k : Nat) : (∀ o ∈ basL 3 ((rowsB n bs).take k), Wf 3 n o) ∧ (∀ o ∈ basL 3 ((rowsB n bs).take k), ∃ x ∈ o, x ≠ 0) ∧ (basL 3 ((rowsB n bs).take k)).length ≤ n := by
  have hR : ∀ r ∈ (rowsB n bs).take k, Wf 3 n r := fun r hr => rowsB_wf (p := 3) (by decide) n bs r (List.mem_of_mem_take hr)
  obtain ⟨he, _, _⟩ := basL_spec (p := 3) (.inr rfl) hR
  exact ⟨he.wf, he.ne, basL_len (.inr rfl) hR⟩
/-- What stands while the rows are gone through. -/
structure BasM3 (W : World) (lo T n m k : Nat) (bs : List Blk) (G : Nat → List Int) (ix : List Nat) (o u : Value) : Prop where
  tab : TabW W T n m G
  rest : ∀ i, k ≤ i → i < m → G i = rowB n (bs[i]?.getD default)
  len : ∀ i, i < m → (G i).length = n
  lt : ∀ i ∈ ix, i < k
  bas : ix.map G = basL 3 ((rowsB n bs).take k)
  own : OwnW3 W lo o (ix.map (hdrX3 T n))
  tl : T < lo
  us : ∃ lo2, OwnW3 W lo2 u (hdrW3 T n m)
  ut : u.ownBlock ≠ some T
  ul : ∀ r, u.ownBlock = some r → r < lo
theorem BasM3.rdb {W : World} {lo T n m k : Nat} {bs : List Blk} {G : Nat → List Int} {ix : List Nat} {u : Value} {oa : Option Addr} {om oc : Nat} (h : BasM3 W lo T n m k bs G ix (.slice oa om oc) u) (hkm : k ≤ m) {b off : Nat} (hd : b ≠ T ∧ b < lo ∨ b = T ∧ off = k * n) : RdB W oa b off n (basL 3 ((rowsB n bs).take k)) := fun i hi => by
  rw [← h.bas, List.length_map] at hi
  obtain ⟨j, hj⟩ : ∃ j, ix[i]? = some j := ⟨_, List.getElem?_eq_getElem hi⟩
  have hjk := h.lt j (List.mem_of_getElem? hj)
  obtain ⟨g, c, hv, h1, h2, h3⟩ := h.own.at_ (i := i) (x := hdrX3 T n j) (by rw [List.getElem?_map, hj]; rfl)
  injection hv with e1 e2 e3
  have hTl := h.tl
  refine ⟨g, 0, n, T, j * n, by rw [e1], h2, ?_, by rw [Nat.zero_add]; exact h3, ?_, h.tab.lt, ?_⟩
  · rcases hd with hd | hd <;> omega
  · have := h.tab.row j (by omega)
    rw [← h.bas, List.getElem?_map, hj]
    exact this
  · rcases hd with hd | ⟨rfl, rfl⟩
    · exact .inl (fun e => hd.1 e.symm)
    · rcases row_apart (i := j) (k := k) (n := n) (by omega) with h4 | h4
      · exact .inr (.inl h4)
      · exact .inr (.inr h4)
/-- A row was reduced. -/
theorem BasM3.red {W W' : World} {lo T n m k : Nat} {bs : List Blk} {G : Nat → List Int} {ix : List Nat} {o u : Value} (h : BasM3 W lo T n m k bs G ix o u) (hkm : k < m) (hm : m = bs.length) {R : List Int} (hRl : R.length = n) (hR : R = redL 3 (rowB n (bs[k]?.getD default)) (basL 3 ((rowsB n bs).take k))) (hw : Wr W W' T (k * n) n) (hI : Ints W' T (k * n) R) :
    (hasN R = false → BasM3 W' lo T n m (k + 1) bs (fun i => if i = k then R else G i) ix o u) ∧
    (hasN R = true → TabW W' T n m (fun i => if i = k then R else G i) ∧ OwnW3 W' lo o (ix.map (hdrX3 T n)) ∧ ∀ W'' o', W'.grownBy W'' o.ownBlock → OwnW3 W'' lo o' (ix.map (hdrX3 T n) ++ [hdrX3 T n k]) → BasM3 W'' lo T n m (k + 1) bs (fun i => if i = k then R else G i) (ix ++ [k]) o' u) := by
  have hT := h.tab.wr h.len hw hI
  have hO : OwnW3 W' lo o (ix.map (hdrX3 T n)) := h.own.kept hw.gr (fun r e e2 => by cases e; have := (h.own.blk T e2).1; have := h.tl; omega)
  obtain ⟨lo2, hu⟩ := h.us
  have hU : OwnW3 W' lo2 u (hdrW3 T n m) := hu.kept hw.gr (fun r e e2 => by cases e; exact h.ut e2)
  have hmap : ix.map (fun i => if i = k then R else G i) = ix.map G := List.map_congr_left fun i hi => by
    have := h.lt i hi
    rw [if_neg (by omega)]
  have hbas := bas_take3 (n := n) (bs := bs) (k := k) (by omega)
  have hrest : ∀ i, k + 1 ≤ i → i < m → (if i = k then R else G i) = rowB n (bs[i]?.getD default) := fun i h1 h2 => by
    rw [if_neg (by omega)]; exact h.rest i (by omega) h2
  have hlen : ∀ i, i < m → (if i = k then R else G i).length = n := fun i hi => by
    split
    · exact hRl
    · exact h.len i hi
  constructor
  · intro hn
    refine ⟨hT, hrest, hlen, fun i hi => Nat.lt_succ_of_lt (h.lt i hi), ?_, hO, h.tl, ⟨lo2, hU⟩, h.ut, h.ul⟩
    rw [hmap, h.bas, hbas, basS, ← hR, hn, if_neg (by decide)]
  · intro hn
    refine ⟨hT, hO, fun W'' o' hg ho' => ?_⟩
    have hTl := h.tl
    refine ⟨hT.kept hg (fun e => by have := (hO.blk T e.symm).1; omega), hrest, hlen, fun i hi => ?_, ?_, by rw [List.map_append]; exact ho', h.tl, ⟨lo2, hU.kept hg (fun r e e2 => by have := (hO.blk r e).1; have := h.ul r e2; omega)⟩, h.ut, h.ul⟩
    · rcases List.mem_append.1 hi with hi | hi
      · exact Nat.lt_succ_of_lt (h.lt i hi)
      · rw [List.mem_singleton] at hi; omega
    · rw [List.map_append, hmap, h.bas, hbas, basS, ← hR, hn, if_pos rfl]
      simp
theorem BasM3.below {W W' : World} {lo T n m k : Nat} {bs : List Blk} {G : Nat → List Int} {ix : List Nat} {o u : Value} (h : BasM3 W lo T n m k bs G ix o u) (hb : Below W.heap.size W W') : BasM3 W' lo T n m k bs G ix o u := by
  obtain ⟨lo2, hu⟩ := h.us
  exact ⟨h.tab.below hb, h.rest, h.len, h.lt, h.bas, h.own.below hb, h.tl, ⟨lo2, hu.below hb⟩, h.ut, h.ul⟩
set_option maxRecDepth 100000 in
set_option maxHeartbeats 4000000 in
theorem basisOf3_any (n : Nat) (s : Value) (bs : List Blk) (w : World) (h : SB w s bs) (hi : isSysImpl (n : Int) bs = true) :
    Calls Try.prog 67 #[.agg #[.int .i64 (n : Int), s]] w (fun e w' => ∃ ta tc, e = .returned (.slice ta (basL 3 (rowsB n bs)).length tc) ∧ Below w.heap.size w w' ∧ ∀ b off, b < w.heap.size → RdB w' ta b off n (basL 3 (rowsB n bs))) := by
  have hs := h.slice
  obtain ⟨hv3, hv15, hb35⟩ := sys_size hi
  have hbA : Below w.heap.size w (w.alloc (.cells #[.int .i64 (n : Int), s] 30)) := (Below.refl _ _).alloc (Nat.le_refl _) _
  have HRO := Lib.hid (rowsOf3_any n s bs _ (h.below hbA (Nat.le_refl _)) hi)
  have HBA := Lib.hid hbA
  obtain ⟨m, hm⟩ : ∃ m, m = bs.length := ⟨_, rfl⟩
  have HMM := Lib.hid hm
  have HOK := Lib.hid (bas_ok3 n bs)
  obtain ⟨a0, c0, rfl⟩ := hs
  rw [← hm] at HRO hb35 HBA
  rw [← hm]
  clear h hi hm hbA
  go_enter Try.func67, Try.ntmps67
  go_wp2_with fail
  refine HRO.out.mono ?_
  rintro e w1 ⟨u, T, rfl, hO, hT, hlT, huT, hb1⟩
  have HB1 := Lib.hid (HBA.out.trans (hb1.mono (by simp)))
  obtain ⟨ua, uc, hu⟩ := hO.form
  rw [hdrW3_len] at hu
  have hwT : w.heap.size ≤ T := by simp at hlT; omega
  have hM0 : BasM3 w1 w1.heap.size T n m 0 bs (fun i => rowB n (bs[i]?.getD default)) [] (.slice none 0 0) u := ⟨hT, fun _ _ _ => rfl, fun i _ => rowB_len n _, fun i hi => (by cases hi), (by simp [basL]), OwnW3.nil _ _, hT.lt, ⟨_, hO⟩, huT, fun r e => (hO.blk r e).2⟩
  subst hu
  have HM0 := Lib.hid hM0
  have hwz : w.heap.size ≤ w1.heap.size := HB1.out.size
  clear hb1 hO hT hlT huT hM0 HRO
  go_wp2_with fail
  go_loopw [3, 9] (fun o i wr => ∃ (k : Nat) (G : Nat → List Int) (ix : List Nat), k ≤ m ∧ i = .int .i64 k ∧ Below w.heap.size w wr ∧ w1.heap.size ≤ wr.heap.size ∧ BasM3 wr w1.heap.size T n m k bs G ix o (.slice ua m uc) ∧ ∃ a q c, o = .slice a q c) (fun _ i _ => m - (intOf i).toNat)
  case atStart => exact ⟨0, _, [], Nat.zero_le _, rfl, HB1.out, Nat.le_refl _, HM0.out, _, _, _, rfl⟩
  case round =>
    obtain ⟨k, G, ix, hk, rfl, hB, hz, hM, oa, om, oc, rfl⟩ := hrel
    have HB := Lib.hid hB
    have HM := Lib.hid hM
    have hom : om = (basL 3 ((rowsB n bs).take k)).length := by
      obtain ⟨a, c, e⟩ := hM.own.form
      injection e with _ e2 _
      rw [e2, List.length_map, ← hM.bas, List.length_map]
    clear hB
    by_cases hkl : k < m
    · obtain ⟨lo2, hU⟩ := hM.us
      obtain ⟨g, c, hue, hg1, hg2, hcell⟩ := hU.at_ (i := k) (x := .slice (some ⟨T, k * n, none⟩) n n) (by unfold hdrW3; rw [List.getElem?_map, List.getElem?_range hkl]; rfl)
      injection hue with e1 e2 e3
      clear e2 e3
      subst e1
      have hrow := hM.tab.row k hkl
      rw [hM.rest k (Nat.le_refl k) hkl] at hrow
      obtain ⟨hw1, hw2, hw3⟩ := HOK.out k
      have hwfr := rowB_wf (p := 3) (by decide) n (bs[k]?.getD default)
      have HRED := Lib.hid (reduce3_any T (k * n) n n (rowB n (bs[k]?.getD default)) oa oc om (basL 3 ((rowsB n bs).take k)) wr hrow hwfr (hM.rdb hk (.inr ⟨rfl, rfl⟩)) hw1 hw2 (fun j _ => hM.tab.free _) (by omega) hom (by omega))
      have hRwf := redL_wf (p := 3) (n := n) (.inr rfl) hwfr hw1
      obtain ⟨R, hR⟩ : ∃ R, R = redL 3 (rowB n (bs[k]?.getD default)) (basL 3 ((rowsB n bs).take k)) := ⟨_, rfl⟩
      rw [← hR] at HRED hRwf
      have HR := Lib.hid hR
      have g0 : (0 : Int) ≤ (k : Int) := by omega
      have g1 : (k : Int) < (m : Int) := by omega
      clear hM hU hrow hw1 hw2 hw3 hwfr hR hom
      go_wp2_with fail
      refine HRED.out.mono ?_
      rintro e w4 ⟨rfl, hwr, hI⟩
      have hboth := HM.out.red hkl HMM.out hRwf.1 HR.out hwr hI
      have HBOTH := Lib.hid hboth
      have HWT := Lib.hid (weight3_any T (k * n) n n R w4 hI hRwf.1 (by omega))
      have hwp := wtL_pos (ws := R)
      have hB4 := HB.out.grown hwr.gr HB.out.size (fun r e => by cases e; exact hwT)
      have HB4 := Lib.hid hB4
      have hz4 := hwr.gr.size
      obtain ⟨q, hq⟩ : ∃ q, q = wtL R := ⟨_, rfl⟩
      rw [← hq] at HWT hwp
      clear hboth hwr hI hB4 hq
      cases hn : hasN R with
      | false =>
        have hq0 : q = 0 := by
          rcases Nat.eq_zero_or_pos q with h | h
          · exact h
          · rw [hwp.1 h] at hn; cases hn
        subst hq0
        have HN := Lib.hid (HBOTH.out.1 hn)
        clear hwp hn
        go_wp2_with fail
        refine HWT.out.mono ?_
        rintro e w5 ⟨rfl, rfl⟩
        go_wp2
        go_roundw
        case rel => exact ⟨k + 1, _, ix, by omega, by go_num, HB4.out, by omega, HN.out, _, _, _, rfl⟩
        case measure => simp [intOf]; omega
      | true =>
        have hq0 : 0 < q := hwp.2 hn
        have hd : decide ((0 : Int) < (q : Int)) = true := by simp; omega
        obtain ⟨hT4, hO4, hNX⟩ := HBOTH.out.2 hn
        have HO4 := Lib.hid hO4
        have HNX := Lib.hid hNX
        have hil : (ix.map (hdrX3 T n)).length ≤ 1100000 := by
          have := congrArg List.length HM.out.bas
          rw [List.length_map] at this
          have h2 := (HOK.out k).2.2
          rw [List.length_map]
          omega
        obtain ⟨HH, hHH⟩ : ∃ HH, HH = ix.map (hdrX3 T n) := ⟨_, rfl⟩
        rw [← hHH] at HO4 hil HNX
        clear hT4 hO4 hNX hwp hn hHH
        go_wp2_with (first | (go_at_call 104; refine HWT.out.mono ?_; rintro e w5 ⟨rfl, rfl⟩) | (at_builtin; refine wpList_append_word3 rfl _ _ rfl w1.heap.size (.slice oa om oc) HH rfl (HO4.out.below ((Below.refl _ _).alloc (Nat.le_refl _) _)) _ _ rfl (some ⟨T, k * n, none⟩) n n (by simp [go_sem]) hil (by simp; omega) ?_; intro G' cap' w7 hV7 hg7 hG7))
        have hgo := gb_trans (World.grownBy_alloc _ _ none) hg7
        have hM7 := HNX.out _ _ hgo hV7
        have hB7 := HB4.out.grown hgo HB4.out.size (fun r e => by have := (HO4.out.blk r e).1; omega)
        have hz7 := hgo.size
        clear hg7 hgo
        go_roundw
        case rel => first
          | exact ⟨k + 1, _, ix ++ [k], by omega, by go_num, hB7, by omega, hM7, _, _, _, rfl⟩
          | ((repeat apply Exists.intro); exact ⟨⟨k + 1, _, ix ++ [k], by omega, by go_num, hB7, by omega, hM7, _, _, _, rfl⟩, rfl⟩)
        case measure => simp [intOf]; omega
    · have e : k = m := by omega
      have HRD := Lib.hid fun b off (hb : b < w.heap.size) => HM.out.rdb hk (b := b) (off := off) (.inl ⟨by omega, by omega⟩)
      have hall : (rowsB n bs).take k = rowsB n bs := by rw [e, HMM.out, ← rowsB_len n bs, List.take_length]
      rw [hall] at HRD hom
      have HOM := Lib.hid hom
      clear hom hall e hM
      go_wp2
      go_ret
      exact ⟨oa, oc, by first | rfl | (rw [HOM.out]; rfl), HB.out, HRD.out⟩
end Go.Proofs.Ytahgialnhomefaa

namespace Go.Proofs.Ytahgialnhomefaa
open Go.RowKit Go.Maps
def rkV (v : Int) (bs : List Blk) (p : Int) : Value :=
  if isSysImpl v bs = true then
    if p = 2 then .tuple #[.int .i64 ((basL 2 (rowsB v.toNat bs)).length : Nat), .int .i64 0]
    else if p = 3 then .tuple #[.int .i64 ((basL 3 (rowsB v.toNat bs)).length : Nat), .int .i64 0]
    else .tuple #[.int .i64 0, .int .i64 2]
  else .tuple #[.int .i64 0, .int .i64 1]
set_option maxRecDepth 100000 in
set_option maxHeartbeats 4000000 in
theorem RankModulo_any (v : Int) (s : Value) (bs : List Blk) (p : Int) (w : World) (h : SB w s bs) :
    Calls Try.prog 36 #[.agg #[.int .i64 v, s], .int .i64 p] w (RV (rkV v bs p) w) := by
  have hs := h.slice
  have hbA : Below w.heap.size w (w.alloc (.cells #[.int .i64 v, s] 30)) := (Below.refl _ _).alloc (Nat.le_refl _) _
  have HIS := Lib.hid (IsSystem_any v s bs _ (h.below hbA (Nat.le_refl _)))
  have HBA := Lib.hid hbA
  by_cases hi : isSysImpl v bs = true
  · have hv0 : 0 ≤ v := by
      simp only [isSysImpl, Bool.and_eq_true, decide_eq_true_eq] at hi
      omega
    obtain ⟨n, rfl⟩ := Int.eq_ofNat_of_zero_le hv0
    have HV := Lib.hid (show rkV (n : Int) bs p = (if p = 2 then .tuple #[.int .i64 ((basL 2 (rowsB n bs)).length : Nat), .int .i64 0]
    else if p = 3 then .tuple #[.int .i64 ((basL 3 (rowsB n bs)).length : Nat), .int .i64 0]
    else .tuple #[.int .i64 0, .int .i64 2]) by unfold rkV; rw [if_pos hi]; rfl)
    rw [hi] at HIS
    have HR2 := Lib.hid fun W (hW : Below w.heap.size w W) => basisOf2_any n s bs W (h.below hW (Nat.le_refl _)) hi
    have HR3 := Lib.hid fun W (hW : Below w.heap.size w W) => basisOf3_any n s bs W (h.below hW (Nat.le_refl _)) hi
    rw [HV.out]
    obtain ⟨l2, hl2⟩ : ∃ l, l = basL 2 (rowsB n bs) := ⟨_, rfl⟩
    obtain ⟨l3, hl3⟩ : ∃ l, l = basL 3 (rowsB n bs) := ⟨_, rfl⟩
    rw [← hl2] at HR2 ⊢
    rw [← hl3] at HR3 ⊢
    clear h hi hbA HV hl2 hl3 hv0
    obtain ⟨a0, c0, rfl⟩ := hs
    by_cases h2 : p = 2
    · subst h2
      rw [if_pos rfl]
      go_enter Try.func36, Try.ntmps36
      go_wp2_with fail
      refine HIS.out.mono ?_
      rintro e w1 ⟨rfl, hb1⟩
      have hB1 := HBA.out.trans (hb1.mono (by simp))
      have d0 : w1.cell? ⟨w.heap.size, 0, none⟩ = some (.int .i64 (n : Int)) := (hb1.cell (p := ⟨w.heap.size, 0, none⟩) (by simp)).trans (by simp [go_sem])
      have d1 : w1.cell? ⟨w.heap.size, 1, none⟩ = some (.slice a0 bs.length c0) := (hb1.cell (p := ⟨w.heap.size, 1, none⟩) (by simp)).trans (by simp [go_sem])
      have HB1 := Lib.hid hB1
      have HQ2 := Lib.hid (HR2.out w1 hB1)
      have HQ3 := Lib.hid (HR3.out w1 hB1)
      clear hb1 hB1 HBA HIS HR2 HR3
      go_wp2_with fail
      refine HQ2.out.mono ?_
      rintro e w2 ⟨ta, tc, rfl, hb2, _⟩
      have hB2 := HB1.out.trans (hb2.mono HB1.out.size)
      clear hb2
      go_wp2
      go_ret2
      exact RV_of rfl hB2
    · rw [if_neg h2]
      have q2 : (p == 2) = false := by simpa using h2
      by_cases h3 : p = 3
      · subst h3
        rw [if_pos rfl]
        clear h2 q2
        go_enter Try.func36, Try.ntmps36
        go_wp2_with fail
        refine HIS.out.mono ?_
        rintro e w1 ⟨rfl, hb1⟩
        have hB1 := HBA.out.trans (hb1.mono (by simp))
        have d0 : w1.cell? ⟨w.heap.size, 0, none⟩ = some (.int .i64 (n : Int)) := (hb1.cell (p := ⟨w.heap.size, 0, none⟩) (by simp)).trans (by simp [go_sem])
        have d1 : w1.cell? ⟨w.heap.size, 1, none⟩ = some (.slice a0 bs.length c0) := (hb1.cell (p := ⟨w.heap.size, 1, none⟩) (by simp)).trans (by simp [go_sem])
        have HB1 := Lib.hid hB1
        have HQ2 := Lib.hid (HR2.out w1 hB1)
        have HQ3 := Lib.hid (HR3.out w1 hB1)
        clear hb1 hB1 HBA HIS HR2 HR3
        go_wp2_with fail
        refine HQ3.out.mono ?_
        rintro e w2 ⟨ta, tc, rfl, hb2, _⟩
        have hB2 := HB1.out.trans (hb2.mono HB1.out.size)
        clear hb2
        go_wp2
        go_ret2
        exact RV_of rfl hB2
      · rw [if_neg h3]
        have q3 : (p == 3) = false := by simpa using h3
        clear h2 h3
        go_enter Try.func36, Try.ntmps36
        go_wp2_with fail
        refine HIS.out.mono ?_
        rintro e w1 ⟨rfl, hb1⟩
        have hB1 := HBA.out.trans (hb1.mono (by simp))
        have d0 : w1.cell? ⟨w.heap.size, 0, none⟩ = some (.int .i64 (n : Int)) := (hb1.cell (p := ⟨w.heap.size, 0, none⟩) (by simp)).trans (by simp [go_sem])
        have d1 : w1.cell? ⟨w.heap.size, 1, none⟩ = some (.slice a0 bs.length c0) := (hb1.cell (p := ⟨w.heap.size, 1, none⟩) (by simp)).trans (by simp [go_sem])
        have HB1 := Lib.hid hB1
        have HQ2 := Lib.hid (HR2.out w1 hB1)
        have HQ3 := Lib.hid (HR3.out w1 hB1)
        clear hb1 hB1 HBA HIS HR2 HR3
        go_wp2
        go_ret2
        exact RV_of rfl HB1.out
  · have HV := Lib.hid (show rkV v bs p = .tuple #[.int .i64 0, .int .i64 1] by unfold rkV; rw [if_neg hi])
    rw [HV.out]
    have hi2 : isSysImpl v bs = false := by simpa using hi
    rw [hi2] at HIS
    clear h hi hi2 hbA HV
    obtain ⟨a0, c0, rfl⟩ := hs
    go_enter Try.func36, Try.ntmps36
    go_wp2_with fail
    refine HIS.out.mono ?_
    rintro e w1 ⟨rfl, hb1⟩
    have hB1 := HBA.out.trans (hb1.mono (by simp))
    clear hb1
    go_wp2
    go_ret2
    exact RV_of rfl hB1
end Go.Proofs.Ytahgialnhomefaa

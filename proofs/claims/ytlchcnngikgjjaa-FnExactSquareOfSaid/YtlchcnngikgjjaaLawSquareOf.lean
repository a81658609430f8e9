
/- The law FnExactSquareOf returns true. -/
import Derived.Test.YtlchcnngikgjjaaSS4
import Derived.Test.YtlchcnngikgjjaaOpen
namespace Go.Proofs.Ytlchcnngikgjjaa
open Go.RowKit Go.Maps
theorem tot_rowF (N : Nat) (k : Nat) : tot (rowF N) k = k * N := by
  induction k with
  | zero => simp [tot]
  | succ k ih => rw [tot, ih, rowF, rowP_len, Nat.succ_mul]
set_option maxRecDepth 100000 in
theorem markInt64SS_nil (k : Int) (w : World) : Calls Try.prog 50 #[.slice none 0 0, .int .i64 k] w (RS (.int .i64 k) w) := by
  go_enter Try.func50, Try.ntmps50
  go_wp2
  refine wp_loop_rounds 1 ?_
  rw [rounds_succ]
  go_wp2
  go_ret
  exact RS_of rfl
set_option maxRecDepth 100000 in
theorem heldInt64SS_nil (k : Int) (w : World) : Calls Try.prog 51 #[.slice none 0 0, .int .i64 k] w (RS (.int .i64 k) w) := by
  go_enter Try.func51, Try.ntmps51
  go_wp2
  refine wp_loop_rounds 1 ?_
  rw [rounds_succ]
  go_wp2
  go_ret
  exact RS_of rfl
theorem ssb_nil (w : World) (F : Nat → List Int) : SSB w (.slice none 0 0) 0 F := ⟨by omega, .inl ⟨rfl, _, _, rfl⟩⟩
set_option maxRecDepth 100000 in
theorem FnExactSquareOf_out (n : Int) (h : n < 2 ∨ 5 < n) (w : World) : Calls Try.prog 14 #[.int .i64 n] w (RV (.bool true) w) := by
  have HSP := Lib.hid fun W => specSquareOf_out n h W
  have HIM := Lib.hid fun W => SquareOf_out n h W
  have HEQ := Lib.hid fun W => eqInt64SS_same _ _ 0 (rowF 0) W (ssb_nil W _) (ssb_nil W _)
  have HMK := Lib.hid fun W => markInt64SS_nil 1 W
  have HHD := Lib.hid fun W => heldInt64SS_nil 1 W
  clear h
  go_enter Try.func14, Try.ntmps14
  go_wp2_with fail
  refine (HSP.out _).mono ?_
  rintro e w1 ⟨rfl, hb1⟩
  go_wp2_with fail
  refine (HIM.out _).mono ?_
  rintro e w2 ⟨rfl, hb2⟩
  go_wp2_with fail
  refine (HEQ.out _).mono ?_
  rintro e w3 ⟨rfl, hb3⟩
  go_wp2_with fail
  refine (HMK.out _).mono ?_
  rintro e w4 ⟨rfl, rfl⟩
  go_wp2_with fail
  refine (HHD.out _).mono ?_
  rintro e w5 ⟨rfl, rfl⟩
  go_wp2_with fail
  refine (HIM.out _).mono ?_
  rintro e w6 ⟨rfl, hb6⟩
  go_wp2_with fail
  refine (HEQ.out _).mono ?_
  rintro e w7 ⟨rfl, hb7⟩
  go_wp2_with fail
  refine (HHD.out _).mono ?_
  rintro e w8 ⟨rfl, rfl⟩
  go_wp2
  go_ret
  have z1 := hb1.size
  have z2 := hb2.size
  have z3 := hb3.size
  have z6 := hb6.size
  exact RV_of rfl (hb1.trans ((hb2.mono z1).trans ((hb3.mono (by omega)).trans ((hb6.mono (by omega)).trans (hb7.mono (by omega))))))
set_option maxRecDepth 100000 in
set_option maxHeartbeats 1000000 in
theorem FnExactSquareOf_in (N : Nat) (h1 : 2 ≤ N) (h2 : N ≤ 5) (w : World) : Calls Try.prog 14 #[.int .i64 (N : Int)] w (RV (.bool true) w) := by
  have HSP := Lib.hid fun W => specSquareOf_in N h1 h2 W
  have HIM := Lib.hid fun W => SquareOf_in N h1 h2 W
  have hT : tot (rowF N) N ≤ 1100000 := by
    rw [tot_rowF]
    have := Nat.mul_le_mul h2 h2
    omega
  have hF : ∀ k, k < N → (rowF N k).length ≤ 1100000 := fun k _ => by rw [rowF, rowP_len]; omega
  have hN : N ≤ 1100000 := by omega
  obtain ⟨m, hm⟩ : ∃ m, m = (1 : Int) + (tot (rowF N) N : Int) := ⟨_, rfl⟩
  have m0 : 0 ≤ m := by omega
  have HMK := Lib.hid fun lo G cap gs caps W (h : SSR W lo G gs caps N (rowF N)) (hlo : lo ≤ W.heap.size) => markInt64SS_any lo G cap gs caps N (rowF N) 1 W h hN hlo hT (by omega) (by omega)
  have HHD := Lib.hid fun lo G cap gs caps W (h : SSR W lo G gs caps N (markSS 1 (rowF N))) => heldInt64SS_any lo G cap gs caps N (rowF N) 1 W h hN hT (by omega) (by omega)
  rw [← hm] at HMK HHD
  have HFL := Lib.hid hF
  have hmm : (m != m) = false := by simp
  clear hm hF hT
  go_enter Try.func14, Try.ntmps14
  go_wp2_with fail
  refine (HSP.out _).mono ?_
  rintro e w1 ⟨sW, GW, cW, gsW, capsW, rfl, hb1, rfl, hGW, hSW⟩
  have SW := Lib.hid (hSW.sb (cap := cW) hN HFL.out)
  clear hSW
  go_wp2_with fail
  refine (HIM.out _).mono ?_
  rintro e w2 ⟨sG, G, cG, gs, caps, rfl, hb2, rfl, hG, hSG⟩
  have SG := Lib.hid hSG
  clear hSG
  go_wp2_with fail
  refine (eqInt64SS_same _ _ N (rowF N) _ (SG.out.sb hN HFL.out) (SW.out.below hb2 (Nat.le_refl _))).mono ?_
  rintro e w3 ⟨rfl, hb3⟩
  have z1 := hb1.size
  have z2 := hb2.size
  have z3 := hb3.size
  go_wp2_with fail
  refine (HMK.out _ _ _ _ _ _ (SG.out.below hb3 (Nat.le_refl _)) (by omega)).mono ?_
  rintro e w4 ⟨rfl, hb4, hS4⟩
  have z4 := hb4.size
  have S4 := Lib.hid hS4
  clear hS4
  have hb14 : Below w1.heap.size w1 w4 := hb2.trans ((hb3.mono (by omega)).trans hb4)
  go_wp2_with fail
  refine (HHD.out _ _ _ _ _ _ S4.out).mono ?_
  rintro e w5 ⟨rfl, rfl⟩
  go_wp2_with fail
  refine (HIM.out _).mono ?_
  rintro e w6 ⟨sH, H, cH, gsH, capsH, rfl, hb6, rfl, hH, hSH⟩
  have SH := Lib.hid hSH
  clear hSH
  have hb16 : Below w1.heap.size w1 w6 := hb14.trans (hb6.mono (by omega))
  go_wp2_with fail
  refine (eqInt64SS_same _ _ N (rowF N) _ (SH.out.sb hN HFL.out) (SW.out.below hb16 (Nat.le_refl _))).mono ?_
  rintro e w7 ⟨rfl, hb7⟩
  have z6 := hb6.size
  go_wp2_with fail
  refine (HHD.out _ _ _ _ _ _ ((S4.out.below hb6 (Nat.le_refl _)).below hb7 (Nat.le_refl _))).mono ?_
  rintro e w8 ⟨rfl, rfl⟩
  go_wp2
  go_ret
  exact RV_of rfl (hb1.trans ((hb16.mono z1).trans (hb7.mono (by omega))))
theorem FnExactSquareOf_any (n : Int) (w : World) : Calls Try.prog 14 #[.int .i64 n] w (RV (.bool true) w) := by
  by_cases h : n < 2 ∨ 5 < n
  · exact FnExactSquareOf_out n h w
  · have e : n = ((n.toNat : Nat) : Int) := by omega
    rw [e]
    exact FnExactSquareOf_in n.toNat (by omega) (by omega) w
end Go.Proofs.Ytlchcnngikgjjaa

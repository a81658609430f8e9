
/- IsDistributive: plain; the program; the model. The law FnExactIsDistributive returns true. How the laws' arguments are read. The dump's head word by word, cheaply: what every row asks of it. -/
import Derived.Test.YtahgialnhomefaaJ14
import Derived.Deep.RegionWith
import Derived.Test.YtahgialnhomefaaRows
import Derived.ProofKit
import Derived.OpenShut
import Derived.Deep.Slices
import Derived.Lib.SmallJoins
import Derived.ChangeOld
namespace Go.Proofs.Ytahgialnhomefaa
open Go.RowKit Go.Maps
def dis (R : Nat → Nat → Int) (a b c : Nat) : Bool := R a (R b c).toNat == R (R a b).toNat (R a c).toNat
def allD (N : Nat) (R : Nat → Nat → Int) : Bool := (List.range N).all fun a => (List.range N).all fun b => (List.range N).all fun c => dis R a b c
theorem allD_true {N : Nat} {R : Nat → Nat → Int} (h : ∀ a, a < N → ∀ b, b < N → ∀ c, c < N → dis R a b c = true) : allD N R = true := by
  unfold allD
  rw [List.all_eq_true]; intro a ha
  rw [List.all_eq_true]; intro b hb
  rw [List.all_eq_true]; intro c hc
  exact h a (List.mem_range.1 ha) b (List.mem_range.1 hb) c (List.mem_range.1 hc)
theorem allD_false {N : Nat} {R : Nat → Nat → Int} {a b c : Nat} (ha : a < N) (hb : b < N) (hc : c < N) (h : dis R a b c = false) : allD N R = false := by
  cases e : allD N R with
  | false => rfl
  | true =>
    unfold allD at e
    rw [List.all_eq_true] at e
    have := e a (List.mem_range.2 ha)
    rw [List.all_eq_true] at this
    have := this b (List.mem_range.2 hb)
    rw [List.all_eq_true] at this
    rw [this c (List.mem_range.2 hc)] at h
    cases h
def Cmm (N : Nat) (R : Nat → Nat → Int) : Prop := (∀ a b, a < N → b < N → R a b = R b a) ∧ ∀ a, a < N → R a a = (a : Int)
theorem dis_swap {N : Nat} {R : Nat → Nat → Int} (hR : InT N R) (hC : Cmm N R) {a b c : Nat} (ha : a < N) (hb : b < N) (hc : c < N) : dis R a b c = dis R a c b := by
  unfold dis
  have h1 := hR a b ha hb
  have h2 := hR a c ha hc
  rw [hC.1 b c hb hc, hC.1 (R a b).toNat (R a c).toNat (by omega) (by omega)]
theorem dis_same {N : Nat} {R : Nat → Nat → Int} (hR : InT N R) (hC : Cmm N R) {a b : Nat} (ha : a < N) (hb : b < N) : dis R a b b = true := by
  unfold dis
  have h1 := hR a b ha hb
  rw [hC.2 b hb, hC.2 (R a b).toNat (by omega)]
  have : (((R a b).toNat : Nat) : Int) = R a b := by omega
  rw [this]
  simp
theorem allD_half {N : Nat} {R : Nat → Nat → Int} (hR : InT N R) (hC : Cmm N R) (h : ∀ a, a < N → ∀ b, b < N → ∀ c, c < b → dis R a b c = true) : allD N R = true :=
  allD_true fun a ha b hb c hc => by
    rcases Nat.lt_trichotomy c b with h1 | h1 | h1
    · exact h a ha b hb c h1
    · rw [h1]; exact dis_same hR hC ha hb
    · rw [dis_swap hR hC ha hb hc]; exact h a ha c hc b h1
theorem prd_cmm {n : Nat} {bs : List Blk} (h : isSysImpl (n : Int) bs = true) (hf : fullB (n : Int) bs = true) : Cmm n (prd 0 n bs) := by
  refine ⟨fun a b ha hb => ?_, fun a ha => by simp [prd]⟩
  rw [prd0_third h hf ha hb, prd0_third h hf hb ha]
  by_cases hab : a = b
  · rw [if_pos hab, if_pos hab.symm, hab]
  · rw [if_neg hab, if_neg (fun e => hab e.symm)]
    exact (third1_of h (tri_third h hf (a := (b : Int)) (b := (a : Int)) (by omega) (by omega) (by omega)).swap)
/-- The cells that a test reads. -/
theorem dis_cells {w : World} {lo G : Nat} {gs caps : Nat → Nat} {N : Nat} {R : Nat → Nat → Int} (h : SSR w lo G gs caps N (rowT N R)) (hR : InT N R) {a b c : Nat} (ha : a < N) (hb : b < N) (hc : c < N) :
    ∃ x y z : Nat, ∃ p q : Int, x < N ∧ y < N ∧ z < N ∧ dis R a b c = (p == q) ∧
      w.cell? ⟨G, a, none⟩ = some (.slice (some ⟨gs a, 0, none⟩) N (caps a)) ∧ w.cell? ⟨G, b, none⟩ = some (.slice (some ⟨gs b, 0, none⟩) N (caps b)) ∧ w.cell? ⟨G, x, none⟩ = some (.slice (some ⟨gs x, 0, none⟩) N (caps x)) ∧
      w.cell? ⟨gs a, b, none⟩ = some (.int .i64 (x : Int)) ∧ w.cell? ⟨gs b, c, none⟩ = some (.int .i64 (y : Int)) ∧ w.cell? ⟨gs a, c, none⟩ = some (.int .i64 (z : Int)) ∧ w.cell? ⟨gs a, y, none⟩ = some (.int .i64 p) ∧ w.cell? ⟨gs x, z, none⟩ = some (.int .i64 q) := by
  obtain ⟨x0, x1⟩ := hR a b ha hb
  obtain ⟨y0, y1⟩ := hR b c hb hc
  obtain ⟨z0, z1⟩ := hR a c ha hc
  obtain ⟨x, hx⟩ : ∃ x : Nat, R a b = (x : Int) := ⟨(R a b).toNat, by omega⟩
  obtain ⟨y, hy⟩ : ∃ y : Nat, R b c = (y : Int) := ⟨(R b c).toNat, by omega⟩
  obtain ⟨z, hz⟩ : ∃ z : Nat, R a c = (z : Int) := ⟨(R a c).toNat, by omega⟩
  have hxN : x < N := by omega
  have hyN : y < N := by omega
  have hzN : z < N := by omega
  obtain ⟨h1, h2⟩ := h.get ha hb
  obtain ⟨h3, h4⟩ := h.get hb hc
  obtain ⟨_, h6⟩ := h.get ha hc
  obtain ⟨_, h8⟩ := h.get ha hyN
  obtain ⟨h9, h10⟩ := h.get hxN hzN
  rw [hx] at h2
  rw [hy] at h4
  rw [hz] at h6
  exact ⟨x, y, z, R a y, R x z, hxN, hyN, hzN, by unfold dis; rw [hx, hy, hz]; rfl, h1, h3, h9, h2, h4, h6, h8, h10⟩
def disF (v : Int) (bs : List Blk) : Bool × Int := if fullC v bs = 0 then (allD v.toNat (prd 0 v.toNat bs), 0) else (false, fullC v bs)
def disV (v : Int) (bs : List Blk) : Value := .tuple #[.bool (disF v bs).1, .int .i64 (disF v bs).2]
set_option maxRecDepth 100000 in
set_option maxHeartbeats 4000000 in
theorem IsDistributive_any (v : Int) (s : Value) (bs : List Blk) (w : World) (h : SB w s bs) :
    Calls Try.prog 26 #[.agg #[.int .i64 v, s]] w (RV (disV v bs) w) := by
  have hs := h.slice
  have HFC := Lib.hid fun B W (hb : Below w.heap.size w W) c0 c1 => fullCode_one B v s bs W (h.below hb (Nat.le_refl _)) c0 c1
  by_cases hc : fullC v bs = 0
  · obtain ⟨hi, hf⟩ := fullC_zero hc
    obtain ⟨hv3, hv15, _⟩ := sys_size hi
    obtain ⟨N, rfl⟩ : ∃ N : Nat, v = (N : Int) := ⟨v.toNat, by omega⟩
    have HV := Lib.hid (show disV (N : Int) bs = .tuple #[.bool (allD N (prd 0 N bs)), .int .i64 0] by
      unfold disV disF
      rw [if_pos hc]
      rfl)
    rw [HV.out]
    rw [hc] at HFC
    have HPT := Lib.hid fun W (hb : Below w.heap.size w W) => productTable_any 0 (.inl rfl) N s bs W (h.below hb (Nat.le_refl _)) hi
    rw [Nat.add_zero] at HPT
    have hin := prd_in (.inl rfl) hi hf
    rw [Nat.add_zero] at hin
    have HR := Lib.hid hin
    have HCM := Lib.hid (prd_cmm hi hf)
    obtain ⟨R, hRR⟩ : ∃ R, R = prd 0 N bs := ⟨_, rfl⟩
    rw [← hRR] at HPT HR HCM ⊢
    have hN16 : N ≤ 16 := by omega
    have hN0 : 0 < N := by omega
    clear h hc hi hf hin hRR hv3 hv15 HV
    obtain ⟨a0, c0, rfl⟩ := hs
    have HFX := Lib.hid (HFC.out (w.heap.size + 1) ((w.alloc (.cells #[.int .i64 (N : Int), .slice a0 bs.length c0] 30)).alloc (.cells #[.int .i64 (N : Int), .slice a0 bs.length c0] 30)) (((Below.refl _ _).alloc (Nat.le_refl _) _).alloc (by simp) _) (by simp [go_sem]) (by simp [go_sem]))
    clear HFC
    go_enter Try.func26, Try.ntmps26
    go_wp2_with fail
    refine HFX.out.mono ?_
    rintro e w1 ⟨rfl, hb1⟩
    have hB1 : Below w.heap.size w w1 := (((Below.refl _ _).alloc (Nat.le_refl _) _).alloc (by simp) _).trans (hb1.mono (by simp <;> omega))
    have d0 : w1.cell? ⟨w.heap.size, 0, none⟩ = some (.int .i64 (N : Int)) := (hb1.cell (p := ⟨w.heap.size, 0, none⟩) (by simp <;> omega)).trans (by simp [go_sem])
    have d1 : w1.cell? ⟨w.heap.size, 1, none⟩ = some (.slice a0 bs.length c0) := (hb1.cell (p := ⟨w.heap.size, 1, none⟩) (by simp <;> omega)).trans (by simp [go_sem])
    clear hb1 HFX
    go_wp2_with fail
    refine (HPT.out _ hB1).mono ?_
    rintro e w2 ⟨G, gs, caps, rfl, _, hb2, hS⟩
    have HB0 := Lib.hid (hB1.trans (hb2.mono hB1.size))
    have HS := Lib.hid hS
    clear hb2 hS hB1 d0 d1
    go_wp2_with fail
    go_loopw [20] (fun i wr => ∃ a : Nat, a ≤ N ∧ i = .int .i64 a ∧ Below w2.heap.size w2 wr ∧ Hid (∀ a1, a1 < a → ∀ b, b < N → ∀ c, c < N → dis R a1 b c = true)) (fun i _ => N - (intOf i).toNat)
    case atStart => exact ⟨0, Nat.zero_le _, rfl, Below.refl _ _, Lib.hid (fun a1 h => absurd h (Nat.not_lt_zero _))⟩
    case round =>
      obtain ⟨a, ha, rfl, hB, HQA⟩ := hrel
      have HB := Lib.hid hB
      by_cases hal : a < N
      · have a0 : (0 : Int) ≤ (a : Int) := by omega
        have a1 : (a : Int) < (N : Int) := by omega
        have kA := (HS.out.below hB (Nat.le_refl _)).cell a hal
        rw [rowT_len] at kA
        clear hB
        go_wp2
        clear kA
        go_loopw [26] (fun i wr => ∃ b : Nat, b ≤ N ∧ i = .int .i64 b ∧ Below w2.heap.size w2 wr ∧ Hid (∀ b1, b1 < b → ∀ c, c < N → dis R a b1 c = true)) (fun i _ => N - (intOf i).toNat)
        case atStart => exact ⟨0, Nat.zero_le _, rfl, HB.out, Lib.hid (fun a1 h => absurd h (Nat.not_lt_zero _))⟩
        case round =>
          obtain ⟨b, hb, rfl, hB, HQB⟩ := hrel
          have HB := Lib.hid hB
          clear hB
          by_cases hbl : b < N
          · have b0 : (0 : Int) ≤ (b : Int) := by omega
            have b1 : (b : Int) < (N : Int) := by omega
            go_wp2
            go_loopw [31] (fun i wr => ∃ c : Nat, c ≤ N ∧ i = .int .i64 c ∧ Below w2.heap.size w2 wr ∧ Hid (∀ c1, c1 < c → dis R a b c1 = true)) (fun i _ => N - (intOf i).toNat)
            case atStart => exact ⟨0, Nat.zero_le _, rfl, HB.out, Lib.hid (fun a1 h => absurd h (Nat.not_lt_zero _))⟩
            case round =>
              obtain ⟨c, hc, rfl, hB, HQC⟩ := hrel
              by_cases hcl : c < N
              · have hcN : c < N := by omega
                obtain ⟨x, y, z, p, q, hx, hy, hz, ht, k1, k2, k3, k4, k5, k6, k7, k8⟩ := dis_cells (HS.out.below hB (Nat.le_refl _)) HR.out hal hbl hcN
                have c0 : (0 : Int) ≤ (c : Int) := by omega
                have c1 : (c : Int) < (N : Int) := by omega
                have x0 : (0 : Int) ≤ (x : Int) := by omega
                have x1 : (x : Int) < (N : Int) := by omega
                have y0 : (0 : Int) ≤ (y : Int) := by omega
                have y1 : (y : Int) < (N : Int) := by omega
                have z0 : (0 : Int) ≤ (z : Int) := by omega
                have z1 : (z : Int) < (N : Int) := by omega
                have HB2 := Lib.hid hB
                clear hx hy hz hB
                have k1 := cell_regrown k1
                have k2 := cell_regrown k2
                have k3 := cell_regrown k3
                have k4 := cell_regrown k4
                have k5 := cell_regrown k5
                have k6 := cell_regrown k6
                have k7 := cell_regrown k7
                have k8 := cell_regrown k8
                cases hpq : (p == q) with
                | false =>
                  have hne : (p != q) = true := by simp [bne, hpq]
                  have HF := Lib.hid (allD_false hal hbl hcN (by rw [ht, hpq]))
                  clear ht hpq
                  go_wp2
                  refine wp_region_quiet_below (by kernel_rfl) (by kernel_rfl) ?_
                  repeat (go_big_quiet_step (fail))
                  refine wpQuiet_nil ?_
                  intro _ hw'
                  obtain ⟨⟨dq, osq⟩, hw''⟩ := hw'
                  subst hw''
                  have hbq := below_regrown wr dq osq
                  go_wp2
                  go_ret2
                  exact RV_of (by rw [HF.out]; rfl) (HB0.out.trans ((HB2.out.trans (hbq.mono HB2.out.size)).mono HB0.out.size))
                | true =>
                  have hne : (p != q) = false := by simp [bne, hpq]
                  have HQN := Lib.hid (show ∀ c1, c1 < c + 1 → dis R a b c1 = true from fun c1 h1 => by
                    rcases Nat.lt_succ_iff_lt_or_eq.1 h1 with h1 | h1
                    · exact HQC.out c1 h1
                    · rw [h1, ht, hpq])
                  clear ht hpq
                  go_wp2
                  refine wp_region_quiet_below (by kernel_rfl) (by kernel_rfl) ?_
                  repeat (go_big_quiet_step (fail))
                  refine wpQuiet_nil ?_
                  intro _ hw'
                  obtain ⟨⟨dq, osq⟩, hw''⟩ := hw'
                  subst hw''
                  have hbq := below_regrown wr dq osq
                  go_wp2
                  go_roundw
                  case rel => exact ⟨c + 1, by omega, by go_num, HB2.out.trans (hbq.mono HB2.out.size), HQN⟩
                  case measure => simp [intOf]; omega
              · have e : c = N := by omega
                have HQN := Lib.hid (show ∀ b1, b1 < b + 1 → ∀ c, c < N → dis R a b1 c = true from fun b1 h1 c2 h2 => by
                  rcases Nat.lt_succ_iff_lt_or_eq.1 h1 with h1 | h1
                  · exact HQB.out b1 h1 c2 h2
                  · rw [h1]; exact HQC.out c2 (by omega))
                have d1 : ¬ (c : Int) < (N : Int) := by omega
                subst e
                go_wp2
                go_roundw
                case rel => exact ⟨b + 1, by omega, by go_num, hB, HQN⟩
                case measure => simp [intOf]; omega
          · have e : b = N := by omega
            have HQN := Lib.hid (show ∀ a1, a1 < a + 1 → ∀ b, b < N → ∀ c, c < N → dis R a1 b c = true from fun a1 h1 b2 h2 c2 h3 => by
              rcases Nat.lt_succ_iff_lt_or_eq.1 h1 with h1 | h1
              · exact HQA.out a1 h1 b2 h2 c2 h3
              · rw [h1]; exact HQB.out b2 (by omega) c2 (by omega))
            subst e
            go_wp2
            go_roundw
            case rel => exact ⟨a + 1, by omega, by go_num, HB.out, HQN⟩
            case measure => simp [intOf]; omega
      · have e : a = N := by omega
        subst e
        have HF := Lib.hid (allD_true HQA.out)
        go_wp2
        go_ret2
        exact RV_of (by rw [HF.out]; rfl) (HB0.out.trans (HB.out.mono HB0.out.size))
  · have HV := Lib.hid (show disV v bs = .tuple #[.bool false, .int .i64 (fullC v bs)] by
      unfold disV disF
      rw [if_neg hc])
    rw [HV.out]
    obtain ⟨μ, hμ⟩ : ∃ μ, μ = fullC v bs := ⟨_, rfl⟩
    rw [← hμ] at hc HFC ⊢
    have q1 : (μ != 0) = true := by simpa using hc
    clear h hμ hc HV
    obtain ⟨a0, c0, rfl⟩ := hs
    have HFX := Lib.hid (HFC.out (w.heap.size + 1) ((w.alloc (.cells #[.int .i64 v, .slice a0 bs.length c0] 30)).alloc (.cells #[.int .i64 v, .slice a0 bs.length c0] 30)) (((Below.refl _ _).alloc (Nat.le_refl _) _).alloc (by simp) _) (by simp [go_sem]) (by simp [go_sem]))
    clear HFC
    go_enter Try.func26, Try.ntmps26
    go_wp2_with fail
    refine HFX.out.mono ?_
    rintro e w1 ⟨rfl, hb1⟩
    have hB1 : Below w.heap.size w w1 := (((Below.refl _ _).alloc (Nat.le_refl _) _).alloc (by simp) _).trans (hb1.mono (by simp <;> omega))
    clear hb1
    go_wp2
    go_ret2
    exact RV_of rfl hB1
set_option maxRecDepth 100000 in
set_option maxHeartbeats 4000000 in
theorem specIsDistributive_any (v : Int) (s : Value) (bs : List Blk) (w : World) (h : SB w s bs) :
    Calls Try.prog 25 #[.agg #[.int .i64 v, s]] w (RV (disV v bs) w) := by
  have hs := h.slice
  have hbA : Below w.heap.size w (w.alloc (.cells #[.int .i64 v, s] 30)) := (Below.refl _ _).alloc (Nat.le_refl _) _
  have HFC := Lib.hid (l03Whole_any v s bs _ (h.below hbA (Nat.le_refl _)))
  by_cases hc : fullC v bs = 0
  · obtain ⟨hi, hf⟩ := fullC_zero hc
    obtain ⟨hv3, hv15, _⟩ := sys_size hi
    obtain ⟨N, rfl⟩ : ∃ N : Nat, v = (N : Int) := ⟨v.toNat, by omega⟩
    have HV := Lib.hid (show disV (N : Int) bs = .tuple #[.bool (allD N (prd 0 N bs)), .int .i64 0] by
      unfold disV disF
      rw [if_pos hc]
      rfl)
    rw [HV.out]
    rw [hc] at HFC
    have HPT := Lib.hid fun W (hb : Below w.heap.size w W) => l09Table_any N s bs W (h.below hb (Nat.le_refl _)) hi hf
    have hin := prd_in (.inl rfl) hi hf
    rw [Nat.add_zero] at hin
    have HR := Lib.hid hin
    have HCM := Lib.hid (prd_cmm hi hf)
    obtain ⟨R, hRR⟩ : ∃ R, R = prd 0 N bs := ⟨_, rfl⟩
    rw [← hRR] at HPT HR HCM ⊢
    have hN16 : N ≤ 16 := by omega
    have hN0 : 0 < N := by omega
    clear h hc hi hf hin hRR hv3 hv15 HV
    obtain ⟨a0, c0, rfl⟩ := hs
    go_enter Try.func25, Try.ntmps25
    go_wp2_with fail
    refine HFC.out.mono ?_
    rintro e w1 ⟨rfl, hb1⟩
    have hB1 := below_new hb1
    have d0 := cell_new hb1 0 rfl
    have d1 := cell_new hb1 1 rfl
    clear hb1 hbA HFC
    go_wp2_with fail
    refine (HPT.out _ hB1).mono ?_
    rintro e w2 ⟨u, us, rfl, hT, hb2⟩
    obtain ⟨G, cp, gs, caps, rfl, _, hS⟩ := l09Tab_ssr hT hN0 (by omega)
    have HB0 := Lib.hid (hB1.trans (hb2.mono hB1.size))
    have HS := Lib.hid hS
    clear hb2 hS hB1 d0 d1 hT
    go_wp2_with fail
    go_loopw [6] (fun i wr => ∃ a : Nat, a ≤ N ∧ i = .int .i64 a ∧ Below w2.heap.size w2 wr ∧ Hid (∀ a1, a1 < a → ∀ b, b < N → ∀ c, c < b → dis R a1 b c = true)) (fun i _ => N - (intOf i).toNat)
    case atStart => exact ⟨0, Nat.zero_le _, rfl, Below.refl _ _, Lib.hid (fun a1 h => absurd h (Nat.not_lt_zero _))⟩
    case round =>
      obtain ⟨a, ha, rfl, hB, HQA⟩ := hrel
      have HB := Lib.hid hB
      by_cases hal : a < N
      · have a0 : (0 : Int) ≤ (a : Int) := by omega
        have a1 : (a : Int) < (N : Int) := by omega
        clear hB
        go_wp2
        go_loopw [7] (fun i wr => ∃ b : Nat, b ≤ N ∧ i = .int .i64 b ∧ Below w2.heap.size w2 wr ∧ Hid (∀ b1, b1 < b → ∀ c, c < b1 → dis R a b1 c = true)) (fun i _ => N - (intOf i).toNat)
        case atStart => exact ⟨0, Nat.zero_le _, rfl, HB.out, Lib.hid (fun a1 h => absurd h (Nat.not_lt_zero _))⟩
        case round =>
          obtain ⟨b, hb, rfl, hB, HQB⟩ := hrel
          have HB := Lib.hid hB
          clear hB
          by_cases hbl : b < N
          · have b0 : (0 : Int) ≤ (b : Int) := by omega
            have b1 : (b : Int) < (N : Int) := by omega
            go_wp2
            go_loopw [8] (fun i wr => ∃ c : Nat, c ≤ b ∧ i = .int .i64 c ∧ Below w2.heap.size w2 wr ∧ Hid (∀ c1, c1 < c → dis R a b c1 = true)) (fun i _ => N - (intOf i).toNat)
            case atStart => exact ⟨0, Nat.zero_le _, rfl, HB.out, Lib.hid (fun a1 h => absurd h (Nat.not_lt_zero _))⟩
            case round =>
              obtain ⟨c, hc, rfl, hB, HQC⟩ := hrel
              by_cases hcl : c < b
              · have hcN : c < N := by omega
                obtain ⟨x, y, z, p, q, hx, hy, hz, ht, k1, k2, k3, k4, k5, k6, k7, k8⟩ := dis_cells (HS.out.below hB (Nat.le_refl _)) HR.out hal hbl hcN
                have c0 : (0 : Int) ≤ (c : Int) := by omega
                have c1 : (c : Int) < (N : Int) := by omega
                have c2 : (c : Int) < (b : Int) := by omega
                have x0 : (0 : Int) ≤ (x : Int) := by omega
                have x1 : (x : Int) < (N : Int) := by omega
                have y0 : (0 : Int) ≤ (y : Int) := by omega
                have y1 : (y : Int) < (N : Int) := by omega
                have z0 : (0 : Int) ≤ (z : Int) := by omega
                have z1 : (z : Int) < (N : Int) := by omega
                have HB2 := Lib.hid hB
                clear hx hy hz hB
                have k1 := cell_regrown k1
                have k2 := cell_regrown k2
                have k3 := cell_regrown k3
                have k4 := cell_regrown k4
                have k5 := cell_regrown k5
                have k6 := cell_regrown k6
                have k7 := cell_regrown k7
                have k8 := cell_regrown k8
                cases hpq : (p == q) with
                | false =>
                  have hne : (p != q) = true := by simp [bne, hpq]
                  have HF := Lib.hid (allD_false hal hbl hcN (by rw [ht, hpq]))
                  clear ht hpq
                  go_wp2
                  refine wp_region_quiet_below (by kernel_rfl) (by kernel_rfl) ?_
                  repeat (go_big_quiet_step (fail))
                  refine wpQuiet_nil ?_
                  intro _ hw'
                  obtain ⟨⟨dq, osq⟩, hw''⟩ := hw'
                  subst hw''
                  have hbq := below_regrown wr dq osq
                  go_wp2
                  go_ret2
                  exact RV_of (by rw [HF.out]; rfl) (HB0.out.trans ((HB2.out.trans (hbq.mono HB2.out.size)).mono HB0.out.size))
                | true =>
                  have hne : (p != q) = false := by simp [bne, hpq]
                  have HQN := Lib.hid (show ∀ c1, c1 < c + 1 → dis R a b c1 = true from fun c1 h1 => by
                    rcases Nat.lt_succ_iff_lt_or_eq.1 h1 with h1 | h1
                    · exact HQC.out c1 h1
                    · rw [h1, ht, hpq])
                  clear ht hpq
                  go_wp2
                  refine wp_region_quiet_below (by kernel_rfl) (by kernel_rfl) ?_
                  repeat (go_big_quiet_step (fail))
                  refine wpQuiet_nil ?_
                  intro _ hw'
                  obtain ⟨⟨dq, osq⟩, hw''⟩ := hw'
                  subst hw''
                  have hbq := below_regrown wr dq osq
                  go_wp2
                  go_roundw
                  case rel => exact ⟨c + 1, by omega, by go_num, HB2.out.trans (hbq.mono HB2.out.size), HQN⟩
                  case measure => simp [intOf]; omega
              · have e : c = b := by omega
                have HQN := Lib.hid (show ∀ b1, b1 < b + 1 → ∀ c, c < b1 → dis R a b1 c = true from fun b1 h1 c2 h2 => by
                  rcases Nat.lt_succ_iff_lt_or_eq.1 h1 with h1 | h1
                  · exact HQB.out b1 h1 c2 h2
                  · rw [h1]; exact HQC.out c2 (by omega))
                have d1 : decide ((c : Int) < (b : Int)) = false := by simp; omega
                subst e
                go_wp2
                go_roundw
                case rel => exact ⟨c + 1, by omega, by go_num, hB, HQN⟩
                case measure => simp [intOf]; omega
          · have e : b = N := by omega
            have HQN := Lib.hid (show ∀ a1, a1 < a + 1 → ∀ b, b < N → ∀ c, c < b → dis R a1 b c = true from fun a1 h1 b2 h2 c2 h3 => by
              rcases Nat.lt_succ_iff_lt_or_eq.1 h1 with h1 | h1
              · exact HQA.out a1 h1 b2 h2 c2 h3
              · rw [h1]; exact HQB.out b2 (by omega) c2 (by omega))
            subst e
            go_wp2
            go_roundw
            case rel => exact ⟨a + 1, by omega, by go_num, HB.out, HQN⟩
            case measure => simp [intOf]; omega
      · have e : a = N := by omega
        subst e
        have HF := Lib.hid (allD_half HR.out HCM.out HQA.out)
        go_wp2
        go_ret2
        exact RV_of (by rw [HF.out]; rfl) (HB0.out.trans (HB.out.mono HB0.out.size))
  · have HV := Lib.hid (show disV v bs = .tuple #[.bool false, .int .i64 (fullC v bs)] by
      unfold disV disF
      rw [if_neg hc])
    rw [HV.out]
    obtain ⟨μ, hμ⟩ : ∃ μ, μ = fullC v bs := ⟨_, rfl⟩
    rw [← hμ] at hc HFC ⊢
    have q1 : (μ != 0) = true := by simpa using hc
    clear h hμ hc HV
    obtain ⟨a0, c0, rfl⟩ := hs
    go_enter Try.func25, Try.ntmps25
    go_wp2_with fail
    refine HFC.out.mono ?_
    rintro e w1 ⟨rfl, hb1⟩
    have hB1 := below_new hb1
    clear hb1 hbA
    go_wp2
    go_ret2
    exact RV_of rfl hB1
end Go.Proofs.Ytahgialnhomefaa

namespace Go.Proofs.Ytahgialnhomefaa
open Go.RowKit Go.Maps
set_option maxRecDepth 100000 in
theorem FnExactIsDistributive_long (v : Int) (s : Value) (bs : List Blk)  (w : World) (h : InB w s bs) (hl : ¬ bs.length ≤ 1048576) : Calls Try.prog 7 #[.agg #[.int .i64 v, s]] w (RV (.bool true) w) := by
  have hsl := h.slice
  have hbd := h.2.1
  have hsz := szSystem_any v s bs.length hsl (by omega) 1048576 (by omega) (by omega)
  rw [if_pos (by omega)] at hsz
  have HSZ := Lib.hid hsz
  clear hsz h
  obtain ⟨a, c, rfl⟩ := hsl
  go_enter Try.func7, Try.ntmps7
  go_wp2_with (go_at_call 14; refine (HSZ.out _).mono ?_; rintro e w1 ⟨rfl, hb1⟩)
  go_ret
  exact RV_of rfl (((Below.refl _ _).alloc (Nat.le_refl _) _).trans (hb1.mono (by simp)))

set_option maxRecDepth 100000 in
set_option maxHeartbeats 1000000 in
theorem FnExactIsDistributive_main (v : Int) (s : Value) (bs : List Blk)  (w : World) (h : InB w s bs) (hl : bs.length ≤ 1048576) : Calls Try.prog 7 #[.agg #[.int .i64 v, s]] w (RV (.bool true) w) := by
  have hsl := h.slice
  have hbd := h.2.1
  have hsz := szSystem_any v s bs.length hsl (by omega) 1048576 (by omega) (by omega)
  have hsb := h.sb hl
  rw [if_neg (by omega)] at hsz
  obtain ⟨m, hm⟩ : ∃ m, m = (1048576 : Int) - (bs.length : Int) := ⟨_, rfl⟩
  rw [← hm] at hsz
  have hm0 : 0 ≤ m := by omega
  have HSZ := Lib.hid hsz
  have HSB := Lib.hid hsb
  have hwf := h.1
  have HWF := Lib.hid hwf
  have HBD := Lib.hid (show bs.length ≤ 1100000 by omega)
  clear hsz hsb hm h hl hbd hwf
  have hsp : ∀ (W : World) (t : Value), SB W t bs → Calls Try.prog 25 #[.agg #[.int .i64 v, t]] W (RV (disV v bs) W) := fun W t ht => specIsDistributive_any v t bs W ht
  have him : ∀ (W : World) (t : Value), SB W t bs → Calls Try.prog 26 #[.agg #[.int .i64 v, t]] W (RV (disV v bs) W) := fun W t ht => IsDistributive_any v t bs W ht
  obtain ⟨β, κ, hval⟩ : ∃ β κ, disV v bs = .tuple #[.bool β, .int .i64 κ] := by
    unfold disV
    repeat (first | exact ⟨_, _, rfl⟩ | split)
  rw [hval] at hsp him
  have HSP := Lib.hid hsp
  have HIM := Lib.hid him
  clear hval hsp him
  have hne1 : (β != β) = false := by simp
  have hne2 : (κ != κ) = false := by simp
  obtain ⟨a, c, rfl⟩ := hsl
  go_enter Try.func7, Try.ntmps7
  go_wp2_with fail
  refine (HSZ.out _).mono ?_
  rintro e w1 ⟨rfl, hb1⟩
  have p0 := cell_new hb1 0 rfl
  have p1 := cell_new hb1 1 rfl
  have hz1 := hb1.size
  simp at hz1
  have hbw : Below w.heap.size w w1 := ((Below.refl _ _).alloc (Nat.le_refl _) _).trans (hb1.mono (by simp))
  clear hb1
  go_wp2_with fail
  refine (toSystem_any v _ bs _ (HSB.out.below hbw (Nat.le_refl _))).mono ?_
  rintro e w2 ⟨s2, rfl, ho2, hb2⟩
  have hsb2 := ho2.sb HWF.out HBD.out
  go_wp2_with fail
  refine (HSP.out _ _ hsb2).mono ?_
  rintro e w3 ⟨rfl, hb3⟩
  have hb13 := hb2.trans (hb3.mono hb2.size)
  have p0' := (hb13.cell (p := ⟨w.heap.size, 0, none⟩) (by show w.heap.size < _; omega)).trans p0
  have p1' := (hb13.cell (p := ⟨w.heap.size, 1, none⟩) (by show w.heap.size < _; omega)).trans p1
  have hz3 := hb13.size
  have hbw3 := hbw.trans (hb13.mono (by omega))
  clear p0 p1 hb2 hb3 hb13 ho2 hsb2 hbw
  go_wp2_with fail
  refine (toSystem_any v _ bs _ (HSB.out.below hbw3 (Nat.le_refl _))).mono ?_
  rintro e w4 ⟨s4, rfl, ho4, hb4⟩
  obtain ⟨g, cap, hs4, h41, h42, h43, h44⟩ := id ho4
  subst hs4
  have p0 := (hb4.cell (p := ⟨w.heap.size, 0, none⟩) (by show w.heap.size < _; omega)).trans p0'
  have p1 := (hb4.cell (p := ⟨w.heap.size, 1, none⟩) (by show w.heap.size < _; omega)).trans p1'
  have hz4 := hb4.size
  have hbw4 := hbw3.trans (hb4.mono (by omega))
  have hsb4 := ho4.sb HWF.out HBD.out
  clear p0' p1' hb4 hbw3 h41 h43 h44 ho4
  go_wp2_with fail
  refine (HIM.out _ _ (hsb4.below ((Below.refl _ _).alloc (Nat.le_refl _) _) (Nat.le_refl _))).mono ?_
  rintro e w5 ⟨rfl, hb5⟩
  have q0 := cell_new hb5 0 rfl
  have q1 := cell_new hb5 1 rfl
  have p0' := (hb5.cell (p := ⟨w.heap.size, 0, none⟩) (by simp; omega)).trans (cell_past p0 (by omega))
  have p1' := (hb5.cell (p := ⟨w.heap.size, 1, none⟩) (by simp; omega)).trans (cell_past p1 (by omega))
  have hz5 := hb5.size
  simp at hz5
  have hbw5 := (hbw4.alloc hbw4.size _).trans (hb5.mono (by simp; omega))
  have hsb5 := hsb4.below (((Below.refl _ _).alloc (Nat.le_refl _) _).trans (hb5.mono (by simp))) (Nat.le_refl _)
  clear p0 p1 hb5 hbw4 hsb4
  go_wp2
  go_region_with (first | (go_at_call 16; refine (toSystem_any v _ bs _ ?_).mono ?_; (exact HSB.out.below hbw5.drew (Nat.le_refl _)); rintro e w6 ⟨s6, rfl, ho6, hb6⟩; obtain ⟨g6, cap6, hs6, h61, h62, h63, h64⟩ := id ho6; subst hs6; have hsb6 := ho6.sb HWF.out HBD.out; have hsb56 := hsb5.below (Below.trans (Below.refl _ _).drew hb6) (Nat.le_refl _); have r0 := (hb6.cell (p := ⟨w4.heap.size, 0, none⟩) (by show w4.heap.size < _; simp; omega)).trans q0; have r1 := (hb6.cell (p := ⟨w4.heap.size, 1, none⟩) (by show w4.heap.size < _; simp; omega)).trans q1) | (go_at_call 18; refine (eqSystem_same v _ _ bs _ ?_ ?_).mono ?_; (exact hsb56); (exact hsb6); rintro e w7 ⟨rfl, hb7⟩))
  all_goals go_wp2
  all_goals go_ret
  all_goals exact RV_of rfl (hbw5.drew.trans ((hb6.mono (by simp; omega)).trans (hb7.mono (by have := hb6.size; simp at this; omega))))

theorem FnExactIsDistributive_any (v : Int) (s : Value) (bs : List Blk)  (w : World) (h : InB w s bs) : Calls Try.prog 7 #[.agg #[.int .i64 v, s]] w (RV (.bool true) w) := by
  by_cases hl : bs.length ≤ 1048576
  · exact FnExactIsDistributive_main v s bs  w h hl
  · exact FnExactIsDistributive_long v s bs  w h hl
end Go.Proofs.Ytahgialnhomefaa

namespace Go.Proofs.Ytahgialnhomefaa
open Go.ChangeShapes Go.WideShapes Go.ChangeAt Go.RowKit Go.Deep Go.Joins
theorem ownKnobs : ownKnob Try.prog.godebug = none := by kernel_rfl
section
variable {H : Type} {enc : TypeId × Value → H} {W : World} {base : Nat} {held : Bool}
theorem arrCells : Try.prog.cellsOf 83 = 3 := by kernel_rfl
set_option maxRecDepth 100000 in
theorem open_arr3 {fuel : Nat} {cs : List Value} {x : DataW H × List MemPlace} (h : DataW.trod enc Try.prog W base (fun _ => true) held fuel 83 cs = some x) :
    ∃ a b c : Int, cs = [.int .i64 a, .int .i64 b, .int .i64 c] ∧ (Lit.int .i64 a).wf = true ∧ (Lit.int .i64 b).wf = true ∧ (Lit.int .i64 c).wf = true := by
  obtain ⟨xs, m, rfl, rfl, hl, hx, hat⟩ := DataW.trod_array Try.underlying83 h
  rw [arrCells] at hl
  match cs, hl with
  | [c0, c1, c2], _ =>
    match xs, hx with
    | [x0, x1, x2], _ =>
      have h0 := hat 0 (by omega)
      have h1 := hat 1 (by omega)
      have h2 := hat 2 (by omega)
      rw [int64Cells] at h0 h1 h2
      simp at h0 h1 h2
      obtain ⟨a, ha, _, wa⟩ := DataW.trod_int Try.underlying2 h0
      obtain ⟨b, hb, _, wb⟩ := DataW.trod_int Try.underlying2 h1
      obtain ⟨c, hc, _, wc⟩ := DataW.trod_int Try.underlying2 h2
      simp at ha hb hc
      exact ⟨a, b, c, by rw [ha, hb, hc], wa, wb, wc⟩
theorem add_at (b off i : Nat) : (⟨b, off, none⟩ : Addr).add i = ⟨b, off + i, none⟩ := by
  unfold Addr.add
  split
  · subst_vars; rfl
  · rfl
set_option maxRecDepth 100000 in
theorem open_arrs {fuel : Nat} {s : Value} {x : DataW H × List MemPlace} (h : DataW.trod enc Try.prog W base (fun _ => true) held fuel 22 [s] = some x) : ∃ bs, InB W s bs := by
  rcases open_slice Try.underlying22 h with ⟨hcs, _⟩ | ⟨a, len, cap, m, n, D, Pl, hcs, hb, hl, hm, hmm, hx, hi⟩
  · simp at hcs
    exact ⟨[], by simp, by simp, .inl ⟨none, 0, hcs, rfl⟩⟩
  · simp at hcs
    subst hcs
    simp at hmm
    subst hmm
    have hm' : m ≤ 9223372036854775807 := by unfold maxLen at hm; exact hm
    by_cases h0 : len = 0
    · subst h0
      exact ⟨[], by simp, by simp, .inl ⟨_, _, rfl, rfl⟩⟩
    · have cell : ∀ i, i < m → ∃ y : Blk, WFB y ∧ ∀ j (v : Value), [Value.int .i64 y.a, Value.int .i64 y.b, Value.int .i64 y.c][j]? = some v → W.cell? (a.add (i * 3 + j)) = some v := fun i him => by
        obtain ⟨cs', hc, ht⟩ := hi i him
        obtain ⟨p, q, r, rfl, wp, wq, wr⟩ := open_arr3 ht
        rw [arrCells] at hc
        obtain ⟨_, _, hat⟩ := World.cells?_some hc
        refine ⟨⟨p, q, r⟩, ⟨wp, wq, wr⟩, fun j v hv => ?_⟩
        have hj : j < 3 := by
          have := (List.getElem?_eq_some_iff.1 hv).1
          simpa using this
        rw [← Go.Deep.add_add, hat j hj]
        exact hv
      obtain ⟨F, hF⟩ := choose_lt (α := Blk) cell
      obtain ⟨b, off, spot⟩ := a
      have hc0 := (hF 0 (by omega)).2 0 _ rfl
      have hspot : spot = none := by simpa [Addr.add] using World.cell?_spot hc0
      subst hspot
      refine ⟨(List.range len).map F, ?_, by simp; omega, .inr ⟨b, off, m, by simp, ?_, ?_⟩⟩
      · intro y hy
        obtain ⟨i, hi', rfl⟩ := List.mem_map.1 hy
        exact (hF i (by have := List.mem_range.1 hi'; omega)).1
      · exact block_lt_of_cell hc0
      · intro k hk
        simp at hk
        have e : ((List.range len).map F)[k]?.getD default = F k := by simp [hk]
        rw [e]
        have := (hF k (by omega)).2
        refine ⟨?_, ?_, ?_⟩
        · have h0 := this 0 _ rfl
          rw [add_at] at h0
          exact h0
        · have h1 := this 1 _ rfl
          rw [add_at, ← Nat.add_assoc] at h1
          exact h1
        · have h2 := this 2 _ rfl
          rw [add_at, ← Nat.add_assoc] at h2
          exact h2
theorem isSys : ∃ f0 f1 : Field, Try.prog.underlying 24 = some (.struct #[f0, f1]) ∧ f0.type = 2 ∧ f1.type = 22 ∧ oneCellFields Try.prog #[f0, f1] = true :=
  ⟨_, _, Try.underlying24, rfl, rfl, by kernel_rfl⟩
theorem sysCells : Try.prog.cellsOf 24 = 2 := by kernel_rfl
set_option maxRecDepth 100000 in
theorem open_system {r : Reach} {b0 : Nat} {v : Value} {d : DataW H} {p : List MemPlace} (hv : Value.okWide Try.prog W r b0 24 v) (h : DataW.Trod enc Try.prog W base (fun _ => true) held 24 v d p) :
    ∃ (n : Int) (s : Value) (bs : List Blk), v = .agg #[.int .i64 n, s] ∧ WF n ∧ InB W s bs := by
  obtain ⟨f0, f1, hu, e0, e1, hone⟩ := isSys
  obtain ⟨v0, v1, y0, y1, n, rfl, _, _, h0, h1⟩ := open_agg2 hu hone sysCells hv h
  rw [e0] at h0
  rw [e1] at h1
  obtain ⟨k, hk, _, wk⟩ := DataW.trod_int Try.underlying2 h0
  simp at hk
  subst hk
  obtain ⟨bs, hbs⟩ := open_arrs h1
  exact ⟨k, v1, bs, rfl, wk, hbs⟩
end
end Go.Proofs.Ytahgialnhomefaa

namespace Go.Proofs.Ytahgialnhomefaa
set_option maxRecDepth 100000 in
noncomputable def iniP : { L : List Char // Try.prog.initOrder = String.ofList L } := ⟨_, by unfold Try.prog; rfl⟩
theorem iniL : Try.prog.initOrder.toList = iniP.1 := (congrArg String.toList iniP.2).trans String.toList_ofList
theorem words_cons (c : Char) (r : List Char) (h : c ≠ Char.ofNat 32) : wordsSigns (c :: r) = match wordsSigns r with | w :: ws => (c :: w) :: ws | [] => [[c]] := by
  rw [wordsSigns]
  all_goals first | rfl | exact h | (intro e; exact h e)
theorem words_word : ∀ (a b : List Char), (a.all fun c => c != Char.ofNat 32) = true → wordsSigns (a ++ Char.ofNat 32 :: b) = a :: wordsSigns b
  | [], b, _ => rfl
  | c :: a, b, h => by
    simp only [List.all_cons, Bool.and_eq_true, bne_iff_ne, ne_eq] at h
    rw [List.cons_append, words_cons _ _ h.1, words_word a b (by simpa using h.2)]
set_option maxRecDepth 100000 in
theorem split1 : iniP.1 = iniP.1.take 7 ++ Char.ofNat 32 :: iniP.1.drop 8 := by kernel_rfl
set_option maxRecDepth 100000 in
theorem split2 : iniP.1.drop 8 = (iniP.1.drop 8).take 64 ++ Char.ofNat 32 :: iniP.1.drop 73 := by kernel_rfl
set_option maxRecDepth 100000 in
theorem split3 : iniP.1.drop 73 = (iniP.1.drop 73).take 3 ++ Char.ofNat 32 :: iniP.1.drop 77 := by kernel_rfl
theorem isCut : (iniP.1.drop 73).take 3 = "cut".toList := by kernel_rfl
set_option maxRecDepth 100000 in
theorem isHead : ((iniP.1.take 7 == "harness".toList || iniP.1.take 7 == "ownmain".toList) && isSumSigns ((iniP.1.drop 8).take 64)) = true := by kernel_rfl
theorem wordsL : wordsSigns iniP.1 = iniP.1.take 7 :: (iniP.1.drop 8).take 64 :: "cut".toList :: wordsSigns (iniP.1.drop 77) := by
  rw [← isCut]
  conv => lhs; rw [split1]
  rw [words_word _ _ (by kernel_rfl)]
  conv => lhs; rw [split2]
  rw [words_word _ _ (by kernel_rfl)]
  conv => lhs; rw [split3]
  rw [words_word _ _ (by kernel_rfl)]
theorem behindL : behindMainWord (wordsSigns Try.prog.initOrder.toList) = "cut".toList :: wordsSigns (iniP.1.drop 77) := by
  rw [iniL, wordsL]
  unfold behindMainWord
  simp only [isHead, if_true]
theorem stripL (ws : List (List Char)) : stripLifts liftWords ("cut".toList :: ws) = ([], "cut".toList :: ws) := by kernel_rfl
section
variable (P : Program) (ws : List (List Char)) (h : behindMainWord (wordsSigns P.initOrder.toList) = "cut".toList :: ws)
include h
theorem head_of : P.headLifts = [] := by
  unfold Program.headLifts
  rw [h]
  simp only [stripL]
  kernel_rfl
theorem make_of : P.make = some .cut := by
  unfold Program.make
  rw [h, head_of P ws h]
  kernel_rfl
theorem lifts_of : P.liftsFinal = false := by
  unfold Program.liftsFinal
  rw [h, head_of P ws h]
  kernel_rfl
theorem enter_of (h1 : P.laysLater = false) (h2 : P.bearsReflect = false) (h3 : P.doorFits [] = true) : P.mayEnter = true := by
  unfold Program.mayEnter
  rw [h]
  simp only [stripL]
  rw [h1, h2, h3]
  kernel_rfl
end
theorem mayE : Try.pinned.checked.prog.mayEnter = true := enter_of _ _ behindL (by kernel_rfl) (by kernel_rfl) (by kernel_rfl)
theorem liftsF : Try.pinned.checked.prog.liftsFinal = false := lifts_of _ _ behindL
theorem makeF : Try.pinned.checked.prog.make = some .cut := make_of _ _ behindL
theorem both {a b : Bool} (h : a = true) (k : b = true) : (a && b) = true := by rw [h, k]; rfl
end Go.Proofs.Ytahgialnhomefaa

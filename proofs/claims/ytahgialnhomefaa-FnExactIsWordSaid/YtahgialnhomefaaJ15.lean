
/- Associative triples: plain; the model's l09Triples. CountAssociative and CountPointTriples of the program; CountPointTriples of the model. The model's l09Loop. Words in memory: writing at the places of one row. The methods of words modulo 2. Marks, weights and leads of rows: plain. mark, weight and lead of words modulo 2. A basis in memory. -/
import Derived.Test.YtahgialnhomefaaJ14
import Derived.Handy
namespace Go.Proofs.Ytahgialnhomefaa
open Go.RowKit Go.Maps
def trI (R : Nat → Nat → Int) (a b c : Nat) : Bool := R (R a b).toNat c == R a (R b c).toNat
def cntC (R : Nat → Nat → Int) (a b : Nat) : Nat → Nat
  | 0 => 0
  | c + 1 => cntC R a b c + if trI R a b c then 1 else 0
def cntB2 (R : Nat → Nat → Int) (N a : Nat) : Nat → Nat
  | 0 => 0
  | b + 1 => cntB2 R N a b + cntC R a b N
def cntA (R : Nat → Nat → Int) (N : Nat) : Nat → Nat
  | 0 => 0
  | a + 1 => cntA R N a + cntB2 R N a N
theorem cntC_le (R : Nat → Nat → Int) (a b : Nat) : ∀ c, cntC R a b c ≤ c
  | 0 => Nat.le_refl _
  | c + 1 => by
    have := cntC_le R a b c
    unfold cntC
    split <;> omega
theorem cntB2_le (R : Nat → Nat → Int) (N a : Nat) : ∀ b, cntB2 R N a b ≤ b * N
  | 0 => Nat.zero_le _
  | b + 1 => by
    have := cntB2_le R N a b
    have := cntC_le R a b N
    unfold cntB2
    rw [Nat.add_mul]; omega
theorem cntA_le (R : Nat → Nat → Int) (N : Nat) : ∀ a, cntA R N a ≤ a * (N * N)
  | 0 => Nat.zero_le _
  | a + 1 => by
    have := cntA_le R N a
    have := cntB2_le R N a N
    unfold cntA
    rw [Nat.add_mul]; omega
theorem mul16 {a N : Nat} (ha : a ≤ 16) (hN : N ≤ 16) : a * N ≤ 256 := Nat.le_trans (Nat.mul_le_mul ha hN) (by decide)
theorem mul256 {a M : Nat} (ha : a ≤ 16) (hM : M ≤ 256) : a * M ≤ 4096 := Nat.le_trans (Nat.mul_le_mul ha hM) (by decide)
/-- How many triples were met so far. -/
theorem cntT_le (R : Nat → Nat → Int) {N a b c : Nat} (hN : N ≤ 16) (ha : a ≤ N) (hb : b ≤ N) (hc : c ≤ N) : cntA R N a + cntB2 R N a b + cntC R a b c ≤ 5000 := by
  have h1 := cntA_le R N a
  have h2 := cntB2_le R N a b
  have h3 := cntC_le R a b c
  have h4 := mul16 (a := b) (N := N) (by omega) hN
  have h5 := mul16 (a := N) (N := N) hN hN
  have h6 := mul256 (a := a) (M := N * N) (by omega) h5
  omega
/-- What the table holds are its own places. -/
def InT (N : Nat) (R : Nat → Nat → Int) : Prop := ∀ a b, a < N → b < N → 0 ≤ R a b ∧ R a b < (N : Int)
/-- The seven cells that a triple reads. -/
theorem triple_cells {w : World} {lo G : Nat} {gs caps : Nat → Nat} {N : Nat} {R : Nat → Nat → Int} (h : SSR w lo G gs caps N (rowT N R)) (hR : InT N R) {a b c : Nat} (ha : a < N) (hb : b < N) (hc : c < N) :
    ∃ x z : Nat, ∃ p q : Int, x < N ∧ z < N ∧ R a b = (x : Int) ∧ R b c = (z : Int) ∧ trI R a b c = (p == q) ∧
      w.cell? ⟨G, a, none⟩ = some (.slice (some ⟨gs a, 0, none⟩) N (caps a)) ∧ w.cell? ⟨G, b, none⟩ = some (.slice (some ⟨gs b, 0, none⟩) N (caps b)) ∧ w.cell? ⟨G, x, none⟩ = some (.slice (some ⟨gs x, 0, none⟩) N (caps x)) ∧
      w.cell? ⟨gs a, b, none⟩ = some (.int .i64 (x : Int)) ∧ w.cell? ⟨gs b, c, none⟩ = some (.int .i64 (z : Int)) ∧ w.cell? ⟨gs x, c, none⟩ = some (.int .i64 p) ∧ w.cell? ⟨gs a, z, none⟩ = some (.int .i64 q) := by
  obtain ⟨x0, x1⟩ := hR a b ha hb
  obtain ⟨z0, z1⟩ := hR b c hb hc
  obtain ⟨x, hx⟩ : ∃ x : Nat, R a b = (x : Int) := ⟨(R a b).toNat, by omega⟩
  obtain ⟨z, hz⟩ : ∃ z : Nat, R b c = (z : Int) := ⟨(R b c).toNat, by omega⟩
  have hxN : x < N := by omega
  have hzN : z < N := by omega
  obtain ⟨h1, h2⟩ := h.get ha hb
  obtain ⟨h3, h4⟩ := h.get hb hc
  obtain ⟨h5, h6⟩ := h.get hxN hc
  obtain ⟨_, h7⟩ := h.get ha hzN
  rw [hx] at h2
  rw [hz] at h4
  exact ⟨x, z, R x c, R a z, hxN, hzN, hx, hz, by unfold trI; rw [hx, hz]; rfl, h1, h3, h5, h2, h4, h6, h7⟩
set_option maxRecDepth 100000 in
set_option maxHeartbeats 4000000 in
theorem l09Triples_any (G lo : Nat) (gs caps : Nat → Nat) (N cp : Nat) (R : Nat → Nat → Int) (w : World) (h : SSR w lo G gs caps N (rowT N R)) (hR : InT N R) (hN : N ≤ 16) :
    Calls Try.prog 52 #[.slice (some ⟨G, 0, none⟩) N cp] w (RV (.int .i64 (cntA R N N : Int)) w) := by
  have HS := Lib.hid h
  have HR := Lib.hid hR
  have HLE := Lib.hid fun a b c (ha : a ≤ N) (hb : b ≤ N) (hc : c ≤ N) => cntT_le R hN ha hb hc
  clear h hR
  go_enter Try.func52, Try.ntmps52
  go_wp2
  go_loopw [3, 4] (fun o i wr => ∃ a : Nat, a ≤ N ∧ i = .int .i64 a ∧ o = .int .i64 (cntA R N a : Int) ∧ Below w.heap.size w wr) (fun _ i _ => N - (intOf i).toNat)
  case atStart => exact ⟨0, Nat.zero_le _, rfl, rfl, Below.refl _ _⟩
  case round =>
    obtain ⟨a, ha, rfl, rfl, hB⟩ := hrel
    have HB := Lib.hid hB
    clear hB
    by_cases hal : a < N
    · have a0 : (0 : Int) ≤ (a : Int) := by omega
      have a1 : (a : Int) < (N : Int) := by omega
      go_wp2
      go_loopw [3, 5] (fun o i wr => ∃ b : Nat, b ≤ N ∧ i = .int .i64 b ∧ o = .int .i64 ((cntA R N a + cntB2 R N a b : Nat) : Int) ∧ Below w.heap.size w wr) (fun _ i _ => N - (intOf i).toNat)
      case atStart => exact ⟨0, Nat.zero_le _, rfl, rfl, HB.out⟩
      case round =>
        obtain ⟨b, hb, rfl, rfl, hB⟩ := hrel
        have HB := Lib.hid hB
        clear hB
        by_cases hbl : b < N
        · have b0 : (0 : Int) ≤ (b : Int) := by omega
          have b1 : (b : Int) < (N : Int) := by omega
          go_wp2
          go_loopw [3, 6] (fun o i wr => ∃ c : Nat, c ≤ N ∧ i = .int .i64 c ∧ o = .int .i64 ((cntA R N a + cntB2 R N a b + cntC R a b c : Nat) : Int) ∧ Below w.heap.size w wr) (fun _ i _ => N - (intOf i).toNat)
          case atStart => exact ⟨0, Nat.zero_le _, rfl, rfl, HB.out⟩
          case round =>
            obtain ⟨c, hc, rfl, rfl, hB⟩ := hrel
            by_cases hcl : c < N
            · obtain ⟨x, z, p, q, hx, hz, _, _, ht, k1, k2, k3, k4, k5, k6, k7⟩ := triple_cells (HS.out.below hB (Nat.le_refl _)) HR.out hal hbl hcl
              have hle := HLE.out a b c ha hb hc
              have HT := Lib.hid (show cntA R N a + cntB2 R N a b + cntC R a b (c + 1) = cntA R N a + cntB2 R N a b + cntC R a b c + if (p == q) = true then 1 else 0 by rw [← ht, cntC]; exact (Nat.add_assoc _ _ _).symm)
              obtain ⟨M, hM⟩ : ∃ M, M = cntA R N a + cntB2 R N a b + cntC R a b c := ⟨_, rfl⟩
              rw [← hM] at HT hle ⊢
              have wm : IntKind.i64.wrap ((M : Int) + 1) = (M : Int) + 1 := IntWalk.i64_in _ (by omega)
              have c0 : (0 : Int) ≤ (c : Int) := by omega
              have c1 : (c : Int) < (N : Int) := by omega
              have x0 : (0 : Int) ≤ (x : Int) := by omega
              have x1 : (x : Int) < (N : Int) := by omega
              have z0 : (0 : Int) ≤ (z : Int) := by omega
              have z1 : (z : Int) < (N : Int) := by omega
              have HB2 := Lib.hid hB
              clear hM ht hx hz hB
              have k1 := cell_regrown k1
              have k2 := cell_regrown k2
              have k3 := cell_regrown k3
              have k4 := cell_regrown k4
              have k5 := cell_regrown k5
              have k6 := cell_regrown k6
              have k7 := cell_regrown k7
              obtain ⟨β, hβ⟩ : ∃ β, (p == q) = β := ⟨_, rfl⟩
              rw [hβ] at HT
              cases β with
              | false =>
                go_wp2
                refine wp_region_quiet_below (by kernel_rfl) (by kernel_rfl) ?_
                repeat (go_big_quiet_step (fail))
                refine wpQuiet_nil ?_
                intro _ hw'
                obtain ⟨⟨dq, osq⟩, hw''⟩ := hw'
                subst hw''
                have hbq := below_regrown wr dq osq
                go_wp2
                go_roundw
                case rel => exact ⟨c + 1, by omega, by go_num, by rw [HT.out]; rfl, HB2.out.trans (hbq.mono HB2.out.size)⟩
                case measure => simp [intOf]; omega
              | true =>
                go_wp2
                refine wp_region_quiet_below (by kernel_rfl) (by kernel_rfl) ?_
                repeat (go_big_quiet_step (fail))
                refine wpQuiet_nil ?_
                intro _ hw'
                obtain ⟨⟨dq, osq⟩, hw''⟩ := hw'
                subst hw''
                have hbq := below_regrown wr dq osq
                go_wp2
                go_roundw
                case rel => exact ⟨c + 1, by omega, by go_num, by rw [HT.out]; first | rfl | (simp; done) | go_num, HB2.out.trans (hbq.mono HB2.out.size)⟩
                case measure => simp [intOf]; omega
            · have e : c = N := by omega
              subst e
              have HE := Lib.hid (show cntA R c a + cntB2 R c a b + cntC R a b c = cntA R c a + cntB2 R c a (b + 1) by rw [cntB2]; omega)
              rw [HE.out]
              go_wp2
              go_roundw
              case rel => exact ⟨b + 1, by omega, by go_num, rfl, hB⟩
              case measure => simp [intOf]; omega
        · have e : b = N := by omega
          subst e
          have HE := Lib.hid (show cntA R b a + cntB2 R b a b = cntA R b (a + 1) by rw [cntA])
          rw [HE.out]
          go_wp2
          go_roundw
          case rel => exact ⟨a + 1, by omega, by go_num, rfl, HB.out⟩
          case measure => simp [intOf]; omega
    · have e : a = N := by omega
      subst e
      go_wp2
      go_ret
      exact RV_of rfl HB.out
end Go.Proofs.Ytahgialnhomefaa

namespace Go.Proofs.Ytahgialnhomefaa
open Go.RowKit Go.Maps
theorem prd_in {κ n : Nat} (hκ : κ = 0 ∨ κ = 1) {bs : List Blk} (h : isSysImpl (n : Int) bs = true) (hf : fullB (n : Int) bs = true) : InT (n + κ) (prd κ n bs) := by
  intro a b ha hb
  rcases hκ with rfl | rfl
  · have := prd0_range h hf (a := a) (b := b) (by omega) (by omega)
    omega
  · unfold prd
    rw [if_neg (by decide)]
    by_cases hab : a = b
    · rw [if_pos hab]; omega
    · rw [if_neg hab]
      by_cases han : a = n
      · rw [if_pos han]; omega
      · rw [if_neg han]
        by_cases hbn : b = n
        · rw [if_pos hbn]; omega
        · rw [if_neg hbn, show tabN bs a b = third1 bs (a : Int) (b : Int) from tab_third h hf (by omega) (by omega) (by omega)]
          have := (tri_third h hf (a := (a : Int)) (b := (b : Int)) (by omega) (by omega) (by omega)).range h
          omega
def asF (κ : Nat) (v : Int) (bs : List Blk) : Int × Int := if fullC v bs = 0 then ((cntA (prd κ v.toNat bs) (v.toNat + κ) (v.toNat + κ) : Int), 0) else (0, fullC v bs)
def asV (κ : Nat) (v : Int) (bs : List Blk) : Value := .tuple #[.int .i64 (asF κ v bs).1, .int .i64 (asF κ v bs).2]
theorem fullC_zero {v : Int} {bs : List Blk} (h : fullC v bs = 0) : isSysImpl v bs = true ∧ fullB v bs = true := by
  unfold fullC at h
  cases hi : isSysImpl v bs with
  | false => rw [hi] at h; simp at h
  | true =>
    cases hf : fullB v bs with
    | false => rw [hi, hf] at h; simp at h
    | true => exact ⟨rfl, rfl⟩
/-- The seven cells. -/
def Tri7 (G a b x ga gb gx N ca cb cx c z : Nat) (p q : Int) (W : World) : Prop :=
  W.cell? ⟨G, a, none⟩ = some (.slice (some ⟨ga, 0, none⟩) N ca) ∧ W.cell? ⟨G, b, none⟩ = some (.slice (some ⟨gb, 0, none⟩) N cb) ∧ W.cell? ⟨G, x, none⟩ = some (.slice (some ⟨gx, 0, none⟩) N cx) ∧
      W.cell? ⟨ga, b, none⟩ = some (.int .i64 (x : Int)) ∧ W.cell? ⟨gb, c, none⟩ = some (.int .i64 (z : Int)) ∧ W.cell? ⟨gx, c, none⟩ = some (.int .i64 p) ∧ W.cell? ⟨ga, z, none⟩ = some (.int .i64 q)
set_option maxRecDepth 100000 in
set_option maxHeartbeats 8000000 in
theorem countAssociative_any (κ : Nat) (hκ : κ = 0 ∨ κ = 1) (v : Int) (s : Value) (bs : List Blk) (w : World) (h : SB w s bs) :
    Calls Try.prog 53 #[.agg #[.int .i64 v, s], .int .i64 (κ : Int)] w (RV (asV κ v bs) w) := by
  have hs := h.slice
  have HFC := Lib.hid fun B W (hb : Below w.heap.size w W) c0 c1 => fullCode_one B v s bs W (h.below hb (Nat.le_refl _)) c0 c1
  by_cases hc : fullC v bs = 0
  · obtain ⟨hi, hf⟩ := fullC_zero hc
    obtain ⟨hv3, hv15, _⟩ := sys_size hi
    obtain ⟨n, rfl⟩ : ∃ n : Nat, v = (n : Int) := ⟨v.toNat, by omega⟩
    have HV := Lib.hid (show asV κ (n : Int) bs = .tuple #[.int .i64 (cntA (prd κ n bs) (n + κ) (n + κ) : Int), .int .i64 0] by
      unfold asV asF
      rw [if_pos hc]
      rfl)
    rw [HV.out]
    rw [hc] at HFC
    have HPT := Lib.hid fun W (hb : Below w.heap.size w W) => productTable_any κ hκ n s bs W (h.below hb (Nat.le_refl _)) hi
    have HR := Lib.hid (prd_in hκ hi hf)
    obtain ⟨N, hN⟩ : ∃ N, N = n + κ := ⟨_, rfl⟩
    obtain ⟨R, hRR⟩ : ∃ R, R = prd κ n bs := ⟨_, rfl⟩
    rw [← hN, ← hRR] at HPT HR ⊢
    have hN16 : N ≤ 16 := by omega
    have HLE := Lib.hid fun a b c (ha : a ≤ N) (hb : b ≤ N) (hc : c ≤ N) => cntT_le R hN16 ha hb hc
    have OT : Hid (∀ W, Calls Try.prog 78 #[.bool true] W (RS (.int .i64 1) W)) := Lib.hid fun W => oneIf_any true W
    have OF : Hid (∀ W, Calls Try.prog 78 #[.bool false] W (RS (.int .i64 0) W)) := Lib.hid fun W => oneIf_any false W
    clear h hc hi hf hN hRR hv3 hv15 hκ HV
    obtain ⟨a0, c0, rfl⟩ := hs
    have HFX := Lib.hid (HFC.out (w.heap.size + 1) ((w.alloc (.cells #[.int .i64 (n : Int), .slice a0 bs.length c0] 30)).alloc (.cells #[.int .i64 (n : Int), .slice a0 bs.length c0] 30)) (((Below.refl _ _).alloc (Nat.le_refl _) _).alloc (by simp) _) (by simp [go_sem]) (by simp [go_sem]))
    clear HFC
    go_enter Try.func53, Try.ntmps53
    go_wp2_with fail
    refine HFX.out.mono ?_
    rintro e w1 ⟨rfl, hb1⟩
    have hB1 : Below w.heap.size w w1 := (((Below.refl _ _).alloc (Nat.le_refl _) _).alloc (by simp) _).trans (hb1.mono (by simp <;> omega))
    have d0 : w1.cell? ⟨w.heap.size, 0, none⟩ = some (.int .i64 (n : Int)) := (hb1.cell (p := ⟨w.heap.size, 0, none⟩) (by simp <;> omega)).trans (by simp [go_sem])
    have d1 : w1.cell? ⟨w.heap.size, 1, none⟩ = some (.slice a0 bs.length c0) := (hb1.cell (p := ⟨w.heap.size, 1, none⟩) (by simp <;> omega)).trans (by simp [go_sem])
    clear hb1 HFX
    go_wp2_with fail
    refine (HPT.out _ hB1).mono ?_
    rintro e w2 ⟨G, gs, caps, rfl, _, hb2, hS⟩
    have HB0 := Lib.hid (hB1.trans (hb2.mono hB1.size))
    have HS := Lib.hid hS
    clear hb2 hS hB1 d0 d1
    go_wp2_with fail
    go_loopw [8, 23] (fun o i wr => ∃ a : Nat, a ≤ N ∧ i = .int .i64 a ∧ o = .int .i64 (cntA R N a : Int) ∧ Below w2.heap.size w2 wr) (fun _ i _ => N - (intOf i).toNat)
    case atStart => exact ⟨0, Nat.zero_le _, rfl, rfl, Below.refl _ _⟩
    case round =>
      obtain ⟨a, ha, rfl, rfl, hB⟩ := hrel
      have HB := Lib.hid hB
      clear hB
      by_cases hal : a < N
      · have a0' : (0 : Int) ≤ (a : Int) := by omega
        have a1' : (a : Int) < (N : Int) := by omega
        go_wp2
        go_loopw [8, 28] (fun o i wr => ∃ b : Nat, b ≤ N ∧ i = .int .i64 b ∧ o = .int .i64 ((cntA R N a + cntB2 R N a b : Nat) : Int) ∧ Below w2.heap.size w2 wr) (fun _ i _ => N - (intOf i).toNat)
        case atStart => exact ⟨0, Nat.zero_le _, rfl, rfl, HB.out⟩
        case round =>
          obtain ⟨b, hb, rfl, rfl, hB⟩ := hrel
          have HB := Lib.hid hB
          clear hB
          by_cases hbl : b < N
          · have b0 : (0 : Int) ≤ (b : Int) := by omega
            have b1 : (b : Int) < (N : Int) := by omega
            go_wp2
            go_loopw [8, 33] (fun o i wr => ∃ c : Nat, c ≤ N ∧ i = .int .i64 c ∧ o = .int .i64 ((cntA R N a + cntB2 R N a b + cntC R a b c : Nat) : Int) ∧ Below w2.heap.size w2 wr) (fun _ i _ => N - (intOf i).toNat)
            case atStart => exact ⟨0, Nat.zero_le _, rfl, rfl, HB.out⟩
            case round =>
              obtain ⟨c, hc, rfl, rfl, hB⟩ := hrel
              by_cases hcl : c < N
              · obtain ⟨x, z, p, q, hx, hz, _, _, ht, k1, k2, k3, k4, k5, k6, k7⟩ := triple_cells (HS.out.below hB (Nat.le_refl _)) HR.out hal hbl hcl
                have hle := HLE.out a b c ha hb hc
                have HT := Lib.hid (show cntA R N a + cntB2 R N a b + cntC R a b (c + 1) = cntA R N a + cntB2 R N a b + cntC R a b c + if (p == q) = true then 1 else 0 by rw [← ht, cntC]; exact (Nat.add_assoc _ _ _).symm)
                obtain ⟨M, hM⟩ : ∃ M, M = cntA R N a + cntB2 R N a b + cntC R a b c := ⟨_, rfl⟩
                rw [← hM] at HT hle ⊢
                have wm : IntKind.i64.wrap ((M : Int) + 1) = (M : Int) + 1 := IntWalk.i64_in _ (by omega)
                have wm0 : IntKind.i64.wrap (M : Int) = (M : Int) := IntWalk.i64_in _ (by omega)
                have c0 : (0 : Int) ≤ (c : Int) := by omega
                have c1 : (c : Int) < (N : Int) := by omega
                have x0 : (0 : Int) ≤ (x : Int) := by omega
                have x1 : (x : Int) < (N : Int) := by omega
                have z0 : (0 : Int) ≤ (z : Int) := by omega
                have z1 : (z : Int) < (N : Int) := by omega
                have HB2 := Lib.hid hB
                clear hM ht hx hz hB
                obtain ⟨β, hβ⟩ : ∃ β, (p == q) = β := ⟨_, rfl⟩
                rw [hβ] at HT
                obtain ⟨ga, hga⟩ : ∃ ga, ga = gs a := ⟨_, rfl⟩
                obtain ⟨gb, hgb⟩ : ∃ gb, gb = gs b := ⟨_, rfl⟩
                obtain ⟨gx, hgx⟩ : ∃ gx, gx = gs x := ⟨_, rfl⟩
                obtain ⟨ca, hca⟩ : ∃ ca, ca = caps a := ⟨_, rfl⟩
                obtain ⟨cb, hcb⟩ : ∃ cb, cb = caps b := ⟨_, rfl⟩
                obtain ⟨cx, hcx⟩ : ∃ cx, cx = caps x := ⟨_, rfl⟩
                rw [← hga, ← hca] at k1
                rw [← hgb, ← hcb] at k2
                rw [← hgx, ← hcx] at k3
                rw [← hga] at k4 k7
                rw [← hgb] at k5
                rw [← hgx] at k6
                clear hga hgb hgx hca hcb hcx
                cases β with
                | false =>
                  go_wp2_with fail
                  go_region_held3 (fun W => W.cell? ⟨G, a, none⟩ = some (.slice (some ⟨ga, 0, none⟩) N ca) ∧ W.cell? ⟨G, b, none⟩ = some (.slice (some ⟨gb, 0, none⟩) N cb) ∧ W.cell? ⟨G, x, none⟩ = some (.slice (some ⟨gx, 0, none⟩) N cx) ∧ W.cell? ⟨ga, b, none⟩ = some (.int .i64 (x : Int)) ∧ W.cell? ⟨gb, c, none⟩ = some (.int .i64 (z : Int)) ∧ W.cell? ⟨gx, c, none⟩ = some (.int .i64 p) ∧ W.cell? ⟨ga, z, none⟩ = some (.int .i64 q))
                    (first
                      | exact ⟨k1, k2, k3, k4, k5, k6, k7⟩
                      | go_keep)
                    (first | (go_at_call 78; refine (OF.out _).mono ?_; rintro e w6 ⟨rfl, rfl⟩))
                  all_goals
                    go_wp2_with fail
                    go_roundw
                    case rel => exact ⟨c + 1, by omega, by go_num, by rw [HT.out]; rfl, HB2.out.drew⟩
                    case measure => simp [intOf]; omega
                | true =>
                  go_wp2_with fail
                  go_region_held3 (fun W => W.cell? ⟨G, a, none⟩ = some (.slice (some ⟨ga, 0, none⟩) N ca) ∧ W.cell? ⟨G, b, none⟩ = some (.slice (some ⟨gb, 0, none⟩) N cb) ∧ W.cell? ⟨G, x, none⟩ = some (.slice (some ⟨gx, 0, none⟩) N cx) ∧ W.cell? ⟨ga, b, none⟩ = some (.int .i64 (x : Int)) ∧ W.cell? ⟨gb, c, none⟩ = some (.int .i64 (z : Int)) ∧ W.cell? ⟨gx, c, none⟩ = some (.int .i64 p) ∧ W.cell? ⟨ga, z, none⟩ = some (.int .i64 q))
                    (first
                      | exact ⟨k1, k2, k3, k4, k5, k6, k7⟩
                      | go_keep)
                    (first | (go_at_call 78; refine (OT.out _).mono ?_; rintro e w6 ⟨rfl, rfl⟩))
                  all_goals
                    go_wp2_with fail
                    go_roundw
                    case rel => exact ⟨c + 1, by omega, by go_num, by rw [HT.out]; first | rfl | (simp; done) | go_num, HB2.out.drew⟩
                    case measure => simp [intOf]; omega
              · have e : c = N := by omega
                subst e
                have HE := Lib.hid (show cntA R c a + cntB2 R c a b + cntC R a b c = cntA R c a + cntB2 R c a (b + 1) by rw [cntB2]; omega)
                rw [HE.out]
                go_wp2
                go_roundw
                case rel => exact ⟨b + 1, by omega, by go_num, rfl, hB⟩
                case measure => simp [intOf]; omega
          · have e : b = N := by omega
            subst e
            have HE := Lib.hid (show cntA R b a + cntB2 R b a b = cntA R b (a + 1) by rw [cntA])
            rw [HE.out]
            go_wp2
            go_roundw
            case rel => exact ⟨a + 1, by omega, by go_num, rfl, HB.out⟩
            case measure => simp [intOf]; omega
      · have e : a = N := by omega
        subst e
        go_wp2
        go_ret2
        exact RV_of rfl (HB0.out.trans (HB.out.mono HB0.out.size))
  · have HV := Lib.hid (show asV κ v bs = .tuple #[.int .i64 0, .int .i64 (fullC v bs)] by
      unfold asV asF
      rw [if_neg hc])
    rw [HV.out]
    obtain ⟨μ, hμ⟩ : ∃ μ, μ = fullC v bs := ⟨_, rfl⟩
    rw [← hμ] at hc HFC ⊢
    have q1 : (μ != 0) = true := by simpa using hc
    clear h hμ hc HV hκ
    obtain ⟨a0, c0, rfl⟩ := hs
    have HFX := Lib.hid (HFC.out (w.heap.size + 1) ((w.alloc (.cells #[.int .i64 v, .slice a0 bs.length c0] 30)).alloc (.cells #[.int .i64 v, .slice a0 bs.length c0] 30)) (((Below.refl _ _).alloc (Nat.le_refl _) _).alloc (by simp) _) (by simp [go_sem]) (by simp [go_sem]))
    clear HFC
    go_enter Try.func53, Try.ntmps53
    go_wp2_with fail
    refine HFX.out.mono ?_
    rintro e w1 ⟨rfl, hb1⟩
    have hB1 : Below w.heap.size w w1 := (((Below.refl _ _).alloc (Nat.le_refl _) _).alloc (by simp) _).trans (hb1.mono (by simp <;> omega))
    clear hb1
    go_wp2
    go_ret2
    exact RV_of rfl hB1
set_option maxRecDepth 100000 in
theorem CountPointTriples_any (v : Int) (s : Value) (bs : List Blk) (w : World) (h : SB w s bs) :
    Calls Try.prog 24 #[.agg #[.int .i64 v, s]] w (RV (asV 0 v bs) w) := by
  have hs := h.slice
  have HP := Lib.hid (countAssociative_any 0 (.inl rfl) v s bs _ (h.below ((Below.refl _ _).alloc (Nat.le_refl _) (.cells #[.int .i64 v, s] 30)) (Nat.le_refl _)))
  have HU := Lib.hid (show asV 0 v bs = .tuple #[.int .i64 (asF 0 v bs).1, .int .i64 (asF 0 v bs).2] from rfl)
  clear h
  obtain ⟨a0, c0, rfl⟩ := hs
  obtain ⟨η, hη⟩ : ∃ η, η = (asF 0 v bs).1 := ⟨_, rfl⟩
  obtain ⟨μ, hμ⟩ : ∃ μ, μ = (asF 0 v bs).2 := ⟨_, rfl⟩
  rw [← hη, ← hμ] at HU
  rw [HU.out] at HP ⊢
  clear hη hμ HU
  go_enter Try.func24, Try.ntmps24
  go_wp2_with fail
  refine HP.out.mono ?_
  rintro e w1 ⟨rfl, hb1⟩
  have hb2 := below_new hb1
  clear hb1
  go_wp2
  go_ret2
  exact RV_of rfl hb2
set_option maxRecDepth 100000 in
theorem CountAssociative_any (v : Int) (s : Value) (bs : List Blk) (w : World) (h : SB w s bs) :
    Calls Try.prog 22 #[.agg #[.int .i64 v, s]] w (RV (asV 1 v bs) w) := by
  have hs := h.slice
  have HP := Lib.hid (countAssociative_any 1 (.inr rfl) v s bs _ (h.below ((Below.refl _ _).alloc (Nat.le_refl _) (.cells #[.int .i64 v, s] 30)) (Nat.le_refl _)))
  have HU := Lib.hid (show asV 1 v bs = .tuple #[.int .i64 (asF 1 v bs).1, .int .i64 (asF 1 v bs).2] from rfl)
  clear h
  obtain ⟨a0, c0, rfl⟩ := hs
  obtain ⟨η, hη⟩ : ∃ η, η = (asF 1 v bs).1 := ⟨_, rfl⟩
  obtain ⟨μ, hμ⟩ : ∃ μ, μ = (asF 1 v bs).2 := ⟨_, rfl⟩
  rw [← hη, ← hμ] at HU
  rw [HU.out] at HP ⊢
  clear hη hμ HU
  go_enter Try.func22, Try.ntmps22
  go_wp2_with fail
  refine HP.out.mono ?_
  rintro e w1 ⟨rfl, hb1⟩
  have hb2 := below_new hb1
  clear hb1
  go_wp2
  go_ret2
  exact RV_of rfl hb2
end Go.Proofs.Ytahgialnhomefaa

namespace Go.Proofs.Ytahgialnhomefaa
open Go.RowKit Go.Maps
theorem wpList_append_intG {w : World} {ops : Array Oper} {rest : List Oper} {o : Oper} {a : Act} {Q : Exit → Act → World → Prop} (hgd : o.guard = none) (s x : Operand)
    (ho : o.op = .call { callee := .builtin .append, args := #[s, x], argTypes := #[38, 38] })
    (base : Nat) (v : Value) (zs : List Int) (hsv : a.eval s = v) (hown : OwnJ w base v zs) (b0 c : Nat) (y : Int) (hx : a.eval x = .slice (some ⟨b0, 0, none⟩) 1 c)
    (c1 : w.cell? ⟨b0, 0, none⟩ = some (.int .i64 y)) (hl : zs.length ≤ 1100000) (hbase : base ≤ w.heap.size)
    (h : ∀ (g cap : Nat) (w' : World), OwnJ w' base (.slice (some ⟨g, 0, none⟩) (zs.length + 1) cap) (zs ++ [y]) → w.grownBy w' v.ownBlock → (v.ownBlock = some g ∨ g = w.heap.size) → wpList Try.prog ops Q rest (a.put o.dst (.slice (some ⟨g, 0, none⟩) (zs.length + 1) cap)) w') : wpList Try.prog ops Q (o :: rest) a w := by
  obtain ⟨i0, hi, hz0, hz1, hz2⟩ := info_parts infoInt64
  refine wpList_append_own_at w hgd s x 38 ho base 2 i0 _ 1 8 Try.underlying38 hi hz0 hz1 hz2 rfl (by decide) v zs.length (zs.map (Value.int .i64)) hsv hown ⟨b0, 0, none⟩ 1 c [.int .i64 y] hx rfl ?_ ?_ (by unfold maxLen; omega) (by omega) hbase ?_
  · intro j u hj
    rw [addr_at, Nat.zero_add]
    match j, hj with
    | 0, hj => simp at hj; rw [← hj]; exact c1
    | j + 1, hj => simp at hj
  · intro u hu
    simp at hu
    rw [hu]
    rfl
  · intro v' w' hown' hg _ hob
    obtain ⟨G, cap, rfl⟩ := row_some hown'
    refine h G cap w' ?_ hg ?_
    · unfold OwnJ
      rw [List.length_append, List.map_append]
      exact hown'
    · rcases hob with e | e
      · exact .inl (by rw [← e]; rfl)
      · exact .inr (by simpa [Value.ownBlock] using e)
theorem loop_row {n : Nat} {bs : List Blk} {k : Nat} (hk : k < n) : (rowT n (prd 0 n bs) k).set k (n : Int) ++ [(k : Int)] = rowT (n + 1) (prd 1 n bs) k := by
  have e : rowT (n + 1) (prd 1 n bs) k = rowT n (prd 1 n bs) k ++ [prd 1 n bs k n] := by simp [rowT, List.range_succ]
  rw [e, show prd 1 n bs k n = (k : Int) by simp [prd]; omega]
  congr 1
  apply List.ext_getElem?
  intro m
  by_cases hm : m < n
  · by_cases hmk : k = m
    · subst hmk
      rw [List.getElem?_set_self (by rw [rowT_len]; exact hm)]
      simp [rowT, hm, prd]
    · rw [List.getElem?_set_ne hmk]
      have h1 : k ≠ n := by omega
      have h2 : m ≠ n := by omega
      simp [rowT, hm, prd, hmk, h1, h2]
  · rw [List.getElem?_eq_none (by rw [List.length_set, rowT_len]; omega), List.getElem?_eq_none (by rw [rowT_len]; omega)]
theorem loop_unit (n : Nat) (bs : List Blk) : numL n ++ [(n : Int)] = rowT (n + 1) (prd 1 n bs) n := by
  rw [← numL_succ]
  apply List.map_congr_left
  intro m hm
  have := List.mem_range.1 hm
  unfold prd
  rw [if_neg (by decide)]
  by_cases h : n = m
  · rw [if_pos h, h]
  · rw [if_neg h, if_pos rfl]
/-- The rows while the loop's rows are made. -/
def rowsLp (n : Nat) (bs : List Blk) (a : Nat) : List (List Int) := (List.range n).map fun k => if k < a then rowT (n + 1) (prd 1 n bs) k else rowT n (prd 0 n bs) k
theorem rowsLp_len (n : Nat) (bs : List Blk) (a : Nat) : (rowsLp n bs a).length = n := by simp [rowsLp]
theorem rowsLp_zero (n : Nat) (bs : List Blk) : rowsTo n (prd 0 n bs) n = rowsLp n bs 0 := by
  apply List.map_congr_left
  intro k _
  rw [if_neg (by omega)]
theorem rowsLp_at {n : Nat} {bs : List Blk} {a : Nat} (h : a < n) : (rowsLp n bs a)[a]?.getD [] = rowT n (prd 0 n bs) a := by simp [rowsLp, h]
theorem rowsLp_next {n : Nat} {bs : List Blk} {a : Nat} (h : a < n) : ((rowsLp n bs a).set a ((rowT n (prd 0 n bs) a).set a (n : Int))).set a ((rowT n (prd 0 n bs) a).set a (n : Int) ++ [(a : Int)]) = rowsLp n bs (a + 1) := by
  rw [loop_row h, List.set_set]
  apply List.ext_getElem?
  intro m
  by_cases hm : m = a
  · subst hm
    rw [List.getElem?_set_self (by rw [rowsLp_len]; exact h)]
    simp [rowsLp, h]
  · rw [List.getElem?_set_ne (fun e => hm e.symm)]
    simp only [rowsLp, List.getElem?_map]
    by_cases hml : m < n
    · rw [List.getElem?_range hml]
      simp only [Option.map_some]
      by_cases h2 : m < a
      · rw [if_pos h2, if_pos (by omega)]
      · rw [if_neg h2, if_neg (by omega)]
    · rw [List.getElem?_eq_none (by rw [List.length_range]; omega)]
      rfl
theorem rowsLp_end (n : Nat) (bs : List Blk) : rowsLp n bs n ++ [rowT (n + 1) (prd 1 n bs) n] = rowsTo (n + 1) (prd 1 n bs) (n + 1) := by
  rw [rowsTo_succ]
  congr 1
  apply List.map_congr_left
  intro k hk
  rw [if_pos (List.mem_range.1 hk)]
/-- A list lies apart from a list of rows. -/
def Dst (t u : Value) (us : List Value) : Prop := ∀ r, t.ownBlock = some r → u.ownBlock ≠ some r ∧ ∀ x ∈ us, x.ownBlock ≠ some r
/-- The rows and the unit's row. -/
structure LoopM (W : World) (lo : Nat) (u : Value) (us : List Value) (Rs : List (List Int)) (t : Value) (zs : List Int) : Prop where
  tab : TabL W lo u us Rs
  own : OwnJ W lo t zs
  dst : Dst t u us
variable {W W' : World} {lo : Nat} {u t : Value} {us : List Value} {Rs : List (List Int)} {zs : List Int}
theorem LoopM.below (h : LoopM W lo u us Rs t zs) (hb : Below W.heap.size W W') : LoopM W' lo u us Rs t zs :=
  ⟨h.tab.below hb, h.own.below hb (Nat.le_refl _), h.dst⟩
theorem LoopM.sst {k g n cap j : Nat} (h : LoopM W lo u us Rs t zs) (hx : us[k]? = some (.slice (some ⟨g, 0, none⟩) n cap)) (hj : j < (Rs[k]?.getD []).length) (y : Int) :
    LoopM (W.setCell ⟨g, j, none⟩ (.int .i64 y)) lo u us (Rs.set k ((Rs[k]?.getD []).set j y)) t zs ∧ W.grownBy (W.setCell ⟨g, j, none⟩ (.int .i64 y)) (some g) := by
  obtain ⟨h1, h2⟩ := h.tab.sst hx hj y
  exact ⟨⟨h1, h.own.apartP h2 (fun r e e2 => by cases e; exact (h.dst g e2).2 _ (List.mem_of_getElem? hx) rfl), h.dst⟩, h2⟩
theorem LoopM.put {k G m c g : Nat} {x : Value} {n cap : Nat} {ys : List Int} (h : LoopM W lo (.slice (some ⟨G, 0, none⟩) m c) us Rs t zs) (hx : us[k]? = some x) (hg : W.grownBy W' x.ownBlock) (ho : OwnJ W' lo (.slice (some ⟨g, 0, none⟩) n cap) ys) (hG : x.ownBlock = some g ∨ W.heap.size ≤ g) :
    LoopM (W'.setCell ⟨G, k, none⟩ (.slice (some ⟨g, 0, none⟩) n cap)) lo (.slice (some ⟨G, 0, none⟩) m c) (us.set k (.slice (some ⟨g, 0, none⟩) n cap)) (Rs.set k ys) t zs ∧ W'.grownBy (W'.setCell ⟨G, k, none⟩ (.slice (some ⟨g, 0, none⟩) n cap)) (some G) := by
  obtain ⟨h1, h2⟩ := h.tab.put hx hg ho hG
  refine ⟨⟨h1, (h.own.apartP hg (fun r e e2 => (h.dst r e2).2 x (List.mem_of_getElem? hx) e)).apartP h2 (fun r e e2 => by cases e; exact (h.dst G e2).1 rfl), fun r e => ⟨(h.dst r e).1, fun z hz => ?_⟩⟩, h2⟩
  obtain ⟨j, hj⟩ := List.mem_iff_getElem?.1 hz
  by_cases hjk : j = k
  · subst hjk
    rw [List.getElem?_set_self (List.getElem?_eq_some_iff.1 hx).1] at hj
    cases hj
    intro e2
    have e2 : g = r := by simpa [Value.ownBlock] using e2
    subst e2
    rcases hG with e3 | e3
    · exact (h.dst g e).2 x (List.mem_of_getElem? hx) e3
    · have := (h.own.blkP g e).2; omega
  · rw [List.getElem?_set_ne (fun e2 => hjk e2.symm)] at hj
    exact (h.dst r e).2 z (List.mem_of_getElem? hj)
theorem LoopM.unit {g n cap : Nat} {ys : List Int} (h : LoopM W lo u us Rs t zs) (hg : W.grownBy W' t.ownBlock) (ho : OwnJ W' lo (.slice (some ⟨g, 0, none⟩) n cap) ys) (hG : t.ownBlock = some g ∨ W.heap.size ≤ g) : LoopM W' lo u us Rs (.slice (some ⟨g, 0, none⟩) n cap) ys := by
  refine ⟨h.tab.kept hg (fun r e => (h.dst r e).1) (fun x hx r e => (h.dst r e).2 x hx), ho, fun r e => ?_⟩
  have e : g = r := by simpa [Value.ownBlock] using e
  subst e
  rcases hG with e3 | e3
  · exact h.dst g e3
  · refine ⟨fun e => ?_, fun x hx e => ?_⟩
    · have := (h.tab.own.blkP g e).2; omega
    · obtain ⟨k, hk⟩ := List.mem_iff_getElem?.1 hx
      have := ((h.tab.row k x hk).blkP g e).2; omega
theorem LoopM.done (h : LoopM W lo u us Rs t zs) {u' : Value} (hg : W.grownBy W' u.ownBlock) (hV : RowsV W' lo u' (us ++ [t])) (hG : ∀ G, u'.ownBlock = some G → u.ownBlock = some G ∨ W.heap.size ≤ G) : TabL W' lo u' (us ++ [t]) (Rs ++ [zs]) :=
  h.tab.snoc h.own (fun r e => (h.dst r e).1) (fun x hx r e => (h.dst r e).2 x hx) hg hV hG
end Go.Proofs.Ytahgialnhomefaa

namespace Go.Proofs.Ytahgialnhomefaa
open Go.RowKit Go.Maps
/-- Only the places off .. off + n of the block b were written. -/
structure Wr (W W' : World) (b off n : Nat) : Prop where
  gr : W.grownBy W' (some b)
  out : ∀ o, (o < off ∨ off + n ≤ o) → W'.cell? ⟨b, o, none⟩ = W.cell? ⟨b, o, none⟩
  fz : ∀ o, W'.frozen? ⟨b, o, none⟩ = W.frozen? ⟨b, o, none⟩
theorem gb_trans2 {a b c : World} {r : Nat} (h : a.grownBy b (some r)) (k : b.grownBy c (some r)) : a.grownBy c (some r) :=
  ⟨k.os.trans h.os, k.tape.trans h.tape, k.output.trans h.output, Nat.le_trans h.size k.size, fun i hi hne => (k.block i (Nat.lt_of_lt_of_le hi h.size) hne).trans (h.block i hi hne)⟩
variable {W W' W'' : World} {b off n : Nat}
theorem Wr.refl (W : World) (b off n : Nat) : Wr W W b off n := ⟨only_refl W _, fun _ _ => rfl, fun _ => rfl⟩
theorem Wr.trans (h : Wr W W' b off n) (k : Wr W' W'' b off n) : Wr W W'' b off n := ⟨gb_trans2 h.gr k.gr, fun o ho => (k.out o ho).trans (h.out o ho), fun o => (k.fz o).trans (h.fz o)⟩
theorem Wr.set (W : World) (b off n : Nat) {k : Nat} (hk : k < n) (v : Value) : Wr W (W.setCell ⟨b, off + k, none⟩ v) b off n :=
  ⟨only_setCell (only_refl W _) rfl v, fun o ho => World.cell?_setCell_other _ _ _ _ (by simp <;> omega), fun o => World.frozen?_setCell _ _ _ _⟩
theorem Wr.drew (h : Wr W W' b off n) : Wr W W'.drew b off n := ⟨⟨h.gr.os, h.gr.tape, h.gr.output, h.gr.size, h.gr.block⟩, h.out, h.fz⟩
theorem Wr.cell (h : Wr W W' b off n) {p : Addr} (hp : p.block ≠ b) (hl : p.block < W.heap.size) : W'.cell? p = W.cell? p :=
  World.cell?_of_block (h.gr.block p.block hl (by simpa using hp))
theorem Ints.wr {b2 off2 : Nat} {os : List Int} (h : Ints W b2 off2 os) (hw : Wr W W' b off n) (hb2 : b2 < W.heap.size) (hd : b2 ≠ b ∨ off + n ≤ off2 ∨ off2 + os.length ≤ off) : Ints W' b2 off2 os := fun k hk => by
  by_cases e : b2 = b
  · subst e
    rw [hw.out (off2 + k) (by rcases hd with h | h | h; exact absurd rfl h; exact .inr (by omega); exact .inl (by omega))]
    exact h k hk
  · rw [hw.cell (p := ⟨b2, off2 + k, none⟩) e hb2]
    exact h k hk
theorem Ints.setK {ws : List Int} (h : Ints W b off ws) {k : Nat} (hk : k < ws.length) (x : Int) : Ints (W.setCell ⟨b, off + k, none⟩ (.int .i64 x)) b off (ws.set k x) := fun j hj => by
  rw [List.length_set] at hj
  by_cases e : j = k
  · subst e
    rw [World.cell?_setCell_same' _ _ _ (by rw [h j hj]; rfl), List.getElem?_set_self hj]
    rfl
  · rw [World.cell?_setCell_other _ _ _ _ (by simp <;> omega), h j hj, List.getElem?_set_ne (fun h => e h.symm)]
/-- The first k numbers of A, then those of B. -/
def mixT (A B : List Int) (k : Nat) : List Int := A.take k ++ B.drop k
theorem mixT_len {A B : List Int} (h : A.length = B.length) (k : Nat) : (mixT A B k).length = B.length := by
  unfold mixT
  rw [List.length_append, List.length_take, List.length_drop]
  omega
theorem mixT_at {A B : List Int} (h : A.length = B.length) {k : Nat} (hk : k < B.length) : (mixT A B k)[k]?.getD 0 = B[k]?.getD 0 := by
  unfold mixT
  rw [List.getElem?_append_right (by rw [List.length_take]; omega), List.length_take, List.getElem?_drop]
  congr 2
  omega
theorem mixT_set {A B : List Int} (h : A.length = B.length) {k : Nat} (hk : k < B.length) : (mixT A B k).set k (A[k]?.getD 0) = mixT A B (k + 1) := by
  have hA : k < A.length := by omega
  have e : (A.take k).length = k := by rw [List.length_take]; omega
  unfold mixT
  rw [List.set_append_right _ _ (by omega), e, Nat.sub_self, List.drop_eq_getElem_cons hk, List.set_cons_zero, List.take_add_one, List.getElem?_eq_getElem hA, List.append_assoc]
  rfl
theorem mixT_zero (A B : List Int) : mixT A B 0 = B := by simp [mixT]
theorem mixT_end {A B : List Int} (h : A.length = B.length) : mixT A B B.length = A := by
  unfold mixT
  rw [List.drop_length, List.append_nil, List.take_of_length_le (by omega)]
end Go.Proofs.Ytahgialnhomefaa

namespace Go.Proofs.Ytahgialnhomefaa
open Go.RowKit Go.Maps
/-- The number that is read and written. -/
def WdS2 (b o : Nat) (v : Value) (W : World) : Prop := W.cell? ⟨b, o, none⟩ = some v ∧ W.frozen? ⟨b, o, none⟩ = false
set_option maxRecDepth 100000 in
theorem modulus2_any (r : Value) (W : World) : Calls Try.prog 164 #[r] W (RS (.int .i64 2) W) := by
  go_enter Try.func164, Try.ntmps164
  go_wp2
  go_ret
  exact RS_of rfl
theorem invM2 (r : Int) (W : World) : Sem.run Try.prog (callMethod (.iface 72 (.int .i64 r)) "loop.example/g01355/impl.modulus" #[]) W = .ok (.enter 164 #[.int .i64 r]) W := by kernel_rfl
set_option maxRecDepth 100000 in
theorem leadF2_any (r : Int) (W : World) : Calls Try.prog 125 #[.int .i64 r] W (RS (.bool (decide (r ≠ 0))) W) := by
  by_cases h : r = 0
  · subst h
    go_enter Try.func125, Try.ntmps125
    go_wp2
    go_ret
    exact RS_of rfl
  · have e : (r != 0) = true := by simpa using h
    go_enter Try.func125, Try.ntmps125
    go_wp2
    go_ret
    exact RS_of (bool_eq (by simp [h]))
set_option maxRecDepth 100000 in
set_option maxHeartbeats 1000000 in
theorem add2_any (b off n c1 b2 off2 c2 : Nat) (t : Int) (ws os : List Int) (w : World) (hw : Ints w b off ws) (ho : Ints w b2 off2 os) (hwl : ws.length = n) (hol : os.length = n) (hwf : ∀ x ∈ ws, 0 ≤ x ∧ x < 2) (hof : ∀ x ∈ os, 0 ≤ x ∧ x < 2) (ht : 0 ≤ t ∧ t ≤ 100)
    (hfz : ∀ k, k < n → w.frozen? ⟨b, off + k, none⟩ = false) (hd : b2 ≠ b ∨ off + n ≤ off2 ∨ off2 + n ≤ off) (hb2 : b2 < w.heap.size) (hn : n ≤ 1000) :
    Calls Try.prog 108 #[.slice (some ⟨b, off, none⟩) n c1, .int .i64 t, .slice (some ⟨b2, off2, none⟩) n c2] w (fun e w' => e = .returned (.tuple #[]) ∧ Wr w w' b off n ∧ Ints w' b off (addL 2 t os ws)) := by
  have HO := Lib.hid fun W' (h : Wr w W' b off n) => ho.wr h hb2 (by rw [hol]; exact hd)
  obtain ⟨A, hA⟩ : ∃ A, A = addL 2 t os ws := ⟨_, rfl⟩
  have hAl : A.length = ws.length := by rw [hA, addL_len]; omega
  have HAT := Lib.hid fun k (hk : k < n) => (show A[k]?.getD 0 = (ws[k]?.getD 0 + t * (os[k]?.getD 0)) % 2 by rw [hA]; exact addL_at hwl hol hk)
  have HW0 := Lib.hid (show Ints w b off (mixT A ws 0) by rw [mixT_zero]; exact hw)
  have HWF := Lib.hid fun k (hk : k < n) => hwf (ws[k]?.getD 0) (by rw [List.getElem?_eq_getElem (by omega)]; exact List.getElem_mem _)
  have HOF := Lib.hid fun k (hk : k < n) => hof (os[k]?.getD 0) (by rw [List.getElem?_eq_getElem (by omega)]; exact List.getElem_mem _)
  have HFZ := Lib.hid hfz
  have HAL := Lib.hid hAl
  have HWL := Lib.hid hwl
  have HOL := Lib.hid hol
  rw [← hA]
  obtain ⟨t0, t1⟩ := ht
  have HM := Lib.hid fun r W => modulus2_any r W
  have HIV := Lib.hid fun r W => invM2 r W
  clear hw ho hwl hol hwf hof hfz hd hA hAl
  go_enter Try.func108, Try.ntmps108
  go_wp2
  go_loopw [10] (fun i wr => ∃ k : Nat, k ≤ n ∧ i = .int .i64 k ∧ Wr w wr b off n ∧ Ints wr b off (mixT A ws k)) (fun i _ => n - (intOf i).toNat)
  case atStart => exact ⟨0, Nat.zero_le _, rfl, Wr.refl _ _ _ _, HW0.out⟩
  case round =>
    obtain ⟨k, hk, rfl, hR, hI⟩ := hrel
    by_cases hkl : k < n
    · have c1' := hI k (by rw [mixT_len HAL.out, HWL.out]; exact hkl)
      rw [mixT_at HAL.out (by rw [HWL.out]; exact hkl)] at c1'
      have c2' := (HO.out wr hR) k (by rw [HOL.out]; exact hkl)
      have f1 := (hR.fz (off + k)).trans (HFZ.out k hkl)
      have hat := HAT.out k hkl
      obtain ⟨x0, x1⟩ := HWF.out k hkl
      obtain ⟨y0, y1⟩ := HOF.out k hkl
      have hset := hI.setK (k := k) (by rw [mixT_len HAL.out, HWL.out]; exact hkl) (A[k]?.getD 0)
      rw [mixT_set HAL.out (by rw [HWL.out]; exact hkl), hat] at hset
      obtain ⟨x, hx⟩ : ∃ x, x = ws[k]?.getD 0 := ⟨_, rfl⟩
      obtain ⟨y, hy⟩ : ∃ y, y = os[k]?.getD 0 := ⟨_, rfl⟩
      rw [← hx] at c1' x0 x1 hset
      rw [← hy] at c2' y0 y1 hset
      have hm0 : 0 ≤ t * y := Int.mul_nonneg t0 y0
      have hm1 : t * y ≤ 100 * 3 := Int.mul_le_mul t1 (by omega) y0 (by omega)
      have hwr := hR.trans (Wr.set wr b off n hkl (.int .i64 ((x + t * y) % 2)))
      have HSET := Lib.hid hset
      have HWR := Lib.hid hwr
      have g0 : (0 : Int) ≤ (k : Int) := by omega
      have g1 : (k : Int) < (n : Int) := by omega
      clear hx hy hat hset hwr hI
      have wm : IntKind.i64.wrap (t * y) = t * y := IntWalk.i64_in _ (by omega)
      have wa : IntKind.i64.wrap (x + t * y) = x + t * y := IntWalk.i64_in _ (by omega)
      have hmd : Int.tmod (x + t * y) 2 = (x + t * y) % 2 := Int.tmod_eq_emod_of_nonneg (by omega)
      have hS0 : WdS2 b (off + k) (.int .i64 x) wr.drew := ⟨c1', f1⟩
      go_upto_region 3 with fail
      refine wp_region_B (S := WdS2 b (off + k) (.int .i64 x)) 16 (by kernel_rfl) (by kernel_rfl) ?_
      refine wpAnyB_take (i := 0) (v := ?vv0) rfl (by kernel_rfl) (by kernel_rfl) (by kernel_rfl) (by kernel_rfl) (fun _ _ _ h => h) (Or.inl ⟨by rfl, ?yy0⟩) hS0 ?rr0
      case yy0 =>
        intro wq hSw
        obtain ⟨q0, q1⟩ := hSw
        go_simp
        try with_reducible rfl
      simp only [Act.put, List.setIfInBounds_toArray, List.set_cons_zero, List.set_cons_succ]
      refine wpAnyB_take (i := 1) (v := ?vv1) rfl (by kernel_rfl) (by kernel_rfl) (by kernel_rfl) (by kernel_rfl) (fun _ _ _ h => h) (Or.inl ⟨by rfl, ?yy1⟩) hS0 ?rr1
      case yy1 =>
        intro wq hSw
        obtain ⟨q0, q1⟩ := hSw
        go_simp
        try with_reducible rfl
      simp only [Act.put, List.setIfInBounds_toArray, List.set_cons_zero, List.set_cons_succ]
      refine wpAnyB_take (i := 2) (v := ?vv2) rfl (by kernel_rfl) (by kernel_rfl) (by kernel_rfl) (by kernel_rfl) (fun _ _ _ h => h) (Or.inl ⟨by rfl, ?yy2⟩) hS0 ?rr2
      case yy2 =>
        intro wq hSw
        obtain ⟨q0, q1⟩ := hSw
        go_simp
        try with_reducible rfl
      simp only [Act.put, List.setIfInBounds_toArray, List.set_cons_zero, List.set_cons_succ]
      refine wpAnyB_take (i := 3) (v := ?vv3) rfl (by kernel_rfl) (by kernel_rfl) (by kernel_rfl) (by kernel_rfl) (fun _ _ _ h => h) (Or.inl ⟨by rfl, ?yy3⟩) hS0 ?rr3
      case yy3 =>
        intro wq hSw
        obtain ⟨q0, q1⟩ := hSw
        go_simp
        try with_reducible rfl
      simp only [Act.put, List.setIfInBounds_toArray, List.set_cons_zero, List.set_cons_succ]
      refine wpAnyB_take (i := 4) (v := ?vv4) rfl (by kernel_rfl) (by kernel_rfl) (by kernel_rfl) (by kernel_rfl) (fun _ _ _ h => h) (Or.inl ⟨by rfl, ?yy4⟩) hS0 ?rr4
      case yy4 =>
        intro wq hSw
        obtain ⟨q0, q1⟩ := hSw
        go_simp
        try with_reducible rfl
      simp only [Act.put, List.setIfInBounds_toArray, List.set_cons_zero, List.set_cons_succ]
      refine wpAnyB_take (i := 5) (v := ?vv5) rfl (by kernel_rfl) (by kernel_rfl) (by kernel_rfl) (by kernel_rfl) (fun _ _ _ h => h) (Or.inl ⟨by rfl, ?yy5⟩) hS0 ?rr5
      case yy5 =>
        intro wq hSw
        obtain ⟨q0, q1⟩ := hSw
        go_simp
        try with_reducible rfl
      simp only [Act.put, List.setIfInBounds_toArray, List.set_cons_zero, List.set_cons_succ]
      refine wpAnyB_take (i := 6) (v := ?vv6) rfl (by kernel_rfl) (by kernel_rfl) (by kernel_rfl) (by kernel_rfl) (fun _ _ _ h => h) (Or.inl ⟨by rfl, ?yy6⟩) hS0 ?rr6
      case yy6 =>
        intro wq hSw
        obtain ⟨q0, q1⟩ := hSw
        go_simp
        try with_reducible rfl
      simp only [Act.put, List.setIfInBounds_toArray, List.set_cons_zero, List.set_cons_succ]
      refine wpAnyB_take (i := 7) (v := ?vv7) rfl (by kernel_rfl) (by kernel_rfl) (by kernel_rfl) (by kernel_rfl) (fun _ _ _ h => h) (Or.inl ⟨by rfl, ?yy7⟩) hS0 ?rr7
      case yy7 =>
        intro wq hSw
        obtain ⟨q0, q1⟩ := hSw
        go_simp
        try with_reducible rfl
      simp only [Act.put, List.setIfInBounds_toArray, List.set_cons_zero, List.set_cons_succ]
      refine wpAnyB_take (i := 8) (v := ?vv8) rfl (by kernel_rfl) (by kernel_rfl) (by kernel_rfl) (by kernel_rfl) (fun _ _ _ h => h) (Or.inl ⟨by rfl, ?yy8⟩) hS0 ?rr8
      case yy8 =>
        intro wq hSw
        obtain ⟨q0, q1⟩ := hSw
        go_simp
        try with_reducible rfl
      simp only [Act.put, List.setIfInBounds_toArray, List.set_cons_zero, List.set_cons_succ]
      refine wpAnyB_take (i := 9) (v := ?vv9) rfl (by kernel_rfl) (by kernel_rfl) (by kernel_rfl) (by kernel_rfl) (fun _ _ _ h => h) (Or.inl ⟨by rfl, ?yy9⟩) hS0 ?rr9
      case yy9 =>
        intro wq hSw
        obtain ⟨q0, q1⟩ := hSw
        go_simp
        try with_reducible rfl
      simp only [Act.put, List.setIfInBounds_toArray, List.set_cons_zero, List.set_cons_succ]
      refine wpAnyB_take (i := 10) (v := ?vv10) rfl (by kernel_rfl) (by kernel_rfl) (by kernel_rfl) (by kernel_rfl) (fun _ _ _ h => h) (Or.inl ⟨by rfl, ?yy10⟩) hS0 ?rr10
      case yy10 =>
        intro wq hSw
        obtain ⟨q0, q1⟩ := hSw
        go_simp
        try with_reducible rfl
      simp only [Act.put, List.setIfInBounds_toArray, List.set_cons_zero, List.set_cons_succ]
      refine wpAnyB_take (i := 11) (v := ?vv11) rfl (by kernel_rfl) (by kernel_rfl) (by kernel_rfl) (by kernel_rfl) (fun _ _ _ h => h) (Or.inl ⟨by rfl, ?yy11⟩) hS0 ?rr11
      case yy11 =>
        intro wq hSw
        obtain ⟨q0, q1⟩ := hSw
        go_simp
        try with_reducible rfl
      simp only [Act.put, List.setIfInBounds_toArray, List.set_cons_zero, List.set_cons_succ]
      refine wpAnyB_ready (rs := [12]) (by kernel_rfl) (by simp) ?_
      refine (AllReadyB.cons rfl (fun K1 hK1 => ?_) AllReadyB.nil)
      go_simp
      go_upon
      refine (HM.out _ _).mono ?_
      rintro e w6 ⟨rfl, rfl⟩
      go_wp2_with fail
      refine hK1.out _ _ hS0 (fun hS1 => ?_)
      clear hK1 K1
      try simp only [Act.put, List.setIfInBounds_toArray, List.set_cons_zero, List.set_cons_succ]
      refine wpAnyB_ready (rs := [13]) (by kernel_rfl) (by simp) ?_
      refine (AllReadyB.cons rfl (fun K2 hK2 => ?_) AllReadyB.nil)
      go_simp
      refine hK2.out _ _ hS0 (fun hS2 => ?_)
      clear hK2 K2
      try simp only [Act.put, List.setIfInBounds_toArray, List.set_cons_zero, List.set_cons_succ]
      refine wpAnyB_ready (rs := [14]) (by kernel_rfl) (by simp) ?_
      refine (AllReadyB.cons rfl (fun K3 hK3 => ?_) AllReadyB.nil)
      go_simp
      refine hK3.out _ _ hS0 (fun hS3 => ?_)
      clear hK3 K3
      try simp only [Act.put, List.setIfInBounds_toArray, List.set_cons_zero, List.set_cons_succ]
      refine wpAnyB_ready (rs := [15]) (by kernel_rfl) (by simp) ?_
      refine AllReadyB.last rfl (by kernel_rfl) (by kernel_rfl) (fun K4 hK4 => ?_)
      go_simp
      refine hK4.out _ _ ?_
      clear hK4 K4
      go_wp2_with fail
      go_roundw
      case rel => exact ⟨k + 1, by omega, by go_num, HWR.out.drew, HSET.out⟩
      case measure => simp [intOf]; omega
    · have e : k = n := by omega
      have hI2 : Ints wr b off A := by
        have := hI
        rw [e, ← HWL.out, mixT_end HAL.out] at this
        exact this
      have HI2 := Lib.hid hI2
      have HR2 := Lib.hid hR
      clear hI hI2 hR
      go_wp2
      go_returns
      exact ⟨rfl, HR2.out, HI2.out⟩
end Go.Proofs.Ytahgialnhomefaa

namespace Go.Proofs.Ytahgialnhomefaa
open Go.RowKit Go.Maps
def mrkL (ws : List Int) (zs : List Int) : List Int := zs.foldl (fun w z => w.set z.toNat 1) ws
theorem mrkL_len (zs : List Int) : ∀ ws : List Int, (mrkL ws zs).length = ws.length := by
  induction zs with
  | nil => intro ws; rfl
  | cons z zs ih => intro ws; show (mrkL (ws.set z.toNat 1) zs).length = _; rw [ih, List.length_set]
theorem mrkL_take {ws zs : List Int} {k : Nat} (hk : k < zs.length) : mrkL ws (zs.take (k + 1)) = (mrkL ws (zs.take k)).set (zs[k]?.getD 0).toNat 1 := by
  unfold mrkL
  rw [List.take_add_one, List.getElem?_eq_getElem hk, List.foldl_append]
  rfl
def wtL (ws : List Int) : Nat := (ws.filter fun x => decide (x ≠ 0)).length
theorem wtL_take {ws : List Int} {k : Nat} (hk : k < ws.length) : wtL (ws.take (k + 1)) = wtL (ws.take k) + if ws[k]?.getD 0 ≠ 0 then 1 else 0 := by
  unfold wtL
  rw [List.take_add_one, List.getElem?_eq_getElem hk, List.filter_append, List.length_append]
  by_cases h : ws[k] = 0
  · simp [h]
  · simp [h]
theorem wtL_le (ws : List Int) : wtL ws ≤ ws.length := List.length_filter_le _ _
theorem wtL_pos {ws : List Int} : 0 < wtL ws ↔ hasN ws = true := by
  unfold wtL
  rw [List.length_pos_iff_exists_mem, hasN_true]
  constructor
  · rintro ⟨x, hx⟩
    have := List.mem_filter.1 hx
    exact ⟨x, this.1, by simpa using this.2⟩
  · rintro ⟨x, hx, h⟩
    exact ⟨x, List.mem_filter.2 ⟨hx, by simpa using h⟩⟩
theorem ldL_stop {ws : List Int} {k : Nat} (hk : k < ws.length) (h0 : ∀ j, j < k → ws[j]?.getD 0 = 0) (h : ws[k]?.getD 0 ≠ 0) : ldL ws = k := by
  unfold ldL
  rw [List.findIdx_eq hk]
  rw [List.getElem?_eq_getElem hk] at h
  refine ⟨by simpa using h, fun j hj => ?_⟩
  have := h0 j hj
  rw [List.getElem?_eq_getElem (by omega)] at this
  simpa using this
end Go.Proofs.Ytahgialnhomefaa

namespace Go.Proofs.Ytahgialnhomefaa
open Go.RowKit Go.Maps
set_option maxRecDepth 100000 in
set_option maxHeartbeats 1000000 in
theorem mark2_any (b off n c1 : Nat) (ws zs : List Int) (t : Value) (w : World) (hw : Ints w b off ws) (hwl : ws.length = n) (ht : IB w t zs) (htb : ∀ b2 off2, ∀ m c, t = .slice (some ⟨b2, off2, none⟩) m c → b2 ≠ b) (hz : ∀ z ∈ zs, 0 ≤ z ∧ z < (n : Int))
    (hfz : ∀ k, k < n → w.frozen? ⟨b, off + k, none⟩ = false) :
    Calls Try.prog 70 #[.slice (some ⟨b, off, none⟩) n c1, t] w (fun e w' => e = .returned (.tuple #[]) ∧ Wr w w' b off n ∧ Ints w' b off (mrkL ws zs)) := by
  have HIB := Lib.hid ht
  have hzl := ht.1
  have HZ := Lib.hid hz
  have HFZ := Lib.hid hfz
  have HLN := Lib.hid fun k => (show (mrkL ws (zs.take k)).length = n by rw [mrkL_len]; exact hwl)
  have HTK := Lib.hid fun k (hk : k < zs.length) => mrkL_take (ws := ws) hk
  have HW0 := Lib.hid (show Ints w b off (mrkL ws (zs.take 0)) from hw)
  have htv : ∃ a c, t = .slice a zs.length c := by
    rcases ht.2 with ⟨a, c, rfl, rfl⟩ | ⟨b, off, cap, rfl, _⟩ <;> exact ⟨_, _, rfl⟩
  obtain ⟨ta, tc, rfl⟩ := htv
  have HTB := Lib.hid htb
  clear hw hwl ht htb hz hfz
  go_enter Try.func70, Try.ntmps70
  go_wp2
  go_loopw [8] (fun i wr => ∃ k : Nat, k ≤ zs.length ∧ i = .int .i64 k ∧ Wr w wr b off n ∧ Ints wr b off (mrkL ws (zs.take k))) (fun i _ => zs.length - (intOf i).toNat)
  case atStart => exact ⟨0, Nat.zero_le _, rfl, Wr.refl _ _ _ _, HW0.out⟩
  case round =>
    obtain ⟨k, hk, rfl, hR, hI⟩ := hrel
    by_cases hkl : k < zs.length
    · obtain ⟨b2, off2, hta, hblt, hc⟩ := HIB.out.get hkl
      subst hta
      have hne := HTB.out b2 off2 _ _ rfl
      have hc2 := (hR.cell (p := ⟨b2, off2 + k, none⟩) hne hblt).trans hc
      obtain ⟨z0, z1⟩ := HZ.out (zs[k]?.getD 0) (by rw [List.getElem?_eq_getElem hkl]; exact List.getElem_mem _)
      have HT := Lib.hid (HTK.out k hkl)
      obtain ⟨z, hze⟩ : ∃ z : Nat, zs[k]?.getD 0 = (z : Int) := ⟨(zs[k]?.getD 0).toNat, by omega⟩
      rw [hze] at hc2 z0 z1 HT
      have hzn : z < n := by omega
      have c1' := hI z (by rw [HLN.out]; exact hzn)
      have f1 := (hR.fz (off + z)).trans (HFZ.out z hzn)
      have hset := hI.setK (k := z) (by rw [HLN.out]; exact hzn) 1
      rw [show (mrkL ws (zs.take k)).set z 1 = mrkL ws (zs.take (k + 1)) by rw [HT.out]; rfl] at hset
      have hwr := hR.trans (Wr.set wr b off n hzn (.int .i64 1))
      generalize (mrkL ws (zs.take k))[z]?.getD 0 = old at c1'
      have HSET := Lib.hid hset
      have HWR := Lib.hid hwr
      have g0 : (0 : Int) ≤ (k : Int) := by omega
      have g1 : (k : Int) < (zs.length : Int) := by omega
      clear hc hze HT hset hwr hI hR
      go_wp2
      go_roundw
      case rel => exact ⟨k + 1, by omega, by go_num, HWR.out, HSET.out⟩
      case measure => simp [intOf]; omega
    · have e : k = zs.length := by omega
      rw [e, List.take_length] at hI
      have HI2 := Lib.hid hI
      have HR2 := Lib.hid hR
      clear hI hR
      go_wp2
      go_returns
      exact ⟨rfl, HR2.out, HI2.out⟩
set_option maxRecDepth 100000 in
theorem weight2_any (b off n c1 : Nat) (ws : List Int) (w : World) (hw : Ints w b off ws) (hwl : ws.length = n) (hn : n ≤ 1000) :
    Calls Try.prog 72 #[.slice (some ⟨b, off, none⟩) n c1] w (RS (.int .i64 (wtL ws : Int)) w) := by
  have HW := Lib.hid hw
  have HTK := Lib.hid fun k (hk : k < n) => wtL_take (ws := ws) (k := k) (by omega)
  have HWL := Lib.hid hwl
  have HLE := Lib.hid fun k => wtL_le (ws.take k)
  clear hw hwl
  go_enter Try.func72, Try.ntmps72
  go_wp2
  go_loopw [3, 8] (fun m i wr => ∃ k : Nat, k ≤ n ∧ i = .int .i64 k ∧ m = .int .i64 (wtL (ws.take k) : Int) ∧ wr = w) (fun _ i _ => n - (intOf i).toNat)
  case atStart => exact ⟨0, Nat.zero_le _, rfl, rfl, rfl⟩
  case round =>
    obtain ⟨k, hk, rfl, rfl, hwe⟩ := hrel
    subst hwe
    by_cases hkl : k < n
    · have c1' := HW.out k (by rw [HWL.out]; exact hkl)
      have hT := HTK.out k hkl
      have hle := HLE.out k
      rw [List.length_take] at hle
      obtain ⟨x, hx⟩ : ∃ x, x = ws[k]?.getD 0 := ⟨_, rfl⟩
      rw [← hx] at c1' hT
      obtain ⟨M, hM⟩ : ∃ M, M = wtL (ws.take k) := ⟨_, rfl⟩
      rw [← hM] at hT hle ⊢
      have HT := Lib.hid hT
      have wm : IntKind.i64.wrap ((M : Int) + 1) = (M : Int) + 1 := IntWalk.i64_in _ (by omega)
      have g0 : (0 : Int) ≤ (k : Int) := by omega
      have g1 : (k : Int) < (n : Int) := by omega
      clear hx hT hM
      by_cases h0 : x = 0
      · have HE := Lib.hid (show wtL (ws.take (k + 1)) = M by rw [HT.out, if_neg (by simpa using h0)]; rfl)
        have e0 : (x != 0) = false := by simp [h0]
        clear h0 HT
        go_wp2
        go_roundw
        case rel => exact ⟨k + 1, by omega, by go_num, by rw [HE.out], by first | rfl | trivial⟩
        case measure => simp [intOf]; omega
      · have HE := Lib.hid (show wtL (ws.take (k + 1)) = M + 1 by rw [HT.out, if_pos h0])
        have e0 : (x != 0) = true := by simpa using h0
        clear h0 HT
        go_wp2
        go_roundw
        case rel => exact ⟨k + 1, by omega, by go_num, by rw [HE.out]; first | rfl | (simp; done) | go_num, by first | rfl | trivial⟩
        case measure => simp [intOf]; omega
    · have e : k = n := by omega
      have HE := Lib.hid (show wtL (ws.take k) = wtL ws by rw [e, ← HWL.out, List.take_length])
      clear e
      go_wp2
      go_ret
      exact RS_of (int_eq (by rw [HE.out]))
set_option maxRecDepth 100000 in
theorem leadI2_any (b off n c1 : Nat) (ws : List Int) (w : World) (hw : Ints w b off ws) (hwl : ws.length = n) (hne : ∃ x ∈ ws, x ≠ 0) (hn : n ≤ 1000) :
    Calls Try.prog 124 #[.slice (some ⟨b, off, none⟩) n c1, .func (.func 125) #[] #[]] w (RS (.int .i64 (ldL ws : Int)) w) := by
  have HW := Lib.hid hw
  have HWL := Lib.hid hwl
  have HF := Lib.hid fun r W => leadF2_any r W
  have HST := Lib.hid fun k (hk : k < n) h0 h => ldL_stop (ws := ws) (k := k) (by omega) h0 h
  have HNE := Lib.hid (show ¬ ∀ j, j < n → ws[j]?.getD 0 = 0 from fun h => by
    obtain ⟨x, hx, hx0⟩ := hne
    obtain ⟨j, hj, rfl⟩ := List.getElem_of_mem hx
    have := h j (by omega)
    rw [List.getElem?_eq_getElem hj] at this
    exact hx0 this)
  clear hw hwl hne
  go_enter Try.func124, Try.ntmps124
  go_wp2
  go_loopw [8] (fun i wr => ∃ k : Nat, k ≤ n ∧ i = .int .i64 k ∧ wr = w ∧ Hid (∀ j, j < k → ws[j]?.getD 0 = 0)) (fun i _ => n - (intOf i).toNat)
  case atStart => exact ⟨0, Nat.zero_le _, rfl, rfl, Lib.hid fun j h => absurd h (Nat.not_lt_zero _)⟩
  case round =>
    obtain ⟨k, hk, rfl, hwe, h0⟩ := hrel
    subst hwe
    by_cases hkl : k < n
    · have c1' := HW.out k (by rw [HWL.out]; exact hkl)
      have hS := HST.out k hkl h0.out
      obtain ⟨x, hx⟩ : ∃ x, x = ws[k]?.getD 0 := ⟨_, rfl⟩
      rw [← hx] at c1' hS
      have HX := Lib.hid hx
      have HS := Lib.hid hS
      have HFx := Lib.hid (HF.out x)
      have g0 : (0 : Int) ≤ (k : Int) := by omega
      have g1 : (k : Int) < (n : Int) := by omega
      clear hx hS
      by_cases hx0 : x = 0
      · have hd : decide (x ≠ 0) = false := by simp [hx0]
        rw [hd] at HFx
        have HN := Lib.hid (show ∀ j, j < k + 1 → ws[j]?.getD 0 = 0 from fun j hj => by
          rcases Nat.lt_succ_iff_lt_or_eq.1 hj with hj | hj
          · exact h0.out j hj
          · rw [hj, ← HX.out, hx0])
        clear hx0 hd
        go_wp2_with fail
        refine (HFx.out _).mono ?_
        rintro e w1 ⟨rfl, rfl⟩
        go_wp2
        go_roundw
        case rel => exact ⟨k + 1, by omega, by go_num, by first | rfl | trivial, HN⟩
        case measure => simp [intOf]; omega
      · have hd : decide (x ≠ 0) = true := by simp [hx0]
        rw [hd] at HFx
        have HE := Lib.hid (HS.out hx0)
        clear hx0 hd HS
        go_wp2_with fail
        refine (HFx.out _).mono ?_
        rintro e w1 ⟨rfl, rfl⟩
        go_wp2
        go_ret
        exact RS_of (int_eq (by rw [HE.out]))
    · exfalso
      exact HNE.out fun j hj => h0.out j (by omega)
set_option maxRecDepth 100000 in
theorem lead2_any (b off n c1 : Nat) (ws : List Int) (w : World) (hw : Ints w b off ws) (hwl : ws.length = n) (hne : ∃ x ∈ ws, x ≠ 0) (hn : n ≤ 1000) :
    Calls Try.prog 107 #[.slice (some ⟨b, off, none⟩) n c1] w (RS (.int .i64 (ldL ws : Int)) w) := by
  have HI := Lib.hid (leadI2_any b off n c1 ws w hw hwl hne hn)
  clear hw hwl hne
  go_enter Try.func107, Try.ntmps107
  go_wp2_with fail
  refine HI.out.mono ?_
  rintro e w1 ⟨rfl, rfl⟩
  go_wp2
  go_ret
  exact RS_of rfl
end Go.Proofs.Ytahgialnhomefaa

namespace Go.Proofs.Ytahgialnhomefaa
open Go.RowKit Go.Maps
/-- The words of a basis, where the row b, off .. off + n may be written. -/
def RdB (w : World) (ta : Option Addr) (b off n : Nat) (B : List (List Int)) : Prop := ∀ i, i < B.length → ∃ H ho c bi oi, ta = some ⟨H, ho, none⟩ ∧ H < w.heap.size ∧ H ≠ b ∧ w.cell? ⟨H, ho + i, none⟩ = some (.slice (some ⟨bi, oi, none⟩) n c) ∧ Ints w bi oi (B[i]?.getD []) ∧ bi < w.heap.size ∧ (bi ≠ b ∨ off + n ≤ oi ∨ oi + n ≤ off)
theorem RdB.wr {w w' : World} {ta : Option Addr} {b off n : Nat} {B : List (List Int)} (h : RdB w ta b off n B) (hw : Wr w w' b off n) (hl : ∀ o ∈ B, o.length = n) : RdB w' ta b off n B := fun i hi => by
  obtain ⟨H, ho, c, bi, oi, h1, h2, h3, h4, h5, h6, h7⟩ := h i hi
  have hz := hw.gr.size
  refine ⟨H, ho, c, bi, oi, h1, by omega, h3, (hw.cell (p := ⟨H, ho + i, none⟩) h3 h2).trans h4, h5.wr hw h6 ?_, by omega, h7⟩
  have := hl (B[i]?.getD []) (by rw [List.getElem?_eq_getElem hi]; exact List.getElem_mem _)
  rw [this]
  exact h7
end Go.Proofs.Ytahgialnhomefaa

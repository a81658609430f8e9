
/- impl.productCode. The program's ProductOf, LoopProduct and TurnOf. The outline's l03Whole. The model's l09Points, l09Product, ProductOf. The model's common point of two blocks. The model's other points of a block. The model's order of lists of integers. The model's test whether two lists are the same, and its number of a block. A list of rows as a list of headers: what l03Put writes. -/
import Derived.Test.YtahgialnhomefaaJ12
import Derived.Deep.RegionHeld3
import Derived.BigQuiet
namespace Go.Proofs.Ytahgialnhomefaa
open Go.RowKit Go.Maps
theorem IB.formG {w : World} {s : Value} {zs : List Int} (h : IB w s zs) : ∃ a c, s = .slice a zs.length c := by
  rcases h.2 with ⟨a, c, rfl, rfl⟩ | ⟨b, off, cap, rfl, _⟩ <;> exact ⟨_, _, rfl⟩
def noP (N : Nat) (z : Int) : Bool := !(inP (N : Int) z)
set_option maxRecDepth 100000 in
theorem productNone_any (κ n : Nat) (hκ : κ ≤ 1) (hn : n ≤ 15) (B K : Nat) (a0 : Option Addr) (m c0 : Nat) (a : Int) (w : World) (h0 : w.cell? ⟨B, 0, none⟩ = some (.int .i64 (n : Int))) (h1 : w.cell? ⟨B, 1, none⟩ = some (.slice a0 m c0)) (h2 : w.cell? ⟨K, 0, none⟩ = some (.int .i64 (κ : Int))) :
    Calls Try.prog 89 #[.int .i64 a, .pointer (some ⟨B, 0, none⟩), .pointer (some ⟨K, 0, none⟩)] w (RV (.bool (noP (n + κ) a)) w) := by
  have HE := Lib.hid fun W => elementCount_any κ n hκ hn (.slice a0 m c0) W
  have HP := Lib.hid fun W => isPointI_any ((n + κ : Nat) : Int) a W
  unfold noP
  obtain ⟨N, hN⟩ : ∃ N, N = n + κ := ⟨_, rfl⟩
  rw [← hN] at HE HP ⊢
  obtain ⟨β, hβ⟩ : ∃ β, β = inP (N : Int) a := ⟨_, rfl⟩
  rw [← hβ] at HP ⊢
  clear hN hβ
  cases β
  all_goals
    go_enter Try.func89, Try.ntmps89
    go_wp2_with fail
    refine (HE.out _).mono ?_
    rintro e w1 ⟨rfl, hb1⟩
    go_wp2_with fail
    refine (HP.out _).mono ?_
    rintro e w2 ⟨rfl, rfl⟩
    go_wp2
    go_ret
    exact RV_of rfl hb1
theorem any_take {P : Int → Bool} {zs : List Int} {k : Nat} (hk : k < zs.length) (h : (zs.take k).any P = false) : (P (zs[k]?.getD 0) = true → zs.any P = true) ∧ (P (zs[k]?.getD 0) = false → (zs.take (k + 1)).any P = false) := by
  rw [List.getElem?_eq_getElem hk, Option.getD_some]
  refine ⟨fun hp => List.any_eq_true.2 ⟨_, List.getElem_mem hk, hp⟩, fun hp => ?_⟩
  rw [List.take_add_one, List.getElem?_eq_getElem hk, List.any_append, h]
  simp [hp]
set_option maxRecDepth 100000 in
theorem IndexNone_any (N B K : Nat) (t : Value) (zs : List Int) (w : World) (ht : IB w t zs)
    (hf : ∀ z W, Below w.heap.size w W → Calls Try.prog 89 #[.int .i64 z, .pointer (some ⟨B, 0, none⟩), .pointer (some ⟨K, 0, none⟩)] W (RV (.bool (noP N z)) W)) :
    Calls Try.prog 115 #[t, .func (.func 89) #[] #[.pointer (some ⟨B, 0, none⟩), .pointer (some ⟨K, 0, none⟩)]] w (fun e w' => ∃ r : Int, e = .returned (.int .i64 r) ∧ decide (0 ≤ r) = zs.any (noP N) ∧ Below w.heap.size w w') := by
  have HIB := Lib.hid ht
  have HF := Lib.hid hf
  have hl := ht.1
  obtain ⟨a, c, rfl⟩ := ht.formG
  clear ht hf
  go_enter Try.func115, Try.ntmps115
  go_wp2
  go_loopw [8] (fun i wr => ∃ k : Nat, k ≤ zs.length ∧ i = .int .i64 k ∧ Below w.heap.size w wr ∧ Hid ((zs.take k).any (noP N) = false)) (fun i _ => zs.length - (intOf i).toNat)
  case atStart => exact ⟨0, Nat.zero_le _, rfl, Below.refl _ _, Lib.hid (by simp)⟩
  case round =>
    obtain ⟨k, hk, rfl, hB, hA⟩ := hrel
    by_cases hkl : k < zs.length
    · obtain ⟨b, off, rfl, hblt, hc⟩ := (HIB.out.below hB (Nat.le_refl _)).get hkl
      have HT := Lib.hid (any_take hkl hA.out)
      obtain ⟨z, hz⟩ : ∃ z, z = zs[k]?.getD 0 := ⟨_, rfl⟩
      rw [← hz] at hc HT
      have HC := Lib.hid (HF.out z wr hB)
      obtain ⟨β, hβ⟩ : ∃ β, β = noP N z := ⟨_, rfl⟩
      rw [← hβ] at HC HT
      have g0 : (0 : Int) ≤ (k : Int) := by omega
      have g1 : (k : Int) < (zs.length : Int) := by omega
      clear hz hβ hA
      cases β with
      | false =>
        go_wp2_with fail
        refine HC.out.mono ?_
        rintro e w2 ⟨rfl, hb2⟩
        go_wp2
        go_roundw
        case rel => exact ⟨k + 1, by omega, by go_num, hB.trans (hb2.mono hB.size), Lib.hid (HT.out.2 (by first | rfl | trivial))⟩
        case measure => simp [intOf]; omega
      | true =>
        go_wp2_with fail
        refine HC.out.mono ?_
        rintro e w2 ⟨rfl, hb2⟩
        go_wp2
        go_ret
        exact ⟨_, rfl, by rw [HT.out.1 (by first | rfl | trivial)]; simp, hB.trans (hb2.mono hB.size)⟩
    · have e : k = zs.length := by omega
      subst e
      have HA := Lib.hid (show zs.any (noP N) = false by rw [← hA.out, List.take_length])
      clear hA
      go_wp2
      go_ret
      exact ⟨_, rfl, by rw [HA.out]; simp, hB⟩
set_option maxRecDepth 100000 in
theorem ContainsNone_any (N B K : Nat) (t : Value) (zs : List Int) (w : World) (ht : IB w t zs)
    (hf : ∀ z W, Below w.heap.size w W → Calls Try.prog 89 #[.int .i64 z, .pointer (some ⟨B, 0, none⟩), .pointer (some ⟨K, 0, none⟩)] W (RV (.bool (noP N z)) W)) :
    Calls Try.prog 91 #[t, .func (.func 89) #[] #[.pointer (some ⟨B, 0, none⟩), .pointer (some ⟨K, 0, none⟩)]] w (RV (.bool (zs.any (noP N))) w) := by
  have HI := Lib.hid (IndexNone_any N B K t zs w ht hf)
  obtain ⟨a, c, rfl⟩ := ht.formG
  clear ht hf
  go_enter Try.func91, Try.ntmps91
  go_wp2_with fail
  refine HI.out.mono ?_
  rintro e w1 ⟨r, rfl, hr, hb⟩
  go_wp2
  go_ret
  exact RV_of (bool_eq (by rw [← hr])) hb
/-- The code for a system and elements. -/
def pcode (κ : Nat) (v : Int) (bs : List Blk) (zs : List Int) : Int := if isSysImpl v bs then (if zs.any (fun z => !(inP (v + κ) z)) then 2 else if fullB v bs then 0 else 5) else 1
set_option maxRecDepth 100000 in
set_option maxHeartbeats 1000000 in
theorem productCode_any (κ : Nat) (hκ : κ = 0 ∨ κ = 1) (v : Int) (s : Value) (bs : List Blk) (t : Value) (zs : List Int) (w : World) (h : SB w s bs) (ht : IB w t zs) :
    Calls Try.prog 58 #[.agg #[.int .i64 v, s], .int .i64 (κ : Int), t] w (RV (.int .i64 (pcode κ v bs zs)) w) := by
  have hs := h.slice
  have HFC := Lib.hid fun B W (hb : Below w.heap.size w W) c0 c1 => fullCode_one B v s bs W (h.below hb (Nat.le_refl _)) c0 c1
  obtain ⟨a0, c0, rfl⟩ := hs
  have HTB := Lib.hid ht
  obtain ⟨a1, c1, rfl⟩ := ht.formG
  clear h ht
  cases hi : isSysImpl v bs with
  | false =>
    rw [show fullC v bs = 1 by simp [fullC, hi]] at HFC
    have HV := Lib.hid (show pcode κ v bs zs = 1 by simp [pcode, hi])
    rw [HV.out]
    clear hi HV HTB hκ
    go_enter Try.func58, Try.ntmps58
    go_wp2_with fail
    refine (HFC.out _ _ ((((Below.refl _ _).alloc (Nat.le_refl _) _).alloc (by simp) _).alloc (by simp; omega) _) (by simp [go_sem]) (by simp [go_sem])).mono ?_
    rintro e w1 ⟨rfl, hb1⟩
    have hB1 : Below w.heap.size w w1 := ((((Below.refl _ _).alloc (Nat.le_refl _) _).alloc (by simp) _).alloc (by simp; omega) _).trans (hb1.mono (by simp <;> omega))
    clear hb1
    go_wp2
    go_ret
    exact RV_of rfl hB1
  | true =>
    obtain ⟨hv3, hv15, _⟩ := sys_size hi
    obtain ⟨n, rfl⟩ : ∃ n : Nat, v = (n : Int) := ⟨v.toNat, by omega⟩
    have HNN := Lib.hid fun B K z W h0 h1 h2 => productNone_any κ n (by omega) (by omega) B K a0 bs.length c0 z W h0 h1 h2
    obtain ⟨μ, hμ⟩ : ∃ μ, μ = fullC (n : Int) bs := ⟨_, rfl⟩
    have hμc : μ = 0 ∨ μ = 5 := by
      rw [hμ]
      unfold fullC
      rw [hi]
      cases fullB (n : Int) bs <;> simp
    obtain ⟨β, hβ⟩ : ∃ β, β = zs.any (noP (n + κ)) := ⟨_, rfl⟩
    have HV := Lib.hid (show pcode κ (n : Int) bs zs = if β then 2 else μ by
      unfold pcode
      rw [hμ, if_pos hi]
      have : (fun z => !(inP ((n : Int) + (κ : Int)) z)) = noP (n + κ) := by funext z; unfold noP; rw [Int.natCast_add]
      rw [this, ← hβ]
      unfold fullC
      rw [if_pos hi])
    rw [HV.out]
    rw [← hμ] at HFC
    have HBE := Lib.hid hβ
    clear hi HV hv3 hv15 hμ hβ hκ
    rcases hμc with rfl | rfl
    all_goals cases β
    all_goals
      go_enter Try.func58, Try.ntmps58
      go_wp2_with fail
      refine (HFC.out _ _ ((((Below.refl _ _).alloc (Nat.le_refl _) _).alloc (by simp) _).alloc (by simp; omega) _) (by simp [go_sem]) (by simp [go_sem])).mono ?_
      rintro e w1 ⟨rfl, hb1⟩
      have hB1 : Below w.heap.size w w1 := ((((Below.refl _ _).alloc (Nat.le_refl _) _).alloc (by simp) _).alloc (by simp; omega) _).trans (hb1.mono (by simp <;> omega))
      have d0 : w1.cell? ⟨w.heap.size, 0, none⟩ = some (.int .i64 (n : Int)) := (hb1.cell (p := ⟨w.heap.size, 0, none⟩) (by simp <;> omega)).trans (by simp [go_sem])
      have d1 : w1.cell? ⟨w.heap.size, 1, none⟩ = some (.slice a0 bs.length c0) := (hb1.cell (p := ⟨w.heap.size, 1, none⟩) (by simp <;> omega)).trans (by simp [go_sem])
      have d2 : w1.cell? ⟨w.heap.size + 1, 0, none⟩ = some (.int .i64 (κ : Int)) := (hb1.cell (p := ⟨w.heap.size + 1, 0, none⟩) (by simp <;> omega)).trans (by simp [go_sem])
      have hz1 : w.heap.size + 1 < w1.heap.size := by have := hb1.size; simp at this; omega
      clear hb1
      have HD := Lib.hid (And.intro d0 (And.intro d1 d2))
      have HCF := Lib.hid (ContainsNone_any (n + κ) w.heap.size (w.heap.size + 1) _ zs w1 (HTB.out.below hB1 (Nat.le_refl _)) (fun z W hb => HNN.out _ _ z W ((hb.cell (p := ⟨w.heap.size, 0, none⟩) (by show w.heap.size < _; omega)).trans HD.out.1) ((hb.cell (p := ⟨w.heap.size, 1, none⟩) (by show w.heap.size < _; omega)).trans HD.out.2.1) ((hb.cell (p := ⟨w.heap.size + 1, 0, none⟩) (by show w.heap.size + 1 < _; omega)).trans HD.out.2.2)))
      rw [← HBE.out] at HCF
      clear d0 d1 d2 HFC
      go_wp2_with fail
      refine HCF.out.mono ?_
      rintro e w2 ⟨rfl, hb2⟩
      have hB2 := hB1.trans (hb2.mono hB1.size)
      clear hb2 HD
      go_wp2
      go_ret
      exact RV_of rfl hB2
end Go.Proofs.Ytahgialnhomefaa

namespace Go.Proofs.Ytahgialnhomefaa
open Go.RowKit Go.Maps
def prodF (κ : Nat) (v : Int) (bs : List Blk) (a b : Int) : Int × Int := if pcode κ v bs [a, b] = 0 then (prd κ v.toNat bs a.toNat b.toNat, 0) else (0, pcode κ v bs [a, b])
def prodV (κ : Nat) (v : Int) (bs : List Blk) (a b : Int) : Value := .tuple #[.int .i64 (prodF κ v bs a b).1, .int .i64 (prodF κ v bs a b).2]
theorem pcode_zero {κ : Nat} {v : Int} {bs : List Blk} {zs : List Int} (h : pcode κ v bs zs = 0) : isSysImpl v bs = true ∧ fullB v bs = true ∧ ∀ z ∈ zs, 0 ≤ z ∧ z < v + κ := by
  unfold pcode at h
  cases hi : isSysImpl v bs with
  | false => rw [hi] at h; simp at h
  | true =>
    rw [if_pos hi] at h
    cases ha : zs.any (fun z => !(inP (v + κ) z)) with
    | true => rw [ha] at h; simp at h
    | false =>
      rw [ha] at h
      cases hf : fullB v bs with
      | false => rw [hf] at h; simp at h
      | true =>
        refine ⟨rfl, rfl, fun z hz => ?_⟩
        have := List.any_eq_false.1 ha z hz
        simpa [inP] using this
theorem pcode_or (κ : Nat) (v : Int) (bs : List Blk) (zs : List Int) : pcode κ v bs zs = 0 ∨ pcode κ v bs zs = 1 ∨ pcode κ v bs zs = 2 ∨ pcode κ v bs zs = 5 := by
  unfold pcode
  split
  · split
    · simp
    · split <;> simp
  · simp
theorem lit_ib2 (W : World) (a b : Int) : IB (W.alloc (.cells #[.int .i64 a, .int .i64 b] 2)) (.slice (some ⟨W.heap.size, 0, none⟩) 2 2) [a, b] :=
  ⟨by simp, .inr ⟨W.heap.size, 0, 2, rfl, by simp, ints2 (by simp [go_sem]) (by simp [go_sem])⟩⟩
theorem lit_ib1 (W : World) (a : Int) : IB (W.alloc (.cells #[.int .i64 a] 2)) (.slice (some ⟨W.heap.size, 0, none⟩) 1 1) [a] :=
  ⟨by simp, .inr ⟨W.heap.size, 0, 1, rfl, by simp, fun k hk => by
    have : k = 0 := by simp at hk; omega
    subst this
    simp [go_sem]⟩⟩
set_option maxRecDepth 100000 in
set_option maxHeartbeats 1000000 in
theorem productOf_any (κ : Nat) (hκ : κ = 0 ∨ κ = 1) (v : Int) (s : Value) (bs : List Blk) (a b : Int) (w : World) (h : SB w s bs) :
    Calls Try.prog 48 #[.agg #[.int .i64 v, s], .int .i64 (κ : Int), .int .i64 a, .int .i64 b] w (RV (prodV κ v bs a b) w) := by
  have hs := h.slice
  have HPC := Lib.hid fun t W (hb : Below w.heap.size w W) ht => productCode_any κ hκ v s bs t [a, b] W (h.below hb (Nat.le_refl _)) ht
  by_cases hc : pcode κ v bs [a, b] = 0
  · obtain ⟨hi, hf, hz⟩ := pcode_zero hc
    obtain ⟨hv3, hv15, _⟩ := sys_size hi
    obtain ⟨n, rfl⟩ : ∃ n : Nat, v = (n : Int) := ⟨v.toNat, by omega⟩
    have ha := hz a (by simp)
    have hb := hz b (by simp)
    obtain ⟨p, rfl⟩ : ∃ p : Nat, a = (p : Int) := ⟨a.toNat, by omega⟩
    obtain ⟨q, rfl⟩ : ∃ q : Nat, b = (q : Int) := ⟨b.toNat, by omega⟩
    have HV := Lib.hid (show prodV κ (n : Int) bs (p : Int) (q : Int) = .tuple #[.int .i64 (prd κ n bs p q), .int .i64 0] by
      unfold prodV prodF
      rw [if_pos hc]
      rfl)
    rw [HV.out]
    rw [hc] at HPC
    have HPT := Lib.hid fun W (hb : Below w.heap.size w W) => productTable_any κ hκ n s bs W (h.below hb (Nat.le_refl _)) hi
    have hp1 : p < n + κ := by omega
    have hq1 : q < n + κ := by omega
    have g0 : (0 : Int) ≤ (p : Int) := by omega
    have g1 : (p : Int) < ((n + κ : Nat) : Int) := by omega
    have g2 : (0 : Int) ≤ (q : Int) := by omega
    have g3 : (q : Int) < ((n + κ : Nat) : Int) := by omega
    clear h hc hi hf hz ha hb hv3 hv15 HV
    obtain ⟨a0, c0, rfl⟩ := hs
    obtain ⟨N, hN⟩ : ∃ N, N = n + κ := ⟨_, rfl⟩
    rw [← hN] at HPT g1 g3 hp1 hq1
    clear hN hκ
    have HPX := Lib.hid (HPC.out _ ((w.alloc (.cells #[.int .i64 (n : Int), .slice a0 bs.length c0] 30)).alloc (.cells #[.int .i64 (p : Int), .int .i64 (q : Int)] 2)) (((Below.refl _ _).alloc (Nat.le_refl _) _).alloc (by simp) _) (lit_ib2 (w.alloc (.cells #[.int .i64 (n : Int), .slice a0 bs.length c0] 30)) p q))
    rw [show ∀ o, (w.alloc o).heap.size = w.heap.size + 1 from fun o => by simp] at HPX
    clear HPC
    go_enter Try.func48, Try.ntmps48
    go_wp2_with fail
    refine HPX.out.mono ?_
    rintro e w1 ⟨rfl, hb1⟩
    have hB1 : Below w.heap.size w w1 := (((Below.refl _ _).alloc (Nat.le_refl _) _).alloc (by simp) _).trans (hb1.mono (by simp <;> omega))
    have d0 : w1.cell? ⟨w.heap.size, 0, none⟩ = some (.int .i64 (n : Int)) := (hb1.cell (p := ⟨w.heap.size, 0, none⟩) (by simp <;> omega)).trans (by simp [go_sem])
    have d1 : w1.cell? ⟨w.heap.size, 1, none⟩ = some (.slice a0 bs.length c0) := (hb1.cell (p := ⟨w.heap.size, 1, none⟩) (by simp <;> omega)).trans (by simp [go_sem])
    clear hb1
    go_wp2_with fail
    refine (HPT.out _ hB1).mono ?_
    rintro e w2 ⟨G, gs, caps, rfl, _, hb2, hS⟩
    have hB2 := hB1.trans (hb2.mono hB1.size)
    obtain ⟨e1, e2⟩ := hS.get hp1 hq1
    clear hb2 hS hB1
    go_wp2
    go_ret2
    exact RV_of rfl hB2
  · have HV := Lib.hid (show prodV κ v bs a b = .tuple #[.int .i64 0, .int .i64 (pcode κ v bs [a, b])] by
      unfold prodV prodF
      rw [if_neg hc])
    rw [HV.out]
    obtain ⟨μ, hμ⟩ : ∃ μ, μ = pcode κ v bs [a, b] := ⟨_, rfl⟩
    rw [← hμ] at hc HPC ⊢
    have q1 : (μ != 0) = true := by simpa using hc
    clear h hμ hc HV hκ
    obtain ⟨a0, c0, rfl⟩ := hs
    have HPX := Lib.hid (HPC.out _ ((w.alloc (.cells #[.int .i64 v, .slice a0 bs.length c0] 30)).alloc (.cells #[.int .i64 a, .int .i64 b] 2)) (((Below.refl _ _).alloc (Nat.le_refl _) _).alloc (by simp) _) (lit_ib2 (w.alloc (.cells #[.int .i64 v, .slice a0 bs.length c0] 30)) a b))
    rw [show ∀ o, (w.alloc o).heap.size = w.heap.size + 1 from fun o => by simp] at HPX
    clear HPC
    go_enter Try.func48, Try.ntmps48
    go_wp2_with fail
    refine HPX.out.mono ?_
    rintro e w1 ⟨rfl, hb1⟩
    have hB1 : Below w.heap.size w w1 := (((Below.refl _ _).alloc (Nat.le_refl _) _).alloc (by simp) _).trans (hb1.mono (by simp <;> omega))
    clear hb1
    go_wp2
    go_ret2
    exact RV_of rfl hB1
set_option maxRecDepth 100000 in
theorem ProductOf_any (v : Int) (s : Value) (bs : List Blk) (a b : Int) (w : World) (h : SB w s bs) :
    Calls Try.prog 17 #[.agg #[.int .i64 v, s], .int .i64 a, .int .i64 b] w (RV (prodV 0 v bs a b) w) := by
  have hs := h.slice
  have HP := Lib.hid (productOf_any 0 (.inl rfl) v s bs a b _ (h.below ((Below.refl _ _).alloc (Nat.le_refl _) (.cells #[.int .i64 v, s] 30)) (Nat.le_refl _)))
  clear h
  obtain ⟨a0, c0, rfl⟩ := hs
  have HU := Lib.hid (show prodV 0 v bs a b = .tuple #[.int .i64 (prodF 0 v bs a b).1, .int .i64 (prodF 0 v bs a b).2] from rfl)
  obtain ⟨η, hη⟩ : ∃ η, η = (prodF 0 v bs a b).1 := ⟨_, rfl⟩
  obtain ⟨μ, hμ⟩ : ∃ μ, μ = (prodF 0 v bs a b).2 := ⟨_, rfl⟩
  rw [← hη, ← hμ] at HU
  rw [HU.out] at HP ⊢
  clear hη hμ HU
  go_enter Try.func17, Try.ntmps17
  go_wp2_with fail
  refine HP.out.mono ?_
  rintro e w1 ⟨rfl, hb1⟩
  have hb2 := below_new hb1
  clear hb1
  go_wp2
  go_ret2
  exact RV_of rfl hb2
set_option maxRecDepth 100000 in
theorem LoopProduct_any (v : Int) (s : Value) (bs : List Blk) (a b : Int) (w : World) (h : SB w s bs) :
    Calls Try.prog 20 #[.agg #[.int .i64 v, s], .int .i64 a, .int .i64 b] w (RV (prodV 1 v bs a b) w) := by
  have hs := h.slice
  have HP := Lib.hid (productOf_any 1 (.inr rfl) v s bs a b _ (h.below ((Below.refl _ _).alloc (Nat.le_refl _) (.cells #[.int .i64 v, s] 30)) (Nat.le_refl _)))
  clear h
  obtain ⟨a0, c0, rfl⟩ := hs
  have HU := Lib.hid (show prodV 1 v bs a b = .tuple #[.int .i64 (prodF 1 v bs a b).1, .int .i64 (prodF 1 v bs a b).2] from rfl)
  obtain ⟨η, hη⟩ : ∃ η, η = (prodF 1 v bs a b).1 := ⟨_, rfl⟩
  obtain ⟨μ, hμ⟩ : ∃ μ, μ = (prodF 1 v bs a b).2 := ⟨_, rfl⟩
  rw [← hη, ← hμ] at HU
  rw [HU.out] at HP ⊢
  clear hη hμ HU
  go_enter Try.func20, Try.ntmps20
  go_wp2_with fail
  refine HP.out.mono ?_
  rintro e w1 ⟨rfl, hb1⟩
  have hb2 := below_new hb1
  clear hb1
  go_wp2
  go_ret2
  exact RV_of rfl hb2
end Go.Proofs.Ytahgialnhomefaa

namespace Go.Proofs.Ytahgialnhomefaa
open Go.RowKit Go.Maps
set_option maxRecDepth 100000 in
theorem l03Whole_any (v : Int) (s : Value) (bs : List Blk) (w : World) (h : SB w s bs) : Calls Try.prog 51 #[.agg #[.int .i64 v, s]] w (RV (.int .i64 (fullC v bs)) w) := by
  have HC := Lib.hid fun W (hb : Below w.heap.size w W) => l01Is_any v s bs W (h.below hb (Nat.le_refl _))
  have hs := h.slice
  have hlen := h.2.1
  have hb0 := (Below.refl w.heap.size w).alloc (Nat.le_refl _) (.cells #[.int .i64 v, s] 30)
  clear h
  obtain ⟨a0, c0, rfl⟩ := hs
  cases hi : isSysImpl v bs with
  | false =>
    have hv : fullC v bs = 1 := by simp [fullC, hi]
    rw [hv]
    rw [hi] at HC
    clear hv hi
    go_enter Try.func51, Try.ntmps51
    go_wp2_with fail
    refine (HC.out _ hb0).mono ?_
    rintro e w1 ⟨rfl, hb1⟩
    have hbw := below_new hb1
    clear hb1
    go_wp2
    go_ret
    exact RV_of rfl hbw
  | true =>
    obtain ⟨v3, v15, _⟩ := sys_size hi
    have HFL := Lib.hid fun W => l01Full_any v (.slice a0 bs.length c0) bs W ⟨_, _, rfl⟩ v3 v15 hlen
    rw [hi] at HC
    cases hf : fullB v bs with
    | false =>
      have hv : fullC v bs = 5 := by simp [fullC, hi, hf]
      rw [hv]
      rw [hf] at HFL
      clear hv hi hf v3 v15
      go_enter Try.func51, Try.ntmps51
      go_wp2_with fail
      refine (HC.out _ hb0).mono ?_
      rintro e w1 ⟨rfl, hb1⟩
      have q0 := cell_new hb1 0 rfl
      have q1 := cell_new hb1 1 rfl
      have hbw := below_new hb1
      clear hb1
      go_wp2_with fail
      refine (HFL.out _).mono ?_
      rintro e w2 ⟨rfl, hb2⟩
      have hbw2 := hbw.trans (hb2.mono hbw.size)
      clear hb2
      go_wp2
      go_ret
      exact RV_of rfl hbw2
    | true =>
      have hv : fullC v bs = 0 := by simp [fullC, hi, hf]
      rw [hv]
      rw [hf] at HFL
      clear hv hi hf v3 v15
      go_enter Try.func51, Try.ntmps51
      go_wp2_with fail
      refine (HC.out _ hb0).mono ?_
      rintro e w1 ⟨rfl, hb1⟩
      have q0 := cell_new hb1 0 rfl
      have q1 := cell_new hb1 1 rfl
      have hbw := below_new hb1
      clear hb1
      go_wp2_with fail
      refine (HFL.out _).mono ?_
      rintro e w2 ⟨rfl, hb2⟩
      have hbw2 := hbw.trans (hb2.mono hbw.size)
      clear hb2
      go_wp2
      go_ret
      exact RV_of rfl hbw2
end Go.Proofs.Ytahgialnhomefaa

namespace Go.Proofs.Ytahgialnhomefaa
open Go.RowKit Go.Maps
def ptsN (N v : Int) (bs : List Blk) (zs : List Int) : Int := if isSysImpl v bs then (if zs.any (fun z => !(inP N z)) then 2 else if fullB v bs then 0 else 5) else 1
theorem pcode_ptsN (κ : Nat) (v : Int) (bs : List Blk) (zs : List Int) : pcode κ v bs zs = ptsN (v + κ) v bs zs := rfl
set_option maxRecDepth 100000 in
set_option maxHeartbeats 1000000 in
theorem l09Points_any (N v : Int) (s : Value) (bs : List Blk) (t : Value) (zs : List Int) (w : World) (h : SB w s bs) (ht : IB w t zs) (hN : isSysImpl v bs = true → 0 ≤ N ∧ N ≤ 16) :
    Calls Try.prog 45 #[.agg #[.int .i64 v, s], .int .i64 N, t] w (RV (.int .i64 (ptsN N v bs zs)) w) := by
  have hs := h.slice
  have hlen := h.2.1
  have HTB := Lib.hid ht
  have hzl := ht.1
  have hbA : Below w.heap.size w (w.alloc (.cells #[.int .i64 v, s] 30)) := (Below.refl _ _).alloc (Nat.le_refl _) _
  have hc := l01Is_any v s bs (w.alloc (.cells #[.int .i64 v, s] 30)) (h.below hbA (Nat.le_refl _))
  obtain ⟨a0, c0, rfl⟩ := hs
  obtain ⟨a1, c1, rfl⟩ := ht.formG
  clear h ht
  cases hi : isSysImpl v bs with
  | false =>
    have HV := Lib.hid (show ptsN N v bs zs = 1 by simp [ptsN, hi])
    rw [HV.out]
    rw [hi] at hc
    have HC := Lib.hid hc
    clear hi HV HTB hc hN
    go_enter Try.func45, Try.ntmps45
    go_wp2_with fail
    refine HC.out.mono ?_
    rintro e w1 ⟨rfl, hb1⟩
    have hb2 := below_new hb1
    clear hb1 hbA
    go_wp2
    go_ret
    exact RV_of rfl hb2
  | true =>
    obtain ⟨hv3, hv15, _⟩ := sys_size hi
    obtain ⟨hN0, hN16⟩ := hN hi
    rw [hi] at hc
    have HC := Lib.hid hc
    have HFU := Lib.hid fun W => l01Full_any v (.slice a0 bs.length c0) bs W ⟨_, _, rfl⟩ hv3 hv15 hlen
    have HIN := Lib.hid fun z W => l01In_any z 0 (N - 1) W
    have hq : ∀ z : Int, (decide (0 ≤ z) && decide (z ≤ N - 1)) = inP N z := fun z => by rw [Bool.eq_iff_iff]; simp [inP]; omega
    simp only [hq] at HIN
    have HV := Lib.hid (show ptsN N v bs zs = if zs.any (fun z => !(inP N z)) then 2 else if fullB v bs then 0 else 5 by simp [ptsN, hi])
    have hwn : IntKind.i64.wrap (N - 1) = N - 1 := IntWalk.i64_in _ (by omega)
    clear hi hN hc hq hv3 hv15
    go_enter Try.func45, Try.ntmps45
    go_wp2_with fail
    refine HC.out.mono ?_
    rintro e w1 ⟨rfl, hb1⟩
    have hb2 := below_new hb1
    have q0 := cell_new hb1 0 rfl
    have q1 := cell_new hb1 1 rfl
    have HB1 := Lib.hid hb2
    have hl1 := block_lt_of_cell q0
    clear hb1 hbA hb2
    go_wp2
    go_loopw [7] (fun i wr => ∃ k : Nat, k ≤ zs.length ∧ i = .int .i64 k ∧ wr = w1 ∧ Hid ((zs.take k).any (fun z => !(inP N z)) = false)) (fun i _ => zs.length - (intOf i).toNat)
    case atStart => exact ⟨0, Nat.zero_le _, rfl, rfl, Lib.hid (by simp)⟩
    case round =>
      obtain ⟨k, hk, rfl, rfl, hA⟩ := hrel
      by_cases hkl : k < zs.length
      · obtain ⟨b, off, rfl, hblt, hcell⟩ := (HTB.out.below HB1.out (Nat.le_refl _)).get hkl
        have HT := Lib.hid (any_take (P := fun z => !(inP N z)) hkl hA.out)
        obtain ⟨z, hz⟩ : ∃ z, z = zs[k]?.getD 0 := ⟨_, rfl⟩
        rw [← hz] at hcell HT
        have HI := Lib.hid (HIN.out z)
        obtain ⟨β, hβ⟩ : ∃ β, β = inP N z := ⟨_, rfl⟩
        rw [← hβ] at HI HT
        have g0 : (0 : Int) ≤ (k : Int) := by omega
        have g1 : (k : Int) < (zs.length : Int) := by omega
        clear hz hβ hA
        cases β with
        | false =>
          have HE := Lib.hid (show ptsN N v bs zs = 2 by rw [HV.out, HT.out.1 (by simp)]; rfl)
          rw [HE.out]
          clear HT HE
          go_wp2_with fail
          refine (HI.out _).mono ?_
          rintro e w2 ⟨rfl, rfl⟩
          go_wp2
          go_ret
          exact RV_of rfl HB1.out
        | true =>
          have HE := Lib.hid (HT.out.2 (by simp))
          clear HT
          go_wp2_with fail
          refine (HI.out _).mono ?_
          rintro e w2 ⟨rfl, rfl⟩
          go_wp2
          go_roundw
          case rel => exact ⟨k + 1, by omega, by go_num, by first | rfl | trivial, HE⟩
          case measure => simp [intOf]; omega
      · have e : k = zs.length := by omega
        subst e
        rw [List.take_length] at hA
        have HE := Lib.hid (show ptsN N v bs zs = if fullB v bs then 0 else 5 by rw [HV.out, hA.out]; rfl)
        have HF := Lib.hid (HFU.out wr)
        obtain ⟨β, hβ⟩ : ∃ β, β = fullB v bs := ⟨_, rfl⟩
        rw [← hβ] at HF HE
        clear hA HV hβ
        cases β
        all_goals
          go_wp2_with fail
          refine HF.out.mono ?_
          rintro e w2 ⟨rfl, hb2⟩
          go_wp2
          go_ret
          exact RV_of (int_eq (by rw [HE.out]; rfl)) (HB1.out.trans (hb2.mono HB1.out.size))
/-- The two tables agree where the system is full. -/
theorem prd0_third {n : Nat} {bs : List Blk} (h : isSysImpl (n : Int) bs = true) (hf : fullB (n : Int) bs = true) {a b : Nat} (ha : a < n) (hb : b < n) : prd 0 n bs a b = if a = b then (a : Int) else third1 bs (a : Int) (b : Int) := by
  unfold prd
  rw [if_pos rfl]
  by_cases hab : a = b
  · rw [if_pos hab, if_pos hab]
  · rw [if_neg hab, if_neg hab]
    exact tab_third h hf (by omega) (by omega) (by omega)
theorem prd0_range {n : Nat} {bs : List Blk} (h : isSysImpl (n : Int) bs = true) (hf : fullB (n : Int) bs = true) {a b : Nat} (ha : a < n) (hb : b < n) : 0 ≤ prd 0 n bs a b ∧ prd 0 n bs a b < (n : Int) := by
  rw [prd0_third h hf ha hb]
  by_cases hab : a = b
  · rw [if_pos hab]; omega
  · rw [if_neg hab]
    exact (tri_third h hf (a := (a : Int)) (b := (b : Int)) (by omega) (by omega) (by omega)).range h
set_option maxRecDepth 100000 in
theorem l09Product_any (n : Nat) (s : Value) (bs : List Blk) (a b : Nat) (w : World) (h : SB w s bs) (hi : isSysImpl (n : Int) bs = true) (hf : fullB (n : Int) bs = true) (ha : a < n) (hb : b < n) :
    Calls Try.prog 46 #[.agg #[.int .i64 (n : Int), s], .int .i64 (a : Int), .int .i64 (b : Int)] w (RV (.int .i64 (prd 0 n bs a b)) w) := by
  have hs := h.slice
  have hv15 := (sys_size hi).2.1
  have hbA : Below w.heap.size w (w.alloc (.cells #[.int .i64 (n : Int), s] 30)) := (Below.refl _ _).alloc (Nat.le_refl _) _
  have HT := Lib.hid (l01Third_any (n : Int) s bs a b _ (h.below hbA (Nat.le_refl _)) (sys_good hi) (by omega) (by omega) (by omega) (by omega) (by omega))
  rw [prd0_third hi hf ha hb]
  clear h hi hf ha hb hv15
  obtain ⟨a0, c0, rfl⟩ := hs
  by_cases hab : a = b
  · subst hab
    have e : ((a : Int) == (a : Int)) = true := by simp
    rw [if_pos rfl]
    clear HT
    go_enter Try.func46, Try.ntmps46
    go_wp2
    go_ret
    exact RV_of rfl hbA
  · have e : ((a : Int) == (b : Int)) = false := by simp; omega
    rw [if_neg hab]
    clear hab
    go_enter Try.func46, Try.ntmps46
    go_wp2_with fail
    refine HT.out.mono ?_
    rintro e w1 ⟨rfl, hb1⟩
    have hb2 := below_new hb1
    go_wp2
    go_ret
    exact RV_of rfl hb2
end Go.Proofs.Ytahgialnhomefaa

namespace Go.Proofs.Ytahgialnhomefaa
open Go.RowKit Go.Maps
/-- TwoX blocks that came in, in their boxes. -/
structure TwoX (w' : World) (b : Nat) (x y : Blk) : Prop where
  x0 : w'.cell? ⟨b, 0, none⟩ = some (.int .i64 x.a)
  x1 : w'.cell? ⟨b, 1, none⟩ = some (.int .i64 x.b)
  x2 : w'.cell? ⟨b, 2, none⟩ = some (.int .i64 x.c)
  y0 : w'.cell? ⟨b + 1, 0, none⟩ = some (.int .i64 y.a)
  y1 : w'.cell? ⟨b + 1, 1, none⟩ = some (.int .i64 y.b)
  y2 : w'.cell? ⟨b + 1, 2, none⟩ = some (.int .i64 y.c)
theorem TwoX.below {w w' : World} {b B : Nat} {x y : Blk} (h : TwoX w b x y) (hb : Below B w w') (hB : b + 1 < B) : TwoX w' b x y :=
  ⟨(hb.cell (p := ⟨b, 0, none⟩) (by show b < B; omega)).trans h.x0, (hb.cell (p := ⟨b, 1, none⟩) (by show b < B; omega)).trans h.x1, (hb.cell (p := ⟨b, 2, none⟩) (by show b < B; omega)).trans h.x2, (hb.cell (p := ⟨b + 1, 0, none⟩) hB).trans h.y0, (hb.cell (p := ⟨b + 1, 1, none⟩) hB).trans h.y1, (hb.cell (p := ⟨b + 1, 2, none⟩) hB).trans h.y2⟩
def meetK (x y : Blk) : Nat → Bool
  | 0 => true
  | 1 => !hasB y x.a
  | 2 => !hasB y x.a && !hasB y x.b
  | _ => !hasB y x.a && !hasB y x.b && !hasB y x.c
def comI (x y : Blk) : Int := (comP x y).getD (-1)
end Go.Proofs.Ytahgialnhomefaa

namespace Go.Proofs.Ytahgialnhomefaa
open Go.RowKit Go.Maps
def othersP (x : Blk) (a : Int) : Int × Int := if a = x.a then (x.b, x.c) else if a = x.b then (x.a, x.c) else (x.a, x.b)
end Go.Proofs.Ytahgialnhomefaa

namespace Go.Proofs.Ytahgialnhomefaa
open Go.RowKit Go.Maps
/-- Lexicographic, a shorter list first. -/
def lexL : List Int → List Int → Bool
  | [], [] => false
  | [], _ :: _ => true
  | _ :: _, [] => false
  | a :: r, b :: t => if a = b then lexL r t else decide (a < b)
theorem lexL_end (ps qs : List Int) (h : ps = [] ∨ qs = []) : lexL ps qs = decide (ps.length < qs.length) := by
  cases ps <;> cases qs <;> simp_all [lexL]
/-- Returns a value and draws alone. -/
def RD (v : Value) (w : World) (e : Ending) (w' : World) : Prop := e = .returned v ∧ ∃ n, w' = w.drewN n
theorem drewN_add (w : World) (a b : Nat) : (w.drewN a).drewN b = w.drewN (a + b) := by simp [World.drewN, Nat.add_assoc]
theorem RD_of {v u : Value} {w w' : World} {n : Nat} (h : u = v) (hw : w' = w.drewN n) : RD v w (.returned u) w' := ⟨by rw [h], n, hw⟩
theorem RD.rv {P : Program} {f : FuncId} {args : Array Value} {w : World} {v : Value} (h : Calls P f args w (RD v w)) : Calls P f args w (RV v w) :=
  h.mono fun _ _ ⟨he, n, hn⟩ => ⟨he, by rw [hn]; exact below_drewN (Below.refl _ _) _⟩
theorem RD.quiet2 {P : Program} {f : FuncId} {args : Array Value} {w : World} {a n : Nat} {v : Value} (h : Calls P f args (w.drewN (a + n)) (RD v (w.drewN (a + n)))) :
    Calls P f args (w.drewN (a + n)) fun e w'' => e = .returned v ∧ ∃ m, w'' = w.drewN (a + m) :=
  h.mono fun _ _ ⟨he, m, hm⟩ => ⟨he, n + m, by rw [hm, drewN_add, Nat.add_assoc]⟩
theorem RD.quiet {P : Program} {f : FuncId} {args : Array Value} {w : World} {n : Nat} {v : Value} (h : Calls P f args (w.drewN n) (RD v (w.drewN n))) :
    Calls P f args (w.drewN n) fun e w'' => e = .returned v ∧ ∃ m, w'' = w.drewN m :=
  h.mono fun _ _ ⟨he, m, hm⟩ => ⟨he, n + m, by rw [hm, drewN_add]⟩
end Go.Proofs.Ytahgialnhomefaa

namespace Go.Proofs.Ytahgialnhomefaa
open Go.RowKit Go.Maps
theorem lexL_irr : ∀ ps : List Int, lexL ps ps = false
  | [] => rfl
  | a :: r => by rw [lexL, if_pos rfl]; exact lexL_irr r
theorem lexL_eq : ∀ ps qs : List Int, lexL ps qs = false → lexL qs ps = false → ps = qs
  | [], [], _, _ => rfl
  | [], _ :: _, h, _ => by simp [lexL] at h
  | _ :: _, [], _, h => by simp [lexL] at h
  | a :: r, b :: t, h, k => by
    rw [lexL] at h k
    by_cases e : a = b
    · subst e
      rw [if_pos rfl] at h k
      rw [lexL_eq r t h k]
    · rw [if_neg e] at h
      rw [if_neg (fun q => e q.symm)] at k
      simp at h k
      omega
theorem lexL_trans : ∀ {ps qs rs : List Int}, lexL ps qs = true → lexL qs rs = true → lexL ps rs = true
  | [], [], _, h, _ => by simp [lexL] at h
  | [], _ :: _, [], _, h => by simp [lexL] at h
  | [], _ :: _, _ :: _, _, _ => by simp [lexL]
  | _ :: _, [], _, h, _ => by simp [lexL] at h
  | _ :: _, _ :: _, [], _, h => by simp [lexL] at h
  | a :: r, b :: t, c :: u, h, k => by
    rw [lexL] at h k ⊢
    by_cases e : a = b
    · subst e
      rw [if_pos rfl] at h
      by_cases e2 : a = c
      · subst e2
        rw [if_pos rfl] at k ⊢
        exact lexL_trans h k
      · rw [if_neg e2] at k ⊢
        exact k
    · rw [if_neg e] at h
      by_cases e2 : b = c
      · subst e2
        rw [if_neg e]
        exact h
      · rw [if_neg e2] at k
        simp at h k
        rw [if_neg (by omega)]
        simp
        omega
end Go.Proofs.Ytahgialnhomefaa

namespace Go.Proofs.Ytahgialnhomefaa
open Go.RowKit Go.Maps
/-- Where the outline puts a row: behind the rows that it is not before, from the end on. -/
def putAt (L : List (List Int)) (r : List Int) : Nat → Nat
  | 0 => 0
  | k + 1 => if lexL r (L[k]?.getD []) then putAt L r k else k + 1
theorem putAt_le (L : List (List Int)) (r : List Int) : ∀ k, putAt L r k ≤ k
  | 0 => Nat.le_refl _
  | k + 1 => by
    have := putAt_le L r k
    unfold putAt
    split <;> omega
def putHas (L : List (List Int)) (r : List Int) : Bool := decide (0 < putAt L r L.length) && decide (L[putAt L r L.length - 1]?.getD [] = r)
/-- The outline's list with one more row. -/
def putL (L : List (List Int)) (r : List Int) : List (List Int) := if putHas L r then L else L.take (putAt L r L.length) ++ r :: L.drop (putAt L r L.length)
def insV {α : Type} (s : List α) (j : Nat) (y : α) : List α := s.take j ++ y :: s.drop j
theorem insV_len {α : Type} (s : List α) (j : Nat) (y : α) : (insV s j y).length = s.length + 1 := by
  unfold insV
  simp
  omega
theorem insV_end {α : Type} (s : List α) (y : α) : insV s s.length y = s ++ [y] := by simp [insV]
theorem insV_set {α : Type} (s : List α) (j : Nat) (y x : α) (h : j ≤ s.length) : (insV s j y).set j x = insV s j x := by
  have e : (s.take j).length = j := by rw [List.length_take]; omega
  unfold insV
  rw [List.set_append_right _ _ (by omega), e, Nat.sub_self, List.set_cons_zero]
theorem insV_get {α : Type} (s : List α) (j : Nat) (y : α) (h : j < s.length) : (insV s (j + 1) y)[j]? = s[j]? := by
  unfold insV
  rw [List.getElem?_append_left (by rw [List.length_take]; omega), List.getElem?_take_of_lt (by omega)]
theorem insV_shift {α : Type} (s : List α) (j : Nat) (y z : α) (h : j < s.length) (hz : s[j]? = some z) : (insV s (j + 1) y).set (j + 1) z = insV s j z := by
  rw [insV_set s (j + 1) y _ (by omega)]
  rw [List.getElem?_eq_getElem h] at hz
  injection hz with hz
  unfold insV
  rw [List.take_add_one, List.getElem?_eq_getElem h, List.append_assoc]
  conv => rhs; rw [List.drop_eq_getElem_cons h]
  simp [hz]
/-- A list of the call's own of row headers. -/
def RowsV (w : World) (base : Nat) (u : Value) (hs : List Value) : Prop := w.ownsRow base 38 1 u hs.length hs
theorem RowsV.kept {w w' : World} {base : Nat} {u : Value} {hs : List Value} (h : RowsV w base u hs) {row : Option Nat} (hg : w.grownBy w' row) (hr : row = none ∨ u.ownBlock ≠ row) : RowsV w' base u hs := ownsRow_kept h hg hr
theorem RowsV.below {w w' : World} {base : Nat} {u : Value} {hs : List Value} (h : RowsV w base u hs) {B : Nat} (hb : Below B w w') (hB : w.heap.size ≤ B) : RowsV w' base u hs :=
  h.kept (only_of_below (hb.mono hB) none) (.inl rfl)
theorem RowsV.setT {w : World} {base g n cap : Nat} {hs : List Value} (h : RowsV w base (.slice (some ⟨g, 0, none⟩) n cap) hs) {i : Nat} {x : Value} :
    RowsV (w.setCell ⟨g, i, none⟩ x) base (.slice (some ⟨g, 0, none⟩) n cap) (hs.set i x) ∧ w.grownBy (w.setCell ⟨g, i, none⟩ x) (some g) := by
  refine ⟨?_, only_setCell (only_refl w (some g)) rfl _⟩
  obtain ⟨_, h | ⟨g', cap', cur, e, hb, hcur, hn, hc, hsz, hx⟩⟩ := h
  · simp at h
  · simp at e
    obtain ⟨rfl, rfl, rfl⟩ := e
    have hl : (hs.set i x).length = hs.length := List.length_set
    unfold RowsV
    rw [hl]
    refine ⟨by simp, .inr ⟨g, cap, cur.setIfInBounds i x, rfl, hb, heap_setCell_same w g i cur _ _ hcur, hn, hc, by simp [hsz], ?_⟩⟩
    rw [Array.toList_setIfInBounds, List.take_set, hx]
theorem RowsV.at_ {w : World} {base g n cap : Nat} {hs : List Value} (h : RowsV w base (.slice (some ⟨g, 0, none⟩) n cap) hs) {i : Nat} {x : Value} (hi : hs[i]? = some x) : w.cell? ⟨g, i, none⟩ = some x ∧ base ≤ g ∧ g < w.heap.size ∧ n = hs.length ∧ w.frozen? ⟨g, i, none⟩ = false := by
  obtain ⟨_, h | ⟨g', cap', cur, e, hb, hcur, hn, hc, hsz, hx⟩⟩ := h
  · simp at h
  · simp at e
    obtain ⟨rfl, rfl, rfl⟩ := e
    have hil : i < hs.length := (List.getElem?_eq_some_iff.1 hi).1
    refine ⟨?_, hb, (Array.getElem?_eq_some_iff.1 hcur).1, rfl, by simp [World.frozen?, hcur]⟩
    rw [← hx, List.getElem?_take_of_lt (by omega)] at hi
    simp [World.cell?, hcur]
    simpa using hi
theorem RowsV.form {w : World} {base : Nat} {u : Value} {hs : List Value} (h : RowsV w base u hs) (h0 : 0 < hs.length) : ∃ g cap, u = .slice (some ⟨g, 0, none⟩) hs.length cap := by
  rcases h.2 with ⟨_, e⟩ | ⟨g, cap, cur, e, _⟩
  · omega
  · exact ⟨g, cap, e⟩
theorem wpList_append_hdr {w : World} {ops : Array Oper} {rest : List Oper} {o : Oper} {a : Act} {Q : Exit → Act → World → Prop} (hgd : o.guard = none) (s x : Operand)
    (ho : o.op = .call { callee := .builtin .append, args := #[s, x], argTypes := #[57, 57] })
    (base : Nat) (v : Value) (hs : List Value) (hsv : a.eval s = v) (hown : RowsV w base v hs) (b0 c : Nat) (hx : a.eval x = .slice (some ⟨b0, 0, none⟩) 1 c) (p : Option Addr) (n0 c0 : Nat)
    (c1 : w.cell? ⟨b0, 0, none⟩ = some (.slice p n0 c0)) (hl : hs.length ≤ 1100000) (hbase : base ≤ w.heap.size)
    (h : ∀ (G cap : Nat) (w' : World), RowsV w' base (.slice (some ⟨G, 0, none⟩) (hs.length + 1) cap) (hs ++ [.slice p n0 c0]) → w.grownBy w' v.ownBlock → (v.ownBlock = some G ∨ G = w.heap.size) → wpList Try.prog ops Q rest (a.put o.dst (.slice (some ⟨G, 0, none⟩) (hs.length + 1) cap)) w') : wpList Try.prog ops Q (o :: rest) a w := by
  obtain ⟨i0, hi, hz0, hz1, hz2⟩ := info_parts infoRow
  refine wpList_append_own_at w hgd s x 57 ho base 38 i0 _ 1 24 Try.underlying57 hi hz0 hz1 hz2 rfl (by decide) v hs.length _ hsv hown ⟨b0, 0, none⟩ 1 c [.slice p n0 c0] hx rfl ?_ ?_ (by unfold maxLen; omega) (by omega) hbase ?_
  · intro j u hj
    rw [addr_at, Nat.zero_add]
    match j, hj with
    | 0, hj => simp at hj; rw [← hj]; exact c1
    | j + 1, hj => simp at hj
  · intro u hu
    simp at hu
    rw [hu]
    rfl
  · intro v' w' hown' hg _ hob
    obtain ⟨G, cap, rfl⟩ := row_some hown'
    refine h G cap w' ?_ hg ?_
    · unfold RowsV
      rw [List.length_append]
      exact hown'
    · rcases hob with e | e
      · exact .inl (by rw [← e]; rfl)
      · exact .inr (by simpa [Value.ownBlock] using e)
end Go.Proofs.Ytahgialnhomefaa

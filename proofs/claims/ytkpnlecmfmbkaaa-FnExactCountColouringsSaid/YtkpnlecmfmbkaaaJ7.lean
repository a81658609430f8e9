
/- IsColouring and IsStrict of the program. IsColouring and IsStrict of the model. The search for the least colouring: plain. impl.placesOf: the places of a block's points in a list. BlocksAt: the program and the model answer alike. The model's FirstColouring and FirstStrict. -/
import Derived.Test.YtkpnlecmfmbkaaaJ6
namespace Go.Proofs.Ytkpnlecmfmbkaaa
open Go.RowKit Go.Maps Go.Shelf
theorem isColourNumber_any (k : Int) (w : World) : Calls Try.prog 192 #[.int .i64 k] w (RS (.bool (decide (1 ≤ k) && decide (k ≤ 6))) w) := by
  by_cases h1 : 1 ≤ k
  · have e1 : decide (1 ≤ k) = true := by simpa using h1
    go_enter Try.func192, Try.ntmps192
    go_wp2
    go_ret
    exact RS_of (bool_eq (by simp [h1]))
  · have e1 : decide (1 ≤ k) = false := by simpa using h1
    go_enter Try.func192, Try.ntmps192
    go_wp2
    go_ret
    exact RS_of (bool_eq (by simp [h1]))
def colCode (v : Int) (bs : List Blk) (k : Int) (zs : List Int) : Int := if isSysImpl v bs then (if (decide (1 ≤ k) && decide (k ≤ 6)) = true ∧ (zs.length : Int) = v ∧ inK k zs = true then 0 else 2) else 1
def keepF (strict : Bool) (v : Int) (bs : List Blk) (k : Int) (zs : List Int) : Bool × Int := (decide (colCode v bs k zs = 0) && allOk strict zs bs, colCode v bs k zs)
theorem sys_inB3 {v : Int} {bs : List Blk} {n : Nat} (h : isSysImpl v bs = true) (hn : (n : Int) = v) : ∀ x ∈ bs, inB3 n x := fun x hx => by
  have := goodB_iff.1 (sys_good h x hx)
  unfold inB3
  omega
structure Four (w : World) (v k : Int) (s t r : Value) (W : World) : Prop where
  low : Below w.heap.size w W
  size : w.heap.size + 3 < W.heap.size
  p0 : W.cell? ⟨w.heap.size, 0, none⟩ = some (.int .i64 v)
  p1 : W.cell? ⟨w.heap.size, 1, none⟩ = some s
  k0 : W.cell? ⟨w.heap.size + 1, 0, none⟩ = some (.int .i64 k)
  t0 : W.cell? ⟨w.heap.size + 2, 0, none⟩ = some t
  r0 : W.cell? ⟨w.heap.size + 3, 0, none⟩ = some r
theorem Four.new (w : World) (v k : Int) (s t r : Value) (T1 T2 T3 T4 : TypeId) : Four w v k s t r ((((w.alloc (.cells #[.int .i64 v, s] T1)).alloc (.cells #[.int .i64 k] T2)).alloc (.cells #[t] T3)).alloc (.cells #[r] T4)) := by
  obtain ⟨w1, h1⟩ : ∃ w1, w1 = w.alloc (.cells #[.int .i64 v, s] T1) := ⟨_, rfl⟩
  obtain ⟨w2, h2⟩ : ∃ w2, w2 = w1.alloc (.cells #[.int .i64 k] T2) := ⟨_, rfl⟩
  obtain ⟨w3, h3⟩ : ∃ w3, w3 = w2.alloc (.cells #[t] T3) := ⟨_, rfl⟩
  obtain ⟨w4, h4⟩ : ∃ w4, w4 = w3.alloc (.cells #[r] T4) := ⟨_, rfl⟩
  have b1 : Below w.heap.size w w1 := by rw [h1]; exact (Below.refl _ _).alloc (Nat.le_refl _) _
  have b2 : Below w1.heap.size w1 w2 := by rw [h2]; exact (Below.refl _ _).alloc (Nat.le_refl _) _
  have b3 : Below w2.heap.size w2 w3 := by rw [h3]; exact (Below.refl _ _).alloc (Nat.le_refl _) _
  have b4 : Below w3.heap.size w3 w4 := by rw [h4]; exact (Below.refl _ _).alloc (Nat.le_refl _) _
  have z1 : w1.heap.size = w.heap.size + 1 := by rw [h1]; simp
  have z2 : w2.heap.size = w.heap.size + 2 := by rw [h2]; simp [z1]
  have z3 : w3.heap.size = w.heap.size + 3 := by rw [h3]; simp [z2]
  have z4 : w4.heap.size = w.heap.size + 4 := by rw [h4]; simp [z3]
  have a0 : w1.cell? ⟨w.heap.size, 0, none⟩ = some (.int .i64 v) := by rw [h1]; simp
  have a1 : w1.cell? ⟨w.heap.size, 1, none⟩ = some s := by rw [h1]; simp
  have a2 : w2.cell? ⟨w.heap.size + 1, 0, none⟩ = some (.int .i64 k) := by rw [h2, ← z1]; simp
  have a3 : w3.cell? ⟨w.heap.size + 2, 0, none⟩ = some t := by rw [h3, ← z2]; simp
  have a4 : w4.cell? ⟨w.heap.size + 3, 0, none⟩ = some r := by rw [h4, ← z3]; simp
  rw [← h1, ← h2, ← h3, ← h4]
  refine ⟨b1.trans ((b2.mono (by omega)).trans ((b3.mono (by omega)).trans (b4.mono (by omega)))), by omega, ?_, ?_, ?_, ?_, a4⟩
  · rw [b4.cell (by simp; omega), b3.cell (by simp; omega), b2.cell (by simp; omega)]; exact a0
  · rw [b4.cell (by simp; omega), b3.cell (by simp; omega), b2.cell (by simp; omega)]; exact a1
  · rw [b4.cell (by simp; omega), b3.cell (by simp; omega)]; exact a2
  · rw [b4.cell (by simp; omega)]; exact a3
theorem Four.below {w W W' : World} {v k : Int} {s t r : Value} (h : Four w v k s t r W) (hb : Below W.heap.size W W') : Four w v k s t r W' := by
  have hz := h.size
  exact ⟨h.low.trans (hb.mono (by omega)), Nat.lt_of_lt_of_le hz hb.size, (hb.cell (by simp; omega)).trans h.p0, (hb.cell (by simp; omega)).trans h.p1, (hb.cell (by simp; omega)).trans h.k0, (hb.cell (by simp; omega)).trans h.t0, (hb.cell (by simp; omega)).trans h.r0⟩
theorem ruleV_form (strict : Bool) : ∃ T, ruleV strict = .iface T (.agg #[]) := by cases strict <;> exact ⟨_, rfl⟩
set_option maxRecDepth 100000 in
set_option maxHeartbeats 1000000 in
theorem keepsRule_any (strict : Bool) (v : Int) (s : Value) (bs : List Blk) (k : Int) (t : Value) (zs : List Int) (w : World) (h : SB w s bs) (ht : IB w t zs) :
    Calls Try.prog 132 #[.agg #[.int .i64 v, s], .int .i64 k, t, ruleV strict] w (RV (boolCode (keepF strict v bs k zs).1 (keepF strict v bs k zs).2) w) := by
  have hs := h.slice
  have hts := ht.form
  have HI := Lib.hid fun W (hb : Below w.heap.size w W) => IsSystem_any v s bs W (h.below hb (Nat.le_refl _))
  have HN := Lib.hid fun W => isColourNumber_any k W
  have HC1 := Lib.hid fun B W (hb : Below w.heap.size w W) hc => ContF1_any t zs k B W (ht.below hb (Nat.le_refl _)) hc
  have HC2 := Lib.hid fun Br Bc W (hb : Below w.heap.size w W) hx hr hc hrl hcl => ContF2_any strict s t bs zs Br Bc W (h.below hb (Nat.le_refl _)) (ht.below hb (Nat.le_refl _)) hx hr hc hrl hcl
  have HSI := Lib.hid fun hi hn => sys_inB3 (v := v) (bs := bs) (n := zs.length) hi hn
  have HKF := Lib.hid (show keepF strict v bs k zs = (decide (colCode v bs k zs = 0) && allOk strict zs bs, colCode v bs k zs) from rfl)
  have HF4 := Lib.hid fun T1 T2 T3 T4 => Four.new w v k s t (ruleV strict) T1 T2 T3 T4
  clear h ht
  obtain ⟨T0, hT0⟩ := ruleV_form strict
  rw [hT0] at HC2 HF4 ⊢
  clear hT0
  obtain ⟨a0, c0, rfl⟩ := hs
  obtain ⟨a1, c1, rfl⟩ := hts
  cases hi : isSysImpl v bs with
  | false =>
    have HV := Lib.hid (show keepF strict v bs k zs = (false, 1) by rw [HKF.out]; simp [colCode, hi])
    rw [hi] at HI
    rw [HV.out]
    clear hi HKF HSI HC1 HC2
    go_enter Try.func132, Try.ntmps132
    go_wp2_with fail
    have hf := HF4.out 32 2 27 119
    obtain ⟨w4, hw4⟩ : ∃ w4, w4 = ((((w.alloc (.cells #[.int .i64 v, .slice a0 bs.length c0] 32)).alloc (.cells #[.int .i64 k] 2)).alloc (.cells #[.slice a1 zs.length c1] 27)).alloc (.cells #[.iface T0 (.agg #[])] 119)) := ⟨_, rfl⟩
    rw [← hw4] at hf ⊢
    clear hw4 HF4
    refine (HI.out _ hf.low).mono ?_
    rintro e w1 ⟨rfl, hb1⟩
    have hbw := (hf.below hb1).low
    clear hb1 hf
    go_wp2
    exact bodyPost_ret (v := boolCode false 1) (by simp [results, Try.results132, boolCode, go_sem, *]) rfl (RV_of rfl hbw)
  | true =>
    rw [hi] at HI
    cases hk : (decide (1 ≤ k) && decide (k ≤ 6)) with
    | false =>
      have HV := Lib.hid (show keepF strict v bs k zs = (false, 2) by rw [HKF.out]; simp only [colCode, hi, hk]; simp)
      rw [hk] at HN
      rw [HV.out]
      clear hi hk HKF HSI HC1 HC2
      go_enter Try.func132, Try.ntmps132
      go_wp2_with fail
      have hf := HF4.out 32 2 27 119
      obtain ⟨w4, hw4⟩ : ∃ w4, w4 = ((((w.alloc (.cells #[.int .i64 v, .slice a0 bs.length c0] 32)).alloc (.cells #[.int .i64 k] 2)).alloc (.cells #[.slice a1 zs.length c1] 27)).alloc (.cells #[.iface T0 (.agg #[])] 119)) := ⟨_, rfl⟩
      rw [← hw4] at hf ⊢
      clear hw4 HF4
      refine (HI.out _ hf.low).mono ?_
      rintro e w1 ⟨rfl, hb1⟩
      have HF := Lib.hid (hf.below hb1)
      clear hb1 hf
      have p0 := HF.out.p0
      have p1 := HF.out.p1
      have k0 := HF.out.k0
      have t0 := HF.out.t0
      have r0 := HF.out.r0
      have hz1 := HF.out.size
      have hbw := HF.out.low
      go_wp2_with fail
      refine (HN.out _).mono ?_
      rintro e w2 ⟨rfl, rfl⟩
      go_wp2
      exact bodyPost_ret (v := boolCode false 2) (by simp [results, Try.results132, boolCode, go_sem, *]) rfl (RV_of rfl hbw)
    | true =>
      rw [hk] at HN
      by_cases hn : (zs.length : Int) = v
      · have e1 : ((zs.length : Int) != v) = false := by simpa using hn
        have HX := Lib.hid (HSI.out hi hn)
        cases hin : inK k zs with
        | false =>
          have HV := Lib.hid (show keepF strict v bs k zs = (false, 2) by rw [HKF.out]; simp only [colCode, hi, hk, hin]; simp)
          rw [hin] at HC1
          rw [HV.out]
          clear hi hk hin HKF HSI HC2
          go_enter Try.func132, Try.ntmps132
          go_wp2_with fail
          have hf := HF4.out 32 2 27 119
          obtain ⟨w4, hw4⟩ : ∃ w4, w4 = ((((w.alloc (.cells #[.int .i64 v, .slice a0 bs.length c0] 32)).alloc (.cells #[.int .i64 k] 2)).alloc (.cells #[.slice a1 zs.length c1] 27)).alloc (.cells #[.iface T0 (.agg #[])] 119)) := ⟨_, rfl⟩
          rw [← hw4] at hf ⊢
          clear hw4 HF4
          refine (HI.out _ hf.low).mono ?_
          rintro e w1 ⟨rfl, hb1⟩
          have HF := Lib.hid (hf.below hb1)
          clear hb1 hf
          have p0 := HF.out.p0
          have p1 := HF.out.p1
          have k0 := HF.out.k0
          have t0 := HF.out.t0
          have r0 := HF.out.r0
          have hz1 := HF.out.size
          have hbw := HF.out.low
          go_wp2_with fail
          refine (HN.out _).mono ?_
          rintro e w2 ⟨rfl, rfl⟩
          go_wp2_with fail
          refine (HC1.out _ _ hbw k0).mono ?_
          rintro e w2 ⟨rfl, rfl⟩
          go_wp2
          exact bodyPost_ret (v := boolCode false 2) (by simp [results, Try.results132, boolCode, go_sem, *]) rfl (RV_of rfl hbw)
        | true =>
          have HV := Lib.hid (show keepF strict v bs k zs = (allOk strict zs bs, 0) by rw [HKF.out]; simp only [colCode, hi, hk, hin, hn]; simp)
          rw [hin] at HC1
          rw [HV.out]
          obtain ⟨β, hβ⟩ : ∃ β, β = allOk strict zs bs := ⟨_, rfl⟩
          rw [← hβ] at HC2 ⊢
          clear hi hk hin HKF HSI hβ HV
          go_enter Try.func132, Try.ntmps132
          go_wp2_with fail
          have hf := HF4.out 32 2 27 119
          obtain ⟨w4, hw4⟩ : ∃ w4, w4 = ((((w.alloc (.cells #[.int .i64 v, .slice a0 bs.length c0] 32)).alloc (.cells #[.int .i64 k] 2)).alloc (.cells #[.slice a1 zs.length c1] 27)).alloc (.cells #[.iface T0 (.agg #[])] 119)) := ⟨_, rfl⟩
          rw [← hw4] at hf ⊢
          clear hw4 HF4
          refine (HI.out _ hf.low).mono ?_
          rintro e w1 ⟨rfl, hb1⟩
          have HF := Lib.hid (hf.below hb1)
          clear hb1 hf
          have p0 := HF.out.p0
          have p1 := HF.out.p1
          have k0 := HF.out.k0
          have t0 := HF.out.t0
          have r0 := HF.out.r0
          have hz1 := HF.out.size
          have hbw := HF.out.low
          go_wp2_with fail
          refine (HN.out _).mono ?_
          rintro e w2 ⟨rfl, rfl⟩
          go_wp2_with fail
          refine (HC1.out _ _ hbw k0).mono ?_
          rintro e w2 ⟨rfl, rfl⟩
          go_wp2_with fail
          refine (HC2.out _ _ _ hbw HX.out r0 t0 (by omega) (by omega)).mono ?_
          rintro e w3 ⟨rfl, hb3⟩
          have hbw3 := hbw.trans (hb3.mono hbw.size)
          go_wp2
          exact bodyPost_ret (v := boolCode β 0) (by simp [results, Try.results132, boolCode, go_sem, *]) rfl (RV_of rfl hbw3)
      · have e1 : ((zs.length : Int) != v) = true := by simpa using hn
        have HV := Lib.hid (show keepF strict v bs k zs = (false, 2) by rw [HKF.out]; simp only [colCode, hi, hk, hn]; simp)
        rw [HV.out]
        clear hi hk hn HKF HSI HC1 HC2
        go_enter Try.func132, Try.ntmps132
        go_wp2_with fail
        have hf := HF4.out 32 2 27 119
        obtain ⟨w4, hw4⟩ : ∃ w4, w4 = ((((w.alloc (.cells #[.int .i64 v, .slice a0 bs.length c0] 32)).alloc (.cells #[.int .i64 k] 2)).alloc (.cells #[.slice a1 zs.length c1] 27)).alloc (.cells #[.iface T0 (.agg #[])] 119)) := ⟨_, rfl⟩
        rw [← hw4] at hf ⊢
        clear hw4 HF4
        refine (HI.out _ hf.low).mono ?_
        rintro e w1 ⟨rfl, hb1⟩
        have HF := Lib.hid (hf.below hb1)
        clear hb1 hf
        have p0 := HF.out.p0
        have p1 := HF.out.p1
        have k0 := HF.out.k0
        have t0 := HF.out.t0
        have r0 := HF.out.r0
        have hz1 := HF.out.size
        have hbw := HF.out.low
        go_wp2_with fail
        refine (HN.out _).mono ?_
        rintro e w2 ⟨rfl, rfl⟩
        go_wp2
        exact bodyPost_ret (v := boolCode false 2) (by simp [results, Try.results132, boolCode, go_sem, *]) rfl (RV_of rfl hbw)
set_option maxRecDepth 100000 in
theorem IsColouring_any (v : Int) (s : Value) (bs : List Blk) (k : Int) (t : Value) (zs : List Int) (w : World) (h : SB w s bs) (ht : IB w t zs) :
    Calls Try.prog 69 #[.agg #[.int .i64 v, s], .int .i64 k, t] w (RV (boolCode (keepF false v bs k zs).1 (keepF false v bs k zs).2) w) := by
  have HK : Hid (∀ W, Below w.heap.size w W → Calls Try.prog 132 #[.agg #[.int .i64 v, s], .int .i64 k, t, .iface 113 (.agg #[])] W (RV (boolCode (keepF false v bs k zs).1 (keepF false v bs k zs).2) W)) := Lib.hid fun W hb => keepsRule_any false v s bs k t zs W (h.below hb (Nat.le_refl _)) (ht.below hb (Nat.le_refl _))
  obtain ⟨a0, c0, rfl⟩ := h.slice
  obtain ⟨a1, c1, rfl⟩ := ht.form
  obtain ⟨β, hβ⟩ : ∃ β, β = (keepF false v bs k zs).1 := ⟨_, rfl⟩
  obtain ⟨κ, hκ⟩ : ∃ κ, κ = (keepF false v bs k zs).2 := ⟨_, rfl⟩
  rw [← hβ, ← hκ] at HK ⊢
  unfold boolCode at HK
  clear h ht hβ hκ
  go_enter Try.func69, Try.ntmps69
  go_wp2_with fail
  refine (HK.out _ ((Below.refl _ _).alloc (Nat.le_refl _) _)).mono ?_
  rintro e w1 ⟨rfl, hb1⟩
  have hbw := below_new hb1
  go_wp2
  exact bodyPost_ret (v := boolCode β κ) (by simp [results, Try.results69, boolCode, go_sem, *]) rfl (RV_of rfl hbw)
set_option maxRecDepth 100000 in
theorem IsStrict_any (v : Int) (s : Value) (bs : List Blk) (k : Int) (t : Value) (zs : List Int) (w : World) (h : SB w s bs) (ht : IB w t zs) :
    Calls Try.prog 71 #[.agg #[.int .i64 v, s], .int .i64 k, t] w (RV (boolCode (keepF true v bs k zs).1 (keepF true v bs k zs).2) w) := by
  have HK : Hid (∀ W, Below w.heap.size w W → Calls Try.prog 132 #[.agg #[.int .i64 v, s], .int .i64 k, t, .iface 114 (.agg #[])] W (RV (boolCode (keepF true v bs k zs).1 (keepF true v bs k zs).2) W)) := Lib.hid fun W hb => keepsRule_any true v s bs k t zs W (h.below hb (Nat.le_refl _)) (ht.below hb (Nat.le_refl _))
  obtain ⟨a0, c0, rfl⟩ := h.slice
  obtain ⟨a1, c1, rfl⟩ := ht.form
  obtain ⟨β, hβ⟩ : ∃ β, β = (keepF true v bs k zs).1 := ⟨_, rfl⟩
  obtain ⟨κ, hκ⟩ : ∃ κ, κ = (keepF true v bs k zs).2 := ⟨_, rfl⟩
  rw [← hβ, ← hκ] at HK ⊢
  unfold boolCode at HK
  clear h ht hβ hκ
  go_enter Try.func71, Try.ntmps71
  go_wp2_with fail
  refine (HK.out _ ((Below.refl _ _).alloc (Nat.le_refl _) _)).mono ?_
  rintro e w1 ⟨rfl, hb1⟩
  have hbw := below_new hb1
  go_wp2
  exact bodyPost_ret (v := boolCode β κ) (by simp [results, Try.results71, boolCode, go_sem, *]) rfl (RV_of rfl hbw)
end Go.Proofs.Ytkpnlecmfmbkaaa

namespace Go.Proofs.Ytkpnlecmfmbkaaa
open Go.RowKit Go.Maps Go.Shelf
/-- Do the blocks whose points are all less than n keep the rule? -/
def goodN (strict : Bool) (n : Int) (zs : List Int) (bs : List Blk) : Bool := bs.all fun x => decide (n ≤ x.c) || blkOk strict zs x
theorem goodN_drop {strict : Bool} {n : Int} {zs : List Int} {bs : List Blk} {k : Nat} (hk : k < bs.length) : goodN strict n zs (bs.drop k) = ((decide (n ≤ (bs[k]?.getD default).c) || blkOk strict zs (bs[k]?.getD default)) && goodN strict n zs (bs.drop (k + 1))) := by
  unfold goodN
  rw [List.drop_eq_getElem_cons hk, List.all_cons]
  simp [hk]
set_option maxRecDepth 100000 in
set_option maxHeartbeats 4000000 in
theorem l07Good_any (strict : Bool) (v : Int) (s : Value) (bs : List Blk) (t : Value) (zs : List Int) (n : Int) (w : World) (h : SB w s bs) (ht : IB w t zs) (hx : ∀ x ∈ bs, x.c < n → inB3 zs.length x) :
    Calls Try.prog 131 #[.agg #[.int .i64 v, s], t, .int .i64 n, .bool strict] w (RV (.bool (goodN strict n zs bs)) w) := by
  have hs := h.slice
  have hts := ht.form
  have hl := h.2.1
  have H := Lib.hid h
  have HT := Lib.hid ht
  have HX := Lib.hid hx
  clear h ht hx
  obtain ⟨a0, c0, rfl⟩ := hs
  obtain ⟨a1, c1, rfl⟩ := hts
  go_enter Try.func131, Try.ntmps131
  go_wp2
  obtain ⟨w2, hw2⟩ : ∃ w2, w2 = w.alloc (.cells #[.int .i64 v, .slice a0 bs.length c0] 32) := ⟨_, rfl⟩
  have hB0 : Below w.heap.size w w2 := by rw [hw2]; exact (Below.refl _ _).alloc (Nat.le_refl _) _
  have hz2 : w2.heap.size = w.heap.size + 1 := by rw [hw2]; simp
  have hc2 : w2.cell? ⟨w.heap.size, 1, none⟩ = some (.slice a0 bs.length c0) := by rw [hw2]; simp
  rw [← hw2]
  clear hw2
  go_loopw [9] (fun i wr => ∃ k : Nat, k ≤ bs.length ∧ i = .int .i64 k ∧ Below (w.heap.size + 1) w2 wr ∧ Hid (goodN strict n zs bs = goodN strict n zs (bs.drop k))) (fun i _ => bs.length - (intOf i).toNat)
  case atStart => exact ⟨0, Nat.zero_le _, rfl, Below.refl _ _, Lib.hid rfl⟩
  case round =>
    obtain ⟨k, hk, rfl, hB, HR⟩ := hrel
    have hz := hB.size
    have p1 : wr.cell? ⟨w.heap.size, 1, none⟩ = some (.slice a0 bs.length c0) := by rw [hB.cell (by simp)]; exact hc2
    have hBw : Below w.heap.size w wr := hB0.trans (hB.mono (by omega))
    by_cases hkl : k < bs.length
    · rcases H.out.2.2 with ⟨_, _, _, hnil⟩ | ⟨bb, off, cap, hval, hblt, hbl⟩
      · rw [hnil] at hkl; simp at hkl
      simp at hval
      obtain ⟨rfl, rfl⟩ := hval
      obtain ⟨x1, x2, x3⟩ := (hbl.below hBw hblt) k hkl
      have HD := Lib.hid (goodN_drop (strict := strict) (n := n) (zs := zs) hkl)
      have hxm := HX.out (bs[k]?.getD default) (by simp [hkl])
      obtain ⟨x, hx⟩ : ∃ x, x = bs[k]?.getD default := ⟨_, rfl⟩
      rw [← hx] at x1 x2 x3 HD hxm
      have g0 : (0 : Int) ≤ (k : Int) := by omega
      have g1 : (k : Int) < (bs.length : Int) := by omega
      obtain ⟨xa, xb, xc⟩ := x
      dsimp only at x1 x2 x3 hxm
      clear hbl hx
      have hwb : Below wr.heap.size wr (wr.alloc (.cells #[.int .i64 xa, .int .i64 xb, .int .i64 xc] 78)) := (Below.refl _ _).alloc (Nat.le_refl _) _
      by_cases hcn : n ≤ xc
      · have ed : decide (n ≤ xc) = true := by simpa using hcn
        have HV := Lib.hid (show goodN strict n zs bs = goodN strict n zs (bs.drop (k + 1)) by rw [HR.out, HD.out]; simp [hcn])
        clear HD hxm hcn
        go_wp2
        go_roundw
        case rel => exact ⟨k + 1, by omega, by go_num, hB.trans (hwb.mono (by omega)), HV⟩
        case measure => simp [intOf]; omega
      · have ed : decide (n ≤ xc) = false := by simpa using hcn
        obtain ⟨⟨ha0, ha1⟩, ⟨hb0, hb1⟩, ⟨hc0, hc1⟩⟩ := hxm (by omega)
        dsimp only at ha0 ha1 hb0 hb1 hc0 hc1
        obtain ⟨i1, rfl⟩ : ∃ i : Nat, xa = (i : Int) := ⟨xa.toNat, by omega⟩
        obtain ⟨i2, rfl⟩ : ∃ i : Nat, xb = (i : Int) := ⟨xb.toNat, by omega⟩
        obtain ⟨i3, rfl⟩ : ∃ i : Nat, xc = (i : Int) := ⟨xc.toNat, by omega⟩
        rcases HT.out.2 with ⟨_, _, _, hnil⟩ | ⟨tb, toff, tcap, tval, tlt, hI⟩
        · exfalso; rw [hnil] at ha1; simp at ha1; omega
        simp at tval
        obtain ⟨rfl, rfl⟩ := tval
        have d1 := (hBw.cell (p := ⟨tb, toff + i1, none⟩) tlt).trans (hI i1 (by omega))
        have d2 := (hBw.cell (p := ⟨tb, toff + i2, none⟩) tlt).trans (hI i2 (by omega))
        have d3 := (hBw.cell (p := ⟨tb, toff + i3, none⟩) tlt).trans (hI i3 (by omega))
        have HQ := Lib.hid (show blkOk strict zs ⟨i1, i2, i3⟩ = ruleB strict (zs[i1]?.getD 0) (zs[i2]?.getD 0) (zs[i3]?.getD 0) by simp [blkOk, clr])
        obtain ⟨p, hp⟩ : ∃ z, z = zs[i1]?.getD 0 := ⟨_, rfl⟩
        obtain ⟨q, hq⟩ : ∃ z, z = zs[i2]?.getD 0 := ⟨_, rfl⟩
        obtain ⟨r, hr⟩ : ∃ z, z = zs[i3]?.getD 0 := ⟨_, rfl⟩
        rw [← hp] at d1 HQ
        rw [← hq] at d2 HQ
        rw [← hr] at d3 HQ
        have hlt2 : tb < wr.heap.size := Nat.lt_of_lt_of_le tlt hBw.size
        have d1 := (hwb.cell (p := ⟨tb, toff + i1, none⟩) hlt2).trans d1
        have d2 := (hwb.cell (p := ⟨tb, toff + i2, none⟩) hlt2).trans d2
        have d3 := (hwb.cell (p := ⟨tb, toff + i3, none⟩) hlt2).trans d3
        have b1 : (wr.alloc (.cells #[.int .i64 (i1 : Int), .int .i64 (i2 : Int), .int .i64 (i3 : Int)] 78)).cell? ⟨wr.heap.size, 0, none⟩ = some (.int .i64 (i1 : Int)) := by simp
        have b2 : (wr.alloc (.cells #[.int .i64 (i1 : Int), .int .i64 (i2 : Int), .int .i64 (i3 : Int)] 78)).cell? ⟨wr.heap.size, 1, none⟩ = some (.int .i64 (i2 : Int)) := by simp
        have b3 : (wr.alloc (.cells #[.int .i64 (i1 : Int), .int .i64 (i2 : Int), .int .i64 (i3 : Int)] 78)).cell? ⟨wr.heap.size, 2, none⟩ = some (.int .i64 (i3 : Int)) := by simp
        have HWB := Lib.hid hwb
        clear hI hp hq hr hxm hwb
        go_wp2_with fail
        obtain ⟨wa, hwa⟩ : ∃ wa, wa = wr.alloc (.cells #[.int .i64 (i1 : Int), .int .i64 (i2 : Int), .int .i64 (i3 : Int)] 78) := ⟨_, rfl⟩
        rw [← hwa] at d1 d2 d3 b1 b2 b3 HWB ⊢
        clear hwa
        go_quiet (fail)
        have HB2 := Lib.hid (below_drewN (hB.trans (HWB.out.mono (by omega))) nq)
        have HB3 := Lib.hid (below_drewN (hBw.trans (HWB.out.mono hBw.size)) nq)
        obtain ⟨wd, hwd⟩ : ∃ wd, wd = wa.drewN nq := ⟨_, rfl⟩
        rw [← hwd] at HB2 HB3 ⊢
        clear hwd d1 d2 d3 b1 b2 b3 HWB
        by_cases h1 : p = q
        · subst h1
          by_cases h2 : p = r
          · subst h2
            cases strict with
            | false =>
              have HV := Lib.hid (show goodN false n zs bs = false by rw [HR.out, HD.out, HQ.out]; simp_all [ruleB] <;> (intro _; omega))
              clear HD HQ
              go_wp2
              go_ret
              exact RV_of (bool_eq (by rw [HV.out])) HB3.out
            | true =>
              have HV := Lib.hid (show goodN true n zs bs = false by rw [HR.out, HD.out, HQ.out]; simp_all [ruleB] <;> (intro _; omega))
              clear HD HQ
              go_wp2
              go_ret
              exact RV_of (bool_eq (by rw [HV.out])) HB3.out
          · have e2 : (p == r) = false := by simp; omega
            have d2 : decide (p = r) = false := by simp; omega
            have n2 : (p != r) = true := by simp; omega
            cases strict with
            | false =>
              have HV := Lib.hid (show goodN false n zs bs = goodN false n zs (bs.drop (k + 1)) by rw [HR.out, HD.out, HQ.out]; simp_all [ruleB])
              clear HD HQ
              go_wp2
              go_roundw
              case rel => exact ⟨k + 1, by omega, by go_num, HB2.out, HV⟩
              case measure => simp [intOf]; omega
            | true =>
              have HV := Lib.hid (show goodN true n zs bs = goodN true n zs (bs.drop (k + 1)) by rw [HR.out, HD.out, HQ.out]; simp_all [ruleB])
              clear HD HQ
              go_wp2
              go_roundw
              case rel => exact ⟨k + 1, by omega, by go_num, HB2.out, HV⟩
              case measure => simp [intOf]; omega
        · have e1 : (p == q) = false := by simp; omega
          have d1 : decide (p = q) = false := by simp; omega
          have n1 : (p != q) = true := by simp; omega
          by_cases h2 : p = r
          · subst h2
            have e3 : (q == p) = false := by simp; omega
            have d3 : decide (q = p) = false := by simp; omega
            have n3 : (q != p) = true := by simp; omega
            cases strict with
            | false =>
              have HV := Lib.hid (show goodN false n zs bs = goodN false n zs (bs.drop (k + 1)) by rw [HR.out, HD.out, HQ.out]; simp_all [ruleB])
              clear HD HQ
              go_wp2
              go_roundw
              case rel => exact ⟨k + 1, by omega, by go_num, HB2.out, HV⟩
              case measure => simp [intOf]; omega
            | true =>
              have HV := Lib.hid (show goodN true n zs bs = goodN true n zs (bs.drop (k + 1)) by rw [HR.out, HD.out, HQ.out]; simp_all [ruleB])
              clear HD HQ
              go_wp2
              go_roundw
              case rel => exact ⟨k + 1, by omega, by go_num, HB2.out, HV⟩
              case measure => simp [intOf]; omega
          · have e2 : (p == r) = false := by simp; omega
            have d2 : decide (p = r) = false := by simp; omega
            have n2 : (p != r) = true := by simp; omega
            by_cases h3 : q = r
            · subst h3
              cases strict with
              | false =>
                have HV := Lib.hid (show goodN false n zs bs = goodN false n zs (bs.drop (k + 1)) by rw [HR.out, HD.out, HQ.out]; simp_all [ruleB])
                clear HD HQ
                go_wp2
                go_roundw
                case rel => exact ⟨k + 1, by omega, by go_num, HB2.out, HV⟩
                case measure => simp [intOf]; omega
              | true =>
                have HV := Lib.hid (show goodN true n zs bs = goodN true n zs (bs.drop (k + 1)) by rw [HR.out, HD.out, HQ.out]; simp_all [ruleB])
                clear HD HQ
                go_wp2
                go_roundw
                case rel => exact ⟨k + 1, by omega, by go_num, HB2.out, HV⟩
                case measure => simp [intOf]; omega
            · have e3 : (q == r) = false := by simp; omega
              have d3 : decide (q = r) = false := by simp; omega
              have n3 : (q != r) = true := by simp; omega
              cases strict with
              | false =>
                have HV := Lib.hid (show goodN false n zs bs = goodN false n zs (bs.drop (k + 1)) by rw [HR.out, HD.out, HQ.out]; simp_all [ruleB])
                clear HD HQ
                go_wp2
                go_roundw
                case rel => exact ⟨k + 1, by omega, by go_num, HB2.out, HV⟩
                case measure => simp [intOf]; omega
              | true =>
                have HV := Lib.hid (show goodN true n zs bs = false by rw [HR.out, HD.out, HQ.out]; simp_all [ruleB] <;> (intro _; omega))
                clear HD HQ
                go_wp2
                go_ret
                exact RV_of (bool_eq (by rw [HV.out])) HB3.out
    · have e : k = bs.length := by omega
      have HE := Lib.hid (show goodN strict n zs bs = true by rw [HR.out, e, List.drop_length]; rfl)
      clear e HR
      go_wp2
      go_ret
      exact RV_of (bool_eq (by rw [HE.out])) hBw
theorem inK_drop {k : Int} {zs : List Int} {j : Nat} (hj : j < zs.length) : inK k (zs.drop j) = ((decide (0 ≤ zs[j]?.getD 0) && decide (zs[j]?.getD 0 < k)) && inK k (zs.drop (j + 1))) := by
  unfold inK
  rw [List.drop_eq_getElem_cons hj, List.all_cons]
  simp [hj]
theorem lt_pred (z k : Int) : decide (z ≤ k - 1) = decide (z < k) := by rw [decide_eq_decide]; omega
set_option maxRecDepth 100000 in
set_option maxHeartbeats 1000000 in
theorem l07Colours_any (v : Int) (s : Value) (bs : List Blk) (k : Int) (t : Value) (zs : List Int) (w : World) (h : SB w s bs) (ht : IB w t zs) :
    Calls Try.prog 130 #[.agg #[.int .i64 v, s], .int .i64 k, t] w (RV (.int .i64 (colCode v bs k zs)) w) := by
  have hs := h.slice
  have hts := ht.form
  have HI := Lib.hid fun W (hb : Below w.heap.size w W) => l01Is_any v s bs W (h.below hb (Nat.le_refl _))
  have HN := Lib.hid fun W => l01In_any k 1 6 W
  have HC := Lib.hid (show colCode v bs k zs = if isSysImpl v bs then (if (decide (1 ≤ k) && decide (k ≤ 6)) = true ∧ (zs.length : Int) = v ∧ inK k zs = true then 0 else 2) else 1 from rfl)
  have HT := Lib.hid ht
  have hb0 := (Below.refl w.heap.size w).alloc (Nat.le_refl _) (.cells #[.int .i64 v, s] 32)
  clear h ht
  obtain ⟨κ, hκ⟩ : ∃ κ, κ = colCode v bs k zs := ⟨_, rfl⟩
  rw [← hκ] at HC ⊢
  clear hκ
  obtain ⟨a0, c0, rfl⟩ := hs
  obtain ⟨a1, c1, rfl⟩ := hts
  cases hi : isSysImpl v bs with
  | false =>
    rw [hi] at HI HC
    clear hi
    go_enter Try.func130, Try.ntmps130
    go_wp2_with fail
    refine (HI.out _ hb0).mono ?_
    rintro e w1 ⟨rfl, hb1⟩
    have hbw := below_new hb1
    clear hb1
    go_wp2
    go_ret
    exact RV_of (int_eq (by rw [HC.out]; rfl)) hbw
  | true =>
    rw [hi] at HI HC
    clear hi
    cases hk : (decide (1 ≤ k) && decide (k ≤ 6)) with
    | false =>
      rw [hk] at HN
      have HV := Lib.hid (show κ = 2 by rw [HC.out, hk]; simp)
      clear hk HC
      go_enter Try.func130, Try.ntmps130
      go_wp2_with fail
      refine (HI.out _ hb0).mono ?_
      rintro e w1 ⟨rfl, hb1⟩
      have q0 := cell_new hb1 0 rfl
      have hbw := below_new hb1
      clear hb1
      go_wp2_with fail
      refine (HN.out _).mono ?_
      rintro e w2 ⟨rfl, rfl⟩
      go_wp2
      go_ret
      exact RV_of (int_eq (by rw [HV.out])) hbw
    | true =>
      rw [hk] at HN
      by_cases hn : (zs.length : Int) = v
      · have HV := Lib.hid (show κ = if inK k zs = true then 0 else 2 by rw [HC.out, hk, if_pos rfl]; simp [hn])
        have e1 : ((zs.length : Int) != v) = false := by simpa using hn
        have hk1 : 1 ≤ k ∧ k ≤ 6 := by simpa using hk
        obtain ⟨k1, k6⟩ := hk1
        have htl := HT.out.1
        clear hk HC
        go_enter Try.func130, Try.ntmps130
        go_wp2_with fail
        refine (HI.out _ hb0).mono ?_
        rintro e w1 ⟨rfl, hb1⟩
        have q0 := cell_new hb1 0 rfl
        have hbw := below_new hb1
        clear hb1
        go_wp2_with fail
        refine (HN.out _).mono ?_
        rintro e w2 ⟨rfl, rfl⟩
        clear HI HN
        go_wp2
        go_loop [7] (fun i => ∃ j : Nat, j ≤ zs.length ∧ i = .int .i64 j ∧ Hid (inK k zs = inK k (zs.drop j))) (fun i => zs.length - (intOf i).toNat)
        case atStart => exact ⟨0, Nat.zero_le _, rfl, Lib.hid rfl⟩
        case round =>
          obtain ⟨j, hj, rfl, HR⟩ := hrel
          by_cases hjl : j < zs.length
          · rcases HT.out.2 with ⟨_, _, _, hnil⟩ | ⟨b, off, cap, hval, hlt, hI⟩
            · rw [hnil] at hjl; simp at hjl
            simp at hval
            obtain ⟨rfl, rfl⟩ := hval
            have c0 := (hbw.cell (p := ⟨b, off + j, none⟩) hlt).trans (hI j hjl)
            have HD := Lib.hid (inK_drop (k := k) hjl)
            obtain ⟨z, hz⟩ : ∃ z, z = zs[j]?.getD 0 := ⟨_, rfl⟩
            rw [← hz] at c0 HD
            have HK1 := Lib.hid fun W => l01In_any z 0 (k - 1) W
            rw [lt_pred] at HK1
            obtain ⟨β, hβ⟩ : ∃ β, β = (decide (0 ≤ z) && decide (z < k)) := ⟨_, rfl⟩
            rw [← hβ] at HD HK1
            have g0 : (0 : Int) ≤ (j : Int) := by omega
            have g1 : (j : Int) < (zs.length : Int) := by omega
            clear hI hz hβ
            cases β with
            | true =>
              have HN := Lib.hid (show inK k zs = inK k (zs.drop (j + 1)) by rw [HR.out, HD.out]; rfl)
              clear HD
              go_wp2_with fail
              refine (HK1.out _).mono ?_
              rintro e w2 ⟨rfl, rfl⟩
              go_wp2
              go_round
              case rel => exact ⟨j + 1, by omega, by go_num, HN⟩
              case measure => simp [intOf]; omega
            | false =>
              have HN := Lib.hid (show inK k zs = false by rw [HR.out, HD.out]; rfl)
              clear HD
              go_wp2_with fail
              refine (HK1.out _).mono ?_
              rintro e w2 ⟨rfl, rfl⟩
              go_wp2
              go_ret
              exact RV_of (int_eq (by rw [HV.out, HN.out]; rfl)) hbw
          · have HN := Lib.hid (show inK k zs = true by rw [HR.out, show j = zs.length by omega, List.drop_length]; rfl)
            go_wp2
            go_ret
            exact RV_of (int_eq (by rw [HV.out, HN.out]; rfl)) hbw
      · have e1 : ((zs.length : Int) != v) = true := by simpa using hn
        have HV := Lib.hid (show κ = 2 by rw [HC.out, hk]; simp [hn])
        clear hk HC hn
        go_enter Try.func130, Try.ntmps130
        go_wp2_with fail
        refine (HI.out _ hb0).mono ?_
        rintro e w1 ⟨rfl, hb1⟩
        have q0 := cell_new hb1 0 rfl
        have hbw := below_new hb1
        clear hb1
        go_wp2_with fail
        refine (HN.out _).mono ?_
        rintro e w2 ⟨rfl, rfl⟩
        go_wp2
        go_ret
        exact RV_of (int_eq (by rw [HV.out])) hbw
theorem colCode_zero {v : Int} {bs : List Blk} {k : Int} {zs : List Int} (h : colCode v bs k zs = 0) : isSysImpl v bs = true ∧ (zs.length : Int) = v := by
  unfold colCode at h
  cases hi : isSysImpl v bs with
  | false => rw [hi] at h; simp at h
  | true =>
    rw [hi, if_pos rfl] at h
    by_cases hc : (decide (1 ≤ k) && decide (k ≤ 6)) = true ∧ (zs.length : Int) = v ∧ inK k zs = true
    · exact ⟨rfl, hc.2.1⟩
    · rw [if_neg hc] at h; simp at h
theorem goodN_all {strict : Bool} {v : Int} {bs : List Blk} {zs : List Int} (h : isSysImpl v bs = true) : goodN strict v zs bs = allOk strict zs bs := by
  unfold goodN allOk
  rw [Bool.eq_iff_iff, List.all_eq_true, List.all_eq_true]
  have hg : ∀ x ∈ bs, decide (v ≤ x.c) = false := fun x hx => by have := goodB_iff.1 (sys_good h x hx); simp; omega
  constructor
  · intro ha x hx
    have := ha x hx
    rwa [hg x hx, Bool.false_or] at this
  · intro ha x hx
    rw [ha x hx, Bool.or_true]
set_option maxRecDepth 100000 in
set_option maxHeartbeats 1000000 in
theorem specIsColouring_any (v : Int) (s : Value) (bs : List Blk) (k : Int) (t : Value) (zs : List Int) (w : World) (h : SB w s bs) (ht : IB w t zs) :
    Calls Try.prog 68 #[.agg #[.int .i64 v, s], .int .i64 k, t] w (RV (boolCode (keepF false v bs k zs).1 (keepF false v bs k zs).2) w) := by
  have hs := h.slice
  have hts := ht.form
  have HPC := Lib.hid fun W (hb : Below w.heap.size w W) => l07Colours_any v s bs k t zs W (h.below hb (Nat.le_refl _)) (ht.below hb (Nat.le_refl _))
  have HG := Lib.hid fun (hc : colCode v bs k zs = 0) W (hb : Below w.heap.size w W) => l07Good_any false v s bs t zs v W (h.below hb (Nat.le_refl _)) (ht.below hb (Nat.le_refl _)) (fun x hx _ => sys_inB3 (colCode_zero hc).1 (colCode_zero hc).2 x hx)
  have hb0 := (Below.refl w.heap.size w).alloc (Nat.le_refl _) (.cells #[.int .i64 v, s] 32)
  clear h ht
  obtain ⟨a0, c0, rfl⟩ := hs
  obtain ⟨a1, c1, rfl⟩ := hts
  by_cases hc : colCode v bs k zs = 0
  · have HV := Lib.hid (show keepF false v bs k zs = (allOk false zs bs, 0) by simp [keepF, hc])
    have HG2 := Lib.hid (HG.out hc)
    rw [goodN_all (colCode_zero hc).1] at HG2
    rw [hc] at HPC
    rw [HV.out]
    obtain ⟨β, hβ⟩ : ∃ β, β = allOk false zs bs := ⟨_, rfl⟩
    rw [← hβ] at HG2 ⊢
    clear hc HV hβ HG
    go_enter Try.func68, Try.ntmps68
    go_wp2_with fail
    refine (HPC.out _ hb0).mono ?_
    rintro e w1 ⟨rfl, hb1⟩
    have q0 := cell_new hb1 0 rfl
    have q1 := cell_new hb1 1 rfl
    have hbw := below_new hb1
    clear hb1
    go_wp2_with fail
    refine (HG2.out _ hbw).mono ?_
    rintro e w2 ⟨rfl, hb2⟩
    have hbw2 := hbw.trans (hb2.mono hbw.size)
    go_wp2
    exact bodyPost_ret (v := boolCode β 0) (by simp [results, Try.results68, boolCode, go_sem, *]) rfl (RV_of rfl hbw2)
  · have HV := Lib.hid (show keepF false v bs k zs = (false, colCode v bs k zs) by simp [keepF, hc])
    obtain ⟨κ, hκ⟩ : ∃ κ, κ = colCode v bs k zs := ⟨_, rfl⟩
    rw [← hκ] at HPC HV hc
    have hne : (κ != 0) = true := by simpa using hc
    clear hc hκ HG
    rw [HV.out]
    go_enter Try.func68, Try.ntmps68
    go_wp2_with fail
    refine (HPC.out _ hb0).mono ?_
    rintro e w1 ⟨rfl, hb1⟩
    have hbw := below_new hb1
    clear hb1 HV
    go_wp2
    exact bodyPost_ret (v := boolCode false κ) (by simp [results, Try.results68, boolCode, go_sem, *]) rfl (RV_of rfl hbw)
set_option maxRecDepth 100000 in
set_option maxHeartbeats 1000000 in
theorem specIsStrict_any (v : Int) (s : Value) (bs : List Blk) (k : Int) (t : Value) (zs : List Int) (w : World) (h : SB w s bs) (ht : IB w t zs) :
    Calls Try.prog 70 #[.agg #[.int .i64 v, s], .int .i64 k, t] w (RV (boolCode (keepF true v bs k zs).1 (keepF true v bs k zs).2) w) := by
  have hs := h.slice
  have hts := ht.form
  have HPC := Lib.hid fun W (hb : Below w.heap.size w W) => l07Colours_any v s bs k t zs W (h.below hb (Nat.le_refl _)) (ht.below hb (Nat.le_refl _))
  have HG := Lib.hid fun (hc : colCode v bs k zs = 0) W (hb : Below w.heap.size w W) => l07Good_any true v s bs t zs v W (h.below hb (Nat.le_refl _)) (ht.below hb (Nat.le_refl _)) (fun x hx _ => sys_inB3 (colCode_zero hc).1 (colCode_zero hc).2 x hx)
  have hb0 := (Below.refl w.heap.size w).alloc (Nat.le_refl _) (.cells #[.int .i64 v, s] 32)
  clear h ht
  obtain ⟨a0, c0, rfl⟩ := hs
  obtain ⟨a1, c1, rfl⟩ := hts
  by_cases hc : colCode v bs k zs = 0
  · have HV := Lib.hid (show keepF true v bs k zs = (allOk true zs bs, 0) by simp [keepF, hc])
    have HG2 := Lib.hid (HG.out hc)
    rw [goodN_all (colCode_zero hc).1] at HG2
    rw [hc] at HPC
    rw [HV.out]
    obtain ⟨β, hβ⟩ : ∃ β, β = allOk true zs bs := ⟨_, rfl⟩
    rw [← hβ] at HG2 ⊢
    clear hc HV hβ HG
    go_enter Try.func70, Try.ntmps70
    go_wp2_with fail
    refine (HPC.out _ hb0).mono ?_
    rintro e w1 ⟨rfl, hb1⟩
    have q0 := cell_new hb1 0 rfl
    have q1 := cell_new hb1 1 rfl
    have hbw := below_new hb1
    clear hb1
    go_wp2_with fail
    refine (HG2.out _ hbw).mono ?_
    rintro e w2 ⟨rfl, hb2⟩
    have hbw2 := hbw.trans (hb2.mono hbw.size)
    go_wp2
    exact bodyPost_ret (v := boolCode β 0) (by simp [results, Try.results70, boolCode, go_sem, *]) rfl (RV_of rfl hbw2)
  · have HV := Lib.hid (show keepF true v bs k zs = (false, colCode v bs k zs) by simp [keepF, hc])
    obtain ⟨κ, hκ⟩ : ∃ κ, κ = colCode v bs k zs := ⟨_, rfl⟩
    rw [← hκ] at HPC HV hc
    have hne : (κ != 0) = true := by simpa using hc
    clear hc hκ HG
    rw [HV.out]
    go_enter Try.func70, Try.ntmps70
    go_wp2_with fail
    refine (HPC.out _ hb0).mono ?_
    rintro e w1 ⟨rfl, hb1⟩
    have hbw := below_new hb1
    clear hb1 HV
    go_wp2
    exact bodyPost_ret (v := boolCode false κ) (by simp [results, Try.results70, boolCode, go_sem, *]) rfl (RV_of rfl hbw)
end Go.Proofs.Ytkpnlecmfmbkaaa

namespace Go.Proofs.Ytkpnlecmfmbkaaa
open Go.RowKit
/-- The blocks whose last point is the last one of a list. -/
def endB (bs : List Blk) (n : Nat) : List Blk := bs.filter fun x => decide (x.c = (n : Int))
/-- Do the blocks that end with the last point keep the rule? -/
def goodE (strict : Bool) (bs : List Blk) (L : List Int) : Bool := (endB bs (L.length - 1)).all (blkOk strict L)
/-- The first of m numbers from c on for which there is something. -/
def tryN {α : Type} (f : Nat → Option α) : Nat → Nat → Option α
  | _, 0 => none
  | c, m + 1 => match f c with
    | some r => some r
    | none => tryN f (c + 1) m
def findC (strict : Bool) (bs : List Blk) (k least : Nat) : Nat → List Int → Nat → Option (List Int)
  | 0, L, used => if used < least then none else some L
  | d + 1, L, used => if used + (d + 1) < least then none else
      tryN (fun c => if goodE strict bs (L ++ [(c : Int)]) then findC strict bs k least d (L ++ [(c : Int)]) (max used (c + 1)) else none) 0 (min (used + 1) k)
theorem tryN_hit {α : Type} {f : Nat → Option α} {c m : Nat} {r : α} (h : f c = some r) (hm : 0 < m) : tryN f c m = some r := by
  obtain ⟨j, rfl⟩ : ∃ j, m = j + 1 := ⟨m - 1, by omega⟩
  simp [tryN, h]
theorem tryN_miss {α : Type} {f : Nat → Option α} {c m : Nat} (h : f c = none) (hm : 0 < m) : tryN f c m = tryN f (c + 1) (m - 1) := by
  obtain ⟨j, rfl⟩ : ∃ j, m = j + 1 := ⟨m - 1, by omega⟩
  simp [tryN, h]
theorem tryN_some {α : Type} {f : Nat → Option α} {P : α → Prop} (h : ∀ c r, f c = some r → P r) : ∀ (m c : Nat) (r : α), tryN f c m = some r → P r
  | 0, c, r, e => by simp [tryN] at e
  | m + 1, c, r, e => by
    unfold tryN at e
    split at e
    · rename_i q hq
      simp at e
      exact e ▸ h c q hq
    · exact tryN_some h m (c + 1) r e
theorem findC_len {strict : Bool} {bs : List Blk} {k least : Nat} : ∀ (d : Nat) (L : List Int) (used : Nat) (R : List Int), findC strict bs k least d L used = some R → R.length = L.length + d
  | 0, L, used, R, h => by
    unfold findC at h
    split at h
    · simp at h
    · simp at h; rw [h]; omega
  | d + 1, L, used, R, h => by
    unfold findC at h
    split at h
    · simp at h
    · refine tryN_some (P := fun R => R.length = L.length + (d + 1)) (fun c r e => ?_) _ _ _ h
      split at e
      · have := findC_len d _ _ _ e
        rw [List.length_append, List.length_singleton] at this
        omega
      · simp at e
theorem clr_app {L M : List Int} {a : Int} (h0 : 0 ≤ a) (h1 : a < (L.length : Int)) : clr (L ++ M) a = clr L a := by
  unfold clr
  rw [List.getElem?_append_left (by omega)]
theorem blkOk_app {strict : Bool} {L M : List Int} {x : Blk} (h : okB x) (hc : x.c < (L.length : Int)) : blkOk strict (L ++ M) x = blkOk strict L x := by
  obtain ⟨h1, h2, h3, h4⟩ := h
  unfold blkOk
  rw [clr_app (by omega) (by omega), clr_app (by omega) (by omega), clr_app (by omega) hc]
/-- The model's test: where the list so far is good, the blocks that end with the new point decide. -/
theorem good_step {strict : Bool} {bs : List Blk} {L : List Int} {c : Int} (hok : ∀ x ∈ bs, okB x) (h : goodN strict (L.length : Int) L bs = true) : goodN strict ((L ++ [c]).length : Int) (L ++ [c]) bs = goodE strict bs (L ++ [c]) := by
  unfold goodN goodE endB at *
  rw [List.length_append, List.length_singleton, Nat.add_sub_cancel]
  rw [Bool.eq_iff_iff, List.all_eq_true, List.all_eq_true]
  rw [List.all_eq_true] at h
  constructor
  · intro ha x hx
    obtain ⟨hxm, hxc⟩ := List.mem_filter.1 hx
    simp at hxc
    have := ha x hxm
    rw [Bool.or_eq_true] at this
    rcases this with h1 | h1
    · simp at h1; omega
    · exact h1
  · intro ha x hx
    rw [Bool.or_eq_true]
    by_cases h1 : ((L.length + 1 : Nat) : Int) ≤ x.c
    · exact .inl (by simpa using h1)
    · refine .inr ?_
      by_cases h2 : x.c = (L.length : Int)
      · exact ha x (List.mem_filter.2 ⟨hx, by simpa using h2⟩)
      · have h3 := h x hx
        rw [blkOk_app (hok x hx) (by omega)]
        rw [Bool.or_eq_true] at h3
        rcases h3 with h3 | h3
        · simp at h3; omega
        · exact h3
theorem good_nil (strict : Bool) {bs : List Blk} (hok : ∀ x ∈ bs, okB x) : goodN strict (([] : List Int).length : Int) [] bs = true := by
  unfold goodN
  rw [List.all_eq_true]
  intro x hx
  have := hok x hx
  obtain ⟨h1, h2, h3, h4⟩ := this
  rw [Bool.or_eq_true]
  exact .inl (by simp; omega)
def leastOf (strict : Bool) (k : Nat) : Nat := if strict then k else 1
def firR : Option (List Int) → List Int × Int
  | some R => (R, 0)
  | none => ([], 4)
/-- What FirstColouring and FirstStrict answer. -/
def firF (strict : Bool) (v : Int) (bs : List Blk) (k : Int) : List Int × Int :=
  if isSysImpl v bs then (if (decide (1 ≤ k) && decide (k ≤ 6)) = true then firR (findC strict bs k.toNat (leastOf strict k.toNat) v.toNat [] 0) else ([], 2)) else ([], 1)
theorem firF_len (strict : Bool) (v : Int) (bs : List Blk) (k : Int) : (firF strict v bs k).1.length ≤ 15 := by
  unfold firF
  cases hi : isSysImpl v bs with
  | false => simp
  | true =>
    rw [if_pos rfl]
    have := (sys_size hi).2.1
    split
    · cases h : findC strict bs k.toNat (leastOf strict k.toNat) v.toNat [] 0 with
      | none => simp [firR]
      | some R =>
        have := findC_len _ _ _ _ h
        simp [firR] at this ⊢
        omega
    · simp
end Go.Proofs.Ytkpnlecmfmbkaaa

namespace Go.Proofs.Ytkpnlecmfmbkaaa
open Go.RowKit Go.Maps
def plO (pts : List Int) (z : Int) : List Int := if 0 ≤ place pts z then [place pts z] else []
def plK (pts : List Int) (x : Blk) : Nat → List Int
  | 0 => []
  | 1 => plO pts x.a
  | 2 => plO pts x.a ++ plO pts x.b
  | _ => plO pts x.a ++ plO pts x.b ++ plO pts x.c
theorem plO_len (pts : List Int) (z : Int) : (plO pts z).length ≤ 1 := by unfold plO; split <;> simp
theorem plK_len (pts : List Int) (x : Blk) (k : Nat) : (plK pts x k).length ≤ 3 := by
  have h1 := plO_len pts x.a
  have h2 := plO_len pts x.b
  have h3 := plO_len pts x.c
  unfold plK
  split <;> simp [List.length_append] <;> omega
theorem OwnJ.nil0 (W : World) (base : Nat) : OwnJ W base (.slice none 0 0) [] := ⟨rfl, .inl ⟨rfl, rfl⟩⟩
theorem OwnJ.formS {W : World} {base : Nat} {u : Value} {zs : List Int} (h : OwnJ W base u zs) : ∃ a c, u = .slice a zs.length c := by
  rcases h.2 with ⟨rfl, h0⟩ | ⟨g, cap, _, rfl, _⟩
  · exact ⟨_, _, by rw [h0]⟩
  · exact ⟨_, _, rfl⟩
end Go.Proofs.Ytkpnlecmfmbkaaa

namespace Go.Proofs.Ytkpnlecmfmbkaaa
open Go.RowKit Go.Maps
/-- The indices of the blocks through p, and the code. -/
def atF (v : Int) (bs : List Blk) (p : Int) : List Int × Int := if isSysImpl v bs then (if inP v p then (idxI p bs bs.length, 0) else ([], 2)) else ([], 1)
def RJ (r : List Int × Int) (w : World) (e : Ending) (w' : World) : Prop := ∃ u, e = .returned (.tuple #[u, .int .i64 r.2]) ∧ OwnJ w' w.heap.size u r.1 ∧ Below w.heap.size w w'
theorem OwnJ.nil (w : World) (base : Nat) : OwnJ w base (.slice none 0 0) [] := ⟨rfl, .inl ⟨rfl, rfl⟩⟩
theorem idxs_eq (p : Int) (bs : List Blk) : idxs (upTo p bs bs.length) = (idxI p bs bs.length).map (Value.int .i64) := by
  unfold idxs idxI
  rw [List.map_map]
  rfl
theorem ints1 {w : World} {b : Nat} {x : Int} (h0 : w.cell? ⟨b, 0, none⟩ = some (.int .i64 x)) : Ints w b 0 [x] := by
  intro k hk
  match k, hk with
  | 0, _ => simpa using h0
end Go.Proofs.Ytkpnlecmfmbkaaa

namespace Go.Proofs.Ytkpnlecmfmbkaaa
open Go.RowKit Go.Maps Go.Shelf
/-- A list in memory, at an address. -/
def IA (w : World) (s : Value) (zs : List Int) : Prop := ∃ b off cap, s = .slice (some ⟨b, off, none⟩) zs.length cap ∧ b < w.heap.size ∧ Ints w b off zs
theorem IA.ib {w : World} {s : Value} {zs : List Int} (h : IA w s zs) (hl : zs.length ≤ 1100000) : IB w s zs := by
  obtain ⟨b, off, cap, e, h1, h2⟩ := h
  exact ⟨hl, .inr ⟨b, off, cap, e, h1, h2⟩⟩
theorem IA.below {w w' : World} {s : Value} {zs : List Int} (h : IA w s zs) {B : Nat} (hb : Below B w w') (hB : w.heap.size ≤ B) : IA w' s zs := by
  obtain ⟨b, off, cap, e, h1, h2⟩ := h
  exact ⟨b, off, cap, e, Nat.lt_of_lt_of_le h1 hb.size, h2.below hb (by omega)⟩
/-- Appending a list that may be empty. -/
theorem wpList_append_intsE {w : World} {ops : Array Oper} {rest : List Oper} {o : Oper} {a : Act} {Q : Exit → Act → World → Prop} (hgd : o.guard = none) (s x : Operand)
    (ho : o.op = .call { callee := .builtin .append, args := #[s, x], argTypes := #[27, 27] })
    (base G : Nat) (hs : a.eval s = .slice (some ⟨G, 0, none⟩) 0 0) (hown : OwnJ w base (.slice (some ⟨G, 0, none⟩) 0 0) []) (xv : Value) (ys : List Int) (hxv : a.eval x = xv) (hx : IA w xv ys) (hl : ys.length ≤ 3300000) (hbase : base ≤ w.heap.size)
    (h : ∀ (g cap : Nat) (w' : World), OwnJ w' base (.slice (some ⟨g, 0, none⟩) ys.length cap) ys → w.grownBy w' (some G) → wpList Try.prog ops Q rest (a.put o.dst (.slice (some ⟨g, 0, none⟩) ys.length cap)) w') : wpList Try.prog ops Q (o :: rest) a w := by
  obtain ⟨i0, hi, hz0, hz1, hz2⟩ := info_parts infoInt64
  obtain ⟨b0, off, c, rfl, _, c1⟩ := hx
  refine wpList_append_own w hgd s x 27 ho base 2 i0 _ 1 8 Try.underlying27 hi hz0 hz1 hz2 rfl (by decide) (.slice (some ⟨G, 0, none⟩) 0 0) 0 [] hs hown ⟨b0, off, none⟩ ys.length c (ys.map (Value.int .i64)) hxv (by simp) ?_ ?_ (by unfold maxLen; omega) (by omega) hbase ?_
  · intro j u hj
    rw [addr_at]
    rw [List.getElem?_map] at hj
    have hjl : j < ys.length := by
      rcases Nat.lt_or_ge j ys.length with h1 | h1
      · exact h1
      · rw [List.getElem?_eq_none h1] at hj; cases hj
    have := c1 j hjl
    rw [List.getElem?_eq_getElem hjl] at hj this
    simp at hj
    rw [← hj]
    simpa using this
  · intro u hu
    obtain ⟨y, _, rfl⟩ := List.mem_map.1 hu
    rfl
  · intro v' w' hown' hg hiff
    rw [Nat.zero_add, List.nil_append] at hown'
    have hf : ∃ g cap, v' = .slice (some ⟨g, 0, none⟩) ys.length cap := by
      rcases hown'.2 with ⟨h1, _⟩ | ⟨g, cap, cur, e, _⟩
      · have := hiff.1 h1
        simp at this
      · exact ⟨g, cap, e⟩
    obtain ⟨g, cap, rfl⟩ := hf
    refine h g cap w' ?_ hg
    unfold OwnJ
    exact hown'
theorem OwnJ.ia {W : World} {base g n cap : Nat} {zs : List Int} (h : OwnJ W base (.slice (some ⟨g, 0, none⟩) n cap) zs) (hl : zs.length ≤ 1100000) : IA W (.slice (some ⟨g, 0, none⟩) n cap) zs := by
  have hib := h.ib hl
  rcases hib.2 with ⟨a, c, e, hnil⟩ | ⟨b, off, cap', e, h1, h2⟩
  · subst hnil
    simp at e
    rcases h.2 with ⟨h1, _⟩ | ⟨g', cap', cur, h1, _, h2, _⟩
    · simp at h1
    · simp at h1
      obtain ⟨rfl, _⟩ := h1
      refine ⟨g, 0, cap, by rw [e.2.1]; rfl, (Array.getElem?_eq_some_iff.1 h2).1, fun k hk => by simp at hk⟩
  · simp at e
    obtain ⟨⟨rfl, rfl⟩, rfl, rfl⟩ := e
    exact ⟨g, 0, cap, rfl, h1, h2⟩
set_option maxRecDepth 100000 in
theorem l01Own_any (s : Value) (zs : List Int) (w : World) (h : IA w s zs) (hl : zs.length ≤ 1100000) : Calls Try.prog 197 #[s] w (fun e w' => ∃ g cap, e = .returned (.slice (some ⟨g, 0, none⟩) zs.length cap) ∧ OwnJ w' w.heap.size (.slice (some ⟨g, 0, none⟩) zs.length cap) zs ∧ Below w.heap.size w w') := by
  have hform : ∃ a c, s = .slice a zs.length c := by obtain ⟨b, off, cap, rfl, _⟩ := h; exact ⟨_, _, rfl⟩
  have H := Lib.hid h
  obtain ⟨a, c, rfl⟩ := hform
  clear h
  have ho0 := OwnJ.new0 w (base := w.heap.size) (Nat.le_refl _)
  have hB0 : Below w.heap.size w (w.alloc (.cells #[] 2)) := (Below.refl _ _).alloc (Nat.le_refl _) _
  have HO0 := Lib.hid ho0
  have HB0 := Lib.hid hB0
  clear ho0 hB0
  go_enter Try.func197, Try.ntmps197
  go_wp2_with (at_builtin; refine wpList_append_intsE rfl _ _ rfl w.heap.size w.heap.size rfl HO0.out _ zs rfl (H.out.below HB0.out (Nat.le_refl _)) (by omega) (by simp) ?_; intro g cap w4 hO4 hg4)
  go_ret
  exact ⟨g, cap, rfl, hO4, HB0.out.grown hg4 (by simp) (fun r e => by cases e; exact Nat.le_refl _)⟩
set_option maxRecDepth 100000 in
theorem l07Ahead_any (strict : Bool) (v : Int) (s : Value) (bs : List Blk) (t : Value) (zs : List Int) (w : World) (h : SB w s bs) (ht : IB w t zs) (hx : ∀ x ∈ bs, x.c < (zs.length : Int) → inB3 zs.length x) :
    Calls Try.prog 198 #[.agg #[.int .i64 v, s], t, .bool strict] w (RV (.bool (goodN strict (zs.length : Int) zs bs)) w) := by
  have hb0 := (Below.refl w.heap.size w).alloc (Nat.le_refl _) (.cells #[.int .i64 v, s] 32)
  have HC := Lib.hid (l07Good_any strict v s bs t zs (zs.length : Int) _ (h.below hb0 (Nat.le_refl _)) (ht.below hb0 (Nat.le_refl _)) hx)
  have htl := ht.1
  obtain ⟨a, c, rfl⟩ := h.slice
  obtain ⟨a1, c1, rfl⟩ := ht.form
  obtain ⟨β, hβ⟩ : ∃ β, β = goodN strict (zs.length : Int) zs bs := ⟨_, rfl⟩
  rw [← hβ] at HC ⊢
  clear hβ h ht hx
  go_enter Try.func198, Try.ntmps198
  go_wp2_with fail
  refine HC.out.mono ?_
  rintro e w1 ⟨rfl, hb1⟩
  have hbw := below_new hb1
  go_wp2
  go_ret
  exact RV_of rfl hbw
theorem okB_in3 {x : Blk} (h : okB x) {n : Nat} (hc : x.c < (n : Int)) : inB3 n x := by
  obtain ⟨h1, h2, h3, h4⟩ := h
  unfold inB3
  omega
/-- What l07Find answers. -/
def FindQ (r : Option (List Int)) (w : World) (base : Nat) (e : Ending) (w' : World) : Prop :=
  Below w.heap.size w w' ∧ match r with
  | none => e = .returned (.tuple #[.slice none 0 0, .bool false])
  | some R => ∃ g cap, e = .returned (.tuple #[.slice (some ⟨g, 0, none⟩) R.length cap, .bool true]) ∧ OwnJ w' base (.slice (some ⟨g, 0, none⟩) R.length cap) R
end Go.Proofs.Ytkpnlecmfmbkaaa

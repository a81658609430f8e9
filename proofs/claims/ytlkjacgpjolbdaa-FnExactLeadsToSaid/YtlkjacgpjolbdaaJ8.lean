
/- The program's PairsLeft. The model's RenumberSystem, whole. LeadsTo of the program. LeadsTo of the model. What a law over two systems knows of the memory between two of its steps. What a law over one system whose result is a list of integers knows of the memory between two of its steps. The model's squares. -/
import Derived.Test.YtlkjacgpjolbdaaJ7
namespace Go.Proofs.Ytlkjacgpjolbdaa
open Go.RowKit Go.Maps
/-- The pairs (a, b), b among the next n, that P lets through; then those of the rows before a. -/
def rowL (P : Int → Int → Bool) (a : Nat) : Nat → List (Int × Int)
  | 0 => []
  | n + 1 => rowL P a n ++ if P a ((a : Int) + 1 + n) then [((a : Int), (a : Int) + 1 + n)] else []
def leftL (P : Int → Int → Bool) (v : Nat) : Nat → List (Int × Int)
  | 0 => []
  | a + 1 => leftL P v a ++ rowL P a (v - 1 - a)
theorem rowL_len (P : Int → Int → Bool) (a n : Nat) : (rowL P a n).length ≤ n := by
  induction n with
  | zero => simp [rowL]
  | succ n ih =>
    unfold rowL
    rw [List.length_append]
    split <;> simp <;> omega
theorem leftL_len (P : Int → Int → Bool) (v a : Nat) : (leftL P v a).length ≤ a * v := by
  induction a with
  | zero => simp [leftL]
  | succ a ih =>
    unfold leftL
    rw [List.length_append, Nat.succ_mul]
    have := rowL_len P a (v - 1 - a)
    omega
theorem rowL_congr {P Q : Int → Int → Bool} {a : Nat} : ∀ n : Nat, (∀ b : Int, (a : Int) < b → b ≤ a + n → P a b = Q a b) → rowL P a n = rowL Q a n
  | 0, _ => rfl
  | n + 1, h => by
    unfold rowL
    rw [rowL_congr n (fun b h1 h2 => h b h1 (by omega)), h ((a : Int) + 1 + n) (by omega) (by omega)]
theorem leftL_congr {P Q : Int → Int → Bool} {v : Nat} : ∀ a : Nat, a ≤ v → (∀ a' b : Int, 0 ≤ a' → a' < b → b < v → P a' b = Q a' b) → leftL P v a = leftL Q v a
  | 0, _, _ => rfl
  | a + 1, ha, h => by
    unfold leftL
    rw [leftL_congr a (by omega) h, rowL_congr _ (fun b h1 h2 => h a b (by omega) h1 (by omega))]
def fnL (L : List (Int × Int)) (k : Nat) : List Int := let p := L[k]?.getD (0, 0); [p.1, p.2]
theorem fnL_len (L : List (Int × Int)) (k : Nat) : (fnL L k).length = 2 := rfl
theorem fnL_lt {L L' : List (Int × Int)} {k : Nat} (h : k < L.length) : fnL L k = fnL (L ++ L') k := by
  unfold fnL
  rw [List.getElem?_append_left h]
theorem fnL_at (L : List (Int × Int)) (p : Int × Int) : fnL (L ++ [p]) L.length = [p.1, p.2] := by simp [fnL]
theorem AccS.congr {w : World} {base : Nat} {u : Value} {n : Nat} {gs caps : Nat → Nat} {F F' : Nat → List Int} (h : AccS w base u n gs caps F) (e : ∀ k, k < n → F k = F' k) : AccS w base u n gs caps F' := by
  refine ⟨?_, fun k hk => by rw [← e k hk]; exact h.row k hk, h.ne, h.inc, h.low⟩
  have he : (List.range n).map (rowV gs caps F') = (List.range n).map (rowV gs caps F) := map_congr' fun k hk => by
    have := e k (List.mem_range.1 hk)
    simp [rowV, this]
  rw [he]
  exact h.own
theorem AccS.base {w : World} {base base' : Nat} {u : Value} {n : Nat} {gs caps : Nat → Nat} {F : Nat → List Int} (h : AccS w base u n gs caps F) (hb : base' ≤ base) : AccS w base' u n gs caps F :=
  ⟨ownsRow_base h.own hb, h.row, h.ne, h.inc, fun k hk => Nat.le_trans hb (h.low k hk)⟩
theorem wf_pl {n : Int} (h0 : 0 ≤ n) (h1 : n ≤ 1000) : WF n := by
  have : n = wrap64 n := by unfold wrap64; omega
  unfold WF
  rw [this]
  exact wrap64_wf _
def notIn (seen : List (Int × Int)) (a b : Int) : Bool := !decide ((a, b) ∈ seen)
theorem two_own (w : World) (x y : Int) (T : TypeId) : OwnAtI (w.alloc (.cells #[.int .i64 x, .int .i64 y] T)) w.heap.size [x, y] := by
  refine ⟨by simp, fun k hk => ?_, fun o => by simp⟩
  rw [World.cell?_alloc_at _ _ _ _ rfl]
  match k, hk with
  | 0, _ => rfl
  | 1, _ => rfl
end Go.Proofs.Ytlkjacgpjolbdaa

namespace Go.Proofs.Ytlkjacgpjolbdaa
open Go.RowKit Go.Maps
theorem renF_wf (v : Int) (bs : List Blk) (p : List Int) : ∀ x ∈ (renF v bs p).2.1, WFB x := by
  unfold renF
  split
  · rename_i hi
    split
    · rename_i hr
      intro x hx
      have hx : x ∈ sortB (bs.map (renB p)) := hx
      rw [sortB_mem] at hx
      obtain ⟨y, hy, rfl⟩ := List.mem_map.1 hx
      have hg := goodB_iff.1 (sys_good hi y hy)
      obtain ⟨_, hv, _⟩ := sys_size hi
      have h := blk3_in (at0_in hr (a := y.a) (by omega) (by omega)) (at0_in hr (a := y.b) (by omega) (by omega)) (at0_in hr (a := y.c) (by omega) (by omega))
      exact ⟨wf_pl h.1.1 (by have := h.1.2; unfold renB; omega), wf_pl h.2.1.1 (by have := h.2.1.2; unfold renB; omega), wf_pl h.2.2.1 (by have := h.2.2.2; unfold renB; omega)⟩
    · simp
  · simp
end Go.Proofs.Ytlkjacgpjolbdaa

namespace Go.Proofs.Ytlkjacgpjolbdaa
open Go.RowKit Go.Maps
/-- Does the list lead the system to the other one, and the code. -/
def leadF (v : Int) (bs : List Blk) (u : Int) (cs : List Blk) (p : List Int) : Bool × Int :=
  if isSysImpl u cs then (if (renF v bs p).2.2 = 0 then (decide (v = u) && decide ((renF v bs p).2.1 = cs), 0) else (false, (renF v bs p).2.2)) else (false, 1)
theorem renF_ok {v : Int} {bs : List Blk} {p : List Int} (h : (renF v bs p).2.2 = 0) : (renF v bs p).1 = v ∧ isSysImpl v bs = true ∧ isRen v p = true := by
  unfold renF at h ⊢
  cases h1 : isSysImpl v bs with
  | false => rw [h1] at h; simp at h
  | true =>
    cases h2 : isRen v p with
    | false => rw [h1, h2] at h; simp at h
    | true => simp
set_option maxRecDepth 100000 in
set_option maxHeartbeats 1000000 in
theorem LeadsTo_any (v : Int) (s : Value) (bs : List Blk) (u : Int) (s' : Value) (cs : List Blk) (t : Value) (p : List Int) (w : World) (h : SB w s bs) (k : SB w s' cs) (ht : IB w t p) (hwf : ∀ z ∈ p, WF z) :
    Calls Try.prog 44 #[.agg #[.int .i64 v, s], .agg #[.int .i64 u, s'], t] w (RV (boolCode (leadF v bs u cs p).1 (leadF v bs u cs p).2) w) := by
  have hs := h.slice
  have hk := k.slice
  have HI := Lib.hid fun W (hb : Below w.heap.size w W) => IsSystem_any u s' cs W (k.below hb (Nat.le_refl _))
  have HR := Lib.hid fun W (hb : Below w.heap.size w W) => RenumberSystem_any v s bs t p W (h.below hb (Nat.le_refl _)) (ht.below hb (Nat.le_refl _)) hwf
  have HKB := Lib.hid k
  have hlen := h.2.1
  have hlen2 := k.2.1
  have htl := ht.1
  have hts : ∃ a c, t = .slice a p.length c := by rcases ht.2 with ⟨a, c, rfl, rfl⟩ | ⟨b, off, cap, rfl, _⟩ <;> exact ⟨_, _, rfl⟩
  have hll := renF_len v bs p
  have hlw := renF_wf v bs p
  clear h k ht hwf
  obtain ⟨a0, c0, rfl⟩ := hs
  obtain ⟨a1, c1, rfl⟩ := hk
  obtain ⟨a2, c2, rfl⟩ := hts
  have hB : Below w.heap.size w ((w.alloc (.cells #[.int .i64 v, .slice a0 bs.length c0] 28)).alloc (.cells #[.int .i64 u, .slice a1 cs.length c1] 28)) := ((Below.refl _ _).alloc (Nat.le_refl _) _).alloc (by simp) _
  cases hi : isSysImpl u cs with
  | false =>
    rw [hi] at HI
    have HV := Lib.hid (show leadF v bs u cs p = (false, 1) by simp [leadF, hi])
    rw [HV.out]
    clear hi HR HKB hll hlw
    go_enter Try.func44, Try.ntmps44
    go_wp2_with fail
    refine (HI.out _ hB).mono ?_
    rintro e w1 ⟨rfl, hb1⟩
    have hb2 := hB.trans (hb1.mono (by simp; omega))
    clear hb1
    go_wp2
    go_ret2
    exact ⟨rfl, hb2⟩
  | true =>
    rw [hi] at HI
    obtain ⟨q, hq⟩ : ∃ q, q = (renF v bs p).1 := ⟨_, rfl⟩
    obtain ⟨L, hL⟩ : ∃ L, L = (renF v bs p).2.1 := ⟨_, rfl⟩
    obtain ⟨κ, hκ⟩ : ∃ κ, κ = (renF v bs p).2.2 := ⟨_, rfl⟩
    have hp : renF v bs p = (q, L, κ) := by rw [hq, hL, hκ]
    have hqv : κ = 0 → q = v := fun e => by rw [hq]; exact (renF_ok (by rw [← hκ]; exact e)).1
    have HV := Lib.hid (show leadF v bs u cs p = if κ = 0 then (decide (v = u) && decide (L = cs), 0) else (false, κ) by unfold leadF; rw [hi, hp]; simp)
    rw [hp] at HR hll hlw
    have LBD := Lib.hid (show L.length ≤ 1100000 from Nat.le_trans hll hlen)
    have LWF := Lib.hid hlw
    dsimp only at hll
    clear hq hL hκ hp hi hlw
    go_enter Try.func44, Try.ntmps44
    go_wp2_with fail
    refine (HI.out _ hB).mono ?_
    rintro e w1 ⟨rfl, hb1⟩
    have hb2 := hB.trans (hb1.mono (by simp; omega))
    have x0 := (hb1.cell (p := ⟨w.heap.size, 0, none⟩) (by simp; omega)).trans (by simp [go_sem] : _ = some (Value.int .i64 v))
    have x1 := (hb1.cell (p := ⟨w.heap.size, 1, none⟩) (by simp; omega)).trans (by simp [go_sem] : _ = some (Value.slice a0 bs.length c0))
    have y0 := (hb1.cell (p := ⟨w.heap.size + 1, 0, none⟩) (by simp)).trans (by simp [go_sem] : _ = some (Value.int .i64 u))
    have y1 := (hb1.cell (p := ⟨w.heap.size + 1, 1, none⟩) (by simp)).trans (by simp [go_sem] : _ = some (Value.slice a1 cs.length c1))
    have hl1 := block_lt_of_cell y0
    have HB2 := Lib.hid hb2
    clear hb1 hb2 HI hB
    go_wp2_with fail
    refine (HR.out _ HB2.out).mono ?_
    rintro e w2 ⟨sR, rfl, hres, hb3⟩
    obtain ⟨aR, cR, hsR⟩ := hres.slice
    dsimp only at hsR hres
    subst hsR
    have hz3 := hb3.size
    have y0' := (hb3.cell (p := ⟨w.heap.size + 1, 0, none⟩) (by show w.heap.size + 1 < _; omega)).trans y0
    have y1' := (hb3.cell (p := ⟨w.heap.size + 1, 1, none⟩) (by show w.heap.size + 1 < _; omega)).trans y1
    have HB3 := Lib.hid (HB2.out.trans (hb3.mono HB2.out.size))
    have hB4 : Below w.heap.size w (w2.alloc (.cells #[.int .i64 q, .slice aR L.length cR] 28)) := HB3.out.alloc HB3.out.size _
    have HB4 := Lib.hid hB4
    have HSR := Lib.hid ((hres.sb LWF.out LBD.out).below ((Below.refl _ _).alloc (Nat.le_refl _) (.cells #[.int .i64 q, .slice aR L.length cR] 28)) (Nat.le_refl _))
    have hl2 : w.heap.size + 1 < w2.heap.size := by omega
    clear x0 x1 y0 y1 hb3 hres hB4 HR
    by_cases hk0 : κ = 0
    · have hqv' := hqv hk0
      subst hqv'
      subst hk0
      have HV2 := Lib.hid (show leadF q bs u cs p = (decide (q = u) && decide (L = cs), 0) by rw [HV.out]; rfl)
      clear HV hqv
      by_cases hqu : q = u
      · have q1 : (q == u) = true := by simpa using hqu
        have HW := Lib.hid (show (decide (q = u) && decide (L = cs)) = decide (L = cs) by rw [show decide (q = u) = true from decide_eq_true hqu]; rfl)
        clear hqu
        have HE := Lib.hid (EqualB_any _ _ L cs _ HSR.out (HKB.out.below HB4.out (Nat.le_refl _)))
        go_wp2_with fail
        refine HE.out.mono ?_
        rintro e w5 ⟨rfl, hb5⟩
        have hb6 := HB4.out.trans (hb5.mono HB4.out.size)
        clear hb5
        go_wp2
        go_ret2
        exact ⟨by rw [HV2.out, HW.out]; rfl, hb6⟩
      · have q1 : (q == u) = false := by simpa using hqu
        have HW := Lib.hid (show (decide (q = u) && decide (L = cs)) = false by rw [show decide (q = u) = false from decide_eq_false hqu]; rfl)
        clear hqu
        go_wp2
        go_ret2
        exact ⟨by rw [HV2.out, HW.out]; rfl, HB4.out⟩
    · have HV2 := Lib.hid (show leadF v bs u cs p = (false, κ) by rw [HV.out, if_neg hk0])
      have q1 : (κ != 0) = true := by simpa using hk0
      clear HV hqv hk0
      go_wp2
      go_ret2
      exact ⟨by rw [HV2.out]; rfl, HB4.out⟩
end Go.Proofs.Ytlkjacgpjolbdaa

namespace Go.Proofs.Ytlkjacgpjolbdaa
open Go.RowKit Go.Maps
set_option maxRecDepth 100000 in
set_option maxHeartbeats 1000000 in
theorem specLeadsTo_any (v : Int) (s : Value) (bs : List Blk) (u : Int) (s' : Value) (cs : List Blk) (t : Value) (p : List Int) (w : World) (h : SB w s bs) (k : SB w s' cs) (ht : IB w t p) :
    Calls Try.prog 43 #[.agg #[.int .i64 v, s], .agg #[.int .i64 u, s'], t] w (RV (boolCode (leadF v bs u cs p).1 (leadF v bs u cs p).2) w) := by
  have hs := h.slice
  have hk := k.slice
  have HI1 := Lib.hid fun W (hb : Below w.heap.size w W) => l01Is_any v s bs W (h.below hb (Nat.le_refl _))
  have HI2 := Lib.hid fun W (hb : Below w.heap.size w W) => l01Is_any u s' cs W (k.below hb (Nat.le_refl _))
  have HHB := Lib.hid h
  have HKB := Lib.hid k
  have HT := Lib.hid ht
  have hlen := h.2.1
  have hlen2 := k.2.1
  have htl := ht.1
  have hts : ∃ a c, t = .slice a p.length c := by rcases ht.2 with ⟨a, c, rfl, rfl⟩ | ⟨b, off, cap, rfl, _⟩ <;> exact ⟨_, _, rfl⟩
  clear h k ht
  obtain ⟨a0, c0, rfl⟩ := hs
  obtain ⟨a1, c1, rfl⟩ := hk
  obtain ⟨a2, c2, rfl⟩ := hts
  have hB : Below w.heap.size w ((w.alloc (.cells #[.int .i64 v, .slice a0 bs.length c0] 28)).alloc (.cells #[.int .i64 u, .slice a1 cs.length c1] 28)) := ((Below.refl _ _).alloc (Nat.le_refl _) _).alloc (by simp) _
  cases hi1 : isSysImpl v bs with
  | false =>
    rw [hi1] at HI1
    have HV := Lib.hid (show leadF v bs u cs p = (false, 1) by simp [leadF, renF, hi1])
    rw [HV.out]
    clear hi1 HI2 HHB HKB HT
    go_enter Try.func43, Try.ntmps43
    go_wp2_with fail
    refine (HI1.out _ hB).mono ?_
    rintro e w1 ⟨rfl, hb1⟩
    have hb2 := hB.trans (hb1.mono (by simp; omega))
    clear hb1
    go_wp2
    go_ret2
    exact ⟨rfl, hb2⟩
  | true =>
  rw [hi1] at HI1
  cases hi2 : isSysImpl u cs with
  | false =>
    rw [hi2] at HI2
    have HV := Lib.hid (show leadF v bs u cs p = (false, 1) by simp [leadF, hi2])
    rw [HV.out]
    clear hi1 hi2 HHB HKB HT
    go_enter Try.func43, Try.ntmps43
    go_wp2_with fail
    refine (HI1.out _ hB).mono ?_
    rintro e w1 ⟨rfl, hb1⟩
    have y0 := (hb1.cell (p := ⟨w.heap.size + 1, 0, none⟩) (by simp)).trans (by simp [go_sem] : _ = some (Value.int .i64 u))
    have y1 := (hb1.cell (p := ⟨w.heap.size + 1, 1, none⟩) (by simp)).trans (by simp [go_sem] : _ = some (Value.slice a1 cs.length c1))
    have HB2 := Lib.hid (hB.trans (hb1.mono (by simp; omega)))
    clear hb1 hB
    go_wp2_with fail
    refine (HI2.out _ HB2.out).mono ?_
    rintro e w2 ⟨rfl, hb3⟩
    have hb4 := HB2.out.trans (hb3.mono HB2.out.size)
    clear hb3
    go_wp2
    go_ret2
    exact ⟨rfl, hb4⟩
  | true =>
  rw [hi2] at HI2
  obtain ⟨hv3, hv15, hb35⟩ := sys_size hi1
  have HR := Lib.hid fun W (hb : Below w.heap.size w W) => l01Order_any v.toNat (by omega) (by omega) _ p W (HT.out.below hb (Nat.le_refl _))
  have ev : ((v.toNat : Nat) : Int) = v := by omega
  have hcomm : (rnGo v [] p && decide ((p.length : Int) = v)) = isRen v p := by unfold isRen; rw [Bool.and_comm]
  rw [ev, hcomm] at HR
  clear ev hcomm
  cases hr : isRen v p with
  | false =>
    rw [hr] at HR
    have HV := Lib.hid (show leadF v bs u cs p = (false, 2) by simp [leadF, renF, hi1, hi2, hr])
    clear hi1 hi2 hr HHB HKB HT
    go_enter Try.func43, Try.ntmps43
    go_wp2_with fail
    refine (HI1.out _ hB).mono ?_
    rintro e w1 ⟨rfl, hb1⟩
    have x0 := (hb1.cell (p := ⟨w.heap.size, 0, none⟩) (by simp; omega)).trans (by simp [go_sem] : _ = some (Value.int .i64 v))
    have y0 := (hb1.cell (p := ⟨w.heap.size + 1, 0, none⟩) (by simp)).trans (by simp [go_sem] : _ = some (Value.int .i64 u))
    have y1 := (hb1.cell (p := ⟨w.heap.size + 1, 1, none⟩) (by simp)).trans (by simp [go_sem] : _ = some (Value.slice a1 cs.length c1))
    have HB2 := Lib.hid (hB.trans (hb1.mono (by simp; omega)))
    have hlx := block_lt_of_cell x0
    clear hb1 hB
    go_wp2_with fail
    refine (HI2.out _ HB2.out).mono ?_
    rintro e w2 ⟨rfl, hb3⟩
    have x0 := (hb3.cell (p := ⟨w.heap.size, 0, none⟩) hlx).trans x0
    have HB4 := Lib.hid (HB2.out.trans (hb3.mono HB2.out.size))
    clear hb3 y0 y1
    go_wp2_with fail
    refine (HR.out _ HB4.out).mono ?_
    rintro e w3 ⟨rfl, hb5⟩
    have hb6 := HB4.out.trans (hb5.mono HB4.out.size)
    clear hb5
    go_wp2
    go_ret2
    exact ⟨by rw [HV.out]; rfl, hb6⟩
  | true =>
  rw [hr] at HR
  have HRN := Lib.hid fun W (hb : Below w.heap.size w W) => l01Renamed_any v _ bs _ p W (HHB.out.below hb (Nat.le_refl _)) (HT.out.below hb (Nat.le_refl _)) (sys_good hi1) hv3 hv15 hb35 hr
  have hrn : renF v bs p = (v, sortB (bs.map (renB p)), 0) := by simp [renF, hi1, hr]
  have hll := renF_len v bs p
  have hlw := renF_wf v bs p
  rw [hrn] at hll hlw
  obtain ⟨L, hL⟩ : ∃ L, L = sortB (bs.map (renB p)) := ⟨_, rfl⟩
  rw [← hL] at HRN hll hlw hrn
  have HV := Lib.hid (show leadF v bs u cs p = (decide (v = u) && decide (L = cs), 0) by simp [leadF, hrn, hi2])
  have LBD := Lib.hid (show L.length ≤ 1100000 from Nat.le_trans hll hlen)
  have LWF := Lib.hid hlw
  dsimp only at hll
  clear hi1 hi2 hr hrn hL hlw HHB HT
  go_enter Try.func43, Try.ntmps43
  go_wp2_with fail
  refine (HI1.out _ hB).mono ?_
  rintro e w1 ⟨rfl, hb1⟩
  have x0 := (hb1.cell (p := ⟨w.heap.size, 0, none⟩) (by simp; omega)).trans (by simp [go_sem] : _ = some (Value.int .i64 v))
  have x1 := (hb1.cell (p := ⟨w.heap.size, 1, none⟩) (by simp; omega)).trans (by simp [go_sem] : _ = some (Value.slice a0 bs.length c0))
  have y0 := (hb1.cell (p := ⟨w.heap.size + 1, 0, none⟩) (by simp)).trans (by simp [go_sem] : _ = some (Value.int .i64 u))
  have y1 := (hb1.cell (p := ⟨w.heap.size + 1, 1, none⟩) (by simp)).trans (by simp [go_sem] : _ = some (Value.slice a1 cs.length c1))
  have HB2 := Lib.hid (hB.trans (hb1.mono (by simp; omega)))
  have hlx := block_lt_of_cell x0
  have hly := block_lt_of_cell y0
  clear hb1 hB HI1
  go_wp2_with fail
  refine (HI2.out _ HB2.out).mono ?_
  rintro e w2 ⟨rfl, hb3⟩
  have x0 := (hb3.cell (p := ⟨w.heap.size, 0, none⟩) hlx).trans x0
  have x1 := (hb3.cell (p := ⟨w.heap.size, 1, none⟩) hlx).trans x1
  have y0 := (hb3.cell (p := ⟨w.heap.size + 1, 0, none⟩) hly).trans y0
  have y1 := (hb3.cell (p := ⟨w.heap.size + 1, 1, none⟩) hly).trans y1
  have HB4 := Lib.hid (HB2.out.trans (hb3.mono HB2.out.size))
  have hlx := block_lt_of_cell x0
  have hly := block_lt_of_cell y0
  clear hb3 HI2 HB2
  go_wp2_with fail
  refine (HR.out _ HB4.out).mono ?_
  rintro e w3 ⟨rfl, hb5⟩
  have x0 := (hb5.cell (p := ⟨w.heap.size, 0, none⟩) hlx).trans x0
  have x1 := (hb5.cell (p := ⟨w.heap.size, 1, none⟩) hlx).trans x1
  have y0 := (hb5.cell (p := ⟨w.heap.size + 1, 0, none⟩) hly).trans y0
  have y1 := (hb5.cell (p := ⟨w.heap.size + 1, 1, none⟩) hly).trans y1
  have HB6 := Lib.hid (HB4.out.trans (hb5.mono HB4.out.size))
  have hly := block_lt_of_cell y0
  clear hb5 HR HB4 hlx
  go_wp2_with fail
  refine (HRN.out _ HB6.out).mono ?_
  rintro e w4 ⟨sR, rfl, hres, hb7⟩
  obtain ⟨aR, cR, hsR⟩ := hres.slice
  subst hsR
  have hz7 := hb7.size
  have y0 := (hb7.cell (p := ⟨w.heap.size + 1, 0, none⟩) hly).trans y0
  have y1 := (hb7.cell (p := ⟨w.heap.size + 1, 1, none⟩) hly).trans y1
  have hb8 := HB6.out.trans (hb7.mono HB6.out.size)
  have hB8 : Below w.heap.size w (w4.alloc (.cells #[.int .i64 v, .slice aR L.length cR] 28)) := hb8.alloc hb8.size _
  have HSR := Lib.hid ((hres.sb LWF.out LBD.out).below ((Below.refl _ _).alloc (Nat.le_refl _) (.cells #[.int .i64 v, .slice aR L.length cR] 28)) (Nat.le_refl _))
  have hl2 : w.heap.size + 1 < w4.heap.size := by omega
  have HB8 := Lib.hid hB8
  clear x0 x1 hb7 hb8 hB8 hres HRN HB6
  by_cases hvu : v = u
  case neg =>
    have q1 : (v != u) = true := by simpa using hvu
    have HW := Lib.hid (show (decide (v = u) && decide (L = cs)) = false by rw [show decide (v = u) = false from decide_eq_false hvu]; rfl)
    clear hvu
    go_wp2
    go_ret2
    exact ⟨by rw [HV.out, HW.out]; rfl, HB8.out⟩
  have q1 : (v != u) = false := by simpa using hvu
  have HW := Lib.hid (show (decide (v = u) && decide (L = cs)) = decide (L = cs) by rw [show decide (v = u) = true from decide_eq_true hvu]; rfl)
  clear hvu
  by_cases hl : L.length = cs.length
  case neg =>
    have hne : ((L.length : Int) != (cs.length : Int)) = true := by simp; omega
    have HE := Lib.hid (show decide (L = cs) = false from decide_eq_false fun e => hl (by rw [e]))
    clear hl
    go_wp2
    go_ret2
    exact ⟨by rw [HV.out, HW.out, HE.out]; rfl, HB8.out⟩
  have hne : ((L.length : Int) != (cs.length : Int)) = false := by simp; omega
  have hle : cs.length ≤ L.length ∧ L.length ≤ cs.length := by omega
  obtain ⟨hle1, hle2⟩ := hle
  have y2 := (MapKept.heap_alloc w4 (.cells #[.int .i64 v, .slice aR L.length cR] 28)).1
  have z0 : (w4.alloc (.cells #[.int .i64 v, .slice aR L.length cR] 28)).cell? ⟨w4.heap.size, 1, none⟩ = some (.slice aR L.length cR) := by simp
  have z1 : (w4.alloc (.cells #[.int .i64 v, .slice aR L.length cR] 28)).cell? ⟨w.heap.size + 1, 1, none⟩ = some (.slice a1 cs.length c1) := cell_past y1 (by show w.heap.size + 1 < _; omega)
  have hz8 : (w4.alloc (.cells #[.int .i64 v, .slice aR L.length cR] 28)).heap.size = w4.heap.size + 1 := by simp
  clear hl y2
  go_wp2
  obtain ⟨w5, hw5⟩ : ∃ w5, (w4.alloc (.cells #[.int .i64 v, .slice aR L.length cR] 28)) = w5 := ⟨_, rfl⟩
  rw [hw5] at HSR HB8 z0 z1 hz8 ⊢
  clear hw5 y0 y1
  go_loopw [9] (fun i wr => ∃ k : Nat, k ≤ L.length ∧ i = .int .i64 k ∧ (∃ n, wr = w5.drewN n) ∧ Hid (L.take k = cs.take k)) (fun i _ => L.length - (intOf i).toNat)
  case atStart => exact ⟨0, Nat.zero_le _, rfl, ⟨0, rfl⟩, Lib.hid rfl⟩
  case round =>
    obtain ⟨k, hk, rfl, ⟨n, rfl⟩, HTK⟩ := hrel
    by_cases hkl : k < L.length
    · rcases HSR.out.2.2 with ⟨_, _, _, hnil⟩ | ⟨b, off, cap, hv, hblt, hbl⟩
      · rw [hnil] at hkl; simp at hkl
      simp at hv
      obtain ⟨rfl, rfl⟩ := hv
      rcases (HKB.out.below HB8.out (Nat.le_refl _)).2.2 with ⟨_, _, _, hnil⟩ | ⟨b', off', cap', hv, hblt', hbl'⟩
      · exfalso; rw [hnil, List.length_nil] at hle2; omega
      simp at hv
      obtain ⟨rfl, rfl⟩ := hv
      have hkl' : k < cs.length := by omega
      obtain ⟨x, hx, ex, x1, x2, x3⟩ := blks_at hbl hkl
      obtain ⟨y, hy, ey, y1, y2, y3⟩ := blks_at hbl' hkl'
      have hq := run_neq_blk x y
      have g0 : (0 : Int) ≤ (k : Int) := by omega
      have g1 : (k : Int) < (L.length : Int) := by omega
      have g2 : (k : Int) < (cs.length : Int) := by omega
      have HXY := Lib.hid (And.intro ex ey)
      clear hx hy ex ey hbl hbl'
      by_cases hd : x = y
      · have HS := Lib.hid (take_eq_next HTK.out (by rw [HXY.out.1, HXY.out.2, hd]))
        rw [show decide (x = y) = true from decide_eq_true hd] at hq
        clear hd HXY
        obtain ⟨xa, xb, xc⟩ := x
        obtain ⟨ya, yb, yc⟩ := y
        unfold bv at hq
        dsimp only at hq x1 x2 x3 y1 y2 y3
        simp only [Bool.not_true] at hq
        go_wp2
        go_quiet (fail)
        go_wp2
        go_roundw
        case rel => exact ⟨k + 1, by omega, by go_num, ⟨_, rfl⟩, HS⟩
        case measure => simp [intOf]; omega
      · have HS := Lib.hid (ne_at (xs := L) (ys := cs) (k := k) (by rw [HXY.out.1, HXY.out.2]; intro e; exact hd (Option.some.inj e)))
        rw [show decide (x = y) = false from decide_eq_false hd] at hq
        clear hd HXY
        obtain ⟨xa, xb, xc⟩ := x
        obtain ⟨ya, yb, yc⟩ := y
        unfold bv at hq
        dsimp only at hq x1 x2 x3 y1 y2 y3
        simp only [Bool.not_false] at hq
        go_wp2
        go_quiet (fail)
        go_wp2
        go_ret2
        exact ⟨by rw [HV.out, HW.out, HS.out]; rfl, below_drewN (below_drewN HB8.out _) _⟩
    · have HS := Lib.hid (show decide (L = cs) = true by
        have h1 := HTK.out
        rw [List.take_of_length_le (by omega), List.take_of_length_le (by omega)] at h1
        exact decide_eq_true h1)
      go_wp2
      go_ret2
      exact ⟨by rw [HV.out, HW.out, HS.out]; rfl, below_drewN HB8.out _⟩
end Go.Proofs.Ytlkjacgpjolbdaa

namespace Go.Proofs.Ytlkjacgpjolbdaa
open Go.RowKit Go.Maps
/-- The two boxes of the arguments; what was there before the call is as it was. -/
structure St2 (w : World) (v u : Int) (s t : Value) (W : World) : Prop where
  below : Below w.heap.size w W
  big : w.heap.size + 1 < W.heap.size
  x0 : W.cell? ⟨w.heap.size, 0, none⟩ = some (.int .i64 v)
  x1 : W.cell? ⟨w.heap.size, 1, none⟩ = some s
  y0 : W.cell? ⟨w.heap.size + 1, 0, none⟩ = some (.int .i64 u)
  y1 : W.cell? ⟨w.heap.size + 1, 1, none⟩ = some t
theorem St2.step {w : World} {v u : Int} {s t : Value} {W W' : World} {row : Option Nat} (h : St2 w v u s t W) (hg : W.grownBy W' row) (hr : ∀ r, row = some r → w.heap.size + 1 < r) : St2 w v u s t W' :=
  ⟨h.below.grown hg h.below.size (fun r e => by have := hr r e; omega), Nat.lt_of_lt_of_le h.big hg.size,
    hg.cell h.x0 (fun e => by have := hr _ e.symm; simp at this; omega), hg.cell h.x1 (fun e => by have := hr _ e.symm; simp at this; omega),
    hg.cell h.y0 (fun e => by have := hr _ e.symm; simp at this), hg.cell h.y1 (fun e => by have := hr _ e.symm; simp at this)⟩
theorem St2.start (w : World) (v u : Int) (s t : Value) : St2 w v u s t ((w.alloc (.cells #[.int .i64 v, s] 24)).alloc (.cells #[.int .i64 u, t] 24)) :=
  ⟨((Below.refl _ _).alloc (Nat.le_refl _) _).alloc (by simp) _, by simp, by simp [go_sem], by simp [go_sem], by simp [go_sem], by simp [go_sem]⟩
/-- A variable that holds a system. -/
structure VarB (W : World) (X : Nat) (v : Int) (s : Value) : Prop where
  lt : X < W.heap.size
  c0 : W.cell? ⟨X, 0, none⟩ = some (.int .i64 v)
  c1 : W.cell? ⟨X, 1, none⟩ = some s
theorem VarB.step {W W' : World} {X : Nat} {v : Int} {s : Value} {row : Option Nat} (h : VarB W X v s) (hg : W.grownBy W' row) (hr : row ≠ some X) : VarB W' X v s :=
  ⟨Nat.lt_of_lt_of_le h.lt hg.size, hg.cell h.c0 (fun e => hr e.symm), hg.cell h.c1 (fun e => hr e.symm)⟩
theorem VarB.new (W : World) (v : Int) (s : Value) (T : TypeId) : VarB (W.alloc (.cells #[.int .i64 v, s] T)) W.heap.size v s := ⟨by simp, by simp, by simp⟩

/-- The state of a law whose results are lists of blocks: the model's result (from i0 on, before i1), the two copies and their variables, the program's result. -/
structure CB (w : World) (v u : Int) (s t sW s8 s9 sG : Value) (X Y i0 i1 i2 i3 i4 i5 i6 : Nat) (LW L8 L9 LG : List Blk) (W : World) : Prop where
  st : St2 w v u s t W
  o0 : w.heap.size + 1 < i0
  o1 : i0 ≤ i1
  o2 : i1 ≤ i2
  oX : i2 ≤ X
  oX' : X < i3
  o4 : i3 ≤ i4
  oY : i4 ≤ Y
  oY' : Y < i5
  o6 : i5 ≤ i6
  rW : ResR W i0 i1 sW LW
  r8 : ResR W i1 i2 s8 L8
  vX : VarB W X v s8
  r9 : ResR W i3 i4 s9 L9
  vY : VarB W Y u s9
  rG : ResR W i5 i6 sG LG
section
variable {w : World} {v u : Int} {s t sW s8 s9 sG : Value} {X Y i0 i1 i2 i3 i4 i5 i6 : Nat} {LW L8 L9 LG : List Blk} {W W' : World}
theorem CB.step (h : CB w v u s t sW s8 s9 sG X Y i0 i1 i2 i3 i4 i5 i6 LW L8 L9 LG W) (hg : W.grownBy W' none) : CB w v u s t sW s8 s9 sG X Y i0 i1 i2 i3 i4 i5 i6 LW L8 L9 LG W' :=
  ⟨h.st.step hg (by simp), h.o0, h.o1, h.o2, h.oX, h.oX', h.o4, h.oY, h.oY', h.o6, h.rW.kept hg (by simp), h.r8.kept hg (by simp), h.vX.step hg (by simp), h.r9.kept hg (by simp), h.vY.step hg (by simp), h.rG.kept hg (by simp)⟩
theorem CB.mark8 (h : CB w v u s t sW s8 s9 sG X Y i0 i1 i2 i3 i4 i5 i6 LW L8 L9 LG W) {row : Option Nat} (hg : W.grownBy W' row) (hr : ∀ r, row = some r → i1 ≤ r ∧ r < i2) {L : List Blk} (hn : ResR W' i1 i2 s8 L) :
    CB w v u s t sW s8 s9 sG X Y i0 i1 i2 i3 i4 i5 i6 LW L L9 LG W' := by
  obtain ⟨st, o0, o1, o2, oX, oX', o4, oY, oY', o6, rW, r8, vX, r9, vY, rG⟩ := h
  exact ⟨st.step hg (fun r e => by have := hr r e; omega), o0, o1, o2, oX, oX', o4, oY, oY', o6, rW.kept hg (fun r e => by have := hr r e; omega), hn, vX.step hg (fun e => by have := hr _ e; omega), r9.kept hg (fun r e => by have := hr r e; omega), vY.step hg (fun e => by have := hr _ e; omega), rG.kept hg (fun r e => by have := hr r e; omega)⟩
theorem CB.mark9 (h : CB w v u s t sW s8 s9 sG X Y i0 i1 i2 i3 i4 i5 i6 LW L8 L9 LG W) {row : Option Nat} (hg : W.grownBy W' row) (hr : ∀ r, row = some r → i3 ≤ r ∧ r < i4) {L : List Blk} (hn : ResR W' i3 i4 s9 L) :
    CB w v u s t sW s8 s9 sG X Y i0 i1 i2 i3 i4 i5 i6 LW L8 L LG W' := by
  obtain ⟨st, o0, o1, o2, oX, oX', o4, oY, oY', o6, rW, r8, vX, r9, vY, rG⟩ := h
  exact ⟨st.step hg (fun r e => by have := hr r e; omega), o0, o1, o2, oX, oX', o4, oY, oY', o6, rW.kept hg (fun r e => by have := hr r e; omega), r8.kept hg (fun r e => by have := hr r e; omega), vX.step hg (fun e => by have := hr _ e; omega), hn, vY.step hg (fun e => by have := hr _ e; omega), rG.kept hg (fun r e => by have := hr r e; omega)⟩
theorem CB.markG (h : CB w v u s t sW s8 s9 sG X Y i0 i1 i2 i3 i4 i5 i6 LW L8 L9 LG W) {row : Option Nat} (hg : W.grownBy W' row) (hr : ∀ r, row = some r → i5 ≤ r ∧ r < i6) {L : List Blk} (hn : ResR W' i5 i6 sG L) :
    CB w v u s t sW s8 s9 sG X Y i0 i1 i2 i3 i4 i5 i6 LW L8 L9 L W' := by
  obtain ⟨st, o0, o1, o2, oX, oX', o4, oY, oY', o6, rW, r8, vX, r9, vY, rG⟩ := h
  exact ⟨st.step hg (fun r e => by have := hr r e; omega), o0, o1, o2, oX, oX', o4, oY, oY', o6, rW.kept hg (fun r e => by have := hr r e; omega), r8.kept hg (fun r e => by have := hr r e; omega), vX.step hg (fun e => by have := hr _ e; omega), r9.kept hg (fun r e => by have := hr r e; omega), vY.step hg (fun e => by have := hr _ e; omega), hn⟩
end
end Go.Proofs.Ytlkjacgpjolbdaa

namespace Go.Proofs.Ytlkjacgpjolbdaa
open Go.RowKit Go.Maps
theorem ResI.slice {w : World} {lo hi : Nat} {s : Value} {zs : List Int} (h : ResI w lo hi s zs) : ∃ a c, s = .slice a zs.length c := by
  rcases h with ⟨rfl, a, c, rfl⟩ | ⟨g, cap, rfl, _⟩ <;> exact ⟨_, _, rfl⟩
theorem ResI.wide {w : World} {lo hi lo' hi' : Nat} {s : Value} {zs : List Int} (h : ResI w lo hi s zs) (h1 : lo' ≤ lo) (h2 : hi ≤ hi') : ResI w lo' hi' s zs := by
  rcases h with h | ⟨g, cap, rfl, h3, h4, ho⟩
  · exact .inl h
  · exact .inr ⟨g, cap, rfl, by omega, by omega, ho⟩
structure St1 (w : World) (v : Int) (s : Value) (W : World) : Prop where
  below : Below w.heap.size w W
  big : w.heap.size < W.heap.size
  x0 : W.cell? ⟨w.heap.size, 0, none⟩ = some (.int .i64 v)
  x1 : W.cell? ⟨w.heap.size, 1, none⟩ = some s
theorem St1.step {w : World} {v : Int} {s : Value} {W W' : World} {row : Option Nat} (h : St1 w v s W) (hg : W.grownBy W' row) (hr : ∀ r, row = some r → w.heap.size < r) : St1 w v s W' :=
  ⟨h.below.grown hg h.below.size (fun r e => by have := hr r e; omega), Nat.lt_of_lt_of_le h.big hg.size,
    hg.cell h.x0 (fun e => by have := hr _ e.symm; simp at this), hg.cell h.x1 (fun e => by have := hr _ e.symm; simp at this)⟩
theorem St1.start (w : World) (v : Int) (s : Value) : St1 w v s (w.alloc (.cells #[.int .i64 v, s] 24)) :=
  ⟨(Below.refl _ _).alloc (Nat.le_refl _) _, by simp, by simp [go_sem], by simp [go_sem]⟩
structure CI (w : World) (v : Int) (s sW s8 sG : Value) (X i0 i1 i2 i5 i6 : Nat) (LW : List Int) (L8 : List Blk) (LG : List Int) (W : World) : Prop where
  st : St1 w v s W
  o0 : w.heap.size < i0
  o1 : i0 ≤ i1
  o2 : i1 ≤ i2
  oX : i2 ≤ X
  oX' : X < i5
  o6 : i5 ≤ i6
  rW : ResI W i0 i1 sW LW
  r8 : ResR W i1 i2 s8 L8
  vX : VarB W X v s8
  rG : ResI W i5 i6 sG LG
section
variable {w : World} {v : Int} {s sW s8 sG : Value} {X i0 i1 i2 i5 i6 : Nat} {LW LG : List Int} {L8 : List Blk} {W W' : World}
theorem CI.step (h : CI w v s sW s8 sG X i0 i1 i2 i5 i6 LW L8 LG W) (hg : W.grownBy W' none) : CI w v s sW s8 sG X i0 i1 i2 i5 i6 LW L8 LG W' :=
  ⟨h.st.step hg (by simp), h.o0, h.o1, h.o2, h.oX, h.oX', h.o6, h.rW.kept hg (by simp), h.r8.kept hg (by simp), h.vX.step hg (by simp), h.rG.kept hg (by simp)⟩
theorem CI.mark8 (h : CI w v s sW s8 sG X i0 i1 i2 i5 i6 LW L8 LG W) {row : Option Nat} (hg : W.grownBy W' row) (hr : ∀ r, row = some r → i1 ≤ r ∧ r < i2) {L : List Blk} (hn : ResR W' i1 i2 s8 L) :
    CI w v s sW s8 sG X i0 i1 i2 i5 i6 LW L LG W' := by
  obtain ⟨st, o0, o1, o2, oX, oX', o6, rW, r8, vX, rG⟩ := h
  exact ⟨st.step hg (fun r e => by have := hr r e; omega), o0, o1, o2, oX, oX', o6, rW.kept hg (fun r e => by have := hr r e; omega), hn, vX.step hg (fun e => by have := hr _ e; omega), rG.kept hg (fun r e => by have := hr r e; omega)⟩
theorem CI.markG (h : CI w v s sW s8 sG X i0 i1 i2 i5 i6 LW L8 LG W) {row : Option Nat} (hg : W.grownBy W' row) (hr : ∀ r, row = some r → i5 ≤ r ∧ r < i6) {L : List Int} (hn : ResI W' i5 i6 sG L) :
    CI w v s sW s8 sG X i0 i1 i2 i5 i6 LW L8 L W' := by
  obtain ⟨st, o0, o1, o2, oX, oX', o6, rW, r8, vX, rG⟩ := h
  exact ⟨st.step hg (fun r e => by have := hr r e; omega), o0, o1, o2, oX, oX', o6, rW.kept hg (fun r e => by have := hr r e; omega), r8.kept hg (fun r e => by have := hr r e; omega), vX.step hg (fun e => by have := hr _ e; omega), hn⟩
end
theorem gb_drew1 (w : World) : w.grownBy w.drew none := ⟨rfl, rfl, rfl, Nat.le_refl _, fun _ _ _ => rfl⟩
theorem gb_alloc1 (w : World) (o : Obj) : w.grownBy (w.alloc o) none := World.grownBy_alloc w o none
end Go.Proofs.Ytlkjacgpjolbdaa

namespace Go.Proofs.Ytlkjacgpjolbdaa
open Go.RowKit Go.Maps
theorem AccS.new0 (W : World) (gs caps : Nat → Nat) (F : Nat → List Int) {base : Nat} (hb : base ≤ W.heap.size) : AccS (W.alloc (.cells #[] 35)) base (.slice (some ⟨W.heap.size, 0, none⟩) 0 0) 0 gs caps F :=
  ⟨⟨rfl, .inr ⟨W.heap.size, 0, #[], rfl, hb, World.alloc_heap_new W _, Nat.le_refl _, Nat.zero_le _, rfl, rfl⟩⟩, fun k hk => by omega, fun k hk => by omega, fun j k _ hk => by omega, fun k hk => by omega⟩
theorem l01In_val (n : Int) (β : Bool) (hβ : (decide ((2 : Int) ≤ n) && decide (n ≤ 5)) = β) (W : World) : Calls Try.prog 67 #[.int .i64 n, .int .i64 2, .int .i64 5] W (RS (.bool β) W) := by
  have h := l01In_any n 2 5 W
  rw [hβ] at h
  exact h
end Go.Proofs.Ytlkjacgpjolbdaa


/- The kinds of a square: the program's tests. The program's isRenumbering. impl.columnOf. impl.checkedSquare. What the doors have in common. The door at a slice type. SquareKinds: the program. The door at a slice type. IsSquare: the program and the model. SquareKinds: the model. The laws' marks in systems. -/
import Derived.Test.YtbpmjjdjfniblaaJ5
import Derived.WalkLawsBesides
import Derived.Defers
import Derived.Recover
import Derived.Laws.Pointers
namespace Go.Proofs.Ytbpmjjdjfniblaa
open Go.RowKit Go.Maps
def at2 (F : Nat → List Int) (x y : Nat) : Int := (F x)[y]?.getD 0
def comB (n : Nat) (F : Nat → List Int) : Bool := (List.range n).all fun x => (List.range n).all fun y => decide (at2 F x y = at2 F y x)
def diaB (n : Nat) (F : Nat → List Int) (per : Nat) : Bool := (List.range n).all fun x => decide (at2 F x x = ((x % per : Nat) : Int))
theorem comB_of {n : Nat} {F : Nat → List Int} (h : ∀ x, x < n → ∀ y, y < x → at2 F x y = at2 F y x) : comB n F = true := by
  refine List.all_eq_true.2 fun x hx => List.all_eq_true.2 fun y hy => decide_eq_true ?_
  have hx := List.mem_range.1 hx
  have hy := List.mem_range.1 hy
  rcases Nat.lt_trichotomy x y with e | e | e
  · exact (h y hy x e).symm
  · rw [e]
  · exact h x hx y e
theorem comB_false {n x y : Nat} {F : Nat → List Int} (hx : x < n) (hy : y < n) (h : at2 F x y ≠ at2 F y x) : comB n F = false := by
  unfold comB
  rw [List.all_eq_false]
  refine ⟨x, List.mem_range.2 hx, ?_⟩
  rw [Bool.not_eq_true, List.all_eq_false]
  exact ⟨y, List.mem_range.2 hy, by simpa using h⟩
theorem diaB_of {n : Nat} {F : Nat → List Int} {per : Nat} (h : ∀ x, x < n → at2 F x x = ((x % per : Nat) : Int)) : diaB n F per = true :=
  List.all_eq_true.2 fun x hx => decide_eq_true (h x (List.mem_range.1 hx))
theorem diaB_false {n x : Nat} {F : Nat → List Int} {per : Nat} (hx : x < n) (h : at2 F x x ≠ ((x % per : Nat) : Int)) : diaB n F per = false := by
  unfold diaB
  rw [List.all_eq_false]
  exact ⟨x, List.mem_range.2 hx, by simpa using h⟩
/-- The cells of a square. -/
theorem sq_at {w : World} {a : Option Addr} {n c : Nat} {F : Nat → List Int} (h : SSB w (.slice a n c) n F) (hl : ∀ k, k < n → (F k).length = n) : ∀ x y, x < n → y < n → ∃ b off bx ox cx, a = some ⟨b, off, none⟩ ∧ b < w.heap.size ∧ bx < w.heap.size ∧ w.cell? ⟨b, off + x, none⟩ = some (.slice (some ⟨bx, ox, none⟩) n cx) ∧ w.cell? ⟨bx, ox + y, none⟩ = some (.int .i64 (at2 F x y)) := fun x y hx hy => by
  obtain ⟨b, off, a', c', rfl, hlt, hc, hi⟩ := h.rows x hx
  have hlx := hl x hx
  obtain ⟨bx, ox, rfl, _, hltx, hr⟩ := hi.pos (by omega)
  rw [hlx] at hc
  exact ⟨b, off, bx, ox, c', rfl, hlt, hltx, hc, hr y (by omega)⟩
set_option maxRecDepth 100000 in
set_option maxHeartbeats 2000000 in
theorem isCommutative_any (s : Value) (n : Nat) (F : Nat → List Int) (w : World) (h : SSB w s n F) (hl : ∀ k, k < n → (F k).length = n) :
    Calls Try.prog 51 #[s] w (RV (.bool (comB n F)) w) := by
  have hn := h.1
  obtain ⟨a, c, rfl⟩ := h.slice
  have HAT := Lib.hid (sq_at h hl)
  clear h hl
  go_enter Try.func51, Try.ntmps51
  obtain ⟨W0, rfl⟩ : ∃ W0, W0 = w := ⟨_, rfl⟩
  go_wp2_with fail
  go_loopw [7] (fun i wr => ∃ x : Nat, x ≤ n ∧ i = .int .i64 x ∧ Below W0.heap.size W0 wr ∧ ∀ u, u < x → ∀ y, y < u → at2 F u y = at2 F y u) (fun i _ => n - (intOf i).toNat)
  case atStart => exact ⟨0, Nat.zero_le _, rfl, Below.refl _ _, fun u hu => absurd hu (Nat.not_lt_zero u)⟩
  case round =>
    obtain ⟨x, hx, rfl, hB, hC⟩ := hrel
    have HB := Lib.hid hB
    have HC := Lib.hid hC
    have hz := hB.size
    clear hB hC
    by_cases hxl : x < n
    · obtain ⟨W1, rfl⟩ : ∃ W1, W1 = wr := ⟨_, rfl⟩
      go_wp2_with fail
      go_loopw [11] (fun i wr => ∃ y : Nat, y ≤ x ∧ i = .int .i64 y ∧ Below W0.heap.size W0 wr ∧ ∀ v, v < y → at2 F x v = at2 F v x) (fun i _ => x - (intOf i).toNat)
      case atStart => exact ⟨0, Nat.zero_le _, rfl, HB.out, fun u hu => absurd hu (Nat.not_lt_zero u)⟩
      case round =>
        obtain ⟨y, hy, rfl, hB, hD⟩ := hrel
        have HBy := Lib.hid hB
        have HD := Lib.hid hD
        have hzy := hB.size
        clear hB hD
        by_cases hyl : y < x
        · obtain ⟨b, off, bx, ox, cx, rfl, hlt, hltx, p1, p2⟩ := HAT.out x y hxl (by omega)
          obtain ⟨b0, off0, by', oy, cy, e0, _, hlty, p3, p4⟩ := HAT.out y x (by omega) hxl
          simp at e0
          obtain ⟨rfl, rfl⟩ := e0
          have q1 := (HBy.out.cell (p := ⟨b, off + x, none⟩) hlt).trans p1
          have q2 := (HBy.out.cell (p := ⟨bx, ox + y, none⟩) hltx).trans p2
          have q3 := (HBy.out.cell (p := ⟨b, off + y, none⟩) hlt).trans p3
          have q4 := (HBy.out.cell (p := ⟨by', oy + x, none⟩) hlty).trans p4
          obtain ⟨d1, hd1⟩ : ∃ d, d = at2 F x y := ⟨_, rfl⟩
          obtain ⟨d2, hd2⟩ : ∃ d, d = at2 F y x := ⟨_, rfl⟩
          rw [← hd1] at q2
          rw [← hd2] at q4
          have g0 : (0 : Int) ≤ (x : Int) := by omega
          have g1 : (x : Int) < (n : Int) := by omega
          have g2 : (0 : Int) ≤ (y : Int) := by omega
          have g3 : (y : Int) < (n : Int) := by omega
          clear p1 p2 p3 p4
          by_cases e : d1 = d2
          · have hne : (d1 != d2) = false := by simpa using e
            have HS := Lib.hid (show ∀ v, v < y + 1 → at2 F x v = at2 F v x from fun v hv => by
              rcases Nat.lt_or_ge v y with h1 | h1
              · exact HD.out v h1
              · obtain rfl : v = y := by omega
                rw [← hd1, ← hd2, e])
            clear e hd1 hd2
            go_wp2_with fail
            go_quiet (fail)
            go_wp2_with fail
            go_roundw
            case rel => exact ⟨y + 1, by omega, by go_num, below_drewN HBy.out _, HS.out⟩
            case measure => simp [intOf]; omega
          · have hne : (d1 != d2) = true := by simpa using e
            have HS := Lib.hid (comB_false (n := n) hxl (show y < n by omega) (by rw [← hd1, ← hd2]; exact e))
            clear e hd1 hd2
            go_wp2_with fail
            go_quiet (fail)
            go_wp2
            go_ret
            rw [HS.out]
            exact RV_of rfl (below_drewN HBy.out _)
        · have e : y = x := by omega
          subst e
          have HS := Lib.hid (show ∀ u, u < y + 1 → ∀ v, v < u → at2 F u v = at2 F v u from fun u hu => by
            rcases Nat.lt_or_ge u y with h1 | h1
            · exact HC.out u h1
            · obtain rfl : u = y := by omega
              exact HD.out)
          go_wp2_with fail
          go_roundw
          case rel => exact ⟨y + 1, by omega, by go_num, HBy.out, HS.out⟩
          case measure => simp [intOf]; omega
    · have e : x = n := by omega
      subst e
      have HS := Lib.hid (comB_of HC.out)
      go_wp2
      go_ret
      rw [HS.out]
      exact RV_of rfl HB.out
set_option maxRecDepth 100000 in
set_option maxHeartbeats 2000000 in
theorem hasDiagonal_any (s : Value) (n : Nat) (F : Nat → List Int) (per : Nat) (hp : 1 ≤ per) (hp2 : per ≤ 5) (w : World) (h : SSB w s n F) (hl : ∀ k, k < n → (F k).length = n) :
    Calls Try.prog 84 #[s, .int .i64 (per : Int)] w (RV (.bool (diaB n F per)) w) := by
  have hn := h.1
  obtain ⟨a, c, rfl⟩ := h.slice
  have HAT := Lib.hid (sq_at h hl)
  clear h hl
  have hp0 : ((per : Int) == 0) = false := by simp; omega
  go_enter Try.func84, Try.ntmps84
  obtain ⟨W0, rfl⟩ : ∃ W0, W0 = w := ⟨_, rfl⟩
  go_wp2_with fail
  go_loopw [8] (fun i wr => ∃ x : Nat, x ≤ n ∧ i = .int .i64 x ∧ Below W0.heap.size W0 wr ∧ ∀ u, u < x → at2 F u u = ((u % per : Nat) : Int)) (fun i _ => n - (intOf i).toNat)
  case atStart => exact ⟨0, Nat.zero_le _, rfl, Below.refl _ _, fun u hu => absurd hu (Nat.not_lt_zero u)⟩
  case round =>
    obtain ⟨x, hx, rfl, hB, hC⟩ := hrel
    have HB := Lib.hid hB
    have HC := Lib.hid hC
    have hz := hB.size
    clear hB hC
    by_cases hxl : x < n
    · obtain ⟨b, off, bx, ox, cx, rfl, hlt, hltx, p1, p2⟩ := HAT.out x x hxl hxl
      have q1 := (HB.out.cell (p := ⟨b, off + x, none⟩) hlt).trans p1
      have q2 := (HB.out.cell (p := ⟨bx, ox + x, none⟩) hltx).trans p2
      obtain ⟨d1, hd1⟩ : ∃ d, d = at2 F x x := ⟨_, rfl⟩
      obtain ⟨r, hr⟩ : ∃ r : Int, r = (x : Int) % (per : Int) := ⟨_, rfl⟩
      have hr2 : ((x % per : Nat) : Int) = r := by rw [hr]; simp
      rw [← hd1] at q2
      have g0 : (0 : Int) ≤ (x : Int) := by omega
      have g1 : (x : Int) < (n : Int) := by omega
      have htm : (x : Int).tmod (per : Int) = r := by rw [hr]; exact Int.tmod_eq_emod_of_nonneg g0
      have hr' := hr.symm
      have r0 : 0 ≤ r := by rw [hr]; exact Int.emod_nonneg _ (by omega)
      have r5 : r < 5 := by have := Int.emod_lt_of_pos (x : Int) (b := (per : Int)) (by omega); omega
      clear p1 p2 hr
      by_cases e : d1 = r
      · have hne : (d1 != r) = false := by simpa using e
        have HS := Lib.hid (show ∀ v, v < x + 1 → at2 F v v = ((v % per : Nat) : Int) from fun v hv => by
          rcases Nat.lt_or_ge v x with h1 | h1
          · exact HC.out v h1
          · obtain rfl : v = x := by omega
            rw [← hd1, hr2, e])
        clear e hd1 hr2
        go_wp2_with fail
        go_quiet (fail)
        go_wp2_with fail
        go_roundw
        case rel => exact ⟨x + 1, by omega, by go_num, below_drewN HB.out _, HS.out⟩
        case measure => simp [intOf]; omega
      · have hne : (d1 != r) = true := by simpa using e
        have HS := Lib.hid (diaB_false (n := n) (F := F) (per := per) hxl (by rw [← hd1, hr2]; exact e))
        clear e hd1 hr2
        go_wp2_with fail
        go_quiet (fail)
        go_wp2
        go_ret
        rw [HS.out]
        exact RV_of rfl (below_drewN HB.out _)
    · have e : x = n := by omega
      subst e
      have HS := Lib.hid (diaB_of HC.out)
      go_wp2
      go_ret
      rw [HS.out]
      exact RV_of rfl HB.out
set_option maxRecDepth 100000 in
theorem isIdempotent_any (s : Value) (n : Nat) (F : Nat → List Int) (w : World) (h2 : 2 ≤ n) (h5 : n ≤ 5) (h : SSB w s n F) (hl : ∀ k, k < n → (F k).length = n) :
    Calls Try.prog 52 #[s] w (RV (.bool (diaB n F n)) w) := by
  have HD := Lib.hid (hasDiagonal_any s n F n (by omega) h5 w h hl)
  obtain ⟨a, c, rfl⟩ := h.slice
  clear h hl
  go_enter Try.func52, Try.ntmps52
  go_wp2_with fail
  refine HD.out.mono ?_
  rintro e w1 ⟨rfl, hb⟩
  go_wp2
  go_ret
  exact RV_of rfl hb
def halfB (n : Nat) (F : Nat → List Int) : Bool := decide (n % 2 = 0) && diaB n F (n / 2)
set_option maxRecDepth 100000 in
theorem isHalfIdempotent_any (s : Value) (n : Nat) (F : Nat → List Int) (w : World) (h2 : 2 ≤ n) (h5 : n ≤ 5) (h : SSB w s n F) (hl : ∀ k, k < n → (F k).length = n) :
    Calls Try.prog 53 #[s] w (RV (.bool (halfB n F)) w) := by
  have HD := Lib.hid fun per (h1 : 1 ≤ per) (h5 : per ≤ 5) => hasDiagonal_any s n F per h1 h5 w h hl
  obtain ⟨a, c, rfl⟩ := h.slice
  clear h hl
  have hc : n = 2 ∨ n = 3 ∨ n = 4 ∨ n = 5 := by omega
  rcases hc with rfl | rfl | rfl | rfl
  · go_enter Try.func53, Try.ntmps53
    go_wp2_with fail
    refine (HD.out 1 (by decide) (by decide)).mono ?_
    rintro e w1 ⟨rfl, hb⟩
    go_wp2
    go_ret
    exact RV_of rfl hb
  · go_enter Try.func53, Try.ntmps53
    go_wp2
    go_ret
    exact RV_of rfl (Below.refl _ _)
  · go_enter Try.func53, Try.ntmps53
    go_wp2_with fail
    refine (HD.out 2 (by decide) (by decide)).mono ?_
    rintro e w1 ⟨rfl, hb⟩
    go_wp2
    go_ret
    exact RV_of rfl hb
  · go_enter Try.func53, Try.ntmps53
    go_wp2
    go_ret
    exact RV_of rfl (Below.refl _ _)
def bitI (b : Bool) : Int := if b = true then 1 else 0
theorem oneIf_any (b : Bool) (w : World) : Calls Try.prog 50 #[.bool b] w (RS (.int .i64 (bitI b)) w) := by
  cases b
  all_goals
    go_enter Try.func50, Try.ntmps50
    go_wp2
    go_ret
    exact RS_of rfl
def kindsL (n : Nat) (F : Nat → List Int) : List Int := [bitI (comB n F), bitI (diaB n F n), bitI (halfB n F)]
end Go.Proofs.Ytbpmjjdjfniblaa

namespace Go.Proofs.Ytbpmjjdjfniblaa
open Go.RowKit Go.Maps
theorem intKeyed : Keyed Try.prog 2 := int_keyed Try.underlying2
theorem int_key {a : Int} (ha : WF a) : ∃ kl, keyOf Try.prog 2 (.int .i64 a) = some kl := ⟨_, keyOf_int_mk Try.underlying2 ha⟩
def iv (a : Int) : Value := .int .i64 a
theorem iv_inj {a b : Int} (h : iv a = iv b) : a = b := by simpa [iv] using h
theorem take_snoc' {l : List Int} {k : Nat} (h : k < l.length) : l.take (k + 1) = l.take k ++ [l[k]?.getD 0] := by
  rw [List.take_succ_eq_append_getElem h]; simp [h]
set_option maxRecDepth 100000 in
theorem isRenumbering_any (v : Int) (s : Value) (p : List Int) (w : World) (h : IB w s p) (hwf : ∀ z ∈ p, WF z) :
    Calls Try.prog 81 #[.int .i64 v, s] w (RV (.bool (isRen v p)) w) := by
  obtain ⟨hlen, h3⟩ := h
  have hmm := @run_makeMap Try.prog
  have HPT := Lib.hid fun a W => isPointI_any v a W
  obtain ⟨a0, c0, hs⟩ : ∃ a c, s = .slice a p.length c := by rcases h3 with ⟨a, c, rfl, rfl⟩ | ⟨b, off, cap, rfl, _⟩ <;> exact ⟨_, _, rfl⟩
  by_cases hv : (p.length : Int) = v
  · subst hv
    have hval : isRen (p.length : Int) p = rnGo (p.length : Int) [] p := by simp [isRen]
    rw [hval]
    have HW := Lib.hid hwf
    rcases h3 with ⟨a, c, rfl, rfl⟩ | ⟨b, off, cap, rfl, hlt, hI⟩
    · clear hs hval hwf
      go_enter Try.func81, Try.ntmps81
      go_wp2
      refine wp_loop_rounds 1 ?_
      rw [rounds_succ]
      go_wp2
      go_ret
      exact RV_of rfl ((Below.refl _ _).alloc (Nat.le_refl _) _)
    · clear hs hval hwf
      have HI := Lib.hid hI
      clear hI
      go_enter Try.func81, Try.ntmps81
      go_wp2
      go_loopw [15] (fun i wr => ∃ k : Nat, k ≤ p.length ∧ i = .int .i64 k ∧ BoolSet wr Try.prog 2 4 w.heap.size k ((p.take k).map iv) ∧ Below w.heap.size w wr ∧ Hid (rnGo (p.length : Int) [] p = rnGo (p.length : Int) (p.take k) (p.drop k))) (fun i _ => p.length - (intOf i).toNat)
      case atStart => exact ⟨0, Nat.zero_le _, rfl, BoolSet.made _ _ _ _, (Below.refl _ _).alloc (Nat.le_refl _) _, Lib.hid (by simp)⟩
      case round =>
        obtain ⟨k, hk, rfl, hS, hB, HE⟩ := hrel
        have hsz := hB.size
        have hltB := hS.lt
        by_cases hkl : k < p.length
        · have c0 := (hB.cell (p := ⟨b, off + k, none⟩) hlt).trans (HI.out k hkl)
          have hmem : (p[k]?.getD 0) ∈ p := by rw [List.getElem?_eq_getElem hkl]; exact List.getElem_mem hkl
          have hts := take_snoc' hkl
          have hdr : p.drop k = (p[k]?.getD 0) :: p.drop (k + 1) := by rw [List.drop_eq_getElem_cons hkl]; simp [hkl]
          obtain ⟨z, hz⟩ : ∃ z, z = p[k]?.getD 0 := ⟨_, rfl⟩
          rw [← hz] at c0 hmem hts hdr
          rw [hdr] at HE
          obtain ⟨k1, hk1⟩ := int_key (HW.out z hmem)
          have HK1 := Lib.hid hk1
          have TS := Lib.hid hts
          have g0 : (0 : Int) ≤ (k : Int) := by omega
          have g1 : (k : Int) < (p.length : Int) := by omega
          clear hz hts hdr hk1 hmem
          have hput : ∀ w', BoolSet w' Try.prog 2 4 w.heap.size (k + 1) ((p.take k).map iv ++ [iv z]) → BoolSet w' Try.prog 2 4 w.heap.size (k + 1) ((p.take (k + 1)).map iv) := fun w' h => by rw [TS.out, List.map_append]; exact h
          have HPUT := Lib.hid hput
          have hmm : ∀ β : Bool, Hid (β = true ↔ iv z ∈ (p.take k).map iv) → (β = true ↔ z ∈ p.take k) := fun β h => h.out.trans ⟨fun h => by obtain ⟨q, hq, e⟩ := List.mem_map.1 h; rw [← iv_inj e]; exact hq, fun h => List.mem_map.2 ⟨z, h, rfl⟩⟩
          have HM := Lib.hid hmm
          clear hput hmm
          cases hin : inP (p.length : Int) z with
          | false =>
            have HIN := Lib.hid hin
            have hpt := HPT.out z
            rw [hin] at hpt
            have HP1 := Lib.hid hpt
            clear hin hpt
            go_wp2_with (go_at_call 111; refine (HP1.out _).mono ?_; rintro e w' ⟨rfl, rfl⟩)
            go_ret
            exact RV_of (bool_eq (by rw [HE.out, rnGo_bad HIN.out])) hB
          | true =>
            have HIN := Lib.hid hin
            have hpt := HPT.out z
            rw [hin] at hpt
            have HP1 := Lib.hid hpt
            clear hin hpt
            obtain ⟨β1, hrun, hβ1⟩ : ∃ β : Bool, (Instr.lookup 114 (.map (some w.heap.size)) (.int .i64 z) false).run Try.prog wr = .ok (.bool β) wr ∧ (β = true ↔ iv z ∈ (p.take k).map iv) := hS.look intKeyed Try.underlying114 Try.underlying4 (zeroBool _) HK1.out
            have hb1 := HM.out β1 (Lib.hid hβ1)
            by_cases hsn : z ∈ p.take k
            · have HSN := Lib.hid hsn
              obtain rfl : β1 = true := hb1.2 hsn
              clear hsn hb1 hβ1
              go_wp2_with (go_at_call 111; refine (HP1.out _).mono ?_; rintro e w' ⟨rfl, rfl⟩)
              go_ret
              exact RV_of (bool_eq (by rw [HE.out, rnGo_dup HSN.out])) hB
            · have HSN := Lib.hid hsn
              obtain rfl : β1 = false := Bool.eq_false_iff.2 (fun h => hsn (hb1.1 h))
              clear hsn hb1 hβ1
              go_wp2_with (first | (go_at_call 111; refine (HP1.out _).mono ?_; rintro e w' ⟨rfl, rfl⟩) | (at_mapUpdate; refine wpList_put_set _ rfl _ _ _ 114 rfl 2 4 intKeyed Try.underlying114 Try.underlying4 w.heap.size k ((p.take k).map iv) rfl hS (by unfold maxLen; omega) (iv z) k1 rfl rfl HK1.out ?_; intro w3 hS3 hg3))
              have hB3 := hB.grown hg3 hsz (fun j e => by cases e; exact Nat.le_refl _)
              go_roundw
              case rel => exact ⟨k + 1, by omega, by go_num, HPUT.out _ hS3, hB3, Lib.hid (by rw [HE.out, rnGo_next HIN.out HSN.out, TS.out])⟩
              case measure => simp [intOf]; omega
        · go_wp2
          go_ret
          exact RV_of (bool_eq (by rw [HE.out, List.drop_eq_nil_of_le (by omega), rnGo])) hB
  · have hval : isRen v p = false := by simp [isRen, hv]
    rw [hval]
    have hd : ((p.length : Int) != v) = true := by simpa using hv
    subst hs
    clear hval h3 hv hwf
    go_enter Try.func81, Try.ntmps81
    go_wp2
    go_ret
    exact RV_of rfl (Below.refl _ _)
end Go.Proofs.Ytbpmjjdjfniblaa

namespace Go.Proofs.Ytbpmjjdjfniblaa
open Go.RowKit Go.Maps
set_option maxRecDepth 100000 in
set_option maxHeartbeats 2000000 in
theorem columnOf_any (s : Value) (n : Nat) (F : Nat → List Int) (y : Nat) (w : World) (h : SSB w s n F) (hy : ∀ k, k < n → y < (F k).length) :
    Calls Try.prog 82 #[s, .int .i64 (y : Int)] w (fun e w' => ∃ u, e = .returned u ∧ OwnJ w' w.heap.size u (col n F y) ∧ Below w.heap.size w w') := by
  have hn := h.1
  obtain ⟨a, c, rfl⟩ := h.slice
  have HROW := Lib.hid h.rows
  have HY := Lib.hid hy
  clear h hy
  go_enter Try.func82, Try.ntmps82
  obtain ⟨W0, rfl⟩ : ∃ W0, W0 = w := ⟨_, rfl⟩
  go_wp2_with fail
  go_loopw [5, 10] (fun o i wr => ∃ k : Nat, k ≤ n ∧ i = .int .i64 k ∧ Below W0.heap.size W0 wr ∧ OwnJ wr W0.heap.size o (colK F y k) ∧ ∃ a n c, o = .slice a n c) (fun _ i _ => n - (intOf i).toNat)
  case atStart => exact ⟨0, Nat.zero_le _, rfl, Below.refl _ _, OwnJ.nil _ _, _, _, _, rfl⟩
  case round =>
    obtain ⟨k, hk, rfl, hB, hO, hform⟩ := hrel
    have hz := hB.size
    obtain ⟨a3, n3, c3, rfl⟩ := hform
    have HO := Lib.hid hO
    have HB := Lib.hid hB
    by_cases hkl : k < n
    · obtain ⟨b, off, a', c', rfl, hlt, hc, hi⟩ := HROW.out k hkl
      have q := (hB.cell (p := ⟨b, off + k, none⟩) hlt).trans hc
      have hyk := HY.out k hkl
      have hi' := hi.below hB (Nat.le_refl _)
      rcases hi'.2 with ⟨_, _, _, h0⟩ | ⟨b', off', cap', e', hlt', hr'⟩
      · rw [h0] at hyk; exact absurd hyk (Nat.not_lt_zero _)
      · simp at e'
        obtain ⟨rfl, rfl⟩ := e'
        have q2 := hr' y hyk
        have hS := colK_succ F y k
        have hl : (colK F y k).length ≤ k := Nat.le_of_eq (colK_len F y k)
        obtain ⟨z, hz'⟩ : ∃ z, z = (F k)[y]?.getD 0 := ⟨_, rfl⟩
        rw [← hz'] at q2 hS
        have HS := Lib.hid hS
        obtain ⟨m, hm⟩ : ∃ m, m = (F k).length := ⟨_, rfl⟩
        rw [← hm] at q hyk
        clear hB hO hc hi hi' hr' hS hz' hm
        have g0 : (0 : Int) ≤ (y : Int) := by omega
        have g1 : (y : Int) < (m : Int) := by omega
        go_wp2_with (at_builtin; refine wpList_append_int rfl _ _ rfl W0.heap.size _ (colK F y k) rfl (HO.out.below ((Below.refl _ _).alloc (Nat.le_refl _) _) (Nat.le_refl _)) _ _ z rfl (by simp [go_sem]) (by omega) (by simp; omega) ?_; intro g' cap' w4 hO4 hg4)
        have hrow := HO.out.row
        have hgo : wr.grownBy w4 (Value.slice a3 n3 c3).ownBlock := ⟨hg4.os, hg4.tape, hg4.output, by have := hg4.size; simp at this; omega, fun i hi hne => by
          rw [hg4.block i (by simp; omega) hne, Below.heap_alloc _ _ _ hi]⟩
        clear hg4
        go_roundw
        case rel => exact ⟨k + 1, by omega, by go_num, HB.out.grown hgo hz (fun j e => hrow j e), by rw [HS.out]; exact hO4, _, _, _, rfl⟩
        case measure => simp [intOf]; omega
    · go_wp2
      go_ret
      have e : k = n := by omega
      subst e
      exact ⟨_, rfl, HO.out, HB.out⟩
end Go.Proofs.Ytbpmjjdjfniblaa

namespace Go.Proofs.Ytbpmjjdjfniblaa
open Go.RowKit Go.Maps
/-- What a door of the program's recovers: a code. -/
def codeP (κ : Int) : PanicEntry := { v := .iface 88 (.int .i64 κ), recovered := false }
/-- The value, or the panic with a code; old memory stays. -/
def RP (good : Bool) (v : Value) (κ : Int) (w : World) (e : Ending) (w' : World) : Prop := (if good = true then e = .returned v else e = .panicked [codeP κ]) ∧ Below w.heap.size w w'
theorem RP_yes {good : Bool} {v : Value} {κ : Int} {w w' : World} (h : good = true) (hb : Below w.heap.size w w') : RP good v κ w (.returned v) w' := ⟨by rw [if_pos h], hb⟩
theorem RP_no {good : Bool} {v : Value} {κ : Int} {w w' : World} (h : good = false) (hb : Below w.heap.size w w') : RP good v κ w (.panicked [codeP κ]) w' := ⟨by rw [if_neg (by rw [h]; decide)], hb⟩
set_option maxRecDepth 100000 in
set_option maxHeartbeats 4000000 in
theorem checkedSquare_any (s : Value) (n : Nat) (F : Nat → List Int) (w : World) (h : SSB w s n F) (hwf : ∀ k, k < n → ∀ z ∈ F k, WF z) :
    Calls Try.prog 45 #[s] w (RP (sqB n F) s 2 w) := by
  have hn := h.1
  have HSS := Lib.hid h
  obtain ⟨a, c, rfl⟩ := h.slice
  have HROW := Lib.hid h.rows
  have HWF := Lib.hid hwf
  clear h hwf
  by_cases h2 : 2 ≤ n
  case neg =>
    have hg := Lib.hid (show sqB n F = false by simp [sqB, h2])
    have d1 : decide ((n : Int) < 2) = true := by simp; omega
    clear h2
    go_enter Try.func45, Try.ntmps45
    go_wp2
    exact ⟨rfl, RP_no hg.out (Below.refl _ _)⟩
  by_cases h5 : n ≤ 5
  case neg =>
    have hg := Lib.hid (show sqB n F = false by simp [sqB, h5])
    have d1 : decide ((n : Int) < 2) = false := by simp; omega
    have d2 : decide (5 < (n : Int)) = true := by simp; omega
    clear h2 h5
    go_enter Try.func45, Try.ntmps45
    go_wp2
    exact ⟨rfl, RP_no hg.out (Below.refl _ _)⟩
  have HG := Lib.hid (show sqB n F = (rowsOk n n F && colsOk n n F) by simp [sqB, h2, h5])
  have d1 : decide ((n : Int) < 2) = false := by simp; omega
  have d2 : decide (5 < (n : Int)) = false := by simp; omega
  go_enter Try.func45, Try.ntmps45
  obtain ⟨W0, rfl⟩ : ∃ W0, W0 = w := ⟨_, rfl⟩
  go_wp2_with fail
  go_loopw [18] (fun i wr => ∃ k : Nat, k ≤ n ∧ i = .int .i64 k ∧ Below W0.heap.size W0 wr ∧ rowsOk n k F = true) (fun i _ => n - (intOf i).toNat)
  case atStart => exact ⟨0, Nat.zero_le _, rfl, Below.refl _ _, rfl⟩
  case round =>
    obtain ⟨k, hk, rfl, hB, hok⟩ := hrel
    have HB := Lib.hid hB
    have HOK := Lib.hid hok
    have hz := hB.size
    clear hB hok
    by_cases hkl : k < n
    · obtain ⟨b, off, a', c', rfl, hlt, hc, hi⟩ := HROW.out k hkl
      have q := (HB.out.cell (p := ⟨b, off + k, none⟩) hlt).trans hc
      have HR := Lib.hid (isRenumbering_any (n : Int) _ (F k) wr (hi.below HB.out (Nat.le_refl _)) (HWF.out k hkl))
      clear hc hi
      cases hr : isRen (n : Int) (F k) with
      | true =>
        rw [hr] at HR
        have HS := Lib.hid (show rowsOk n (k + 1) F = true by rw [rowsOk_succ, HOK.out, hr]; rfl)
        clear hr
        go_wp2_with fail
        refine HR.out.mono ?_
        rintro e w2 ⟨rfl, hb2⟩
        have HB2 := Lib.hid (HB.out.trans (hb2.mono hz))
        clear hb2
        go_wp2_with fail
        go_roundw
        case rel => exact ⟨k + 1, by omega, by go_num, HB2.out, HS.out⟩
        case measure => simp [intOf]; omega
      | false =>
        rw [hr] at HR
        have HS := Lib.hid (show sqB n F = false by rw [HG.out, rowsOk_false hkl hr]; rfl)
        clear hr
        go_wp2_with fail
        refine HR.out.mono ?_
        rintro e w2 ⟨rfl, hb2⟩
        have HB2 := Lib.hid (HB.out.trans (hb2.mono hz))
        clear hb2
        go_wp2
        exact ⟨rfl, RP_no HS.out HB2.out⟩
    · have e : k = n := by omega
      subst e
      clear hkl hk
      go_wp2_with fail
      go_loopw [29] (fun i wr => ∃ y : Nat, y ≤ k ∧ i = .int .i64 y ∧ Below W0.heap.size W0 wr ∧ colsOk k y F = true) (fun i _ => k - (intOf i).toNat)
      case atStart => exact ⟨0, Nat.zero_le _, rfl, HB.out, rfl⟩
      case round =>
        obtain ⟨y, hy, rfl, hB1, hok1⟩ := hrel
        have HB1 := Lib.hid hB1
        have HOK1 := Lib.hid hok1
        have hz1 := hB1.size
        clear hB1 hok1
        by_cases hyl : y < k
        · have HC := Lib.hid (columnOf_any _ k F y _ (HSS.out.below HB1.out (Nat.le_refl _)) (fun j hj => by rw [isRen_len (rowsOk_at HOK.out hj)]; exact hyl))
          go_wp2_with fail
          refine HC.out.mono ?_
          rintro e w2 ⟨u2, rfl, ho2, hb2⟩
          have HB2 := Lib.hid (HB1.out.trans (hb2.mono hz1))
          have hwc : ∀ z ∈ col k F y, WF z := fun z hz => by
            obtain ⟨i, hi, rfl⟩ := List.mem_map.1 hz
            have hi := List.mem_range.1 hi
            have hl := isRen_len (rowsOk_at HOK.out hi)
            refine HWF.out i hi _ ?_
            rw [List.getElem?_eq_getElem (by omega), Option.getD_some]
            exact List.getElem_mem _
          have HR := Lib.hid (isRenumbering_any (k : Int) u2 (col k F y) w2 (ho2.ib (by rw [col_len]; omega)) hwc)
          have hz2 := HB2.out.size
          clear ho2 hb2 hwc HC
          cases hr : isRen (k : Int) (col k F y) with
          | true =>
            rw [hr] at HR
            have HS := Lib.hid (show colsOk k (y + 1) F = true by rw [colsOk_succ, HOK1.out, hr]; rfl)
            clear hr
            go_wp2_with fail
            refine HR.out.mono ?_
            rintro e w3 ⟨rfl, hb3⟩
            have HB3 := Lib.hid (HB2.out.trans (hb3.mono hz2))
            clear hb3
            go_wp2_with fail
            go_roundw
            case rel => exact ⟨y + 1, by omega, by go_num, HB3.out, HS.out⟩
            case measure => simp [intOf]; omega
          | false =>
            rw [hr] at HR
            have HS := Lib.hid (show sqB k F = false by rw [HG.out, colsOk_false hyl hr, Bool.and_false])
            clear hr
            go_wp2_with fail
            refine HR.out.mono ?_
            rintro e w3 ⟨rfl, hb3⟩
            have HB3 := Lib.hid (HB2.out.trans (hb3.mono hz2))
            clear hb3
            go_wp2
            exact ⟨rfl, RP_no HS.out HB3.out⟩
        · have e : y = k := by omega
          subst e
          have HS := Lib.hid (show sqB y F = true by rw [HG.out, HOK.out, HOK1.out]; rfl)
          go_wp2
          go_ret
          exact RP_yes HS.out HB1.out
end Go.Proofs.Ytbpmjjdjfniblaa

namespace Go.Proofs.Ytbpmjjdjfniblaa
open Go.RowKit Go.Maps
theorem assert_nil (w : World) : Sem.run Try.prog (Instr.typeAssert .nilIface 20 88 true) w = .ok (.tuple #[.int .i64 0, .bool false]) w := by kernel_rfl
theorem assert_code (κ : Int) (w : World) : Sem.run Try.prog (Instr.typeAssert (.iface 88 (.int .i64 κ)) 20 88 true) w = .ok (.tuple #[.int .i64 κ, .bool true]) w := by kernel_rfl
/-- The world in which the door calls its builder. -/
def doorW (w : World) (zero : Array Value) (T : TypeId) : World := (w.alloc (.cells zero T)).alloc (.cells #[.int .i64 1] 2)
end Go.Proofs.Ytbpmjjdjfniblaa

namespace Go.Proofs.Ytbpmjjdjfniblaa
open Go.RowKit Go.Maps
set_option maxRecDepth 100000 in
theorem catchK_idle (p : Addr) (w : World) :
    CallsD Try.prog 83 #[.pointer (some p)] .returning w fun e u' w' => e = .returned (.tuple #[]) ∧ u' = .returning ∧ w' = w := by
  refine callsD_of_wpS Try.func83 rfl fun c₀ cs hu => ?_
  apply wpS_seq
  apply wpS_region
  simp [wpOpsS, go_sem, recoverD, hu, Try.ntmps83, Exit.thenS, assert_nil]
  apply wpS_seq
  apply wpS_region
  simp [wpOpsS, go_sem, Exit.thenS]
  refine wpS_cond (t := false) (by simp [Act.eval, Array.replicate]) ?_
  simp only [Bool.false_eq_true, if_false]
  refine wpS_of_wp (wp_skip ?_)
  cases c₀
  simp_all [bodyPostS, results, Try.results83]
set_option maxRecDepth 100000 in
theorem catchK_code (p : Addr) (x κ : Int) (older : List PanicEntry) (w : World) (hc : w.cell? p = some (.int .i64 x)) (hz : w.frozen? p = false) :
    CallsD Try.prog 83 #[.pointer (some p)] (.panicking (codeP κ :: older)) w fun e u' w' =>
      e = .returned (.tuple #[]) ∧ u' = .panicking ({ v := .iface 88 (.int .i64 κ), recovered := true } :: older) ∧ w' = w.setCell p (.int .i64 κ) := by
  refine callsD_of_wpS Try.func83 rfl fun c₀ cs hu => ?_
  apply wpS_seq
  apply wpS_region
  simp [wpOpsS, go_sem, recoverD, hu, codeP, Try.ntmps83, Exit.thenS, assert_code]
  apply wpS_seq
  apply wpS_region
  simp [wpOpsS, go_sem, Exit.thenS]
  refine wpS_cond (t := true) (by simp [Act.eval, Array.replicate]) ?_
  simp only [if_true]
  apply wpS_region
  simp [wpOpsS, go_sem, hc, hz, bodyPostS, results, Try.results83]
set_option maxRecDepth 100000 in
set_option maxHeartbeats 2000000 in
theorem doorK_no (caps : Array Value) (κ : Int) (w : World) (hc : Calls Try.prog 49 caps (w.alloc (.cells #[.int .i64 1] 2)) (fun e w' => e = .panicked [codeP κ] ∧ Below (w.heap.size + 1) (w.alloc (.cells #[.int .i64 1] 2)) w')) :
    Calls Try.prog 48 #[.func (.func 49) #[] caps] w (fun e w' => e = .returned (.tuple #[.slice none 0 0, .int .i64 κ]) ∧ Below w.heap.size w w') := by
  have hmf : ∀ (fn : Fn) (first cap : Array Value) (w : World), (Instr.makeFunc fn first cap).run Try.prog w = .ok (.func fn first cap) w := fun _ _ _ _ => rfl
  go_enter_defers Try.func48, Try.ntmps48
  go_wp2_with fail
  refine hc.mono ?_
  rintro e w' ⟨rfl, hb⟩
  have hz := hb.size
  have c2 : w'.cell? ⟨w.heap.size, 0, none⟩ = some (.int .i64 1) := (hb.cell (p := ⟨w.heap.size, 0, none⟩) (by simp)).trans (by simp)
  have f2 : w'.frozen? ⟨w.heap.size, 0, none⟩ = false := (hb.frozen (p := ⟨w.heap.size, 0, none⟩) (by simp)).trans (by simp)
  have d2 : (w'.setCell ⟨w.heap.size, 0, none⟩ (.int .i64 κ)).cell? ⟨w.heap.size, 0, none⟩ = some (.int .i64 κ) := World.cell?_setCell_same' _ _ _ (by rw [c2]; rfl)
  have hB : Below w.heap.size w (w'.setCell ⟨w.heap.size, 0, none⟩ (.int .i64 κ)) := (((Below.refl _ _).alloc (Nat.le_refl _) _).trans (hb.mono (by omega))).setCell (p := ⟨w.heap.size, 0, none⟩) (by simp) _
  go_wp2_with fail
  refine leaves_cons (f := 83) (args := #[.pointer (some ⟨w.heap.size, 0, none⟩)]) (by simp) (by simp [go_sem]) ?_
  refine (catchK_code ⟨w.heap.size, 0, none⟩ 1 κ [] _ c2 f2).mono ?_
  rintro e u' w'' ⟨rfl, rfl, rfl⟩
  simp [Leaves, settle, results, Try.results48, go_sem, d2, hB]
set_option maxRecDepth 100000 in
set_option maxHeartbeats 2000000 in
theorem doorK_ok (caps : Array Value) (X : Value → World → Prop) (w : World) (hc : Calls Try.prog 49 caps (w.alloc (.cells #[.int .i64 1] 2)) (fun e w' => ∃ a n c, e = .returned (.slice a n c) ∧ Below (w.heap.size + 1) (w.alloc (.cells #[.int .i64 1] 2)) w' ∧ X (.slice a n c) w')) :
    Calls Try.prog 48 #[.func (.func 49) #[] caps] w (fun e w' => ∃ a n c, e = .returned (.tuple #[.slice a n c, .int .i64 0]) ∧ Below w.heap.size w w' ∧ ∃ w2, X (.slice a n c) w2 ∧ w.heap.size + 1 ≤ w2.heap.size ∧ w' = w2.setCell ⟨w.heap.size, 0, none⟩ (.int .i64 0)) := by
  have hmf : ∀ (fn : Fn) (first cap : Array Value) (w : World), (Instr.makeFunc fn first cap).run Try.prog w = .ok (.func fn first cap) w := fun _ _ _ _ => rfl
  go_enter_defers Try.func48, Try.ntmps48
  go_wp2_with fail
  refine hc.mono ?_
  rintro e w' ⟨a, n, c, rfl, hb, hx⟩
  have hz := hb.size
  simp at hz
  have c2 : w'.cell? ⟨w.heap.size, 0, none⟩ = some (.int .i64 1) := (hb.cell (p := ⟨w.heap.size, 0, none⟩) (by simp)).trans (by simp)
  have f2 : w'.frozen? ⟨w.heap.size, 0, none⟩ = false := (hb.frozen (p := ⟨w.heap.size, 0, none⟩) (by simp)).trans (by simp)
  have hB : Below w.heap.size w (w'.setCell ⟨w.heap.size, 0, none⟩ (.int .i64 0)) := (((Below.refl _ _).alloc (Nat.le_refl _) _).trans (hb.mono (by omega))).setCell (p := ⟨w.heap.size, 0, none⟩) (by simp) _
  go_wp2_with fail
  refine leaves_cons (f := 83) (args := #[.pointer (some ⟨w.heap.size, 0, none⟩)]) (by simp) (by simp [go_sem]) ?_
  refine (catchK_idle ⟨w.heap.size, 0, none⟩ _).mono ?_
  rintro e u' w'' ⟨rfl, rfl, rfl⟩
  have k2 : (w'.setCell ⟨w.heap.size, 0, none⟩ (.int .i64 0)).cell? ⟨w.heap.size, 0, none⟩ = some (.int .i64 0) := World.cell?_setCell_same' _ _ _ (by rw [c2]; rfl)
  simp [Leaves, settle, results, Try.results48, go_sem, k2]
  exact ⟨_, _, _, ⟨rfl, rfl, rfl⟩, hB, _, hx, by omega, rfl⟩
end Go.Proofs.Ytbpmjjdjfniblaa

namespace Go.Proofs.Ytbpmjjdjfniblaa
open Go.RowKit Go.Maps
theorem OwnJ.lit3 (W : World) (x y z : Int) {base : Nat} (hb : base ≤ W.heap.size) : OwnJ (W.alloc (.cells #[.int .i64 x, .int .i64 y, .int .i64 z] 2)) base (.slice (some ⟨W.heap.size, 0, none⟩) 3 3) [x, y, z] :=
  ⟨rfl, .inr ⟨W.heap.size, 3, #[.int .i64 x, .int .i64 y, .int .i64 z], rfl, hb, World.alloc_heap_new W _, Nat.le_refl _, by decide, rfl, rfl⟩⟩
theorem OwnJ.base {w : World} {b b' : Nat} {u : Value} {zs : List Int} (h : OwnJ w b u zs) (hb : b' ≤ b) : OwnJ w b' u zs := ⟨h.1, by
  rcases h.2 with h | ⟨g, cap, cur, e, hb', hr⟩
  · exact .inl h
  · exact .inr ⟨g, cap, cur, e, Nat.le_trans hb hb', hr⟩⟩
set_option maxRecDepth 100000 in
set_option maxHeartbeats 1000000 in
theorem SquareKindsB_any (B : Nat) (s : Value) (n : Nat) (F : Nat → List Int) (w : World) (hB : w.cell? ⟨B, 0, none⟩ = some s) (h : SSB w s n F) (hwf : ∀ k, k < n → ∀ z ∈ F k, WF z) :
    Calls Try.prog 49 #[.pointer (some ⟨B, 0, none⟩)] w (fun e w' => (if sqB n F = true then ∃ a m c, e = .returned (.slice a m c) ∧ OwnJ w' w.heap.size (.slice a m c) (kindsL n F) else e = .panicked [codeP 2]) ∧ Below w.heap.size w w') := by
  have HC := Lib.hid (checkedSquare_any s n F w h hwf)
  have HSS := Lib.hid h
  obtain ⟨a, c, rfl⟩ := h.slice
  have HONE := Lib.hid oneIf_any
  clear h hwf
  cases hg : sqB n F with
  | true =>
    have hsq : 2 ≤ n ∧ n ≤ 5 ∧ rowsOk n n F = true := by
      simp only [sqB, Bool.and_eq_true, decide_eq_true_eq] at hg
      exact ⟨hg.1.1.1, hg.1.1.2, hg.1.2⟩
    have hl : ∀ k, k < n → (F k).length = n := fun k hk => isRen_len (rowsOk_at hsq.2.2 hk)
    have H1 := Lib.hid fun W (hb : Below w.heap.size w W) => isCommutative_any _ n F W (HSS.out.below hb (Nat.le_refl _)) hl
    have H2 := Lib.hid fun W (hb : Below w.heap.size w W) => isIdempotent_any _ n F W hsq.1 hsq.2.1 (HSS.out.below hb (Nat.le_refl _)) hl
    have H3 := Lib.hid fun W (hb : Below w.heap.size w W) => isHalfIdempotent_any _ n F W hsq.1 hsq.2.1 (HSS.out.below hb (Nat.le_refl _)) hl
    rw [hg] at HC
    clear hsq hl hg
    go_enter Try.func49, Try.ntmps49
    go_wp2_with fail
    refine HC.out.mono ?_
    rintro e w1 ⟨he, hb1⟩
    simp only [if_true] at he
    subst he
    have hz1 := hb1.size
    go_wp2_with fail
    refine (H1.out _ hb1).mono ?_
    rintro e w2 ⟨rfl, hb2⟩
    have hB2 := hb1.trans (hb2.mono hz1)
    clear hb2 hb1
    have hz2 := hB2.size
    go_wp2_with fail
    refine (HONE.out _ _).mono ?_
    rintro e w3 ⟨rfl, rfl⟩
    go_wp2_with fail
    refine (H2.out _ hB2).mono ?_
    rintro e w3 ⟨rfl, hb3⟩
    have hB3 := hB2.trans (hb3.mono hz2)
    clear hb3 hB2
    have hz3 := hB3.size
    go_wp2_with fail
    refine (HONE.out _ _).mono ?_
    rintro e w4 ⟨rfl, rfl⟩
    go_wp2_with fail
    refine (H3.out _ hB3).mono ?_
    rintro e w4 ⟨rfl, hb4⟩
    have hB4 := hB3.trans (hb4.mono hz3)
    clear hb4 hB3
    have hz4 := hB4.size
    go_wp2_with fail
    refine (HONE.out _ _).mono ?_
    rintro e w5 ⟨rfl, rfl⟩
    go_wp2
    go_ret
    exact ⟨⟨_, _, _, rfl, OwnJ.lit3 _ _ _ _ hz4⟩, hB4.alloc hz4 _⟩
  | false =>
    rw [hg] at HC
    go_enter Try.func49, Try.ntmps49
    go_wp2_with fail
    refine HC.out.mono ?_
    rintro e w1 ⟨he, hb⟩
    simp only [Bool.false_eq_true, if_false] at he
    subst he
    go_wp2_with fail
    exact ⟨rfl, rfl, hb⟩
def kindsF (n : Nat) (F : Nat → List Int) : List Int × Int := if sqB n F = true then (kindsL n F, 0) else ([], 2)
set_option maxRecDepth 100000 in
set_option maxHeartbeats 1000000 in
theorem SquareKinds_any (s : Value) (n : Nat) (F : Nat → List Int) (w : World) (h : SSB w s n F) (hwf : ∀ k, k < n → ∀ z ∈ F k, WF z) :
    Calls Try.prog 17 #[s] w (RJ (kindsF n F) w) := by
  have hmf : ∀ (fn : Fn) (first cap : Array Value) (w : World), (Instr.makeFunc fn first cap).run Try.prog w = .ok (.func fn first cap) w := fun _ _ _ _ => rfl
  have hb0 : Below w.heap.size w ((w.alloc (.cells #[s] 22)).alloc (.cells #[.int .i64 1] 2)) := ((Below.refl _ _).alloc (Nat.le_refl _) _).alloc (by simp) _
  have hB := SquareKindsB_any w.heap.size s n F ((w.alloc (.cells #[s] 22)).alloc (.cells #[.int .i64 1] 2)) (by simp [go_sem]) (h.below hb0 (Nat.le_refl _)) hwf
  obtain ⟨a, c, rfl⟩ := h.slice
  clear h hwf
  unfold kindsF
  cases hg : sqB n F with
  | true =>
    rw [hg] at hB
    rw [if_pos rfl]
    have HD := Lib.hid (doorK_ok #[.pointer (some ⟨w.heap.size, 0, none⟩)] (fun u W => OwnJ W (w.heap.size + 2) u (kindsL n F)) (w.alloc (.cells #[.slice a n c] 22)) (hB.mono fun e w' ⟨he, hb⟩ => by
      rw [if_pos rfl] at he
      obtain ⟨a', m', c', rfl, ho⟩ := he
      exact ⟨a', m', c', rfl, by simpa using hb, by simpa using ho⟩))
    clear hB hb0
    go_enter Try.func17, Try.ntmps17
    go_wp2_with fail
    refine HD.out.mono ?_
    rintro e w1 ⟨a', m', c', rfl, hb1, w2, ho, hz2, rfl⟩
    have hb2 := below_new hb1
    clear hb1
    have hO : OwnJ (w2.setCell ⟨w.heap.size + 1, 0, none⟩ (.int .i64 0)) w.heap.size (.slice a' m' c') (kindsL n F) := (ho.kept (only_setCell (only_refl w2 (some (w.heap.size + 1))) rfl _) (fun r e => by simp at e; omega)).base (by omega)
    go_wp2
    exact bodyPost_ret (v := .tuple #[.slice a' m' c', .int .i64 0]) (by simp [results, Try.results17, go_sem, *]) rfl ⟨_, rfl, hO, by simpa using hb2⟩
  | false =>
    rw [hg] at hB
    rw [if_neg (by decide)]
    have HD := Lib.hid (doorK_no #[.pointer (some ⟨w.heap.size, 0, none⟩)] 2 (w.alloc (.cells #[.slice a n c] 22)) (hB.mono fun e w' ⟨he, hb⟩ => ⟨by simpa using he, by simpa using hb⟩))
    clear hB hb0
    go_enter Try.func17, Try.ntmps17
    go_wp2_with fail
    refine HD.out.mono ?_
    rintro e w1 ⟨rfl, hb1⟩
    have hb2 := below_new hb1
    clear hb1
    go_wp2
    exact bodyPost_ret (v := .tuple #[.slice none 0 0, .int .i64 2]) (by simp [results, Try.results17, go_sem, *]) rfl ⟨_, rfl, OwnJ.nil _ _, hb2⟩
end Go.Proofs.Ytbpmjjdjfniblaa

namespace Go.Proofs.Ytbpmjjdjfniblaa
open Go.RowKit Go.Maps
set_option maxRecDepth 100000 in
theorem catchQ_idle (p : Addr) (w : World) :
    CallsD Try.prog 80 #[.pointer (some p)] .returning w fun e u' w' => e = .returned (.tuple #[]) ∧ u' = .returning ∧ w' = w := by
  refine callsD_of_wpS Try.func80 rfl fun c₀ cs hu => ?_
  apply wpS_seq
  apply wpS_region
  simp [wpOpsS, go_sem, recoverD, hu, Try.ntmps80, Exit.thenS, assert_nil]
  apply wpS_seq
  apply wpS_region
  simp [wpOpsS, go_sem, Exit.thenS]
  refine wpS_cond (t := false) (by simp [Act.eval, Array.replicate]) ?_
  simp only [Bool.false_eq_true, if_false]
  refine wpS_of_wp (wp_skip ?_)
  cases c₀
  simp_all [bodyPostS, results, Try.results80]
set_option maxRecDepth 100000 in
theorem catchQ_code (p : Addr) (x κ : Int) (older : List PanicEntry) (w : World) (hc : w.cell? p = some (.int .i64 x)) (hz : w.frozen? p = false) :
    CallsD Try.prog 80 #[.pointer (some p)] (.panicking (codeP κ :: older)) w fun e u' w' =>
      e = .returned (.tuple #[]) ∧ u' = .panicking ({ v := .iface 88 (.int .i64 κ), recovered := true } :: older) ∧ w' = w.setCell p (.int .i64 κ) := by
  refine callsD_of_wpS Try.func80 rfl fun c₀ cs hu => ?_
  apply wpS_seq
  apply wpS_region
  simp [wpOpsS, go_sem, recoverD, hu, codeP, Try.ntmps80, Exit.thenS, assert_code]
  apply wpS_seq
  apply wpS_region
  simp [wpOpsS, go_sem, Exit.thenS]
  refine wpS_cond (t := true) (by simp [Act.eval, Array.replicate]) ?_
  simp only [if_true]
  apply wpS_region
  simp [wpOpsS, go_sem, hc, hz, bodyPostS, results, Try.results80]
set_option maxRecDepth 100000 in
set_option maxHeartbeats 2000000 in
theorem doorQ_no (caps : Array Value) (κ : Int) (w : World) (hc : Calls Try.prog 44 caps (w.alloc (.cells #[.int .i64 1] 2)) (fun e w' => e = .panicked [codeP κ] ∧ Below (w.heap.size + 1) (w.alloc (.cells #[.int .i64 1] 2)) w')) :
    Calls Try.prog 43 #[.func (.func 44) #[] caps] w (fun e w' => e = .returned (.tuple #[.slice none 0 0, .int .i64 κ]) ∧ Below w.heap.size w w') := by
  have hmf : ∀ (fn : Fn) (first cap : Array Value) (w : World), (Instr.makeFunc fn first cap).run Try.prog w = .ok (.func fn first cap) w := fun _ _ _ _ => rfl
  go_enter_defers Try.func43, Try.ntmps43
  go_wp2_with fail
  refine hc.mono ?_
  rintro e w' ⟨rfl, hb⟩
  have hz := hb.size
  have c2 : w'.cell? ⟨w.heap.size, 0, none⟩ = some (.int .i64 1) := (hb.cell (p := ⟨w.heap.size, 0, none⟩) (by simp)).trans (by simp)
  have f2 : w'.frozen? ⟨w.heap.size, 0, none⟩ = false := (hb.frozen (p := ⟨w.heap.size, 0, none⟩) (by simp)).trans (by simp)
  have d2 : (w'.setCell ⟨w.heap.size, 0, none⟩ (.int .i64 κ)).cell? ⟨w.heap.size, 0, none⟩ = some (.int .i64 κ) := World.cell?_setCell_same' _ _ _ (by rw [c2]; rfl)
  have hB : Below w.heap.size w (w'.setCell ⟨w.heap.size, 0, none⟩ (.int .i64 κ)) := (((Below.refl _ _).alloc (Nat.le_refl _) _).trans (hb.mono (by omega))).setCell (p := ⟨w.heap.size, 0, none⟩) (by simp) _
  go_wp2_with fail
  refine leaves_cons (f := 80) (args := #[.pointer (some ⟨w.heap.size, 0, none⟩)]) (by simp) (by simp [go_sem]) ?_
  refine (catchQ_code ⟨w.heap.size, 0, none⟩ 1 κ [] _ c2 f2).mono ?_
  rintro e u' w'' ⟨rfl, rfl, rfl⟩
  simp [Leaves, settle, results, Try.results43, go_sem, d2, hB]
set_option maxRecDepth 100000 in
set_option maxHeartbeats 2000000 in
theorem doorQ_ok (caps : Array Value) (X : Value → World → Prop) (w : World) (hc : Calls Try.prog 44 caps (w.alloc (.cells #[.int .i64 1] 2)) (fun e w' => ∃ a n c, e = .returned (.slice a n c) ∧ Below (w.heap.size + 1) (w.alloc (.cells #[.int .i64 1] 2)) w' ∧ X (.slice a n c) w')) :
    Calls Try.prog 43 #[.func (.func 44) #[] caps] w (fun e w' => ∃ a n c, e = .returned (.tuple #[.slice a n c, .int .i64 0]) ∧ Below w.heap.size w w' ∧ ∃ w2, X (.slice a n c) w2 ∧ w.heap.size + 1 ≤ w2.heap.size ∧ w' = w2.setCell ⟨w.heap.size, 0, none⟩ (.int .i64 0)) := by
  have hmf : ∀ (fn : Fn) (first cap : Array Value) (w : World), (Instr.makeFunc fn first cap).run Try.prog w = .ok (.func fn first cap) w := fun _ _ _ _ => rfl
  go_enter_defers Try.func43, Try.ntmps43
  go_wp2_with fail
  refine hc.mono ?_
  rintro e w' ⟨a, n, c, rfl, hb, hx⟩
  have hz := hb.size
  simp at hz
  have c2 : w'.cell? ⟨w.heap.size, 0, none⟩ = some (.int .i64 1) := (hb.cell (p := ⟨w.heap.size, 0, none⟩) (by simp)).trans (by simp)
  have f2 : w'.frozen? ⟨w.heap.size, 0, none⟩ = false := (hb.frozen (p := ⟨w.heap.size, 0, none⟩) (by simp)).trans (by simp)
  have hB : Below w.heap.size w (w'.setCell ⟨w.heap.size, 0, none⟩ (.int .i64 0)) := (((Below.refl _ _).alloc (Nat.le_refl _) _).trans (hb.mono (by omega))).setCell (p := ⟨w.heap.size, 0, none⟩) (by simp) _
  go_wp2_with fail
  refine leaves_cons (f := 80) (args := #[.pointer (some ⟨w.heap.size, 0, none⟩)]) (by simp) (by simp [go_sem]) ?_
  refine (catchQ_idle ⟨w.heap.size, 0, none⟩ _).mono ?_
  rintro e u' w'' ⟨rfl, rfl, rfl⟩
  have k2 : (w'.setCell ⟨w.heap.size, 0, none⟩ (.int .i64 0)).cell? ⟨w.heap.size, 0, none⟩ = some (.int .i64 0) := World.cell?_setCell_same' _ _ _ (by rw [c2]; rfl)
  simp [Leaves, settle, results, Try.results43, go_sem, k2]
  exact ⟨_, _, _, ⟨rfl, rfl, rfl⟩, hB, _, hx, by omega, rfl⟩
end Go.Proofs.Ytbpmjjdjfniblaa

namespace Go.Proofs.Ytbpmjjdjfniblaa
open Go.RowKit Go.Maps
set_option maxRecDepth 100000 in
theorem IsSquareB_any (B : Nat) (s : Value) (n : Nat) (F : Nat → List Int) (w : World) (hB : w.cell? ⟨B, 0, none⟩ = some s) (h : SSB w s n F) (hwf : ∀ k, k < n → ∀ z ∈ F k, WF z) :
    Calls Try.prog 44 #[.pointer (some ⟨B, 0, none⟩)] w (RP (sqB n F) s 2 w) := by
  have HC := Lib.hid (checkedSquare_any s n F w h hwf)
  obtain ⟨a, c, rfl⟩ := h.slice
  clear h hwf
  cases hg : sqB n F with
  | true =>
    rw [hg] at HC
    go_enter Try.func44, Try.ntmps44
    go_wp2_with fail
    refine HC.out.mono ?_
    rintro e w1 ⟨he, hb⟩
    simp only [if_true] at he
    subst he
    go_wp2
    go_ret
    exact RP_yes rfl hb
  | false =>
    rw [hg] at HC
    go_enter Try.func44, Try.ntmps44
    go_wp2_with fail
    refine HC.out.mono ?_
    rintro e w1 ⟨he, hb⟩
    simp only [Bool.false_eq_true, if_false] at he
    subst he
    go_wp2_with fail
    exact ⟨rfl, RP_no rfl hb⟩
set_option maxRecDepth 100000 in
set_option maxHeartbeats 1000000 in
theorem IsSquare_any (s : Value) (n : Nat) (F : Nat → List Int) (w : World) (h : SSB w s n F) (hwf : ∀ k, k < n → ∀ z ∈ F k, WF z) :
    Calls Try.prog 14 #[s] w (RV (.bool (sqB n F)) w) := by
  have hmf : ∀ (fn : Fn) (first cap : Array Value) (w : World), (Instr.makeFunc fn first cap).run Try.prog w = .ok (.func fn first cap) w := fun _ _ _ _ => rfl
  have hb0 : Below w.heap.size w ((w.alloc (.cells #[s] 22)).alloc (.cells #[.int .i64 1] 2)) := ((Below.refl _ _).alloc (Nat.le_refl _) _).alloc (by simp) _
  have hB := IsSquareB_any w.heap.size s n F ((w.alloc (.cells #[s] 22)).alloc (.cells #[.int .i64 1] 2)) (by simp [go_sem]) (h.below hb0 (Nat.le_refl _)) hwf
  obtain ⟨a, c, rfl⟩ := h.slice
  clear h hwf
  cases hg : sqB n F with
  | true =>
    rw [hg] at hB
    have HD := Lib.hid (doorQ_ok #[.pointer (some ⟨w.heap.size, 0, none⟩)] (fun _ _ => True) (w.alloc (.cells #[.slice a n c] 22)) (hB.mono fun e w' ⟨he, hb⟩ => ⟨a, n, c, by simpa using he, by simpa using hb, trivial⟩))
    clear hB hb0
    go_enter Try.func14, Try.ntmps14
    go_wp2_with fail
    refine HD.out.mono ?_
    rintro e w1 ⟨_, _, _, rfl, hb1, _⟩
    have hb2 := below_new hb1
    clear hb1
    go_wp2
    go_ret
    exact RV_of rfl hb2
  | false =>
    rw [hg] at hB
    have HD := Lib.hid (doorQ_no #[.pointer (some ⟨w.heap.size, 0, none⟩)] 2 (w.alloc (.cells #[.slice a n c] 22)) (hB.mono fun e w' ⟨he, hb⟩ => ⟨by simpa using he, by simpa using hb⟩))
    clear hB hb0
    go_enter Try.func14, Try.ntmps14
    go_wp2_with fail
    refine HD.out.mono ?_
    rintro e w1 ⟨rfl, hb1⟩
    have hb2 := below_new hb1
    clear hb1
    go_wp2
    go_ret
    exact RV_of rfl hb2
set_option maxRecDepth 100000 in
theorem specIsSquare_any (s : Value) (n : Nat) (F : Nat → List Int) (w : World) (h : SSB w s n F) :
    Calls Try.prog 12 #[s] w (RV (.bool (sqB n F)) w) := by
  have HC := Lib.hid (l02Square_any s n F w h)
  obtain ⟨a, c, rfl⟩ := h.slice
  clear h
  go_enter Try.func12, Try.ntmps12
  go_wp2_with fail
  refine HC.out.mono ?_
  rintro e w1 ⟨rfl, hb⟩
  go_wp2
  go_ret
  exact RV_of rfl hb
end Go.Proofs.Ytbpmjjdjfniblaa

namespace Go.Proofs.Ytbpmjjdjfniblaa
open Go.RowKit Go.Maps
def comR (n : Nat) (F : Nat → List Int) (x : Nat) : Bool := (List.range x).all fun u => (List.range n).all fun v => decide (at2 F u v = at2 F v u)
def comC (F : Nat → List Int) (x y : Nat) : Bool := (List.range y).all fun v => decide (at2 F x v = at2 F v x)
def diaR (F : Nat → List Int) (per x : Nat) : Bool := (List.range x).all fun u => decide (at2 F u u = ((u % per : Nat) : Int))
theorem comR_succ (n : Nat) (F : Nat → List Int) (x : Nat) : comR n F (x + 1) = (comR n F x && comC F x n) := by
  simp [comR, comC, List.range_succ, List.all_append]
theorem comC_succ (F : Nat → List Int) (x y : Nat) : comC F x (y + 1) = (comC F x y && decide (at2 F x y = at2 F y x)) := by
  simp [comC, List.range_succ, List.all_append]
theorem diaR_succ (F : Nat → List Int) (per x : Nat) : diaR F per (x + 1) = (diaR F per x && decide (at2 F x x = ((x % per : Nat) : Int))) := by
  simp [diaR, List.range_succ, List.all_append]
theorem l02Bit_any' (b : Bool) (w : World) : Calls Try.prog 47 #[.bool b] w (RS (.int .i64 (bitI b)) w) := by
  cases b
  all_goals
    go_enter Try.func47, Try.ntmps47
    go_wp2
    go_ret
    exact RS_of rfl
set_option maxRecDepth 100000 in
set_option maxHeartbeats 8000000 in
theorem l02Kinds_any (s : Value) (n : Nat) (F : Nat → List Int) (w : World) (h2 : 2 ≤ n) (h5 : n ≤ 5) (h : SSB w s n F) (hl : ∀ k, k < n → (F k).length = n) :
    Calls Try.prog 46 #[s] w (RV (.tuple #[.bool (comB n F), .bool (diaB n F n), .bool (halfB n F)]) w) := by
  obtain ⟨a, c, rfl⟩ := h.slice
  have HAT := Lib.hid (sq_at h hl)
  clear h hl
  obtain ⟨m, hm⟩ : ∃ m, m = n / 2 := ⟨_, rfl⟩
  have hm1 : 1 ≤ m := by omega
  have hm2 : m ≤ 2 := by omega
  have htd : (n : Int).tdiv 2 = (m : Int) := by rw [Int.tdiv_eq_ediv_of_nonneg (by omega), hm]; omega
  have hm0 : ((m : Int) == 0) = false := by simp; omega
  obtain ⟨r2, hr2⟩ : ∃ r : Int, r = (n : Int).tmod 2 := ⟨_, rfl⟩
  have hrv : r2 = ((n % 2 : Nat) : Int) := by rw [hr2, Int.tmod_eq_emod_of_nonneg (by omega)]; omega
  have hr2' := hr2.symm
  obtain ⟨β, hβ⟩ : ∃ β : Bool, β = decide (n % 2 = 0) := ⟨_, rfl⟩
  have hb0 : (r2 == 0) = β := by rw [hβ, Bool.eq_iff_iff]; simp; omega
  have HH := Lib.hid (show halfB n F = (β && diaR F m n) by rw [hβ, hm]; rfl)
  have hr0 : 0 ≤ r2 := by omega
  have hr1 : r2 ≤ 1 := by omega
  clear hr2 hrv hβ hm
  go_enter Try.func46, Try.ntmps46
  obtain ⟨W0, rfl⟩ : ∃ W0, W0 = w := ⟨_, rfl⟩
  go_wp2_with fail
  go_loopw [6, 7, 8, 9] (fun p q r i wr => ∃ x : Nat, x ≤ n ∧ i = .int .i64 x ∧ Below W0.heap.size W0 wr ∧ p = .bool (comR n F x) ∧ q = .bool (diaR F n x) ∧ r = .bool (β && diaR F m x)) (fun _ _ _ i _ => n - (intOf i).toNat)
  case atStart => exact ⟨0, Nat.zero_le _, rfl, Below.refl _ _, rfl, rfl, by simp [diaR]⟩
  case round =>
    obtain ⟨x, hx, rfl, hB, rfl, rfl, rfl⟩ := hrel
    have HB := Lib.hid hB
    have hz := hB.size
    clear hB
    obtain ⟨p, hp⟩ : ∃ p, p = comR n F x := ⟨_, rfl⟩
    obtain ⟨q, hq⟩ : ∃ q, q = diaR F n x := ⟨_, rfl⟩
    obtain ⟨r, hr⟩ : ∃ r, r = (β && diaR F m x) := ⟨_, rfl⟩
    rw [← hp, ← hq, ← hr]
    by_cases hxl : x < n
    · obtain ⟨W1, rfl⟩ : ∃ W1, W1 = wr := ⟨_, rfl⟩
      go_wp2_with fail
      go_loopw [6, 10] (fun t i wr => ∃ y : Nat, y ≤ n ∧ i = .int .i64 y ∧ Below W0.heap.size W0 wr ∧ t = .bool (p && comC F x y)) (fun _ i _ => n - (intOf i).toNat)
      case atStart => exact ⟨0, Nat.zero_le _, rfl, HB.out, by simp [comC]⟩
      case round =>
        obtain ⟨y, hy, rfl, hB, rfl⟩ := hrel
        have HBy := Lib.hid hB
        have hzy := hB.size
        clear hB
        obtain ⟨t, ht⟩ : ∃ t, t = (p && comC F x y) := ⟨_, rfl⟩
        rw [← ht]
        by_cases hyl : y < n
        · obtain ⟨b, off, bx, ox, cx, rfl, hlt, hltx, p1, p2⟩ := HAT.out x y hxl hyl
          obtain ⟨b0, off0, by', oy, cy, e0, _, hlty, p3, p4⟩ := HAT.out y x hyl hxl
          simp at e0
          obtain ⟨rfl, rfl⟩ := e0
          have q1 := (HBy.out.cell (p := ⟨b, off + x, none⟩) hlt).trans p1
          have q2 := (HBy.out.cell (p := ⟨bx, ox + y, none⟩) hltx).trans p2
          have q3 := (HBy.out.cell (p := ⟨b, off + y, none⟩) hlt).trans p3
          have q4 := (HBy.out.cell (p := ⟨by', oy + x, none⟩) hlty).trans p4
          have hS := comC_succ F x y
          obtain ⟨d1, hd1⟩ : ∃ d, d = at2 F x y := ⟨_, rfl⟩
          obtain ⟨d2, hd2⟩ : ∃ d, d = at2 F y x := ⟨_, rfl⟩
          rw [← hd1] at q2
          rw [← hd2] at q4
          rw [← hd1, ← hd2] at hS
          have HS := Lib.hid (show (p && comC F x (y + 1)) = (t && decide (d1 = d2)) by rw [hS, ht, Bool.and_assoc])
          have g0 : (0 : Int) ≤ (x : Int) := by omega
          have g1 : (x : Int) < (n : Int) := by omega
          have g2 : (0 : Int) ≤ (y : Int) := by omega
          have g3 : (y : Int) < (n : Int) := by omega
          clear p1 p2 p3 p4 hS hd1 hd2 ht hp hq hr
          cases t with
          | false =>
            go_wp2_with fail
            go_quiet (fail)
            go_wp2_with fail
            go_roundw
            case rel => exact ⟨y + 1, by omega, by go_num, below_drewN HBy.out _, by rw [HS.out]; rfl⟩
            case measure => simp [intOf]; omega
          | true =>
            obtain ⟨ε, hε⟩ : ∃ ε : Bool, ε = decide (d1 = d2) := ⟨_, rfl⟩
            have heq : (d1 == d2) = ε := by rw [hε]; rfl
            rw [← hε] at HS
            clear hε
            go_wp2_with fail
            go_quiet (fail)
            go_wp2_with fail
            go_roundw
            case rel => exact ⟨y + 1, by omega, by go_num, below_drewN HBy.out _, by rw [HS.out]; rfl⟩
            case measure => simp [intOf]; omega
        · have e : y = n := by omega
          subst e
          clear hyl hy
          obtain ⟨b, off, bx, ox, cx, rfl, hlt, hltx, p1, p2⟩ := HAT.out x x hxl hxl
          have q1 := (HBy.out.cell (p := ⟨b, off + x, none⟩) hlt).trans p1
          have q2 := (HBy.out.cell (p := ⟨bx, ox + x, none⟩) hltx).trans p2
          have hS1 := diaR_succ F y x
          have hS2 := diaR_succ F m x
          have hS3 := comR_succ y F x
          obtain ⟨d1, hd1⟩ : ∃ d, d = at2 F x x := ⟨_, rfl⟩
          rw [← hd1] at q2 hS1 hS2
          rw [Nat.mod_eq_of_lt hxl] at hS1
          obtain ⟨ρ, hρ⟩ : ∃ ρ : Int, ρ = (x : Int) % (m : Int) := ⟨_, rfl⟩
          have hρ2 : ((x % m : Nat) : Int) = ρ := by rw [hρ]; simp
          rw [hρ2] at hS2
          have g0 : (0 : Int) ≤ (x : Int) := by omega
          have g1 : (x : Int) < (y : Int) := by omega
          have htm : (x : Int).tmod (m : Int) = ρ := by rw [hρ]; exact Int.tmod_eq_emod_of_nonneg g0
          have hρ' := hρ.symm
          have r0 : 0 ≤ ρ := by rw [hρ]; exact Int.emod_nonneg _ (by omega)
          have r5 : ρ < 5 := by have := Int.emod_lt_of_pos (x : Int) (b := (m : Int)) (by omega); omega
          obtain ⟨ε1, hε1⟩ : ∃ ε : Bool, ε = decide (d1 = (x : Int)) := ⟨_, rfl⟩
          have heq1 : (d1 == (x : Int)) = ε1 := by rw [hε1]; rfl
          obtain ⟨ε2, hε2⟩ : ∃ ε : Bool, ε = decide (d1 = ρ) := ⟨_, rfl⟩
          have heq2 : (d1 == ρ) = ε2 := by rw [hε2]; rfl
          rw [← hε1, ← hq] at hS1
          rw [← hε2] at hS2
          rw [← hp, ← ht] at hS3
          have HS1 := Lib.hid hS1
          have HS2 := Lib.hid (show (β && diaR F m (x + 1)) = (r && ε2) by rw [hS2, hr, Bool.and_assoc])
          have HS3 := Lib.hid hS3
          clear p1 p2 hS1 hS2 hS3 hρ hρ2 hε1 hε2 hd1 hp hq hr ht
          cases q
          all_goals cases r
          all_goals
            go_wp2_with fail
            go_quiet (fail)
            go_wp2_with fail
            go_roundw
            case rel => exact ⟨x + 1, by omega, by go_num, below_drewN HBy.out _, by rw [HS3.out], by rw [HS1.out]; rfl, by rw [HS2.out]; rfl⟩
            case measure => simp [intOf]; omega
    · have e : x = n := by omega
      subst e
      go_wp2
      exact bodyPost_ret (v := .tuple #[.bool p, .bool q, .bool r]) (by simp [results, Try.results46, go_sem, *]) rfl (RV_of (by rw [hp, hq, hr, HH.out]; rfl) HB.out)
set_option maxRecDepth 100000 in
set_option maxHeartbeats 1000000 in
theorem specSquareKinds_any (s : Value) (n : Nat) (F : Nat → List Int) (w : World) (h : SSB w s n F) :
    Calls Try.prog 16 #[s] w (RJ (kindsF n F) w) := by
  have HQ := Lib.hid (l02Square_any s n F w h)
  have HSS := Lib.hid h
  have HONE := Lib.hid l02Bit_any'
  obtain ⟨a, c, rfl⟩ := h.slice
  clear h
  unfold kindsF
  cases hg : sqB n F with
  | true =>
    have hsq : 2 ≤ n ∧ n ≤ 5 ∧ rowsOk n n F = true := by
      simp only [sqB, Bool.and_eq_true, decide_eq_true_eq] at hg
      exact ⟨hg.1.1.1, hg.1.1.2, hg.1.2⟩
    have hl : ∀ k, k < n → (F k).length = n := fun k hk => isRen_len (rowsOk_at hsq.2.2 hk)
    have HK := Lib.hid fun W (hb : Below w.heap.size w W) => l02Kinds_any _ n F W hsq.1 hsq.2.1 (HSS.out.below hb (Nat.le_refl _)) hl
    rw [hg] at HQ
    rw [if_pos rfl]
    clear hsq hl hg
    go_enter Try.func16, Try.ntmps16
    go_wp2_with fail
    refine HQ.out.mono ?_
    rintro e w1 ⟨rfl, hb1⟩
    have hz1 := hb1.size
    go_wp2_with fail
    refine (HK.out _ hb1).mono ?_
    rintro e w2 ⟨rfl, hb2⟩
    have hB2 := hb1.trans (hb2.mono hz1)
    have hz2 := hB2.size
    clear hb1 hb2
    go_wp2_with fail
    refine (HONE.out _ _).mono ?_
    rintro e w3 ⟨rfl, rfl⟩
    go_wp2_with fail
    refine (HONE.out _ _).mono ?_
    rintro e w3 ⟨rfl, rfl⟩
    go_wp2_with fail
    refine (HONE.out _ _).mono ?_
    rintro e w3 ⟨rfl, rfl⟩
    go_wp2
    exact bodyPost_ret (v := .tuple #[.slice (some ⟨_, 0, none⟩) 3 3, .int .i64 0]) (by simp [results, Try.results16, go_sem, *]) rfl ⟨_, rfl, OwnJ.lit3 _ _ _ _ hz2, hB2.alloc hz2 _⟩
  | false =>
    rw [hg] at HQ
    rw [if_neg (by decide)]
    go_enter Try.func16, Try.ntmps16
    go_wp2_with fail
    refine HQ.out.mono ?_
    rintro e w1 ⟨rfl, hb1⟩
    go_wp2
    exact bodyPost_ret (v := .tuple #[.slice none 0 0, .int .i64 2]) (by simp [results, Try.results16, go_sem, *]) rfl ⟨_, rfl, OwnJ.nil _ _, hb1⟩
theorem kindsF_len (n : Nat) (F : Nat → List Int) : (kindsF n F).1.length ≤ 3 := by
  unfold kindsF
  split
  · exact Nat.le_refl _
  · simp
end Go.Proofs.Ytbpmjjdjfniblaa

namespace Go.Proofs.Ytbpmjjdjfniblaa
open Go.RowKit Go.Maps
theorem gb_trans {a b c : World} {row : Option Nat} (h : a.grownBy b none) (k : b.grownBy c row) : a.grownBy c row :=
  ⟨k.os.trans h.os, k.tape.trans h.tape, k.output.trans h.output, Nat.le_trans h.size k.size, fun i hi hne => (k.block i (Nat.lt_of_lt_of_le hi h.size) hne).trans (h.block i hi (by simp))⟩
theorem gb_below {a b : World} (h : Below a.heap.size a b) : a.grownBy b none := only_of_below h none
theorem ResR.slice {w : World} {lo hi : Nat} {s : Value} {bs : List Blk} (h : ResR w lo hi s bs) : ∃ a c, s = .slice a bs.length c := by
  rcases h with ⟨rfl, a, c, rfl⟩ | ⟨g, cap, rfl, _⟩ <;> exact ⟨_, _, rfl⟩
set_option maxRecDepth 100000 in
theorem markSystem_any (lo hi : Nat) (v : Int) (s : Value) (bs : List Blk) (k : Int) (w : World) (h : ResR w lo hi s bs) (hl : bs.length ≤ 1100000) (h0 : 0 ≤ k) (h1 : k ≤ 9000000) :
    Calls Try.prog 25 #[.agg #[.int .i64 v, s], .int .i64 k] w (fun e w' => e = .returned (.int .i64 (k + 3 * bs.length)) ∧ (∃ row, w.grownBy w' row ∧ ∀ r, row = some r → lo ≤ r ∧ r < hi) ∧ ResR w' lo hi s (markL k bs.length)) := by
  have hc := markR lo hi s bs k (w.alloc (.cells #[.int .i64 v, s] 34)) (h.below ((Below.refl _ _).alloc (Nat.le_refl _) _) (Nat.le_refl _)) hl h0 h1
  have hs := h.slice
  have HC := Lib.hid hc
  clear hc h
  obtain ⟨a, c, rfl⟩ := hs
  go_enter Try.func25, Try.ntmps25
  go_wp2_with (go_at_call 60; refine HC.out.mono ?_; rintro e w1 ⟨rfl, hg, hr⟩)
  go_ret
  obtain ⟨row, hg, hrow⟩ := hg
  exact ⟨rfl, ⟨row, gb_trans (World.grownBy_alloc _ _ none) hg, hrow⟩, hr⟩
set_option maxRecDepth 100000 in
theorem heldSystem_any (lo hi : Nat) (v : Int) (s : Value) (n : Nat) (k : Int) (w : World) (h : ResR w lo hi s (markL k n)) (hl : n ≤ 1100000) (h0 : 0 ≤ k) (h1 : k ≤ 9000000) :
    Calls Try.prog 26 #[.agg #[.int .i64 v, s], .int .i64 k] w (RV (.int .i64 (k + 3 * n)) w) := by
  have hc := heldR lo hi s n k (w.alloc (.cells #[.int .i64 v, s] 34)) (h.below ((Below.refl _ _).alloc (Nat.le_refl _) _) (Nat.le_refl _)) hl h0 h1
  have hs := h.slice
  obtain ⟨m, hm⟩ : ∃ m, m = k + 3 * (n : Int) := ⟨_, rfl⟩
  rw [← hm] at hc ⊢
  have m0 : 0 ≤ m := by omega
  have HC := Lib.hid hc
  clear hc h hm
  obtain ⟨a, c, rfl⟩ := hs
  go_enter Try.func26, Try.ntmps26
  go_wp2_with (go_at_call 61; refine HC.out.mono ?_; rintro e w1 ⟨rfl, rfl⟩)
  go_ret
  exact RV_of rfl ((Below.refl _ _).alloc (Nat.le_refl _) _)
end Go.Proofs.Ytbpmjjdjfniblaa

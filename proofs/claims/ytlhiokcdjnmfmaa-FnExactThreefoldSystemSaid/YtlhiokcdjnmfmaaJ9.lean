
/- The kinds of a square: the model. The model's insertion sort. The model's block of three points. The model's DoubleSystem answers as dblF. -/
import Derived.Test.YtlhiokcdjnmfmaaJ8
namespace Go.Proofs.Ytlhiokcdjnmfmaa
open Go.RowKit Go.Maps
def comR (n : Nat) (F : Nat → List Int) (x : Nat) : Bool := (List.range x).all fun u => (List.range n).all fun v => decide (at2 F u v = at2 F v u)
def comC (F : Nat → List Int) (x y : Nat) : Bool := (List.range y).all fun v => decide (at2 F x v = at2 F v x)
def diaR (F : Nat → List Int) (per x : Nat) : Bool := (List.range x).all fun u => decide (at2 F u u = ((u % per : Nat) : Int))
theorem comR_succ (n : Nat) (F : Nat → List Int) (x : Nat) : comR n F (x + 1) = (comR n F x && comC F x n) := by
  simp [comR, comC, List.range_succ, List.all_append]
theorem comC_succ (F : Nat → List Int) (x y : Nat) : comC F x (y + 1) = (comC F x y && decide (at2 F x y = at2 F y x)) := by
  simp [comC, List.range_succ, List.all_append]
theorem diaR_succ (F : Nat → List Int) (per x : Nat) : diaR F per (x + 1) = (diaR F per x && decide (at2 F x x = ((x % per : Nat) : Int))) := by
  simp [diaR, List.range_succ, List.all_append]
set_option maxRecDepth 100000 in
set_option maxHeartbeats 8000000 in
theorem l02Kinds_any (s : Value) (n : Nat) (F : Nat → List Int) (w : World) (h2 : 2 ≤ n) (h5 : n ≤ 5) (h : SSB w s n F) (hl : ∀ k, k < n → (F k).length = n) :
    Calls Try.prog 68 #[s] w (RV (.tuple #[.bool (comB n F), .bool (diaB n F n), .bool (halfB n F)]) w) := by
  obtain ⟨a, c, rfl⟩ := h.slice
  have HAT := Lib.hid (sq_at h hl)
  clear h hl
  obtain ⟨m, hm⟩ : ∃ m, m = n / 2 := ⟨_, rfl⟩
  have hm1 : 1 ≤ m := by omega
  have hm2 : m ≤ 2 := by omega
  have htd : (n : Int).tdiv 2 = (m : Int) := by rw [Int.tdiv_eq_ediv_of_nonneg (by omega), hm]; omega
  have hm0 : ((m : Int) == 0) = false := by simp; omega
  obtain ⟨r2, hr2⟩ : ∃ r : Int, r = (n : Int).tmod 2 := ⟨_, rfl⟩
  have hrv : r2 = ((n % 2 : Nat) : Int) := by rw [hr2, Int.tmod_eq_emod_of_nonneg (by omega)]; omega
  have hr2' := hr2.symm
  obtain ⟨β, hβ⟩ : ∃ β : Bool, β = decide (n % 2 = 0) := ⟨_, rfl⟩
  have hb0 : (r2 == 0) = β := by rw [hβ, Bool.eq_iff_iff]; simp; omega
  have HH := Lib.hid (show halfB n F = (β && diaR F m n) by rw [hβ, hm]; rfl)
  have hr0 : 0 ≤ r2 := by omega
  have hr1 : r2 ≤ 1 := by omega
  clear hr2 hrv hβ hm
  go_enter Try.func68, Try.ntmps68
  obtain ⟨W0, rfl⟩ : ∃ W0, W0 = w := ⟨_, rfl⟩
  go_wp2_with fail
  go_loopw [6, 7, 8, 9] (fun p q r i wr => ∃ x : Nat, x ≤ n ∧ i = .int .i64 x ∧ Below W0.heap.size W0 wr ∧ p = .bool (comR n F x) ∧ q = .bool (diaR F n x) ∧ r = .bool (β && diaR F m x)) (fun _ _ _ i _ => n - (intOf i).toNat)
  case atStart => exact ⟨0, Nat.zero_le _, rfl, Below.refl _ _, rfl, rfl, by simp [diaR]⟩
  case round =>
    obtain ⟨x, hx, rfl, hB, rfl, rfl, rfl⟩ := hrel
    have HB := Lib.hid hB
    have hz := hB.size
    clear hB
    obtain ⟨p, hp⟩ : ∃ p, p = comR n F x := ⟨_, rfl⟩
    obtain ⟨q, hq⟩ : ∃ q, q = diaR F n x := ⟨_, rfl⟩
    obtain ⟨r, hr⟩ : ∃ r, r = (β && diaR F m x) := ⟨_, rfl⟩
    rw [← hp, ← hq, ← hr]
    by_cases hxl : x < n
    · obtain ⟨W1, rfl⟩ : ∃ W1, W1 = wr := ⟨_, rfl⟩
      go_wp2_with fail
      go_loopw [6, 10] (fun t i wr => ∃ y : Nat, y ≤ n ∧ i = .int .i64 y ∧ Below W0.heap.size W0 wr ∧ t = .bool (p && comC F x y)) (fun _ i _ => n - (intOf i).toNat)
      case atStart => exact ⟨0, Nat.zero_le _, rfl, HB.out, by simp [comC]⟩
      case round =>
        obtain ⟨y, hy, rfl, hB, rfl⟩ := hrel
        have HBy := Lib.hid hB
        have hzy := hB.size
        clear hB
        obtain ⟨t, ht⟩ : ∃ t, t = (p && comC F x y) := ⟨_, rfl⟩
        rw [← ht]
        by_cases hyl : y < n
        · obtain ⟨b, off, bx, ox, cx, rfl, hlt, hltx, p1, p2⟩ := HAT.out x y hxl hyl
          obtain ⟨b0, off0, by', oy, cy, e0, _, hlty, p3, p4⟩ := HAT.out y x hyl hxl
          simp at e0
          obtain ⟨rfl, rfl⟩ := e0
          have q1 := (HBy.out.cell (p := ⟨b, off + x, none⟩) hlt).trans p1
          have q2 := (HBy.out.cell (p := ⟨bx, ox + y, none⟩) hltx).trans p2
          have q3 := (HBy.out.cell (p := ⟨b, off + y, none⟩) hlt).trans p3
          have q4 := (HBy.out.cell (p := ⟨by', oy + x, none⟩) hlty).trans p4
          have hS := comC_succ F x y
          obtain ⟨d1, hd1⟩ : ∃ d, d = at2 F x y := ⟨_, rfl⟩
          obtain ⟨d2, hd2⟩ : ∃ d, d = at2 F y x := ⟨_, rfl⟩
          rw [← hd1] at q2
          rw [← hd2] at q4
          rw [← hd1, ← hd2] at hS
          have HS := Lib.hid (show (p && comC F x (y + 1)) = (t && decide (d1 = d2)) by rw [hS, ht, Bool.and_assoc])
          have g0 : (0 : Int) ≤ (x : Int) := by omega
          have g1 : (x : Int) < (n : Int) := by omega
          have g2 : (0 : Int) ≤ (y : Int) := by omega
          have g3 : (y : Int) < (n : Int) := by omega
          clear p1 p2 p3 p4 hS hd1 hd2 ht hp hq hr
          cases t with
          | false =>
            go_wp2_with fail
            go_quiet (fail)
            go_wp2_with fail
            go_roundw
            case rel => exact ⟨y + 1, by omega, by go_num, below_drewN HBy.out _, by rw [HS.out]; rfl⟩
            case measure => simp [intOf]; omega
          | true =>
            obtain ⟨ε, hε⟩ : ∃ ε : Bool, ε = decide (d1 = d2) := ⟨_, rfl⟩
            have heq : (d1 == d2) = ε := by rw [hε]; rfl
            rw [← hε] at HS
            clear hε
            go_wp2_with fail
            go_quiet (fail)
            go_wp2_with fail
            go_roundw
            case rel => exact ⟨y + 1, by omega, by go_num, below_drewN HBy.out _, by rw [HS.out]; rfl⟩
            case measure => simp [intOf]; omega
        · have e : y = n := by omega
          subst e
          clear hyl hy
          obtain ⟨b, off, bx, ox, cx, rfl, hlt, hltx, p1, p2⟩ := HAT.out x x hxl hxl
          have q1 := (HBy.out.cell (p := ⟨b, off + x, none⟩) hlt).trans p1
          have q2 := (HBy.out.cell (p := ⟨bx, ox + x, none⟩) hltx).trans p2
          have hS1 := diaR_succ F y x
          have hS2 := diaR_succ F m x
          have hS3 := comR_succ y F x
          obtain ⟨d1, hd1⟩ : ∃ d, d = at2 F x x := ⟨_, rfl⟩
          rw [← hd1] at q2 hS1 hS2
          rw [Nat.mod_eq_of_lt hxl] at hS1
          obtain ⟨ρ, hρ⟩ : ∃ ρ : Int, ρ = (x : Int) % (m : Int) := ⟨_, rfl⟩
          have hρ2 : ((x % m : Nat) : Int) = ρ := by rw [hρ]; simp
          rw [hρ2] at hS2
          have g0 : (0 : Int) ≤ (x : Int) := by omega
          have g1 : (x : Int) < (y : Int) := by omega
          have htm : (x : Int).tmod (m : Int) = ρ := by rw [hρ]; exact Int.tmod_eq_emod_of_nonneg g0
          have hρ' := hρ.symm
          have r0 : 0 ≤ ρ := by rw [hρ]; exact Int.emod_nonneg _ (by omega)
          have r5 : ρ < 5 := by have := Int.emod_lt_of_pos (x : Int) (b := (m : Int)) (by omega); omega
          obtain ⟨ε1, hε1⟩ : ∃ ε : Bool, ε = decide (d1 = (x : Int)) := ⟨_, rfl⟩
          have heq1 : (d1 == (x : Int)) = ε1 := by rw [hε1]; rfl
          obtain ⟨ε2, hε2⟩ : ∃ ε : Bool, ε = decide (d1 = ρ) := ⟨_, rfl⟩
          have heq2 : (d1 == ρ) = ε2 := by rw [hε2]; rfl
          rw [← hε1, ← hq] at hS1
          rw [← hε2] at hS2
          rw [← hp, ← ht] at hS3
          have HS1 := Lib.hid hS1
          have HS2 := Lib.hid (show (β && diaR F m (x + 1)) = (r && ε2) by rw [hS2, hr, Bool.and_assoc])
          have HS3 := Lib.hid hS3
          clear p1 p2 hS1 hS2 hS3 hρ hρ2 hε1 hε2 hd1 hp hq hr ht
          cases q
          all_goals cases r
          all_goals
            go_wp2_with fail
            go_quiet (fail)
            go_wp2_with fail
            go_roundw
            case rel => exact ⟨x + 1, by omega, by go_num, below_drewN HBy.out _, by rw [HS3.out], by rw [HS1.out]; rfl, by rw [HS2.out]; rfl⟩
            case measure => simp [intOf]; omega
    · have e : x = n := by omega
      subst e
      go_wp2
      exact bodyPost_ret (v := .tuple #[.bool p, .bool q, .bool r]) (by simp [results, Try.results68, go_sem, *]) rfl (RV_of (by rw [hp, hq, hr, HH.out]; rfl) HB.out)
end Go.Proofs.Ytlhiokcdjnmfmaa

namespace Go.Proofs.Ytlhiokcdjnmfmaa
open Go.RowKit Go.Maps
theorem ins_start (x : Blk) (l : List Blk) : l ++ [x] = l.take l.length ++ x :: l.drop l.length := by simp
theorem ins_round (l : List Blk) {m : Nat} (hm : m < l.length) (y : Blk) : (l.take (m + 1) ++ y :: l.drop (m + 1)).set (m + 1) (l[m]?.getD default) = l.take m ++ (l[m]?.getD default) :: l.drop m := by
  have h1 : (l.take (m + 1)).length = m + 1 := by simp; omega
  rw [List.set_append_right _ _ (by omega), h1, Nat.sub_self, List.set_cons_zero]
  rw [List.getElem?_eq_getElem hm, Option.getD_some, List.take_succ_eq_append_getElem hm, List.append_assoc]
  congr 1
  rw [List.singleton_append, List.drop_eq_getElem_cons hm]
theorem ins_end (l : List Blk) {m : Nat} (hm : m ≤ l.length) (x y : Blk) : (l.take m ++ y :: l.drop m).set m x = l.take m ++ x :: l.drop m := by
  have h1 : (l.take m).length = m := by simp; omega
  rw [List.set_append_right _ _ (by omega), h1, Nat.sub_self, List.set_cons_zero]
theorem ins_len (l : List Blk) {m : Nat} (hm : m ≤ l.length) (y : Blk) : (l.take m ++ y :: l.drop m).length = l.length + 1 := by
  simp; omega
theorem ins_at (l : List Blk) {m : Nat} (hm : m < l.length) (y : Blk) : (l.take (m + 1) ++ y :: l.drop (m + 1))[m]?.getD default = l[m]?.getD default := by
  rw [List.getElem?_append_left (by simp; omega), List.getElem?_take_of_lt (by omega)]
set_option maxRecDepth 100000 in
set_option maxHeartbeats 1000000 in
theorem l01Sort_any (s : Value) (bs : List Blk) (w : World) (h : SX w s bs) (hl : bs.length ≤ 100000) :
    Calls Try.prog 118 #[s] w fun e w' => ∃ u, e = .returned u ∧ OwnR w' w.heap.size u (sortB bs) ∧ Below w.heap.size w w' := by
  have hs : ∃ a c, s = .slice a bs.length c := by rcases h with ⟨a0, c0, rfl, rfl⟩ | ⟨b, off, cap, rfl, _⟩ <;> exact ⟨_, _, rfl⟩
  have HSX := Lib.hid h
  clear h
  obtain ⟨a0, c0, rfl⟩ := hs
  go_enter Try.func118, Try.ntmps118
  go_wp2
  have ho0 := lit_own w
  obtain ⟨w0, hw0⟩ : ∃ w0, w.alloc (.cells #[] 77) = w0 := ⟨_, rfl⟩
  have hB0 : Below w.heap.size w w0 := by rw [← hw0]; exact (Below.refl _ _).alloc (Nat.le_refl _) _
  have hz0 : w.heap.size < w0.heap.size := by rw [← hw0]; simp
  rw [hw0] at ho0 ⊢
  have HO0 := Lib.hid ho0
  clear hw0 ho0
  go_loopw [3, 4] (fun o i wr => ∃ k : Nat, k ≤ bs.length ∧ i = .int .i64 k ∧ Below w.heap.size w wr ∧ OwnR wr w.heap.size o (sortB (bs.take k)) ∧ ∃ a c, o = .slice a k c) (fun _ i _ => bs.length - (intOf i).toNat)
  case atStart => exact ⟨0, Nat.zero_le _, rfl, hB0, by simpa [sortB] using HO0.out, _, _, rfl⟩
  case round =>
    obtain ⟨k, hk, rfl, hB, hO, a3, c3, rfl⟩ := hrel
    have hz := hB.size
    by_cases hkl : k < bs.length
    · rcases HSX.out with ⟨_, _, _, hnil⟩ | ⟨b, off, cap, hv, hblt, hbl⟩
      · rw [hnil] at hkl; simp at hkl
      · simp at hv
        obtain ⟨rfl, rfl⟩ := hv
        have HBL := Lib.hid hbl
        obtain ⟨x, hx, ex, x1, x2, x3⟩ := blks_at (hbl.below hB hblt) hkl
        obtain ⟨l, hl1⟩ : ∃ l, l = sortB (bs.take k) := ⟨_, rfl⟩
        have hll : l.length = k := by rw [hl1, sortB_length]; simp; omega
        have hnext : sortB (bs.take (k + 1)) = insB x l := by
          rw [List.getElem?_eq_getElem hkl] at ex
          have ex' : bs[k] = x := by simpa using ex
          rw [take_next hkl, ex', sortB_snoc, hl1]
        rw [← hl1] at hO
        have HO := Lib.hid hO
        have HNX := Lib.hid hnext
        have HLL := Lib.hid hll
        have hlen2 : l.length ≤ 100000 := by omega
        have g0 : (0 : Int) ≤ (k : Int) := by omega
        have g1 : (k : Int) < (bs.length : Int) := by omega
        have HEX := Lib.hid ex
        clear hx ex hl1 hO hnext hll hbl
        go_wp2_with (at_builtin; refine wpList_append_blk rfl _ _ rfl w.heap.size _ l rfl (HO.out.below ((Below.refl _ _).alloc (Nat.le_refl _) _) (Nat.le_refl _)) _ _ x rfl (by simp [go_sem]) (by simp [go_sem]) (by simp [go_sem]) (by omega) (by simp; omega) ?_; intro g' cap' w4 hO4 hg4)
        have hB4 : Below w.heap.size w w4 := (hB.alloc (by omega) _).grown hg4 (by simp; omega) (fun r e => HO.out.row r e)
        have HBR := Lib.hid (l01Before_any x)
        have HX := Lib.hid (show bs[k]?.getD default = x by rw [HEX.out]; rfl)
        clear hg4 x1 x2 x3
        go_loopw [5] (fun t wr2 => ∃ m : Nat, m ≤ k ∧ t = .int .i64 m ∧ Below w.heap.size w wr2 ∧ (∃ y, OwnR wr2 w.heap.size (.slice (some ⟨g', 0, none⟩) (l.length + 1) cap') (l.take m ++ y :: l.drop m)) ∧ Hid (posB x l l.length = posB x l m)) (fun t _ => (intOf t).toNat)
        case atStart => exact ⟨k, Nat.le_refl _, rfl, hB4, ⟨x, by have := hO4; rw [ins_start, HLL.out] at this; rw [HLL.out]; exact this⟩, Lib.hid (by rw [HLL.out])⟩
        case round =>
          obtain ⟨m, hm, rfl, hB2, ⟨y, hO2⟩, HP⟩ := hrel
          obtain ⟨hn0, hgb, hat⟩ := hO2.at_
          clear hn0
          have hxx := (HBL.out.below hB2 hblt) k hkl
          rw [HX.out] at hxx
          obtain ⟨x1, x2, x3⟩ := hxx
          have hglt := hat.lt
          have hz2 := hB2.size
          have hblt2 : b < wr.heap.size := by omega
          have hfree := hat.free
          have HO2 := Lib.hid hO2
          rcases m with _ | m
          · rw [show ((0 : Nat) : Int) = 0 from rfl]
            have gl1 : (0 : Int) < ((l.length + 1 : Nat) : Int) := by omega
            have gl2 : (0 : Int) < (l.length : Int) + 1 := by omega
            obtain ⟨c1, c2, c3'⟩ := hat.at_ 0 (by rw [ins_len l (Nat.zero_le _) y]; omega)
            simp only [Nat.zero_mul, Nat.zero_add] at c1 c2 c3'
            have hnew := HO2.out.set3 (i := 0) (by rw [ins_len l (Nat.zero_le _) y]; omega) x
            rw [ins_end l (Nat.zero_le _) x y] at hnew
            have hins : insB x l = l.take 0 ++ x :: l.drop 0 := by unfold insB; rw [HP.out]; rfl
            rw [← hins, ← HNX.out] at hnew
            simp only [Nat.zero_mul, Nat.zero_add] at hnew
            have HN := Lib.hid hnew
            clear hO2 hat hnew hins
            go_wp2
            go_quiet (fail)
            go_wp2
            go_roundw
            case rel => exact ⟨k + 1, by omega, by go_num, (((below_drewN hB2 _).setCell (p := ⟨g', 0, none⟩) hgb _).setCell (p := ⟨g', 1, none⟩) hgb _).setCell (p := ⟨g', 2, none⟩) hgb _, HN.out, _, _, by rw [HLL.out]⟩
            case measure => simp [intOf]; omega
          · have hml : m < l.length := by rw [HLL.out]; omega
            have hm1 : m + 1 ≤ l.length := by omega
            have gl1 : (m : Int) + 1 < ((l.length + 1 : Nat) : Int) := by omega
            have gl2 : (m : Int) + 1 < (l.length : Int) + 1 := by omega
            have gl3 : (m : Int) < ((l.length + 1 : Nat) : Int) := by omega
            have gl4 : (m : Int) < (l.length : Int) + 1 := by omega
            have gl5 : (0 : Int) < (m : Int) + 1 := by omega
            have gl6 : (0 : Int) ≤ (m : Int) := by omega
            have gl7 : (m : Int) ≤ 100000 := by omega
            have hatm := hat.at_ m (by rw [ins_len l hm1 y]; omega)
            rw [ins_at l hml y, Nat.zero_add] at hatm
            obtain ⟨c1, c2, c3'⟩ := hat.at_ (m + 1) (by rw [ins_len l hm1 y]; omega)
            rw [Nat.zero_add] at c1 c2 c3'
            obtain ⟨z, hz⟩ : ∃ z, z = l[m]?.getD default := ⟨_, rfl⟩
            have hpos : posB x l (m + 1) = if befB x (l[m]?.getD default) then posB x l m else m + 1 := rfl
            rw [← hz] at hatm hpos
            have HZ := Lib.hid hz
            have HPP := Lib.hid hpos
            obtain ⟨q1, q2, q3⟩ := hatm
            have hbr := HBR.out z
            clear hO2 hat hpos hz
            have r1 := cell_regrown x1
            have r2 := cell_regrown x2
            have r3 := cell_regrown x3
            have s1 := cell_regrown q1
            have s2 := cell_regrown q2
            have s3 := cell_regrown q3
            have t1 := cell_regrown c1
            have t2 := cell_regrown c2
            have t3 := cell_regrown c3'
            have rf : ∀ d os o, (Sort.grow (redrawn wr d) os).frozen? ⟨g', o, none⟩ = false := fun d os o => ((below_regrown wr d os).frozen (p := ⟨g', o, none⟩) hglt).trans (hfree o)
            obtain ⟨za, zb, zc⟩ := z
            obtain ⟨xa, xb, xc⟩ := x
            unfold bv at hbr
            dsimp only at hbr x1 x2 x3 q1 q2 q3 r1 r2 r3 s1 s2 s3
            cases hbe : befB ⟨xa, xb, xc⟩ ⟨za, zb, zc⟩ with
            | false =>
              rw [hbe] at hbr
              have HC := Lib.hid hbr
              have HBE := Lib.hid hbe
              clear hbr hbe
              go_wp2
              refine wp_region_quiet_below (by kernel_rfl) (by kernel_rfl) ?_
              repeat (go_big_quiet_step (exact Calls.regrown_of (HC.out _)))
              refine wpQuiet_nil ?_
              intro _ hw'
              obtain ⟨⟨dq, osq⟩, hw''⟩ := hw'
              subst hw''
              go_wp2
              have hnew := (HO2.out.below (below_regrown wr dq osq) (Nat.le_refl _)).set3 (i := m + 1) (by rw [ins_len l hm1 y]; omega) ⟨xa, xb, xc⟩
              rw [ins_end l hm1 _ y] at hnew
              have hins : insB ⟨xa, xb, xc⟩ l = l.take (m + 1) ++ ⟨xa, xb, xc⟩ :: l.drop (m + 1) := by unfold insB; rw [HP.out, HPP.out, if_neg (by rw [HBE.out]; decide)]
              rw [← hins, ← HNX.out] at hnew
              have HN := Lib.hid hnew
              clear hnew hins
              go_roundw
              case rel => exact ⟨k + 1, by omega, by go_num, (((hB2.trans ((below_regrown wr dq osq).mono hz2)).setCell (p := ⟨g', (m + 1) * 3, none⟩) hgb _).setCell (p := ⟨g', (m + 1) * 3 + 1, none⟩) hgb _).setCell (p := ⟨g', (m + 1) * 3 + 2, none⟩) hgb _, HN.out, _, _, by rw [HLL.out]⟩
              case measure => simp [intOf]; omega
            | true =>
              rw [hbe] at hbr
              have HC := Lib.hid hbr
              have HBE := Lib.hid hbe
              clear hbr hbe
              go_wp2
              refine wp_region_quiet_below (by kernel_rfl) (by kernel_rfl) ?_
              repeat (go_big_quiet_step (exact Calls.regrown_of (HC.out _)))
              refine wpQuiet_nil ?_
              intro _ hw'
              obtain ⟨⟨dq, osq⟩, hw''⟩ := hw'
              subst hw''
              go_wp2
              have hnew := (HO2.out.below (below_regrown wr dq osq) (Nat.le_refl _)).set3 (i := m + 1) (by rw [ins_len l hm1 y]; omega) ⟨za, zb, zc⟩
              have hro := ins_round l hml y
              rw [← HZ.out] at hro
              rw [hro] at hnew
              have HN := Lib.hid hnew
              clear hnew hro
              go_roundw
              case rel => exact ⟨m, by omega, rfl, (((hB2.trans ((below_regrown wr dq osq).mono hz2)).setCell (p := ⟨g', (m + 1) * 3, none⟩) hgb _).setCell (p := ⟨g', (m + 1) * 3 + 1, none⟩) hgb _).setCell (p := ⟨g', (m + 1) * 3 + 2, none⟩) hgb _, ⟨⟨za, zb, zc⟩, HN.out⟩, Lib.hid (by rw [HP.out, HPP.out, if_pos HBE.out])⟩
              case measure => simp [intOf]
    · go_wp2
      go_ret
      have e : k = bs.length := by omega
      subst e
      rw [List.take_length] at hO
      exact ⟨_, rfl, hO, hB⟩
set_option maxRecDepth 100000 in
theorem l01Made_any (v : Int) (s : Value) (bs : List Blk) (w : World) (h : SX w s bs) (hl : bs.length ≤ 100000) :
    Calls Try.prog 70 #[.int .i64 v, s] w fun e w' => ∃ u, e = .returned (.agg #[.int .i64 v, u]) ∧ ResR w' w.heap.size w'.heap.size u (sortB bs) ∧ Below w.heap.size w w' := by
  have hs : ∃ a c, s = .slice a bs.length c := by rcases h with ⟨a0, c0, rfl, rfl⟩ | ⟨b, off, cap, rfl, _⟩ <;> exact ⟨_, _, rfl⟩
  have HS := Lib.hid (l01Sort_any s bs (w.alloc (.cells #[.int .i64 0, .slice none 0 0] 31)) (h.below ((Below.refl _ _).alloc (Nat.le_refl _) _) (Nat.le_refl _)) hl)
  clear h
  obtain ⟨a0, c0, rfl⟩ := hs
  go_enter Try.func70, Try.ntmps70
  go_wp2_with fail
  refine HS.out.mono ?_
  rintro e w1 ⟨u, rfl, ho, hb1⟩
  have hlt : w.heap.size < w1.heap.size := by have := hb1.size; simp at this; omega
  have hbw : Below w.heap.size w w1 := ((Below.refl _ _).alloc (Nat.le_refl _) _).trans (hb1.mono (by simp))
  have d0 := cell_new hb1 0 rfl
  have d1 := cell_new hb1 1 rfl
  have f0 : w1.frozen? ⟨w.heap.size, 0, none⟩ = false := (hb1.frozen (p := ⟨w.heap.size, 0, none⟩) (by simp)).trans (by simp [go_sem])
  have f1 : w1.frozen? ⟨w.heap.size, 1, none⟩ = false := (hb1.frozen (p := ⟨w.heap.size, 1, none⟩) (by simp)).trans (by simp [go_sem])
  have hr := ho.res
  have hbase : (w.alloc (.cells #[.int .i64 0, .slice none 0 0] 31)).heap.size = w.heap.size + 1 := by simp
  rw [hbase] at hr
  obtain ⟨a3, n3, hs3⟩ := hr.slice
  obtain ⟨m3, hm3⟩ : ∃ m, m = (sortB bs).length := ⟨_, rfl⟩
  rw [← hm3] at hs3
  clear hm3 ho hb1 hbase
  subst hs3
  go_wp2
  exact bodyPost_ret (v := .agg #[.int .i64 v, .slice a3 m3 n3]) (by simp [results, Try.results70, go_sem, *]) rfl ⟨_, rfl, (hr.kept (gb_set2 w1 w.heap.size (.int .i64 v) (.slice a3 m3 n3)) (fun r e => by cases e; exact .inl (by omega))).wide (by omega) (by simp [World.setCell]), below_set2 hbw (by omega) _ _⟩
end Go.Proofs.Ytlhiokcdjnmfmaa

namespace Go.Proofs.Ytlhiokcdjnmfmaa
open Go.RowKit Go.Maps
set_option maxRecDepth 100000 in
theorem l01Block_any (a b c : Int) (w : World) (a0 : 0 ≤ a) (a1 : a ≤ 1000) (b0 : 0 ≤ b) (b1 : b ≤ 1000) (c0 : 0 ≤ c) (c1 : c ≤ 1000) : Calls Try.prog 69 #[.int .i64 a, .int .i64 b, .int .i64 c] w (RV (bv (blk3 a b c)) w) := by
  go_enter Try.func69, Try.ntmps69
  go_wp2
  all_goals
    refine bodyPost_ret (v := bv (blk3 a b c)) ?_ rfl ⟨rfl, (Below.refl _ _).alloc (Nat.le_refl _) _⟩
    simp [results, Try.results69, go_sem, bv, blk3]
    omega
end Go.Proofs.Ytlhiokcdjnmfmaa

namespace Go.Proofs.Ytlhiokcdjnmfmaa
open Go.RowKit Go.Maps
theorem l01Block_is {a b c p q r : Int} (W : World) (a0 : 0 ≤ a) (a1 : a ≤ 1000) (b0 : 0 ≤ b) (b1 : b ≤ 1000) (c0 : 0 ≤ c) (c1 : c ≤ 1000) (hp : p = min (min a b) c) (hr : r = max (max a b) c) (hq : q = a + b + c - p - r) :
    Calls Try.prog 69 #[.int .i64 a, .int .i64 b, .int .i64 c] W (RV (.agg #[.int .i64 p, .int .i64 q, .int .i64 r]) W) := by
  have h := l01Block_any a b c W a0 a1 b0 b1 c0 c1
  rw [blk3_of hp hr hq] at h
  exact h
end Go.Proofs.Ytlhiokcdjnmfmaa

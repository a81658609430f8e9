
/- The kinds of a square: the program's tests. Threefold systems: plain. Rows of blocks that are written and sorted in place. The laws' marks in systems. The contract of slices.Sort, laid at []int64. The program's blockFrom: three numbers in order. append of many blocks to a list of the call's own. Two blocks are compared point by point. What TakeBlock answers: plain. impl.TakeBlock answers as the plain function takeF. -/
import Derived.Test.YtlhiokcdjnmfmaaJ5
import Derived.Shelf.SlSortCmp.NoneTotal
import Derived.Shelf.SortM.Plain
import Derived.Ground.SlgmProg
import Derived.Test.YtlhiokcdjnmfmaaProg
import Derived.Deep.RegionLaw
import Derived.Deep.AppendLies
namespace Go.Proofs.Ytlhiokcdjnmfmaa
open Go.RowKit Go.Maps
def at2 (F : Nat → List Int) (x y : Nat) : Int := (F x)[y]?.getD 0
def comB (n : Nat) (F : Nat → List Int) : Bool := (List.range n).all fun x => (List.range n).all fun y => decide (at2 F x y = at2 F y x)
def diaB (n : Nat) (F : Nat → List Int) (per : Nat) : Bool := (List.range n).all fun x => decide (at2 F x x = ((x % per : Nat) : Int))
theorem comB_of {n : Nat} {F : Nat → List Int} (h : ∀ x, x < n → ∀ y, y < x → at2 F x y = at2 F y x) : comB n F = true := by
  refine List.all_eq_true.2 fun x hx => List.all_eq_true.2 fun y hy => decide_eq_true ?_
  have hx := List.mem_range.1 hx
  have hy := List.mem_range.1 hy
  rcases Nat.lt_trichotomy x y with e | e | e
  · exact (h y hy x e).symm
  · rw [e]
  · exact h x hx y e
theorem comB_false {n x y : Nat} {F : Nat → List Int} (hx : x < n) (hy : y < n) (h : at2 F x y ≠ at2 F y x) : comB n F = false := by
  unfold comB
  rw [List.all_eq_false]
  refine ⟨x, List.mem_range.2 hx, ?_⟩
  rw [Bool.not_eq_true, List.all_eq_false]
  exact ⟨y, List.mem_range.2 hy, by simpa using h⟩
theorem diaB_of {n : Nat} {F : Nat → List Int} {per : Nat} (h : ∀ x, x < n → at2 F x x = ((x % per : Nat) : Int)) : diaB n F per = true :=
  List.all_eq_true.2 fun x hx => decide_eq_true (h x (List.mem_range.1 hx))
theorem diaB_false {n x : Nat} {F : Nat → List Int} {per : Nat} (hx : x < n) (h : at2 F x x ≠ ((x % per : Nat) : Int)) : diaB n F per = false := by
  unfold diaB
  rw [List.all_eq_false]
  exact ⟨x, List.mem_range.2 hx, by simpa using h⟩
/-- The cells of a square. -/
theorem sq_at {w : World} {a : Option Addr} {n c : Nat} {F : Nat → List Int} (h : SSB w (.slice a n c) n F) (hl : ∀ k, k < n → (F k).length = n) : ∀ x y, x < n → y < n → ∃ b off bx ox cx, a = some ⟨b, off, none⟩ ∧ b < w.heap.size ∧ bx < w.heap.size ∧ w.cell? ⟨b, off + x, none⟩ = some (.slice (some ⟨bx, ox, none⟩) n cx) ∧ w.cell? ⟨bx, ox + y, none⟩ = some (.int .i64 (at2 F x y)) := fun x y hx hy => by
  obtain ⟨b, off, a', c', rfl, hlt, hc, hi⟩ := h.rows x hx
  have hlx := hl x hx
  obtain ⟨bx, ox, rfl, _, hltx, hr⟩ := hi.pos (by omega)
  rw [hlx] at hc
  exact ⟨b, off, bx, ox, c', rfl, hlt, hltx, hc, hr y (by omega)⟩
set_option maxRecDepth 100000 in
set_option maxHeartbeats 2000000 in
theorem isCommutative_any (s : Value) (n : Nat) (F : Nat → List Int) (w : World) (h : SSB w s n F) (hl : ∀ k, k < n → (F k).length = n) :
    Calls Try.prog 120 #[s] w (RV (.bool (comB n F)) w) := by
  have hn := h.1
  obtain ⟨a, c, rfl⟩ := h.slice
  have HAT := Lib.hid (sq_at h hl)
  clear h hl
  go_enter Try.func120, Try.ntmps120
  obtain ⟨W0, rfl⟩ : ∃ W0, W0 = w := ⟨_, rfl⟩
  go_wp2_with fail
  go_loopw [7] (fun i wr => ∃ x : Nat, x ≤ n ∧ i = .int .i64 x ∧ Below W0.heap.size W0 wr ∧ ∀ u, u < x → ∀ y, y < u → at2 F u y = at2 F y u) (fun i _ => n - (intOf i).toNat)
  case atStart => exact ⟨0, Nat.zero_le _, rfl, Below.refl _ _, fun u hu => absurd hu (Nat.not_lt_zero u)⟩
  case round =>
    obtain ⟨x, hx, rfl, hB, hC⟩ := hrel
    have HB := Lib.hid hB
    have HC := Lib.hid hC
    have hz := hB.size
    clear hB hC
    by_cases hxl : x < n
    · obtain ⟨W1, rfl⟩ : ∃ W1, W1 = wr := ⟨_, rfl⟩
      go_wp2_with fail
      go_loopw [11] (fun i wr => ∃ y : Nat, y ≤ x ∧ i = .int .i64 y ∧ Below W0.heap.size W0 wr ∧ ∀ v, v < y → at2 F x v = at2 F v x) (fun i _ => x - (intOf i).toNat)
      case atStart => exact ⟨0, Nat.zero_le _, rfl, HB.out, fun u hu => absurd hu (Nat.not_lt_zero u)⟩
      case round =>
        obtain ⟨y, hy, rfl, hB, hD⟩ := hrel
        have HBy := Lib.hid hB
        have HD := Lib.hid hD
        have hzy := hB.size
        clear hB hD
        by_cases hyl : y < x
        · obtain ⟨b, off, bx, ox, cx, rfl, hlt, hltx, p1, p2⟩ := HAT.out x y hxl (by omega)
          obtain ⟨b0, off0, by', oy, cy, e0, _, hlty, p3, p4⟩ := HAT.out y x (by omega) hxl
          simp at e0
          obtain ⟨rfl, rfl⟩ := e0
          have q1 := (HBy.out.cell (p := ⟨b, off + x, none⟩) hlt).trans p1
          have q2 := (HBy.out.cell (p := ⟨bx, ox + y, none⟩) hltx).trans p2
          have q3 := (HBy.out.cell (p := ⟨b, off + y, none⟩) hlt).trans p3
          have q4 := (HBy.out.cell (p := ⟨by', oy + x, none⟩) hlty).trans p4
          obtain ⟨d1, hd1⟩ : ∃ d, d = at2 F x y := ⟨_, rfl⟩
          obtain ⟨d2, hd2⟩ : ∃ d, d = at2 F y x := ⟨_, rfl⟩
          rw [← hd1] at q2
          rw [← hd2] at q4
          have g0 : (0 : Int) ≤ (x : Int) := by omega
          have g1 : (x : Int) < (n : Int) := by omega
          have g2 : (0 : Int) ≤ (y : Int) := by omega
          have g3 : (y : Int) < (n : Int) := by omega
          clear p1 p2 p3 p4
          by_cases e : d1 = d2
          · have hne : (d1 != d2) = false := by simpa using e
            have HS := Lib.hid (show ∀ v, v < y + 1 → at2 F x v = at2 F v x from fun v hv => by
              rcases Nat.lt_or_ge v y with h1 | h1
              · exact HD.out v h1
              · obtain rfl : v = y := by omega
                rw [← hd1, ← hd2, e])
            clear e hd1 hd2
            go_wp2_with fail
            go_quiet (fail)
            go_wp2_with fail
            go_roundw
            case rel => exact ⟨y + 1, by omega, by go_num, below_drewN HBy.out _, HS.out⟩
            case measure => simp [intOf]; omega
          · have hne : (d1 != d2) = true := by simpa using e
            have HS := Lib.hid (comB_false (n := n) hxl (show y < n by omega) (by rw [← hd1, ← hd2]; exact e))
            clear e hd1 hd2
            go_wp2_with fail
            go_quiet (fail)
            go_wp2
            go_ret
            rw [HS.out]
            exact RV_of rfl (below_drewN HBy.out _)
        · have e : y = x := by omega
          subst e
          have HS := Lib.hid (show ∀ u, u < y + 1 → ∀ v, v < u → at2 F u v = at2 F v u from fun u hu => by
            rcases Nat.lt_or_ge u y with h1 | h1
            · exact HC.out u h1
            · obtain rfl : u = y := by omega
              exact HD.out)
          go_wp2_with fail
          go_roundw
          case rel => exact ⟨y + 1, by omega, by go_num, HBy.out, HS.out⟩
          case measure => simp [intOf]; omega
    · have e : x = n := by omega
      subst e
      have HS := Lib.hid (comB_of HC.out)
      go_wp2
      go_ret
      rw [HS.out]
      exact RV_of rfl HB.out
set_option maxRecDepth 100000 in
set_option maxHeartbeats 2000000 in
theorem hasDiagonal_any (s : Value) (n : Nat) (F : Nat → List Int) (per : Nat) (hp : 1 ≤ per) (hp2 : per ≤ 5) (w : World) (h : SSB w s n F) (hl : ∀ k, k < n → (F k).length = n) :
    Calls Try.prog 157 #[s, .int .i64 (per : Int)] w (RV (.bool (diaB n F per)) w) := by
  have hn := h.1
  obtain ⟨a, c, rfl⟩ := h.slice
  have HAT := Lib.hid (sq_at h hl)
  clear h hl
  have hp0 : ((per : Int) == 0) = false := by simp; omega
  go_enter Try.func157, Try.ntmps157
  obtain ⟨W0, rfl⟩ : ∃ W0, W0 = w := ⟨_, rfl⟩
  go_wp2_with fail
  go_loopw [8] (fun i wr => ∃ x : Nat, x ≤ n ∧ i = .int .i64 x ∧ Below W0.heap.size W0 wr ∧ ∀ u, u < x → at2 F u u = ((u % per : Nat) : Int)) (fun i _ => n - (intOf i).toNat)
  case atStart => exact ⟨0, Nat.zero_le _, rfl, Below.refl _ _, fun u hu => absurd hu (Nat.not_lt_zero u)⟩
  case round =>
    obtain ⟨x, hx, rfl, hB, hC⟩ := hrel
    have HB := Lib.hid hB
    have HC := Lib.hid hC
    have hz := hB.size
    clear hB hC
    by_cases hxl : x < n
    · obtain ⟨b, off, bx, ox, cx, rfl, hlt, hltx, p1, p2⟩ := HAT.out x x hxl hxl
      have q1 := (HB.out.cell (p := ⟨b, off + x, none⟩) hlt).trans p1
      have q2 := (HB.out.cell (p := ⟨bx, ox + x, none⟩) hltx).trans p2
      obtain ⟨d1, hd1⟩ : ∃ d, d = at2 F x x := ⟨_, rfl⟩
      obtain ⟨r, hr⟩ : ∃ r : Int, r = (x : Int) % (per : Int) := ⟨_, rfl⟩
      have hr2 : ((x % per : Nat) : Int) = r := by rw [hr]; simp
      rw [← hd1] at q2
      have g0 : (0 : Int) ≤ (x : Int) := by omega
      have g1 : (x : Int) < (n : Int) := by omega
      have htm : (x : Int).tmod (per : Int) = r := by rw [hr]; exact Int.tmod_eq_emod_of_nonneg g0
      have hr' := hr.symm
      have r0 : 0 ≤ r := by rw [hr]; exact Int.emod_nonneg _ (by omega)
      have r5 : r < 5 := by have := Int.emod_lt_of_pos (x : Int) (b := (per : Int)) (by omega); omega
      clear p1 p2 hr
      by_cases e : d1 = r
      · have hne : (d1 != r) = false := by simpa using e
        have HS := Lib.hid (show ∀ v, v < x + 1 → at2 F v v = ((v % per : Nat) : Int) from fun v hv => by
          rcases Nat.lt_or_ge v x with h1 | h1
          · exact HC.out v h1
          · obtain rfl : v = x := by omega
            rw [← hd1, hr2, e])
        clear e hd1 hr2
        go_wp2_with fail
        go_quiet (fail)
        go_wp2_with fail
        go_roundw
        case rel => exact ⟨x + 1, by omega, by go_num, below_drewN HB.out _, HS.out⟩
        case measure => simp [intOf]; omega
      · have hne : (d1 != r) = true := by simpa using e
        have HS := Lib.hid (diaB_false (n := n) (F := F) (per := per) hxl (by rw [← hd1, hr2]; exact e))
        clear e hd1 hr2
        go_wp2_with fail
        go_quiet (fail)
        go_wp2
        go_ret
        rw [HS.out]
        exact RV_of rfl (below_drewN HB.out _)
    · have e : x = n := by omega
      subst e
      have HS := Lib.hid (diaB_of HC.out)
      go_wp2
      go_ret
      rw [HS.out]
      exact RV_of rfl HB.out
set_option maxRecDepth 100000 in
theorem isIdempotent_any (s : Value) (n : Nat) (F : Nat → List Int) (w : World) (h2 : 2 ≤ n) (h5 : n ≤ 5) (h : SSB w s n F) (hl : ∀ k, k < n → (F k).length = n) :
    Calls Try.prog 121 #[s] w (RV (.bool (diaB n F n)) w) := by
  have HD := Lib.hid (hasDiagonal_any s n F n (by omega) h5 w h hl)
  obtain ⟨a, c, rfl⟩ := h.slice
  clear h hl
  go_enter Try.func121, Try.ntmps121
  go_wp2_with fail
  refine HD.out.mono ?_
  rintro e w1 ⟨rfl, hb⟩
  go_wp2
  go_ret
  exact RV_of rfl hb
def halfB (n : Nat) (F : Nat → List Int) : Bool := decide (n % 2 = 0) && diaB n F (n / 2)
set_option maxRecDepth 100000 in
theorem isHalfIdempotent_any (s : Value) (n : Nat) (F : Nat → List Int) (w : World) (h2 : 2 ≤ n) (h5 : n ≤ 5) (h : SSB w s n F) (hl : ∀ k, k < n → (F k).length = n) :
    Calls Try.prog 126 #[s] w (RV (.bool (halfB n F)) w) := by
  have HD := Lib.hid fun per (h1 : 1 ≤ per) (h5 : per ≤ 5) => hasDiagonal_any s n F per h1 h5 w h hl
  obtain ⟨a, c, rfl⟩ := h.slice
  clear h hl
  have hc : n = 2 ∨ n = 3 ∨ n = 4 ∨ n = 5 := by omega
  rcases hc with rfl | rfl | rfl | rfl
  · go_enter Try.func126, Try.ntmps126
    go_wp2_with fail
    refine (HD.out 1 (by decide) (by decide)).mono ?_
    rintro e w1 ⟨rfl, hb⟩
    go_wp2
    go_ret
    exact RV_of rfl hb
  · go_enter Try.func126, Try.ntmps126
    go_wp2
    go_ret
    exact RV_of rfl (Below.refl _ _)
  · go_enter Try.func126, Try.ntmps126
    go_wp2_with fail
    refine (HD.out 2 (by decide) (by decide)).mono ?_
    rintro e w1 ⟨rfl, hb⟩
    go_wp2
    go_ret
    exact RV_of rfl hb
  · go_enter Try.func126, Try.ntmps126
    go_wp2
    go_ret
    exact RV_of rfl (Below.refl _ _)
def bitI (b : Bool) : Int := if b = true then 1 else 0
def kindsL (n : Nat) (F : Nat → List Int) : List Int := [bitI (comB n F), bitI (diaB n F n), bitI (halfB n F)]
end Go.Proofs.Ytlhiokcdjnmfmaa

namespace Go.Proofs.Ytlhiokcdjnmfmaa
def lv (n i : Nat) (z : Int) : Int := ((n * (i % 3) : Nat) : Int) + z
def upB (n x : Nat) : Blk := ⟨lv n 0 x, lv n 1 x, lv n 2 x⟩
def upL (n k : Nat) : List Blk := (List.range k).map (upB n)
def tipB (n x i : Nat) : Blk := blk3 (3 * n : Nat) (lv n i (n / 2 + x : Nat)) (lv n (i + 1) x)
def tipR (n x k : Nat) : List Blk := (List.range k).map (tipB n x)
def tipL (n k : Nat) : List Blk := (List.range k).flatMap fun x => tipR n x 3
def slB (n : Nat) (F : Nat → List Int) (i x y : Nat) : Blk := blk3 (lv n i x) (lv n i y) (lv n (i + 1) (at2 F x y))
def slR (n : Nat) (F : Nat → List Int) (i y k : Nat) : List Blk := (List.range k).map fun x => slB n F i x y
def slV (n : Nat) (F : Nat → List Int) (i k : Nat) : List Blk := (List.range k).flatMap fun y => slR n F i y y
def slL (n : Nat) (F : Nat → List Int) (k : Nat) : List Blk := (List.range k).flatMap fun i => slV n F i n
/-- The model's: of x and the greater ones. -/
def mdR (n : Nat) (F : Nat → List Int) (i x k : Nat) : List Blk := (List.range k).map fun j => slB n F i x (x + 1 + j)
def mdT (n i : Nat) (idem : Bool) (x : Nat) : List Blk := if idem = false ∧ x < n / 2 then [tipB n x i] else []
def mdV (n : Nat) (F : Nat → List Int) (i : Nat) (idem : Bool) (k : Nat) : List Blk := (List.range k).flatMap fun x => mdR n F i x (n - 1 - x) ++ mdT n i idem x
def mdL (n : Nat) (F : Nat → List Int) (idem : Bool) (k : Nat) : List Blk := (List.range k).flatMap fun i => mdV n F i idem n
theorem range_flat {α : Type} (f : Nat → List α) (k : Nat) : (List.range (k + 1)).flatMap f = (List.range k).flatMap f ++ f k := by simp [List.range_succ]
theorem upL_succ (n k : Nat) : upL n (k + 1) = upL n k ++ [upB n k] := by simp [upL, List.range_succ]
theorem tipR_succ (n x k : Nat) : tipR n x (k + 1) = tipR n x k ++ [tipB n x k] := by simp [tipR, List.range_succ]
theorem tipL_succ (n k : Nat) : tipL n (k + 1) = tipL n k ++ tipR n k 3 := range_flat _ _
theorem slR_succ (n : Nat) (F : Nat → List Int) (i y k : Nat) : slR n F i y (k + 1) = slR n F i y k ++ [slB n F i k y] := by simp [slR, List.range_succ]
theorem slV_succ (n : Nat) (F : Nat → List Int) (i k : Nat) : slV n F i (k + 1) = slV n F i k ++ slR n F i k k := range_flat _ _
theorem slL_succ (n : Nat) (F : Nat → List Int) (k : Nat) : slL n F (k + 1) = slL n F k ++ slV n F k n := range_flat _ _
theorem mdR_succ (n : Nat) (F : Nat → List Int) (i x k : Nat) : mdR n F i x (k + 1) = mdR n F i x k ++ [slB n F i x (x + 1 + k)] := by simp [mdR, List.range_succ]
theorem mdV_succ (n : Nat) (F : Nat → List Int) (i : Nat) (idem : Bool) (k : Nat) : mdV n F i idem (k + 1) = mdV n F i idem k ++ (mdR n F i k (n - 1 - k) ++ mdT n i idem k) := range_flat _ _
theorem mdL_succ (n : Nat) (F : Nat → List Int) (idem : Bool) (k : Nat) : mdL n F idem (k + 1) = mdL n F idem k ++ mdV n F k idem n := range_flat _ _
theorem flat_len {α : Type} (f : Nat → List α) (m : Nat) : ∀ k, (∀ x, x < k → (f x).length ≤ m) → ((List.range k).flatMap f).length ≤ k * m
  | 0, _ => by simp
  | k + 1, h => by
    rw [range_flat, List.length_append]
    have := flat_len f m k (fun x hx => h x (by omega))
    have h2 := h k (by omega)
    rw [Nat.add_mul, Nat.one_mul]
    omega
theorem flat_append {α : Type} (f g : Nat → List α) : ∀ k, ((List.range k).flatMap fun x => f x ++ g x).Perm ((List.range k).flatMap f ++ (List.range k).flatMap g)
  | 0 => by simp
  | k + 1 => by
    rw [range_flat, range_flat, range_flat]
    refine ((flat_append f g k).append_right _).trans ?_
    simp only [List.append_assoc]
    refine List.Perm.append_left _ ?_
    rw [← List.append_assoc, ← List.append_assoc]
    exact List.Perm.append_right _ List.perm_append_comm
theorem flat_single {α : Type} (f : Nat → α) (k : Nat) : ((List.range k).flatMap fun x => [f x]) = (List.range k).map f := by
  induction k with
  | zero => rfl
  | succ k ih => rw [range_flat, ih, List.range_succ, List.map_append]; rfl
theorem flat_congr {α : Type} {f g : Nat → List α} {k : Nat} (h : ∀ x, x < k → f x = g x) : (List.range k).flatMap f = (List.range k).flatMap g := by
  induction k with
  | zero => rfl
  | succ k ih => rw [range_flat, range_flat, ih (fun x hx => h x (by omega)), h k (by omega)]
theorem flat_perm {α : Type} {f g : Nat → List α} {k : Nat} (h : ∀ x, x < k → (f x).Perm (g x)) : ((List.range k).flatMap f).Perm ((List.range k).flatMap g) := by
  induction k with
  | zero => exact .refl _
  | succ k ih => rw [range_flat, range_flat]; exact (ih (fun x hx => h x (by omega))).append (h k (by omega))
theorem tri_perm {α : Type} (h : Nat → Nat → α) : ∀ n, ((List.range n).flatMap fun y => (List.range y).map fun x => h x y).Perm ((List.range n).flatMap fun x => (List.range (n - 1 - x)).map fun j => h x (x + 1 + j))
  | 0 => .refl _
  | n + 1 => by
    rw [range_flat, range_flat]
    have e : (List.range (n + 1 - 1 - n)).map (fun j => h n (n + 1 + j)) = [] := by rw [show n + 1 - 1 - n = 0 by omega]; rfl
    rw [e, List.append_nil]
    have e2 : ((List.range n).flatMap fun x => (List.range (n + 1 - 1 - x)).map fun j => h x (x + 1 + j)) = (List.range n).flatMap fun x => ((List.range (n - 1 - x)).map fun j => h x (x + 1 + j)) ++ [h x n] :=
      flat_congr fun x hx => by
        rw [show n + 1 - 1 - x = (n - 1 - x) + 1 by omega, List.range_succ, List.map_append]
        simp only [List.map_cons, List.map_nil]
        rw [show x + 1 + (n - 1 - x) = n by omega]
    rw [e2]
    refine List.Perm.trans ?_ (flat_append _ _ n).symm
    rw [flat_single]
    exact (tri_perm h n).append_right _
theorem swap_perm {α : Type} (h : Nat → Nat → α) (k : Nat) : ∀ m, ((List.range m).flatMap fun x => (List.range k).map fun i => h x i).Perm ((List.range k).flatMap fun i => (List.range m).map fun x => h x i)
  | 0 => by simp
  | m + 1 => by
    rw [range_flat]
    have e2 : ((List.range k).flatMap fun i => (List.range (m + 1)).map fun x => h x i) = (List.range k).flatMap fun i => ((List.range m).map fun x => h x i) ++ [h m i] :=
      flat_congr fun x _ => by rw [List.range_succ, List.map_append]; rfl
    rw [e2]
    refine List.Perm.trans ?_ (flat_append _ _ k).symm
    rw [flat_single]
    exact (swap_perm h k m).append_right _
theorem cond_flat {α : Type} (f : Nat → α) (m : Nat) : ∀ n, m ≤ n → ((List.range n).flatMap fun x => if x < m then [f x] else []) = (List.range m).map f := fun n hn => by
  obtain ⟨d, rfl⟩ : ∃ d, n = m + d := ⟨n - m, by omega⟩
  clear hn
  induction d with
  | zero =>
    rw [Nat.add_zero, flat_congr (g := fun x => [f x]) (fun x hx => by rw [if_pos hx]), flat_single]
  | succ d ih => rw [← Nat.add_assoc, range_flat, ih, if_neg (by omega), List.append_nil]
theorem mdL_perm (n : Nat) (F : Nat → List Int) (idem : Bool) : (mdL n F idem 3).Perm ((if idem = true then [] else tipL n (n / 2)) ++ slL n F 3) := by
  unfold mdL slL
  have h1 : ∀ i, (mdV n F i idem n).Perm ((if idem = true then [] else (List.range (n / 2)).map fun x => tipB n x i) ++ slV n F i n) := fun i => by
    unfold mdV slV
    refine (flat_append _ _ n).trans (List.perm_append_comm.trans ?_)
    refine List.Perm.append ?_ (tri_perm (fun x y => slB n F i x y) n).symm
    cases idem with
    | true =>
      rw [if_pos rfl, flat_congr (g := fun _ => []) (fun x _ => by simp [mdT])]
      have : ∀ k, (List.range k).flatMap (fun _ => ([] : List Blk)) = [] := by
        intro k
        induction k with
        | zero => rfl
        | succ k ih => rw [range_flat, ih]; rfl
      rw [this]
    | false =>
      rw [if_neg (by decide), flat_congr (g := fun x => if x < n / 2 then [tipB n x i] else []) (fun x _ => by simp [mdT]), cond_flat _ _ _ (Nat.div_le_self _ _)]
  refine (flat_perm fun i _ => h1 i).trans ((flat_append _ _ 3).trans ?_)
  refine List.Perm.append_right _ ?_
  cases idem with
  | true => exact .refl _
  | false =>
    rw [if_neg (by decide)]
    simp only [Bool.false_eq_true, if_false]
    exact (swap_perm (fun x i => tipB n x i) 3 (n / 2)).symm
def thrL (n : Nat) (F : Nat → List Int) : List Blk := if diaB n F n = true then upL n n ++ slL n F 3 else upL n (n / 2) ++ tipL n (n / 2) ++ slL n F 3
def thrF (n : Nat) (F : Nat → List Int) : Int × List Blk × Int :=
  if sqB n F = true then
    (if comB n F = true ∧ (diaB n F n = true ∨ halfB n F = true) then ((if diaB n F n = true then 3 * (n : Int) else 3 * (n : Int) + 1), sortB (thrL n F), 0) else (0, [], 5))
  else (0, [], 2)
theorem thr_perm (n : Nat) (F : Nat → List Int) : (upL n (if diaB n F n = true then n else n / 2) ++ mdL n F (diaB n F n) 3).Perm (thrL n F) := by
  unfold thrL
  cases h : diaB n F n with
  | true =>
    rw [if_pos rfl, if_pos rfl]
    exact List.Perm.append_left _ (by simpa using mdL_perm n F true)
  | false =>
    rw [if_neg (by decide), if_neg (by decide), List.append_assoc]
    exact List.Perm.append_left _ (by simpa using mdL_perm n F false)
theorem upL_len (n k : Nat) : (upL n k).length = k := by simp [upL]
theorem tipL_len (n k : Nat) : (tipL n k).length ≤ k * 3 := flat_len _ _ _ fun x _ => by simp [tipR]
theorem slV_len (n : Nat) (F : Nat → List Int) (i k : Nat) : (slV n F i k).length ≤ k * k := flat_len _ _ _ fun x hx => by simp [slR]; omega
theorem slL_len (n : Nat) (F : Nat → List Int) (k : Nat) : (slL n F k).length ≤ k * (n * n) := flat_len _ _ _ fun x _ => slV_len n F x n
end Go.Proofs.Ytlhiokcdjnmfmaa

namespace Go.Proofs.Ytlhiokcdjnmfmaa
open Go.RowKit Go.Maps Go.Sort
theorem heap_set_own {w : World} {g o : Nat} {u : Value} {cs : Array Value} {e : TypeId} {fr : Nat × Nat} (h : w.heap[g]? = some (.cells cs e fr)) : (w.setCell ⟨g, o, none⟩ u).heap[g]? = some (.cells (cs.setIfInBounds o u) e fr) := by
  obtain ⟨hlt, hk⟩ := Array.getElem?_eq_some_iff.1 h
  show (w.heap.modify g _)[g]? = _
  rw [Array.getElem?_eq_getElem (by rw [Array.size_modify]; exact hlt), Array.getElem_modify_self, hk]
  rfl
theorem flat_set : ∀ (bs : List Blk) (i : Nat) (x : Blk), i < bs.length → (((bs.flatMap cells3).set (i * 3) (.int .i64 x.a)).set (i * 3 + 1) (.int .i64 x.b)).set (i * 3 + 2) (.int .i64 x.c) = (bs.set i x).flatMap cells3
  | [], _, _, h => by simp at h
  | y :: r, 0, x, _ => by simp [cells3]
  | y :: r, i + 1, x, h => by
    have ih := flat_set r i x (by simpa using h)
    rw [List.set_cons_succ, List.flatMap_cons, List.flatMap_cons, ← ih]
    rw [show (i + 1) * 3 = i * 3 + 1 + 1 + 1 by omega, show i * 3 + 1 + 1 + 1 + 1 = i * 3 + 1 + 1 + 1 + 1 from rfl, show i * 3 + 1 + 1 + 1 + 2 = i * 3 + 2 + 1 + 1 + 1 by omega]
    simp only [cells3, List.cons_append, List.nil_append, List.set_cons_succ]
theorem OwnR.set3 {w : World} {base g n cap : Nat} {bs : List Blk} (h : OwnR w base (.slice (some ⟨g, 0, none⟩) n cap) bs) {i : Nat} (hi : i < bs.length) (x : Blk) :
    OwnR (((w.setCell ⟨g, i * 3, none⟩ (.int .i64 x.a)).setCell ⟨g, i * 3 + 1, none⟩ (.int .i64 x.b)).setCell ⟨g, i * 3 + 2, none⟩ (.int .i64 x.c)) base (.slice (some ⟨g, 0, none⟩) n cap) (bs.set i x) := by
  obtain ⟨hl, h | ⟨g', cap', cur, hv, hb, hcur, hn, hc, hsz, hx⟩⟩ := h
  · cases h.1
  · cases hv
    refine ⟨by rw [flat_length, List.length_set], .inr ⟨g, cap, _, by rw [List.length_set], hb, heap_set_own (heap_set_own (heap_set_own hcur)), by rw [List.length_set]; exact hn, hc, by simpa using hsz, ?_⟩⟩
    rw [List.length_set, Array.toList_setIfInBounds, Array.toList_setIfInBounds, Array.toList_setIfInBounds, List.take_set, List.take_set, List.take_set, hx]
    exact flat_set bs i x hi
theorem OwnR.at_ {w : World} {base g n cap : Nat} {bs : List Blk} (h : OwnR w base (.slice (some ⟨g, 0, none⟩) n cap) bs) : n = bs.length ∧ base ≤ g ∧ OwnAt w g bs := by
  rcases h.res with ⟨rfl, a, c, e⟩ | ⟨g', cap', e, h1, h2, h3⟩
  · cases e
    obtain ⟨hl, h | ⟨g', cap', cur, hv, hb, hcur, hn, hc, hsz, hx⟩⟩ := h
    · cases h.1
    · cases hv
      exact ⟨rfl, hb, ⟨(Array.getElem?_eq_some_iff.1 hcur).1, fun k hk => by simp at hk, fun o => by simp [World.frozen?, hcur]⟩⟩
  · cases e
    exact ⟨rfl, h1, h3⟩

theorem heap_put {w : World} {g n : Nat} {os : Array Obj} {cur : Array Value} {e : TypeId} {fr : Nat × Nat} (F : Array Value) (hb : w.heap[g]? = some (.cells cur e fr)) :
    (grow (putRow id (Sort.ahead w n) g 0 F) os).heap[g]? = some (.cells (putCells id 0 F cur) e fr) := by
  have hg : g < w.heap.size := (Array.getElem?_eq_some_iff.1 hb).1
  rw [heap_grow_old _ _ (by simpa using hg)]
  simp [putRow, mapBlock, Sort.ahead, Array.getElem?_modify, hb, onCells]
theorem grownBy_put {w : World} {g n : Nat} {os : Array Obj} (F : Array Value) : w.grownBy (grow (putRow id (Sort.ahead w n) g 0 F) os) (some g) := by
  refine ⟨rfl, rfl, rfl, by simp, fun k hk hne => ?_⟩
  rw [heap_grow_old _ _ (by simpa using hk)]
  have : g ≠ k := fun e => hne (by rw [e])
  simp [putRow, mapBlock, Sort.ahead, Array.getElem?_modify, this]
theorem take_put (cur F : Array Value) (h : F.size ≤ cur.size) : (putCells id 0 F cur).toList.take F.size = F.toList := by
  apply List.ext_getElem?
  intro j
  by_cases hj : j < F.size
  · rw [List.getElem?_take_of_lt hj, Array.getElem?_toList]
    simp [putCells, hj, show j < cur.size by omega]
  · rw [List.getElem?_take_eq_none (by omega), List.getElem?_eq_none (by simp; omega)]
theorem cells3_at (x : Blk) : (cells3 x)[0]! = .int .i64 x.a ∧ (cells3 x)[1]! = .int .i64 x.b ∧ (cells3 x)[2]! = .int .i64 x.c := ⟨rfl, rfl, rfl⟩
theorem flatK_at (bs : List Blk) (j : Nat) (h : j < bs.length * 3) : (flatK cells3 3 bs.toArray)[j]! = (bs.flatMap cells3)[j]?.getD undef := by
  rw [get_flatK _ _ _ _ (by simpa using h)]
  have hk : j / 3 < bs.length := by omega
  obtain ⟨h0, h1, h2⟩ := flat_at bs (j / 3) hk
  obtain ⟨c0, c1, c2⟩ := cells3_at (bs.toArray[j / 3]!)
  have e : bs.toArray[j / 3]! = bs[j / 3]?.getD default := by simp [hk]
  rw [e] at c0 c1 c2
  rw [e]
  have hm : j % 3 = 0 ∨ j % 3 = 1 ∨ j % 3 = 2 := by omega
  rcases hm with hm | hm | hm
  · rw [hm, c0]; rw [show j / 3 * 3 = j by omega] at h0; rw [h0]; rfl
  · rw [hm, c1]; rw [show j / 3 * 3 + 1 = j by omega] at h1; rw [h1]; rfl
  · rw [hm, c2]; rw [show j / 3 * 3 + 2 = j by omega] at h2; rw [h2]; rfl
theorem flatK_list (bs : List Blk) : (flatK cells3 3 bs.toArray).toList = bs.flatMap cells3 := by
  apply List.ext_getElem?
  intro j
  by_cases hj : j < bs.length * 3
  · have h1 := flatK_at bs j hj
    have hs : j < (flatK cells3 3 bs.toArray).size := by rw [size_flatK]; simpa using hj
    rw [getElem!_pos _ j hs] at h1
    rw [Array.getElem?_toList, Array.getElem?_eq_getElem hs, h1]
    have hf : j < (bs.flatMap cells3).length := by rw [flat_length]; exact hj
    rw [List.getElem?_eq_getElem hf]
    rfl
  · have h1 : (flatK cells3 3 bs.toArray).toList.length = bs.length * 3 := by rw [Array.length_toList, size_flatK]; simp
    rw [List.getElem?_eq_none (by omega), List.getElem?_eq_none (by rw [flat_length]; omega)]
theorem OwnAt.holds {w : World} {g : Nat} {bs : List Blk} (h : OwnAt w g bs) : HoldsK cells3 3 w g 0 bs.toArray := by
  intro j hj
  rw [size_flatK, List.size_toArray] at hj
  refine ⟨?_, h.free _⟩
  rw [flatK_at bs j hj, Nat.zero_add]
  obtain ⟨h0, h1, h2⟩ := h.at_ (j / 3) (by omega)
  obtain ⟨f0, f1, f2⟩ := flat_at bs (j / 3) (by omega)
  rw [Nat.zero_add] at h0 h1 h2
  have hm : j % 3 = 0 ∨ j % 3 = 1 ∨ j % 3 = 2 := by omega
  rcases hm with hm | hm | hm
  · rw [show j / 3 * 3 = j by omega] at h0 f0; rw [h0, f0]; rfl
  · rw [show j / 3 * 3 + 1 = j by omega] at h1 f1; rw [h1, f1]; rfl
  · rw [show j / 3 * 3 + 2 = j by omega] at h2 f2; rw [h2, f2]; rfl
/-- Behind the sort the same slice owns the blocks in order. -/
theorem OwnR.sorted {w : World} {base g n cap : Nat} {bs cs : List Blk} (h : OwnR w base (.slice (some ⟨g, 0, none⟩) n cap) bs) (hl : cs.length = bs.length) (m : Nat) (os : Array Obj) :
    OwnR (sortWorldK cells3 3 w g 0 m cs.toArray os) base (.slice (some ⟨g, 0, none⟩) n cap) cs ∧ w.grownBy (sortWorldK cells3 3 w g 0 m cs.toArray os) (some g) := by
  refine ⟨?_, grownBy_put _⟩
  obtain ⟨hl2, h | ⟨g', cap', cur, hv, hb, hcur, hn, hc, hsz, hx⟩⟩ := h
  · cases h.1
  · cases hv
    have hF : (flatK cells3 3 cs.toArray).size = cs.length * 3 := by rw [size_flatK]; simp
    refine ⟨by rw [flat_length], .inr ⟨g, cap, _, by rw [hl], hb, heap_put _ hcur, by rw [hl]; exact hn, hc, by simp [putCells]; omega, ?_⟩⟩
    rw [← hF, take_put _ _ (by rw [hF, hl]; have := Nat.mul_le_mul_right 3 hn; omega)]
    exact flatK_list cs
theorem lt_bef (x y : Blk) : ltOf cmpB x y = befB x y := by
  unfold ltOf
  rw [Bool.eq_iff_iff, ← cmpB_neg]
  simp
theorem swoB : SWO (ltOf cmpB) where
  irrefl x := by rw [lt_bef]; exact bef_irrefl x
  trans x y z h1 h2 := by rw [lt_bef] at *; exact bef_trans h1 h2
  ntrans x y z h1 h2 := by rw [lt_bef] at *; exact bef_ntrans h1 h2
theorem totB (x y : Blk) (h1 : ltOf cmpB x y = false) (h2 : ltOf cmpB y x = false) : x = y := by rw [lt_bef] at *; exact bef_total h1 h2
theorem mergeB (bs : List Blk) : (bs.mergeSort fun x y => !ltOf cmpB y x) = sortB bs := by
  rw [← sortB_merge]
  congr 1
  funext x y
  rw [lt_bef]
theorem compareBlocks_lays (x y : Blk) (w : World) : Calls Try.prog 113 #[bv x, bv y] w fun e w' => e = .returned (.int .i64 (cmpB x y)) ∧ ∃ q os, w' = grow (w.drewN q) os := by
  obtain ⟨a, b, c⟩ := x
  obtain ⟨d, e, f⟩ := y
  unfold bv
  dsimp only
  go_enter Try.func113, Try.ntmps113
  go_wp2
  go_quiet ((go_at_call 81; exact RS.quiet (Compare_any _ 0 _ _ 0 _ [a, b, c] [d, e, f] _ (ints3 (by simp [go_sem]) (by simp [go_sem]) (by simp [go_sem])) (ints3 (by simp [go_sem]) (by simp [go_sem]) (by simp [go_sem])) (by simp) (by simp))))
  go_wp2
  go_ret
  exact ⟨rfl, _, _, by rw [alloc_eq_grow, alloc_eq_grow, grow_grow]; rfl⟩
end Go.Proofs.Ytlhiokcdjnmfmaa

namespace Go.Proofs.Ytlhiokcdjnmfmaa
open Go.RowKit Go.Maps
theorem gb_trans {a b c : World} {row : Option Nat} (h : a.grownBy b none) (k : b.grownBy c row) : a.grownBy c row :=
  ⟨k.os.trans h.os, k.tape.trans h.tape, k.output.trans h.output, Nat.le_trans h.size k.size, fun i hi hne => (k.block i (Nat.lt_of_lt_of_le hi h.size) hne).trans (h.block i hi (by simp))⟩
theorem gb_below {a b : World} (h : Below a.heap.size a b) : a.grownBy b none := only_of_below h none
theorem ResR.slice {w : World} {lo hi : Nat} {s : Value} {bs : List Blk} (h : ResR w lo hi s bs) : ∃ a c, s = .slice a bs.length c := by
  rcases h with ⟨rfl, a, c, rfl⟩ | ⟨g, cap, rfl, _⟩ <;> exact ⟨_, _, rfl⟩
set_option maxRecDepth 100000 in
theorem markSystem_any (lo hi : Nat) (v : Int) (s : Value) (bs : List Blk) (k : Int) (w : World) (h : ResR w lo hi s bs) (hl : bs.length ≤ 1100000) (h0 : 0 ≤ k) (h1 : k ≤ 9000000) :
    Calls Try.prog 21 #[.agg #[.int .i64 v, s], .int .i64 k] w (fun e w' => e = .returned (.int .i64 (k + 3 * bs.length)) ∧ (∃ row, w.grownBy w' row ∧ ∀ r, row = some r → lo ≤ r ∧ r < hi) ∧ ResR w' lo hi s (markL k bs.length)) := by
  have hc := markR lo hi s bs k (w.alloc (.cells #[.int .i64 v, s] 31)) (h.below ((Below.refl _ _).alloc (Nat.le_refl _) _) (Nat.le_refl _)) hl h0 h1
  have hs := h.slice
  have HC := Lib.hid hc
  clear hc h
  obtain ⟨a, c, rfl⟩ := hs
  go_enter Try.func21, Try.ntmps21
  go_wp2_with (go_at_call 65; refine HC.out.mono ?_; rintro e w1 ⟨rfl, hg, hr⟩)
  go_ret
  obtain ⟨row, hg, hrow⟩ := hg
  exact ⟨rfl, ⟨row, gb_trans (World.grownBy_alloc _ _ none) hg, hrow⟩, hr⟩
set_option maxRecDepth 100000 in
theorem heldSystem_any (lo hi : Nat) (v : Int) (s : Value) (n : Nat) (k : Int) (w : World) (h : ResR w lo hi s (markL k n)) (hl : n ≤ 1100000) (h0 : 0 ≤ k) (h1 : k ≤ 9000000) :
    Calls Try.prog 30 #[.agg #[.int .i64 v, s], .int .i64 k] w (RV (.int .i64 (k + 3 * n)) w) := by
  have hc := heldR lo hi s n k (w.alloc (.cells #[.int .i64 v, s] 31)) (h.below ((Below.refl _ _).alloc (Nat.le_refl _) _) (Nat.le_refl _)) hl h0 h1
  have hs := h.slice
  obtain ⟨m, hm⟩ : ∃ m, m = k + 3 * (n : Int) := ⟨_, rfl⟩
  rw [← hm] at hc ⊢
  have m0 : 0 ≤ m := by omega
  have HC := Lib.hid hc
  clear hc h hm
  obtain ⟨a, c, rfl⟩ := hs
  go_enter Try.func30, Try.ntmps30
  go_wp2_with (go_at_call 76; refine HC.out.mono ?_; rintro e w1 ⟨rfl, rfl⟩)
  go_ret
  exact RV_of rfl ((Below.refl _ _).alloc (Nat.le_refl _) _)
end Go.Proofs.Ytlhiokcdjnmfmaa

namespace Go.Proofs
open Go.Shelf
def Try.sortI_ren : Go.Shelf.Ren := ⟨fun | 5 => 83 | 8 => 135 | 7 => 134 | 19 => 170 | 20 => 171 | 10 => 161 | 11 => 162 | 12 => 163 | 13 => 164 | 14 => 165 | 15 => 166 | 16 => 167 | 17 => 168 | 18 => 169 | 30 => 189 | 31 => 190 | 32 => 191 | 33 => 192 | 34 => 193 | 35 => 160 | 40 => 206 | n => n, fun | 23 => 26 | 25 => 2 | 3 => 3 | 32 => 127 | 22 => 26 | 0 => 0 | 44 => 165 | 46 => 113 | 4 => 4 | 36 => 158 | 35 => 157 | 41 => 162 | 5 => 5 | 9 => 9 | 53 => 178 | 57 => 182 | 63 => 191 | 64 => 192 | n => n, fun | n => n⟩
theorem Try.sortI : Go.Proofs.SlLaysM.n5 Try.prog Try.sortI_ren := {
  mixed := by kernel_rfl
  f5 := ⟨Try.f83.name, by decide, Try.func83.trans (congrArg some (by kernel_rfl))⟩
  f7 := ⟨Try.f134.name, by decide, Try.func134.trans (congrArg some (by kernel_rfl))⟩
  f8 := Try.func135.trans (congrArg some (by kernel_rfl))
  f10 := ⟨Try.f161.name, by decide, Try.func161.trans (congrArg some (by kernel_rfl))⟩
  f11 := ⟨Try.f162.name, by decide, Try.func162.trans (congrArg some (by kernel_rfl))⟩
  f12 := ⟨Try.f163.name, by decide, Try.func163.trans (congrArg some (by kernel_rfl))⟩
  f13 := ⟨Try.f164.name, by decide, Try.func164.trans (congrArg some (by kernel_rfl))⟩
  f14 := ⟨Try.f165.name, by decide, Try.func165.trans (congrArg some (by kernel_rfl))⟩
  f15 := ⟨Try.f166.name, by decide, Try.func166.trans (congrArg some (by kernel_rfl))⟩
  f16 := ⟨Try.f167.name, by decide, Try.func167.trans (congrArg some (by kernel_rfl))⟩
  f17 := ⟨Try.f168.name, by decide, Try.func168.trans (congrArg some (by kernel_rfl))⟩
  f18 := ⟨Try.f169.name, by decide, Try.func169.trans (congrArg some (by kernel_rfl))⟩
  f19 := Try.func170.trans (congrArg some (by kernel_rfl))
  f20 := Try.func171.trans (congrArg some (by kernel_rfl))
  f30 := ⟨Try.f189.name, by decide, Try.func189.trans (congrArg some (by kernel_rfl))⟩
  f31 := Try.func190.trans (congrArg some (by kernel_rfl))
  f32 := Try.func191.trans (congrArg some (by kernel_rfl))
  f33 := ⟨Try.f192.name, by decide, Try.func192.trans (congrArg some (by kernel_rfl))⟩
  f34 := ⟨Try.f193.name, by decide, Try.func193.trans (congrArg some (by kernel_rfl))⟩
  f35 := ⟨Try.f160.name, by decide, Try.func160.trans (congrArg some (by kernel_rfl))⟩
  f40 := ⟨Try.f206.name, by decide, Try.func206.trans (congrArg some (by kernel_rfl))⟩
  t0 := Try.underlying0
  a0 := Try.isAgg0
  z0 := Try.sizeOf0
  v0 := Try.zeroValue0
  t3 := Try.underlying3
  a3 := Try.isAgg3
  z3 := Try.sizeOf3
  v3 := Try.zeroValue3
  t4 := Try.underlying4
  a4 := Try.isAgg4
  z4 := Try.sizeOf4
  v4 := Try.zeroValue4
  t5 := Try.underlying5
  a5 := Try.isAgg5
  z5 := Try.sizeOf5
  v5 := Try.zeroValue5
  t9 := Try.underlying9
  a9 := Try.isAgg9
  z9 := Try.sizeOf9
  v9 := Try.zeroValue9
  t22 := Try.underlying26
  a22 := Try.isAgg26
  z22 := Try.sizeOf26
  v22 := Try.zeroValue26
  t23 := Try.underlying26
  a23 := Try.isAgg26
  z23 := Try.sizeOf26
  v23 := Try.zeroValue26
  t25 := Try.underlying2
  a25 := Try.isAgg2
  z25 := Try.sizeOf2
  v25 := Try.zeroValue2
  t32 := Try.underlying127
  a32 := Try.isAgg127
  z32 := Try.sizeOf127
  v32 := Try.zeroValue127
  t35 := Try.underlying157
  a35 := Try.isAgg157
  z35 := Try.sizeOf157
  v35 := Try.zeroValue157
  t36 := Try.underlying158
  a36 := Try.isAgg158
  z36 := Try.sizeOf158
  v36 := Try.zeroValue158
  t41 := Try.underlying162
  a41 := Try.isAgg162
  z41 := Try.sizeOf162
  v41 := Try.zeroValue162
  t44 := Try.underlying165
  a44 := Try.isAgg165
  z44 := Try.sizeOf165
  v44 := Try.zeroValue165
  t46 := Try.underlying113
  a46 := Try.isAgg113
  z46 := Try.sizeOf113
  v46 := Try.zeroValue113
  t53 := Try.underlying178
  a53 := Try.isAgg178
  z53 := Try.sizeOf178
  v53 := Try.zeroValue178
  t57 := Try.underlying182
  a57 := Try.isAgg182
  z57 := Try.sizeOf182
  v57 := Try.zeroValue182
  t63 := Try.underlying191
  a63 := Try.isAgg191
  z63 := Try.sizeOf191
  v63 := Try.zeroValue191
  t64 := Try.underlying192
  a64 := Try.isAgg192
  z64 := Try.sizeOf192
  v64 := Try.zeroValue192 }
end Go.Proofs

namespace Go.Proofs.Ytlhiokcdjnmfmaa
open Go.RowKit Go.Maps Go.Sort Go.Shelf
theorem heap_put' {α : Type} [Inhabited α] (enc : α → Value) {w : World} {g n : Nat} {os : Array Obj} {cur : Array Value} {e : TypeId} {fr : Nat × Nat} (F : Array α) (hb : w.heap[g]? = some (.cells cur e fr)) :
    (grow (putRow enc (Sort.ahead w n) g 0 F) os).heap[g]? = some (.cells (putCells enc 0 F cur) e fr) := by
  have hg : g < w.heap.size := (Array.getElem?_eq_some_iff.1 hb).1
  rw [heap_grow_old _ _ (by simpa using hg)]
  simp [putRow, mapBlock, Sort.ahead, Array.getElem?_modify, hb, onCells]
theorem grownBy_put' {α : Type} [Inhabited α] (enc : α → Value) {w : World} {g n : Nat} {os : Array Obj} (F : Array α) : w.grownBy (grow (putRow enc (Sort.ahead w n) g 0 F) os) (some g) := by
  refine ⟨rfl, rfl, rfl, by simp, fun k hk hne => ?_⟩
  rw [heap_grow_old _ _ (by simpa using hk)]
  have : g ≠ k := fun e => hne (by rw [e])
  simp [putRow, mapBlock, Sort.ahead, Array.getElem?_modify, this]
theorem sort3_any (b : Nat) (x y z : Int) (w : World) (h : w.heap[b]? = some (.cells #[.int .i64 x, .int .i64 y, .int .i64 z] 77 (0, 0))) :
    Calls Try.prog 83 #[.slice (some ⟨b, 0, none⟩) 3 3] w fun e w' => e = .returned (.tuple #[]) ∧ w.grownBy w' (some b) ∧ w'.heap[b]? = some (.cells #[.int .i64 (blk3 x y z).a, .int .i64 (blk3 x y z).b, .int .i64 (blk3 x y z).c] 77 (0, 0)) := by
  have hlt : b < w.heap.size := (Array.getElem?_eq_some_iff.1 h).1
  have hH : Holds (Value.int .i64) w b 0 [x, y, z].toArray := by
    intro j hj
    simp at hj
    rw [Nat.zero_add]
    match j, hj with
    | 0, _ => exact ⟨by simp [World.cell?, h], by simp [World.frozen?, h]⟩
    | 1, _ => exact ⟨by simp [World.cell?, h], by simp [World.frozen?, h]⟩
    | 2, _ => exact ⟨by simp [World.cell?, h], by simp [World.frozen?, h]⟩
  have hS := AnyM.slices_Sort_int Try.sortI b 0 3 [x, y, z] w hH hlt (by simp)
  rw [sort3] at hS
  refine Calls.mono hS ?_
  rintro e w' ⟨rfl, n, os, rfl⟩
  refine ⟨rfl, grownBy_put' _ _, ?_⟩
  rw [heap_put' _ _ h]
  rfl
set_option maxRecDepth 100000 in
theorem blockFrom_any (b off c : Nat) (x y z : Int) (w : World) (h0 : w.cell? ⟨b, off, none⟩ = some (.int .i64 x)) (h1 : w.cell? ⟨b, off + 1, none⟩ = some (.int .i64 y)) (h2 : w.cell? ⟨b, off + 2, none⟩ = some (.int .i64 z)) :
    Calls Try.prog 104 #[.slice (some ⟨b, off, none⟩) 3 c] w (RV (bv (blk3 x y z)) w) := by
  obtain ⟨wx, hwx⟩ : ∃ wx, wx = (w.alloc (.cells #[.int .i64 0, .int .i64 0, .int .i64 0] 77)).alloc (.cells #[.int .i64 x, .int .i64 y, .int .i64 z] 77) := ⟨_, rfl⟩
  have hzx : wx.heap.size = w.heap.size + 1 + 1 := by rw [hwx]; simp
  have hbx : Below w.heap.size w wx := by rw [hwx]; exact ((Below.refl _ _).alloc (Nat.le_refl _) _).alloc (by simp) _
  have hh : wx.heap[w.heap.size + 1]? = some (.cells #[.int .i64 x, .int .i64 y, .int .i64 z] 77 (0, 0)) := by
    rw [hwx]
    have := World.alloc_heap_new (w.alloc (.cells #[.int .i64 0, .int .i64 0, .int .i64 0] 77)) (.cells #[.int .i64 x, .int .i64 y, .int .i64 z] 77)
    simpa using this
  have d0 : wx.heap[w.heap.size]? = some (.cells #[.int .i64 0, .int .i64 0, .int .i64 0] 77 (0, 0)) := by
    rw [hwx, Below.heap_alloc _ _ _ (by simp)]
    exact World.alloc_heap_new w _
  have HS := Lib.hid (sort3_any (w.heap.size + 1) x y z wx hh)
  have D0 := Lib.hid d0
  have HZX := Lib.hid hzx
  have HBX := Lib.hid hbx
  have HWX := Lib.hid hwx
  clear hh d0 hzx hbx hwx
  obtain ⟨r, hr⟩ : ∃ r, r = blk3 x y z := ⟨_, rfl⟩
  rw [← hr] at HS ⊢
  clear hr
  obtain ⟨ra, rb, rc⟩ := r
  have hat : ∀ W, (Instr.arrayAt 77 (.slice (some ⟨b, off, none⟩) 3 c)).run Try.prog W = .ok (.pointer (some ⟨b, off, none⟩)) W := fun W => by kernel_rfl
  have hblt : b < w.heap.size := by obtain ⟨ob, ho, _⟩ := cells_of_cell h0; exact (Array.getElem?_eq_some_iff.1 ho).1
  go_enter Try.func104, Try.ntmps104
  go_wp2_with fail
  rw [← HWX.out]
  refine HS.out.mono ?_
  rintro e w1 ⟨rfl, hg, hh⟩
  have hz := hg.size
  rw [HZX.out] at hz
  have hd := (hg.block w.heap.size (by rw [HZX.out]; omega) (by simp)).trans D0.out
  have hbw : Below w.heap.size w w1 := HBX.out.grown hg HBX.out.size (fun r e => by cases e; omega)
  have q0 : w1.cell? ⟨w.heap.size + 1, 0, none⟩ = some (.int .i64 ra) := by simp [World.cell?, hh]
  have q1 : w1.cell? ⟨w.heap.size + 1, 1, none⟩ = some (.int .i64 rb) := by simp [World.cell?, hh]
  have q2 : w1.cell? ⟨w.heap.size + 1, 2, none⟩ = some (.int .i64 rc) := by simp [World.cell?, hh]
  have e0 : w1.cell? ⟨w.heap.size, 0, none⟩ = some (.int .i64 0) := by simp [World.cell?, hd]
  have e1 : w1.cell? ⟨w.heap.size, 1, none⟩ = some (.int .i64 0) := by simp [World.cell?, hd]
  have e2 : w1.cell? ⟨w.heap.size, 2, none⟩ = some (.int .i64 0) := by simp [World.cell?, hd]
  have k0 : w1.frozen? ⟨w.heap.size, 0, none⟩ = false := by simp [World.frozen?, hd]
  have k1 : w1.frozen? ⟨w.heap.size, 1, none⟩ = false := by simp [World.frozen?, hd]
  have k2 : w1.frozen? ⟨w.heap.size, 2, none⟩ = false := by simp [World.frozen?, hd]
  clear hh hd hg
  go_wp2
  refine bodyPost_ret (v := bv ⟨ra, rb, rc⟩) (by simp [results, Try.results104, go_sem, bv, *]) rfl ⟨rfl, ?_⟩
  exact ((hbw.setCell (p := ⟨w.heap.size, 0, none⟩) (Nat.le_refl _) _).setCell (p := ⟨w.heap.size, 1, none⟩) (Nat.le_refl _) _).setCell (p := ⟨w.heap.size, 2, none⟩) (Nat.le_refl _) _
end Go.Proofs.Ytlhiokcdjnmfmaa

namespace Go.Proofs.Ytlhiokcdjnmfmaa
open Go.RowKit Go.Maps
/-- The value is a slice of just these blocks; of the numbers nothing is said. -/
def SX (w : World) (s : Value) (bs : List Blk) : Prop := (∃ a c, s = .slice a 0 c ∧ bs = []) ∨ ∃ b off cap, s = .slice (some ⟨b, off, none⟩) bs.length cap ∧ b < w.heap.size ∧ Blks w b off bs
theorem SB.sx {w : World} {s : Value} {bs : List Blk} (h : SB w s bs) : SX w s bs := h.2.2
theorem SX.below {w w' : World} {s : Value} {bs : List Blk} (h : SX w s bs) {B : Nat} (hb : Below B w w') (hB : w.heap.size ≤ B) : SX w' s bs := by
  rcases h with h3 | ⟨b, off, cap, rfl, hl, hr⟩
  · exact .inl h3
  · exact .inr ⟨b, off, cap, rfl, by have := hb.size; omega, hr.below hb (by omega)⟩
theorem OwnR.sx {w : World} {base : Nat} {s : Value} {bs : List Blk} (h : OwnR w base s bs) : SX w s bs := by
  rcases h.res with ⟨rfl, a, c, rfl⟩ | ⟨g, cap, rfl, _, _, ho⟩
  · exact .inl ⟨a, c, rfl, rfl⟩
  · exact .inr ⟨g, 0, cap, rfl, ho.lt, ho.at_⟩
theorem OwnR.form {w : World} {base : Nat} {s : Value} {bs : List Blk} (h : OwnR w base s bs) : ∃ a c, s = .slice a bs.length c := by
  rcases h.res with ⟨rfl, a, c, rfl⟩ | ⟨g, cap, rfl, _⟩ <;> exact ⟨_, _, rfl⟩
theorem blks_flat {w : World} {b off : Nat} {bs : List Blk} (h : Blks w b off bs) (j : Nat) (u : Value) (hu : (bs.flatMap cells3)[j]? = some u) : w.cell? ⟨b, off + j, none⟩ = some u := by
  have hj : j < bs.length * 3 := by
    rw [← flat_length]
    exact (List.getElem?_eq_some_iff.1 hu).1
  obtain ⟨h0, h1, h2⟩ := h (j / 3) (by omega)
  obtain ⟨f0, f1, f2⟩ := flat_at bs (j / 3) (by omega)
  have hm : j % 3 = 0 ∨ j % 3 = 1 ∨ j % 3 = 2 := by omega
  rcases hm with hm | hm | hm
  · rw [show j / 3 * 3 = j by omega] at f0
    rw [show off + j / 3 * 3 = off + j by omega] at h0
    rw [h0, ← hu, f0]
  · rw [show j / 3 * 3 + 1 = j by omega] at f1
    rw [show off + j / 3 * 3 + 1 = off + j by omega] at h1
    rw [h1, ← hu, f1]
  · rw [show j / 3 * 3 + 2 = j by omega] at f2
    rw [show off + j / 3 * 3 + 2 = off + j by omega] at h2
    rw [h2, ← hu, f2]
theorem flat_one (bs : List Blk) : ∀ u ∈ bs.flatMap cells3, u.oneCell' = true := by
  intro u hu
  obtain ⟨x, _, hx⟩ := List.mem_flatMap.1 hu
  simp [cells3] at hx
  rcases hx with rfl | rfl | rfl <;> rfl
theorem run_append_many (w : World) (ty : TypeId) (base : Nat) (v : Value) (bs : List Blk) (hown : OwnR w base v bs) (x : Value) (cs : List Blk) (hx : SX w x cs) (hl : bs.length + cs.length ≤ 2200000) (hb : base ≤ w.heap.size) :
    ∃ v' w', (Builtin.append_ #[29, 29] ty #[v, x]).run Try.prog w = .ok v' w' ∧ OwnR w' base v' (bs ++ cs) ∧ w.grownBy w' v.ownBlock := by
  obtain ⟨i0, hi, hz0, hz1, hz2⟩ := info_parts infoBlock
  have key : ∀ (a : Addr) (m c : Nat) (news : List Value), x = .slice (some a) m c → m = cs.length → news = cs.flatMap cells3 → (∀ j u, news[j]? = some u → w.cell? (a.add j) = some u) →
      ∃ v' w', (Builtin.append_ #[29, 29] ty #[v, x]).run Try.prog w = .ok v' w' ∧ OwnR w' base v' (bs ++ cs) ∧ w.grownBy w' v.ownBlock := by
    intro a m c news ex em en hn
    subst ex
    subst en
    subst em
    obtain ⟨v', w', h1, h2, h3, _⟩ := run_append_own_at (P := Try.prog) w base 29 ty 77 i0 _ 3 24 Try.underlying29 hi hz0 hz1 hz2 rfl (by decide) v bs.length (bs.flatMap cells3) hown a cs.length c (cs.flatMap cells3) (flat_length cs) hn (flat_one cs) (by unfold maxLen; omega) (by omega) hb
    exact ⟨v', w', h1, by unfold OwnR; rw [List.length_append, List.flatMap_append]; exact h2, h3⟩
  rcases hx with ⟨a, c, rfl, rfl⟩ | ⟨b, off, cap, rfl, _, hbl⟩
  · cases a with
    | some a => exact key a 0 c [] rfl rfl rfl (by simp)
    | none =>
      refine ⟨v, w, ?_, by rw [List.append_nil]; exact hown, only_refl _ _⟩
      obtain ⟨a, c', rfl⟩ := hown.form
      have hroom : bs.length ≤ c' := by
        rcases hown.2 with ⟨h, h0⟩ | ⟨g, cap, cur, h, _, _, hn, _⟩
        · rw [h0]; exact Nat.zero_le _
        · simp at h; omega
      have hc : ∀ W : World, (Builtin.lenOf (.slice none 0 c)).run Try.prog W = .ok 0 W := fun _ => rfl
      have hc2 : ∀ W : World, (Builtin.firstCells 3 0 (.slice none 0 c)).run Try.prog W = .ok #[] W := fun _ => rfl
      simp [Builtin.append_, run_underlying Try.underlying29, sizeOf, typeInfo, hi, hz1, hc, hc2, hroom]
      cases a <;> rfl
  · refine key ⟨b, off, none⟩ cs.length cap (cs.flatMap cells3) rfl rfl rfl fun j u hu => ?_
    rw [addr_at]
    exact blks_flat hbl j u hu
theorem wp_append_many {w : World} {o : Oper} {a : Act} {K : Act → World → Prop} {Q : Exit → Act → World → Prop} (s x : Operand)
    (ho : o.op = .call { callee := .builtin .append, args := #[s, x], argTypes := #[29, 29] })
    (base : Nat) (v : Value) (bs : List Blk) (hs : a.eval s = v) (hown : OwnR w base v bs) (xv : Value) (cs : List Blk) (hxv : a.eval x = xv) (hx : SX w xv cs) (hl : bs.length + cs.length ≤ 2200000) (hb : base ≤ w.heap.size)
    (h : ∀ (a' : Option Addr) (c' : Nat) (w' : World), OwnR w' base (.slice a' (bs.length + cs.length) c') (bs ++ cs) → w.grownBy w' v.ownBlock → K (a.put o.dst (.slice a' (bs.length + cs.length) c')) w') : o.wp Try.prog a w K Q := by
  obtain ⟨v', w', hr, h2, h3⟩ := run_append_many w o.type base v bs hown xv cs hx hl hb
  obtain ⟨a', c', hv⟩ := h2.form
  rw [List.length_append] at hv
  subst hv
  unfold Oper.wp execOp
  simp only [ho, resolve, invoke, builtin, Sem.run_bind, Sem.run_pure, Result.andThen_ok, List.map_toArray, List.map_cons, List.map_nil, hs, hxv, hr]
  exact h a' c' w' h2 h3
theorem wpList_append_many {w : World} {ops : Array Oper} {rest : List Oper} {o : Oper} {a : Act} {Q : Exit → Act → World → Prop} (hgd : o.guard = none) (s x : Operand)
    (ho : o.op = .call { callee := .builtin .append, args := #[s, x], argTypes := #[29, 29] })
    (base : Nat) (v : Value) (bs : List Blk) (hs : a.eval s = v) (hown : OwnR w base v bs) (xv : Value) (cs : List Blk) (hxv : a.eval x = xv) (hx : SX w xv cs) (hl : bs.length + cs.length ≤ 2200000) (hb : base ≤ w.heap.size)
    (h : ∀ (a' : Option Addr) (c' : Nat) (w' : World), OwnR w' base (.slice a' (bs.length + cs.length) c') (bs ++ cs) → w.grownBy w' v.ownBlock → wpList Try.prog ops Q rest (a.put o.dst (.slice a' (bs.length + cs.length) c')) w') : wpList Try.prog ops Q (o :: rest) a w :=
  wpList_plain hgd fun _ hK => wp_append_many s x ho base v bs hs hown xv cs hxv hx hl hb fun a' c' w' h1 h2 => hK _ _ (h a' c' w' h1 h2)
theorem step_append_many {w : World} {ops : Array Oper} {o : Oper} {a : Act} {K : Act → World → Prop} {Q : Exit → Act → World → Prop} {E : Prop} (hgd : o.guard = none) (s x : Operand)
    (ho : o.op = .call { callee := .builtin .append, args := #[s, x], argTypes := #[29, 29] })
    (base : Nat) (v : Value) (bs : List Blk) (hs : a.eval s = v) (hown : OwnR w base v bs) (xv : Value) (cs : List Blk) (hxv : a.eval x = xv) (hx : SX w xv cs) (hl : bs.length + cs.length ≤ 2200000) (hb : base ≤ w.heap.size)
    (h : ∀ (a' : Option Addr) (c' : Nat) (w' : World), OwnR w' base (.slice a' (bs.length + cs.length) c') (bs ++ cs) → w.grownBy w' v.ownBlock → K (a.put o.dst (.slice a' (bs.length + cs.length) c')) w') :
    if Region.wanted o (yielded ops a.tmps) = true then Oper.wp Try.prog o a w K Q else E := by
  have hw : Region.wanted o (yielded ops a.tmps) = true := by simp [Region.wanted, hgd]
  rw [if_pos hw]
  exact wp_append_many s x ho base v bs hs hown xv cs hxv hx hl hb h
end Go.Proofs.Ytlhiokcdjnmfmaa

namespace Go.Proofs.Ytlhiokcdjnmfmaa
open Go.RowKit Go.Maps
theorem sizeInt64 (w : World) : (sizeOf 2).run Try.prog w = .ok 1 w := by kernel_rfl
theorem partInt64 (x y z : Value) (w : World) : (part 2 #[x, y, z] 0).run Try.prog w = .ok x w ∧ (part 2 #[x, y, z] 1).run Try.prog w = .ok y w ∧ (part 2 #[x, y, z] 2).run Try.prog w = .ok z w := by
  refine ⟨?_, ?_, ?_⟩ <;> kernel_rfl
theorem eqIn64 (d : Nat) (a b : Int) (w : World) : (Op.equalIn (d + 1) 2 (.int .i64 a) (.int .i64 b)).run Try.prog w = .ok (a == b) w := by
  simp [Op.equalIn, run_underlying Try.underlying2]
theorem eqInBlk (n : Nat) (a b c d e f : Int) (w : World) : (Op.equalIn (n + 1 + 1) 77 (.agg #[.int .i64 a, .int .i64 b, .int .i64 c]) (.agg #[.int .i64 d, .int .i64 e, .int .i64 f])).run Try.prog w = .ok (a == d && b == e && c == f) w := by
  rw [Op.equalIn]
  simp only [Sem.run_bind, run_underlying Try.underlying77, Result.andThen_ok, sizeInt64]
  simp [Std.Legacy.Range.forIn_eq_forIn_range', Std.Legacy.Range.size, List.range', partInt64, eqIn64, Sem.run_ite]
  by_cases h1 : a = d <;> by_cases h2 : b = e <;> by_cases h3 : c = f <;> simp [h1, h2, h3]
theorem run_eql_blk (x y : Blk) (w : World) : (binOp .eql 77 (bv x) (bv y)).run Try.prog w = .ok (.bool (decide (x = y))) w := by
  obtain ⟨a, b, c⟩ := x
  obtain ⟨d, e, f⟩ := y
  simp only [bv, binOp]
  simp [Op.equal, Op.maxDepth, eqInBlk 9998]
  by_cases h1 : a = d <;> by_cases h2 : b = e <;> by_cases h3 : c = f <;> simp [h1, h2, h3]
theorem run_neq_blk (x y : Blk) (w : World) : (binOp .neq 77 (bv x) (bv y)).run Try.prog w = .ok (.bool (!decide (x = y))) w := by
  obtain ⟨a, b, c⟩ := x
  obtain ⟨d, e, f⟩ := y
  simp only [bv, binOp]
  simp [Op.equal, Op.maxDepth, eqInBlk 9998]
  by_cases h1 : a = d <;> by_cases h2 : b = e <;> by_cases h3 : c = f <;> simp [h1, h2, h3]
end Go.Proofs.Ytlhiokcdjnmfmaa

namespace Go.Proofs.Ytlhiokcdjnmfmaa
/-- A system and a code: points, blocks, code. -/
def takeF (v : Int) (bs : List Blk) (i : Int) : Int × List Blk × Int :=
  if isSysImpl v bs then (if decide (0 ≤ i) && decide (i < (bs.length : Int)) then (v, bs.take i.toNat ++ bs.drop (i.toNat + 1), 0) else (0, [], 2)) else (0, [], 1)
theorem filter_all {p : Blk → Bool} : ∀ {l : List Blk}, (∀ x ∈ l, p x = true) → l.filter p = l
  | [], _ => rfl
  | x :: r, h => by rw [List.filter_cons, if_pos (h x (by simp)), filter_all (fun y hy => h y (by simp [hy]))]
/-- The blocks that are not the i-th. -/
theorem filter_other {bs : List Blk} (h : bs.Nodup) {i : Nat} (hi : i < bs.length) : bs.filter (fun x => !decide (x = bs[i])) = bs.take i ++ bs.drop (i + 1) := by
  have e : bs = bs.take i ++ bs[i] :: bs.drop (i + 1) := by rw [← List.drop_eq_getElem_cons hi, List.take_append_drop]
  obtain ⟨y, hy⟩ : ∃ y, y = bs[i] := ⟨_, rfl⟩
  rw [← hy] at e ⊢
  clear hy
  obtain ⟨p, hp⟩ : ∃ p, p = bs.take i := ⟨_, rfl⟩
  obtain ⟨q, hq⟩ : ∃ q, q = bs.drop (i + 1) := ⟨_, rfl⟩
  rw [← hp, ← hq] at e ⊢
  clear hp hq hi
  subst e
  obtain ⟨h1, h2, h3⟩ := List.nodup_append.1 h
  rw [List.nodup_cons] at h2
  rw [List.filter_append, List.filter_cons, if_neg (by simp)]
  rw [filter_all (fun x hx => by have := h3 x hx y (by simp); simpa using this), filter_all (fun x hx => by
    have : x ≠ y := fun e => h2.1 (e ▸ hx)
    simpa using this)]
theorem takeF_sub (v : Int) (bs : List Blk) (i : Int) : ∀ x ∈ (takeF v bs i).2.1, x ∈ bs := by
  unfold takeF
  split
  · split
    · intro x hx
      rcases List.mem_append.1 hx with h | h
      · exact List.mem_of_mem_take h
      · exact List.mem_of_mem_drop h
    · simp
  · simp
theorem takeF_len (v : Int) (bs : List Blk) (i : Int) : (takeF v bs i).2.1.length ≤ bs.length := by
  unfold takeF
  split
  · split
    · simp
      omega
    · simp
  · simp
end Go.Proofs.Ytlhiokcdjnmfmaa

namespace Go.Proofs.Ytlhiokcdjnmfmaa
open Go.RowKit Go.Maps
/-- Two results: a system in new memory, and a code. -/
def RSys (r : Int × List Blk × Int) (w : World) (e : Ending) (w' : World) : Prop := ∃ s, e = .returned (.tuple #[.agg #[.int .i64 r.1, s], .int .i64 r.2.2]) ∧ ResR w' w.heap.size w'.heap.size s r.2.1 ∧ Below w.heap.size w w'
theorem boxes2 {w w1 : World} {v : Int} {s : Value} {T : TypeId} (hb : Below ((w.alloc (.cells #[.int .i64 v, s] T)).alloc (.cells #[.int .i64 0, .slice none 0 0] T)).heap.size ((w.alloc (.cells #[.int .i64 v, s] T)).alloc (.cells #[.int .i64 0, .slice none 0 0] T)) w1) :
    w1.cell? ⟨w.heap.size, 0, none⟩ = some (.int .i64 v) ∧ w1.cell? ⟨w.heap.size, 1, none⟩ = some s ∧ w1.cell? ⟨w.heap.size + 1, 0, none⟩ = some (.int .i64 0) ∧ w1.cell? ⟨w.heap.size + 1, 1, none⟩ = some (.slice none 0 0) ∧
    w1.frozen? ⟨w.heap.size + 1, 0, none⟩ = false ∧ w1.frozen? ⟨w.heap.size + 1, 1, none⟩ = false ∧ Below w.heap.size w w1 ∧ w.heap.size + 1 < w1.heap.size := by
  have hz := hb.size
  simp at hz
  refine ⟨?_, ?_, ?_, ?_, ?_, ?_, (((Below.refl _ _).alloc (Nat.le_refl _) _).alloc (by simp) _).trans (hb.mono (by simp; omega)), by omega⟩
  · exact (hb.cell (p := ⟨w.heap.size, 0, none⟩) (by simp; omega)).trans (by simp [go_sem])
  · exact (hb.cell (p := ⟨w.heap.size, 1, none⟩) (by simp; omega)).trans (by simp [go_sem])
  · exact (hb.cell (p := ⟨w.heap.size + 1, 0, none⟩) (by simp)).trans (by simp [go_sem])
  · exact (hb.cell (p := ⟨w.heap.size + 1, 1, none⟩) (by simp)).trans (by simp [go_sem])
  · exact (hb.frozen (p := ⟨w.heap.size + 1, 0, none⟩) (by simp)).trans (by simp [go_sem])
  · exact (hb.frozen (p := ⟨w.heap.size + 1, 1, none⟩) (by simp)).trans (by simp [go_sem])
theorem below2 (w : World) (v : Int) (s : Value) (T : TypeId) : Below w.heap.size w ((w.alloc (.cells #[.int .i64 v, s] T)).alloc (.cells #[.int .i64 0, .slice none 0 0] T)) := ((Below.refl _ _).alloc (Nat.le_refl _) _).alloc (by simp) _
theorem below_set2 {B : Nat} {a w : World} (h : Below B a w) {b : Nat} (hb : B ≤ b) (u v : Value) : Below B a ((w.setCell ⟨b, 0, none⟩ u).setCell ⟨b, 1, none⟩ v) := (h.setCell (p := ⟨b, 0, none⟩) hb u).setCell (p := ⟨b, 1, none⟩) hb v
theorem gb_set2 (w : World) (b : Nat) (u v : Value) : w.grownBy ((w.setCell ⟨b, 0, none⟩ u).setCell ⟨b, 1, none⟩ v) (some b) := only_setCell (only_setCell (only_refl w (some b)) rfl u) rfl v
end Go.Proofs.Ytlhiokcdjnmfmaa

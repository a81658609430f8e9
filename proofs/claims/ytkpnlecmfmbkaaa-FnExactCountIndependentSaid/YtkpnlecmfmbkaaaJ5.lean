
/- The model's code of a system and a set of points. What DoubleSystem answers: plain. Renumbered systems, and systems of blocks in any order: plain. The program's isRenumbering. Places in a list: the program's and the model's. The model's list of the blocks through a point. Closed and independent sets, in the program. IsClosed and IsIndependent of the program. Closed and independent sets, in the model. -/
import Derived.Test.YtkpnlecmfmbkaaaJ4
import Derived.Deep.QuietTactic
import Derived.IntWalk
namespace Go.Proofs.Ytkpnlecmfmbkaaa
open Go.RowKit Go.Maps
def setCode (v : Int) (bs : List Blk) (pts : List Int) : Int := if isSysImpl v bs then (if pts.all (inP v) && ascGo none pts then 0 else 2) else 1
set_option maxRecDepth 100000 in
theorem l01PointsIB_any (v : Int) (s : Value) (bs : List Blk) (t : Value) (ps : List Int) (w : World) (h : SB w s bs) (ht : IB w t ps) :
    Calls Try.prog 179 #[.agg #[.int .i64 v, s], t] w (RV (.int .i64 (pointsCode v bs ps)) w) := by
  obtain ⟨htl, h3⟩ := ht
  rcases h3 with ⟨a1, c1, rfl, rfl⟩ | ⟨b, off, cap, rfl, hlt, hI⟩
  · have hs := h.slice
    have hc := l01Is_any v s bs (w.alloc (.cells #[.int .i64 v, s] 32)) (h.below ((Below.refl _ _).alloc (Nat.le_refl _) _) (Nat.le_refl _))
    clear h htl
    obtain ⟨a0, c0, rfl⟩ := hs
    cases hi : isSysImpl v bs with
    | false =>
      rw [hi] at hc
      have HC := Lib.hid hc
      have hp : pointsCode v bs [] = 1 := by simp [pointsCode, hi]
      rw [hp]
      clear hc hi hp
      go_enter Try.func179, Try.ntmps179
      go_wp2_with (go_at_call 92; refine HC.out.mono ?_; rintro e w1 ⟨rfl, hb1⟩)
      go_ret
      exact RV_of rfl (((Below.refl _ _).alloc (Nat.le_refl _) _).trans (hb1.mono (by simp)))
    | true =>
      rw [hi] at hc
      have HC := Lib.hid hc
      have hp : pointsCode v bs [] = 0 := by simp [pointsCode, hi]
      rw [hp]
      clear hc hi hp
      go_enter Try.func179, Try.ntmps179
      go_wp2_with fail
      refine HC.out.mono ?_
      rintro e w1 ⟨rfl, hb1⟩
      have hbw := ((Below.refl w.heap.size w).alloc (Nat.le_refl _) (.cells #[.int .i64 v, .slice a0 bs.length c0] 32)).trans (hb1.mono (by simp))
      clear hb1
      go_wp2
      refine wp_loop_rounds 1 ?_
      rw [rounds_succ]
      go_wp2
      go_ret
      exact RV_of rfl hbw
  · exact l01Points_any v s bs b off cap ps w h hI hlt htl
set_option maxRecDepth 100000 in
theorem l01Set_any (v : Int) (s : Value) (bs : List Blk) (t : Value) (ps : List Int) (w : World) (h : SB w s bs) (ht : IB w t ps) :
    Calls Try.prog 105 #[.agg #[.int .i64 v, s], t] w (RV (.int .i64 (setCode v bs ps)) w) := by
  have hs := h.slice
  have hc := l01PointsIB_any v s bs t ps (w.alloc (.cells #[.int .i64 v, s] 32)) (h.below ((Below.refl _ _).alloc (Nat.le_refl _) _) (Nat.le_refl _)) (ht.below ((Below.refl _ _).alloc (Nat.le_refl _) _) (Nat.le_refl _))
  have hts : ∃ a c, t = .slice a ps.length c := by rcases ht.2 with ⟨a, c, rfl, rfl⟩ | ⟨b, off, cap, rfl, _⟩ <;> exact ⟨_, _, rfl⟩
  have htl := ht.1
  have HT := Lib.hid ht
  clear h ht
  obtain ⟨a0, c0, rfl⟩ := hs
  obtain ⟨a1, c1, rfl⟩ := hts
  have HCC := Lib.hid (show setCode v bs ps = if pointsCode v bs ps = 0 then (if ascGo none ps then 0 else 2) else pointsCode v bs ps by
    unfold setCode pointsCode
    cases isSysImpl v bs <;> cases ps.all (inP v) <;> cases ascGo none ps <;> rfl)
  obtain ⟨κ, hκ⟩ : ∃ κ, κ = pointsCode v bs ps := ⟨_, rfl⟩
  rw [← hκ] at hc HCC
  have HC := Lib.hid hc
  clear hc hκ
  by_cases e : κ = 0
  · subst e
    have HD := Lib.hid (show setCode v bs ps = if ascGo none ps then 0 else 2 by rw [HCC.out, if_pos rfl])
    clear HCC
    go_enter Try.func105, Try.ntmps105
    go_wp2_with fail
    refine HC.out.mono ?_
    rintro e w1 ⟨rfl, hb1⟩
    have hbw := ((Below.refl w.heap.size w).alloc (Nat.le_refl _) (.cells #[.int .i64 v, .slice a0 bs.length c0] 32)).trans (hb1.mono (by simp))
    have HT1 := Lib.hid (HT.out.below hbw (Nat.le_refl _))
    clear hb1 HC HT
    go_wp2_with fail
    go_loopw [6] (fun i wr => ∃ k : Nat, 1 ≤ k ∧ i = .int .i64 k ∧ (∃ n, wr = w1.drewN n) ∧ Hid (ascGo none ps = ascGo (ps[k - 1]?) (ps.drop k))) (fun i _ => ps.length - (intOf i).toNat)
    case atStart => exact ⟨1, Nat.le_refl _, rfl, ⟨0, rfl⟩, Lib.hid (by cases ps <;> simp [ascGo])⟩
    case round =>
      obtain ⟨k, hk1, rfl, ⟨n, rfl⟩, HE⟩ := hrel
      by_cases hkl : k < ps.length
      · obtain ⟨j, rfl⟩ : ∃ j, k = j + 1 := ⟨k - 1, by omega⟩
        rcases HT1.out.2 with ⟨_, _, _, hnil⟩ | ⟨b, off, cap, hv2, hplt, hpi⟩
        · exfalso; rw [hnil] at hkl; simp at hkl
        simp at hv2
        obtain ⟨rfl, rfl⟩ := hv2
        have ck := hpi (j + 1) hkl
        have cj := hpi j (by omega)
        have hdr : ps.drop (j + 1) = (ps[j + 1]?.getD 0) :: ps.drop (j + 1 + 1) := by rw [List.drop_eq_getElem_cons hkl]; simp [hkl]
        have hkk : ps[j + 1]? = some (ps[j + 1]?.getD 0) := by simp [hkl]
        have hj : ps[j]? = some (ps[j]?.getD 0) := by simp [show j < ps.length by omega]
        obtain ⟨z, hz⟩ : ∃ z, z = ps[j + 1]?.getD 0 := ⟨_, rfl⟩
        obtain ⟨y, hy⟩ : ∃ y, y = ps[j]?.getD 0 := ⟨_, rfl⟩
        rw [← hz] at ck hdr hkk
        rw [← hy] at cj hj
        have he := HE.out
        rw [Nat.add_sub_cancel, hdr, hj] at he
        have HV := Lib.hid (show ascGo none ps = (decide (y < z) && ascGo (some z) (ps.drop (j + 1 + 1))) by rw [he]; rfl)
        have HKK := Lib.hid hkk
        have g0 : (0 : Int) ≤ ((j + 1 : Nat) : Int) := by omega
        have g1 : ((j + 1 : Nat) : Int) < (ps.length : Int) := by omega
        have gi : (0 : Int) < (j : Int) + 1 := by omega
        have gi0 : (0 : Int) ≤ (j : Int) + 1 := by omega
        have gi1 : (j : Int) + 1 < (ps.length : Int) := by omega
        have gj0 : (0 : Int) ≤ (j : Int) := by omega
        have gj1 : (j : Int) < (ps.length : Int) := by omega
        have ej : ((j + 1 : Nat) : Int) - 1 = (j : Int) := by omega
        clear hz hdr hkk hj hy he HE hpi
        by_cases hyz : y < z
        · have q1 : decide (z ≤ y) = false := by simp; omega
          have HW := Lib.hid (show ascGo none ps = ascGo (some z) (ps.drop (j + 1 + 1)) by rw [HV.out]; simp [hyz])
          clear HV
          go_wp2
          go_quiet (fail)
          go_wp2
          go_roundw
          case rel => exact ⟨j + 1 + 1, by omega, by go_num, ⟨_, rfl⟩, Lib.hid (by rw [HW.out, Nat.add_sub_cancel, HKK.out])⟩
          case measure => simp [intOf]; omega
        · have q1 : decide (z ≤ y) = true := by simp; omega
          have q2 : z ≤ y := by omega
          have HW := Lib.hid (show ascGo none ps = false by rw [HV.out]; simp [hyz])
          clear HV hyz
          go_wp2
          go_quiet (fail)
          go_wp2
          go_ret
          exact RV_of (int_eq (by rw [HD.out, HW.out]; rfl)) (below_drewN (below_drewN hbw _) _)
      · have HW := Lib.hid (show ascGo none ps = true by rw [HE.out, List.drop_eq_nil_of_le (by omega), ascGo])
        go_wp2
        go_ret
        exact RV_of (int_eq (by rw [HD.out, HW.out]; rfl)) (below_drewN hbw _)
  · have q1 : (κ != 0) = true := by simpa using e
    have q2 : decide (κ = 0) = false := by simpa using e
    have HD := Lib.hid (show setCode v bs ps = κ by rw [HCC.out, if_neg e])
    clear HCC e
    go_enter Try.func105, Try.ntmps105
    go_wp2_with fail
    refine HC.out.mono ?_
    rintro e w1 ⟨rfl, hb1⟩
    have hbw := ((Below.refl w.heap.size w).alloc (Nat.le_refl _) (.cells #[.int .i64 v, .slice a0 bs.length c0] 32)).trans (hb1.mono (by simp))
    go_wp2
    go_ret
    exact RV_of (int_eq (by rw [HD.out])) hbw
end Go.Proofs.Ytkpnlecmfmbkaaa

namespace Go.Proofs.Ytkpnlecmfmbkaaa
def dblB (v : Int) (x : Blk) : List Blk := [⟨x.a, v + x.b, v + x.c⟩, ⟨x.b, v + x.a, v + x.c⟩, ⟨x.c, v + x.a, v + x.b⟩]
def dblP (v : Int) (k : Nat) : List Blk := (List.range k).map fun (a : Nat) => ⟨(a : Int), v + (a : Int), 2 * v⟩
theorem dblP_succ (v : Int) (k : Nat) : dblP v (k + 1) = dblP v k ++ [⟨(k : Int), v + (k : Int), 2 * v⟩] := by simp [dblP, List.range_succ]
theorem dblP_len (v : Int) (k : Nat) : (dblP v k).length = k := by simp [dblP]
def dblA (v : Int) (bs : List Blk) (k : Nat) : List Blk := bs ++ (bs.take k).flatMap (dblB v)
theorem dblA_succ {v : Int} {bs : List Blk} {k : Nat} (hk : k < bs.length) {x : Blk} (hx : bs[k]? = some x) : dblA v bs (k + 1) = dblA v bs k ++ dblB v x := by
  have e : bs[k] = x := by
    rw [List.getElem?_eq_getElem hk] at hx
    simpa using hx
  unfold dblA
  rw [List.take_succ_eq_append_getElem hk, e, List.flatMap_append, List.append_assoc]
  simp
theorem dblB_len (v : Int) : ∀ l : List Blk, (l.flatMap (dblB v)).length = 3 * l.length
  | [] => rfl
  | x :: r => by rw [List.flatMap_cons, List.length_append, dblB_len v r]; simp [dblB]; omega
theorem dblA_len (v : Int) (bs : List Blk) {k : Nat} (hk : k ≤ bs.length) : (dblA v bs k).length = bs.length + 3 * k := by
  unfold dblA
  rw [List.length_append, dblB_len, List.length_take, Nat.min_eq_left hk]
def dblL (v : Int) (bs : List Blk) : List Blk := dblA v bs bs.length ++ dblP v v.toNat
theorem dblL_len (v : Int) (bs : List Blk) : (dblL v bs).length = bs.length + 3 * bs.length + v.toNat := by
  unfold dblL
  rw [List.length_append, dblA_len v bs (Nat.le_refl _), dblP_len]
theorem dblL_mem {v : Int} (hv : 0 ≤ v) (hv15 : v ≤ 15) {bs : List Blk} (hg : ∀ x ∈ bs, goodB v x = true) : ∀ x ∈ dblL v bs, (0 ≤ x.a ∧ x.a ≤ 1000) ∧ (0 ≤ x.b ∧ x.b ≤ 1000) ∧ (0 ≤ x.c ∧ x.c ≤ 1000) := by
  intro x hx
  unfold dblL dblA at hx
  rw [List.take_length] at hx
  rcases List.mem_append.1 hx with hx | hx
  · rcases List.mem_append.1 hx with hx | hx
    · have := goodB_iff.1 (hg x hx); omega
    · obtain ⟨y, hy, hxy⟩ := List.mem_flatMap.1 hx
      have := goodB_iff.1 (hg y hy)
      simp only [dblB, List.mem_cons, List.not_mem_nil, or_false] at hxy
      rcases hxy with rfl | rfl | rfl <;> (dsimp only; omega)
  · obtain ⟨a, ha, rfl⟩ := List.mem_map.1 hx
    have := List.mem_range.1 ha
    dsimp only
    omega
/-- The smallest, the middle and the greatest of three. -/
def blk3 (a b c : Int) : Blk := ⟨min (min a b) c, a + b + c - min (min a b) c - max (max a b) c, max (max a b) c⟩
theorem blk3_of {a b c p q r : Int} (hp : p = min (min a b) c) (hr : r = max (max a b) c) (hq : q = a + b + c - p - r) : blk3 a b c = ⟨p, q, r⟩ := by
  unfold blk3
  rw [← hp, ← hr, ← hq]
end Go.Proofs.Ytkpnlecmfmbkaaa

namespace Go.Proofs.Ytkpnlecmfmbkaaa
/-- Each number is a point, and comes once. -/
def rnGo (v : Int) : List Int → List Int → Bool
  | _, [] => true
  | seen, a :: r => inP v a && !(decide (a ∈ seen)) && rnGo v (seen ++ [a]) r
def isRen (v : Int) (p : List Int) : Bool := decide ((p.length : Int) = v) && rnGo v [] p
theorem rnGo_in {v : Int} : ∀ {l seen : List Int}, rnGo v seen l = true → ∀ a ∈ l, inP v a = true
  | [], _, _, a, h => by cases h
  | b :: r, seen, h, a, ha => by
    simp only [rnGo, Bool.and_eq_true] at h
    rcases List.mem_cons.1 ha with rfl | ha
    · exact h.1.1
    · exact rnGo_in h.2 a ha
theorem rnGo_bad {v : Int} {a : Int} {r seen : List Int} (h : inP v a = false) : rnGo v seen (a :: r) = false := by simp [rnGo, h]
theorem rnGo_dup {v : Int} {a : Int} {r seen : List Int} (h : a ∈ seen) : rnGo v seen (a :: r) = false := by simp [rnGo, h]
theorem rnGo_next {v : Int} {a : Int} {r seen : List Int} (h : inP v a = true) (h2 : a ∉ seen) : rnGo v seen (a :: r) = rnGo v (seen ++ [a]) r := by simp [rnGo, h, h2]
def at0 (p : List Int) (a : Int) : Int := p[a.toNat]?.getD 0
def renB (p : List Int) (x : Blk) : Blk := blk3 (at0 p x.a) (at0 p x.b) (at0 p x.c)
/-- A system and a code: points, blocks, code. -/
def renF (v : Int) (bs : List Blk) (p : List Int) : Int × List Blk × Int :=
  if isSysImpl v bs then (if isRen v p then (v, sortB (bs.map (renB p)), 0) else (0, [], 2)) else (0, [], 1)
theorem renF_len (v : Int) (bs : List Blk) (p : List Int) : (renF v bs p).2.1.length ≤ bs.length := by
  unfold renF
  split
  · split
    · simp only [sortB_length, List.length_map]; exact Nat.le_refl _
    · simp
  · simp
theorem at0_in {v : Int} {p : List Int} (h : isRen v p = true) {a : Int} (h0 : 0 ≤ a) (h1 : a < v) : 0 ≤ at0 p a ∧ at0 p a < v := by
  unfold isRen at h
  simp only [Bool.and_eq_true, decide_eq_true_eq] at h
  have hl : a.toNat < p.length := by omega
  have := rnGo_in h.2 p[a.toNat] (List.getElem_mem hl)
  rw [inP] at this
  simp only [Bool.and_eq_true, decide_eq_true_eq] at this
  unfold at0
  rw [List.getElem?_eq_getElem hl]
  exact this
theorem blk3_in {v a b c : Int} (ha : 0 ≤ a ∧ a < v) (hb : 0 ≤ b ∧ b < v) (hc : 0 ≤ c ∧ c < v) : (0 ≤ (blk3 a b c).a ∧ (blk3 a b c).a < v) ∧ (0 ≤ (blk3 a b c).b ∧ (blk3 a b c).b < v) ∧ (0 ≤ (blk3 a b c).c ∧ (blk3 a b c).c < v) := by
  unfold blk3
  dsimp only
  omega
/-- The middle one. -/
theorem blk3_good {v a b c : Int} : goodB v (blk3 a b c) = true ↔ (0 ≤ a ∧ a < v) ∧ (0 ≤ b ∧ b < v) ∧ (0 ≤ c ∧ c < v) ∧ a ≠ b ∧ b ≠ c ∧ a ≠ c := by
  rw [goodB_iff]
  unfold blk3
  dsimp only
  omega
def b3 (x : Blk) : Blk := blk3 x.a x.b x.c
def sysOfF (v : Int) (bs : List Blk) : Int × List Blk × Int :=
  if decide (3 ≤ v) && decide (v ≤ 15) && decide (bs.length ≤ 35) && bs.all (fun x => goodB v (b3 x)) then
    (if shareGo [] (bs.map b3) then (0, [], 5) else (v, sortB (bs.map b3), 0))
  else (0, [], 2)
theorem sort3 (a b c : Int) : [a, b, c].mergeSort (fun x y => decide (x ≤ y)) = [(blk3 a b c).a, (blk3 a b c).b, (blk3 a b c).c] := by
  have hs : ([a, b, c].mergeSort (fun x y => decide (x ≤ y))).Pairwise (· ≤ ·) := by
    have := List.pairwise_mergeSort (le := fun x y : Int => decide (x ≤ y)) (fun x y z h1 h2 => by simp at *; omega) (fun x y => by simp; omega) [a, b, c]
    exact this.imp (by simp)
  have hp := List.mergeSort_perm [a, b, c] (fun x y : Int => decide (x ≤ y))
  have hs2 : [(blk3 a b c).a, (blk3 a b c).b, (blk3 a b c).c].Pairwise (· ≤ ·) := by
    unfold blk3
    simp
    omega
  have hp2 : [(blk3 a b c).a, (blk3 a b c).b, (blk3 a b c).c].Perm [a, b, c] := by
    unfold blk3
    dsimp only
    rw [List.perm_iff_count]
    intro x
    simp only [List.count_cons, List.count_nil, beq_iff_eq]
    by_cases h1 : a ≤ b <;> by_cases h2 : b ≤ c <;> by_cases h3 : a ≤ c <;> simp only [Int.min_def, Int.max_def, h1, h2, h3, if_true, if_false] <;> (try omega) <;> (repeat' split) <;> omega
  exact (hp.trans hp2.symm).eq_of_pairwise (fun x y _ _ h1 h2 => by omega) hs hs2
end Go.Proofs.Ytkpnlecmfmbkaaa

namespace Go.Proofs.Ytkpnlecmfmbkaaa
open Go.RowKit Go.Maps
theorem intKeyed : Keyed Try.prog 2 := int_keyed Try.underlying2
theorem int_key {a : Int} (ha : WF a) : ∃ kl, keyOf Try.prog 2 (.int .i64 a) = some kl := ⟨_, keyOf_int_mk Try.underlying2 ha⟩
def iv (a : Int) : Value := .int .i64 a
theorem iv_inj {a b : Int} (h : iv a = iv b) : a = b := by simpa [iv] using h
theorem take_snoc' {l : List Int} {k : Nat} (h : k < l.length) : l.take (k + 1) = l.take k ++ [l[k]?.getD 0] := by
  rw [List.take_succ_eq_append_getElem h]; simp [h]
end Go.Proofs.Ytkpnlecmfmbkaaa

namespace Go.Proofs.Ytkpnlecmfmbkaaa
open Go.RowKit Go.Maps
theorem place_drop {zs : List Int} {x : Int} {k : Nat} (hk : k < zs.length) (h : place zs x = plGo x (zs.drop k) k) : (zs[k]?.getD 0 = x → place zs x = k) ∧ (zs[k]?.getD 0 ≠ x → place zs x = plGo x (zs.drop (k + 1)) (k + 1)) := by
  have hdr : zs.drop k = (zs[k]?.getD 0) :: zs.drop (k + 1) := by rw [List.drop_eq_getElem_cons hk]; simp [hk]
  rw [hdr] at h
  refine ⟨fun e => ?_, fun e => ?_⟩
  · rw [h, plGo, if_pos e]
  · rw [h, plGo, if_neg e]
set_option maxRecDepth 100000 in
theorem Idx_any (s : Value) (zs : List Int) (x : Int) (w : World) (h : IB w s zs) : Calls Try.prog 217 #[s, .int .i64 x] w (RS (.int .i64 (place zs x)) w) := by
  obtain ⟨hlen, h3⟩ := h
  rcases h3 with ⟨a0, c0, rfl, rfl⟩ | ⟨b, off, cap, rfl, hlt, hI⟩
  · go_enter Try.func217, Try.ntmps217
    go_wp2
    refine wp_loop_rounds 1 ?_
    rw [rounds_succ]
    go_wp2
    go_ret
    exact RS_of rfl
  · have HI := Lib.hid hI
    clear hI
    go_enter Try.func217, Try.ntmps217
    go_wp2
    go_loop [8] (fun i => ∃ k : Nat, k ≤ zs.length ∧ i = .int .i64 k ∧ Hid (place zs x = plGo x (zs.drop k) k)) (fun i => zs.length - (intOf i).toNat)
    case atStart => exact ⟨0, Nat.zero_le _, rfl, Lib.hid (by simp [place])⟩
    case round =>
      obtain ⟨k, hk, rfl, HE⟩ := hrel
      by_cases hkl : k < zs.length
      · have c0 := HI.out k hkl
        obtain ⟨d1, d2⟩ := place_drop hkl HE.out
        obtain ⟨z, hz⟩ : ∃ z, z = zs[k]?.getD 0 := ⟨_, rfl⟩
        rw [← hz] at c0 d1 d2
        have D1 := Lib.hid d1
        have D2 := Lib.hid d2
        have g0 : (0 : Int) ≤ (k : Int) := by omega
        have g1 : (k : Int) < (zs.length : Int) := by omega
        clear hz d1 d2
        by_cases e : z = x
        · have q1 : (x == z) = true := by simpa using e.symm
          have q2 : decide (x = z) = true := by simpa using e.symm
          have HZ := Lib.hid (D1.out e)
          clear e
          go_wp2
          go_ret
          exact RS_of (int_eq (by rw [HZ.out]))
        · have q1 : (x == z) = false := by simpa using fun h => e h.symm
          have q2 : decide (x = z) = false := by simpa using fun h => e h.symm
          have HZ := Lib.hid (D2.out e)
          clear e
          go_wp2
          go_round
          case rel => exact ⟨k + 1, by omega, by go_num, HZ⟩
          case measure => simp [intOf]; omega
      · go_wp2
        go_ret
        exact RS_of (int_eq (by rw [HE.out, List.drop_eq_nil_of_le (by omega), plGo]))
set_option maxRecDepth 100000 in
theorem isNumberSet_any (v : Int) (s : Value) (zs : List Int) (w : World) (h : IB w s zs) : Calls Try.prog 181 #[.int .i64 v, s] w (RS (.bool (ptGo v none zs)) w) := by
  obtain ⟨hlen, h3⟩ := h
  rcases h3 with ⟨a0, c0, rfl, rfl⟩ | ⟨b, off, cap, rfl, hlt, hI⟩
  · go_enter Try.func181, Try.ntmps181
    go_wp2
    refine wp_loop_rounds 1 ?_
    rw [rounds_succ]
    go_wp2
    go_ret
    exact RS_of rfl
  · have HI := Lib.hid hI
    clear hI
    go_enter Try.func181, Try.ntmps181
    go_wp2
    go_loop [9] (fun i => ∃ k : Nat, k ≤ zs.length ∧ i = .int .i64 k ∧ Hid (ptGo v none zs = ptGo v (if k = 0 then none else zs[k - 1]?) (zs.drop k))) (fun i => zs.length - (intOf i).toNat)
    case atStart => exact ⟨0, Nat.zero_le _, rfl, Lib.hid (by simp)⟩
    case round =>
      obtain ⟨k, hk, rfl, HE⟩ := hrel
      by_cases hkl : k < zs.length
      · have c0 := HI.out k hkl
        have hdr : zs.drop k = (zs[k]?.getD 0) :: zs.drop (k + 1) := by rw [List.drop_eq_getElem_cons hkl]; simp [hkl]
        have hkk : zs[k]? = some (zs[k]?.getD 0) := by simp [hkl]
        obtain ⟨z, hz⟩ : ∃ z, z = zs[k]?.getD 0 := ⟨_, rfl⟩
        rw [← hz] at c0 hdr hkk
        have he := HE.out
        rw [hdr] at he
        have HKK := Lib.hid hkk
        have g0 : (0 : Int) ≤ (k : Int) := by omega
        have g1 : (k : Int) < (zs.length : Int) := by omega
        clear hz hdr hkk HE
        cases hin : inP v z with
        | false =>
          have HV := Lib.hid (show ptGo v none zs = false by rw [he]; unfold ptGo; rw [hin]; rfl)
          have hor : z < 0 ∨ v ≤ z := by simp [inP] at hin; omega
          by_cases hz0 : z < 0
          · have q0 : decide (z < 0) = true := decide_eq_true hz0
            clear hin he hor
            go_wp2
            go_ret
            exact RS_of (bool_eq (by rw [HV.out]))
          · have q0 : decide (z < 0) = false := decide_eq_false hz0
            have q1 : decide (v ≤ z) = true := decide_eq_true (by omega)
            clear hin he hor hz0
            go_wp2
            go_ret
            exact RS_of (bool_eq (by rw [HV.out]))
        | true =>
          have hor : 0 ≤ z ∧ z < v := by simpa [inP] using hin
          have p0 : decide (z < 0) = false := decide_eq_false (by omega)
          have p1 : decide (v ≤ z) = false := decide_eq_false (by omega)
          by_cases hk0 : k = 0
          · subst hk0
            have HV := Lib.hid (show ptGo v none zs = ptGo v (some z) (zs.drop 1) by rw [he]; simp [ptGo, hin])
            have gd : decide ((0 : Int) < ((0 : Nat) : Int)) = false := by decide
            have c1 : w.cell? ⟨b, off, none⟩ = some (.int .i64 z) := by simpa using c0
            clear c0
            clear hin hor he
            go_wp2
            go_round
            case rel => exact ⟨1, by omega, by go_num, Lib.hid (by rw [HV.out]; simp; rw [← HKK.out])⟩
            case measure => simp [intOf]; omega
          · obtain ⟨j, rfl⟩ : ∃ j, k = j + 1 := ⟨k - 1, by omega⟩
            have cj := HI.out j (by omega)
            have hj : zs[j]? = some (zs[j]?.getD 0) := by simp [show j < zs.length by omega]
            obtain ⟨y, hy⟩ : ∃ y, y = zs[j]?.getD 0 := ⟨_, rfl⟩
            rw [← hy] at cj hj
            have he2 : ptGo v none zs = (decide (y < z) && ptGo v (some z) (zs.drop (j + 1 + 1))) := by
              rw [he]
              simp only [Nat.add_one_ne_zero, if_false, Nat.add_sub_cancel]
              rw [hj]
              simp [ptGo, hin]
            have HV := Lib.hid he2
            have gd : decide ((0 : Int) < ((j + 1 : Nat) : Int)) = true := by simp <;> omega
            have gi : (0 : Int) < (j : Int) + 1 := by omega
            have gj0 : (0 : Int) ≤ (j : Int) := by omega
            have gj1 : (j : Int) < (zs.length : Int) := by omega
            have ej : ((j + 1 : Nat) : Int) - 1 = (j : Int) := by omega
            clear hin hor he he2 hy hj
            by_cases hyz : y < z
            · have q1 : decide (z ≤ y) = false := by simp; omega
              have HW := Lib.hid (show ptGo v none zs = ptGo v (some z) (zs.drop (j + 1 + 1)) by rw [HV.out]; simp [hyz])
              go_wp2
              go_round
              case rel => exact ⟨j + 1 + 1, by omega, by go_num, Lib.hid (by rw [HW.out]; simp only [Nat.add_one_ne_zero, if_false, Nat.add_sub_cancel]; rw [← HKK.out])⟩
              case measure => simp [intOf]; omega
            · have q1 : decide (z ≤ y) = true := by simp; omega
              have q2 : z ≤ y := by omega
              have HW := Lib.hid (show ptGo v none zs = false by rw [HV.out]; simp [hyz])
              clear hyz
              go_wp2
              go_ret
              exact RS_of (bool_eq (by rw [HW.out]))
      · go_wp2
        go_ret
        exact RS_of (bool_eq (by rw [HE.out, List.drop_eq_nil_of_le (by omega), ptGo]))
end Go.Proofs.Ytkpnlecmfmbkaaa

namespace Go.Proofs.Ytkpnlecmfmbkaaa
open Go.RowKit Go.Maps
/-- The value owns a row of just these integers, beyond base. -/
def OwnJ (W : World) (base : Nat) (u : Value) (zs : List Int) : Prop := W.ownsRow base 2 1 u zs.length (zs.map (Value.int .i64))
theorem OwnJ.kept {w w' : World} {base : Nat} {v : Value} {bs : List Int} {row : Option Nat} (h : OwnJ w base v bs) (hg : w.grownBy w' row) (hr : ∀ r, row = some r → r < base) : OwnJ w' base v bs := by
  obtain ⟨hl, h | ⟨g, cap, cur, rfl, hb, hcur, hrest⟩⟩ := h
  · exact ⟨hl, .inl h⟩
  · exact ⟨hl, .inr ⟨g, cap, cur, rfl, hb, (hg.block g (Array.getElem?_eq_some_iff.1 hcur).1 (fun e => by have := hr g e.symm; omega)).trans hcur, hrest⟩⟩
theorem OwnJ.below {w w' : World} {base : Nat} {v : Value} {bs : List Int} (h : OwnJ w base v bs) {B : Nat} (hb : Below B w w') (hB : w.heap.size ≤ B) : OwnJ w' base v bs :=
  h.kept (only_of_below (hb.mono hB) none) (by simp)
theorem OwnJ.row {w : World} {base : Nat} {v : Value} {bs : List Int} (h : OwnJ w base v bs) : ∀ r, v.ownBlock = some r → base ≤ r := fun r hr => by
  rcases h.2 with ⟨rfl, _⟩ | ⟨g, cap, cur, rfl, hb, _⟩
  · simp [Value.ownBlock] at hr
  · obtain rfl : g = r := by simpa [Value.ownBlock] using hr
    exact hb
theorem OwnJ.ib {W : World} {base : Nat} {u : Value} {zs : List Int} (h : OwnJ W base u zs) (hl : zs.length ≤ 1100000) : IB W u zs := by
  obtain ⟨_, h | ⟨g, cap, cur, rfl, hb, hcur, hn, hc, hsz, hx⟩⟩ := h
  · obtain ⟨rfl, h0⟩ := h
    exact ⟨hl, .inl ⟨_, _, rfl, List.length_eq_zero_iff.1 h0⟩⟩
  · refine ⟨hl, .inr ⟨g, 0, cap, rfl, (Array.getElem?_eq_some_iff.1 hcur).1, fun k hk => ?_⟩⟩
    have e : (zs.map (Value.int .i64))[k]? = some (.int .i64 (zs[k]?.getD 0)) := by simp [hk]
    rw [← hx, List.getElem?_take_of_lt (by omega)] at e
    rw [Nat.zero_add]
    simp [World.cell?, hcur]
    simpa using e
theorem wpList_append_int {w : World} {ops : Array Oper} {rest : List Oper} {o : Oper} {a : Act} {Q : Exit → Act → World → Prop} (hgd : o.guard = none) (s x : Operand)
    (ho : o.op = .call { callee := .builtin .append, args := #[s, x], argTypes := #[27, 27] })
    (base : Nat) (v : Value) (zs : List Int) (hs : a.eval s = v) (hown : OwnJ w base v zs) (b0 c : Nat) (y : Int) (hx : a.eval x = .slice (some ⟨b0, 0, none⟩) 1 c)
    (c1 : w.cell? ⟨b0, 0, none⟩ = some (.int .i64 y)) (hl : zs.length ≤ 1100000) (hbase : base ≤ w.heap.size)
    (h : ∀ (g cap : Nat) (w' : World), OwnJ w' base (.slice (some ⟨g, 0, none⟩) (zs.length + 1) cap) (zs ++ [y]) → w.grownBy w' v.ownBlock → wpList Try.prog ops Q rest (a.put o.dst (.slice (some ⟨g, 0, none⟩) (zs.length + 1) cap)) w') : wpList Try.prog ops Q (o :: rest) a w := by
  obtain ⟨i0, hi, hz0, hz1, hz2⟩ := info_parts infoInt64
  refine wpList_append_own w hgd s x 27 ho base 2 i0 _ 1 8 Try.underlying27 hi hz0 hz1 hz2 rfl (by decide) v zs.length (zs.map (Value.int .i64)) hs hown ⟨b0, 0, none⟩ 1 c [.int .i64 y] hx rfl ?_ ?_ (by unfold maxLen; omega) (by omega) hbase ?_
  · intro j u hj
    rw [addr_at, Nat.zero_add]
    match j, hj with
    | 0, hj => simp at hj; rw [← hj]; exact c1
    | j + 1, hj => simp at hj
  · intro u hu
    simp at hu
    rw [hu]
    rfl
  · intro v' w' hown' hg _
    obtain ⟨g, cap, rfl⟩ := row_some hown'
    refine h g cap w' ?_ hg
    unfold OwnJ
    rw [List.length_append, List.length_singleton, List.map_append, List.map_singleton]
    exact hown'
theorem OwnJ.new0 (W : World) {base : Nat} (hb : base ≤ W.heap.size) : OwnJ (W.alloc (.cells #[] 2)) base (.slice (some ⟨W.heap.size, 0, none⟩) 0 0) [] :=
  ⟨rfl, .inr ⟨W.heap.size, 0, #[], rfl, hb, World.alloc_heap_new W _, Nat.le_refl _, Nat.zero_le _, rfl, rfl⟩⟩
/-- The indices of the blocks through p among the first k. -/
def idxI (p : Int) (bs : List Blk) (k : Nat) : List Int := (upTo p bs k).map fun q => (q.1 : Int)
theorem idxI_succ (p : Int) (bs : List Blk) (k : Nat) : idxI p bs (k + 1) = idxI p bs k ++ if hasB (bs[k]?.getD default) p then [(k : Int)] else [] := by
  unfold idxI
  rw [upTo_succ, List.map_append]
  congr 1
  split <;> rfl
theorem idxI_len (p : Int) (bs : List Blk) (k : Nat) : (idxI p bs k).length ≤ k := by
  unfold idxI
  rw [List.length_map]
  exact upTo_len p bs k
set_option maxRecDepth 100000 in
theorem l01At_any (v : Int) (s : Value) (bs : List Blk) (p : Int) (w : World) (h : SB w s bs) :
    Calls Try.prog 171 #[.agg #[.int .i64 v, s], .int .i64 p] w fun e w' => ∃ u, e = .returned u ∧ OwnJ w' w.heap.size u (idxI p bs bs.length) ∧ Below w.heap.size w w' := by
  have hs := h.slice
  have H := Lib.hid h
  have hl := h.2.1
  clear h
  obtain ⟨a0, c0, rfl⟩ := hs
  go_enter Try.func171, Try.ntmps171
  go_wp2
  have ho0 := OwnJ.new0 (w.alloc (.cells #[.int .i64 v, .slice a0 bs.length c0] 32)) (base := w.heap.size + 1) (by simp)
  rw [World.size_alloc] at ho0
  obtain ⟨w2, hw2⟩ : ∃ w2, (w.alloc (.cells #[.int .i64 v, .slice a0 bs.length c0] 32)).alloc (.cells #[] 2) = w2 := ⟨_, rfl⟩
  have hB0 : Below w.heap.size w w2 := by rw [← hw2]; exact ((Below.refl _ _).alloc (Nat.le_refl _) _).alloc (by simp) _
  have hz2 : w2.heap.size = w.heap.size + 1 + 1 := by rw [← hw2]; simp
  have hc2 : w2.cell? ⟨w.heap.size, 1, none⟩ = some (.slice a0 bs.length c0) := by rw [← hw2]; exact cell_past (new_at 1 rfl) (by simp)
  rw [hw2] at ho0 ⊢
  have HO0 := Lib.hid ho0
  clear hw2 ho0
  go_loopw [5, 6] (fun o i wr => ∃ k : Nat, k ≤ bs.length ∧ i = .int .i64 k ∧ Below (w.heap.size + 1) w2 wr ∧ OwnJ wr (w.heap.size + 1) o (idxI p bs k) ∧ ∃ a n c, o = .slice a n c) (fun _ i _ => bs.length - (intOf i).toNat)
  case atStart => exact ⟨0, Nat.zero_le _, rfl, Below.refl _ _, HO0.out, _, _, _, rfl⟩
  case round =>
    obtain ⟨k, hk, rfl, hB, hO, hform⟩ := hrel
    have hz := hB.size
    have p1 : wr.cell? ⟨w.heap.size, 1, none⟩ = some (.slice a0 bs.length c0) := by rw [hB.cell (by simp)]; exact hc2
    have hBw : Below w.heap.size w wr := hB0.trans (hB.mono (by omega))
    obtain ⟨a3, n3, c3, rfl⟩ := hform
    have HO := Lib.hid hO
    clear hO
    by_cases hkl : k < bs.length
    · rcases H.out.2.2 with ⟨_, _, _, hnil⟩ | ⟨bb, off, cap, hval, hblt, hbl⟩
      · rw [hnil] at hkl; simp at hkl
      · simp at hval
        obtain ⟨rfl, rfl⟩ := hval
        obtain ⟨x1, x2, x3⟩ := (hbl.below hBw hblt) k hkl
        obtain ⟨x, hx⟩ : ∃ x, x = bs[k]?.getD default := ⟨_, rfl⟩
        have hsucc := idxI_succ p bs k
        rw [← hx] at x1 x2 x3 hsucc
        have hlen := idxI_len p bs k
        have hw1 := l01With_any x p
        clear hbl hx
        obtain ⟨y1, y2, y3⟩ := x
        dsimp only [bv] at x1 x2 x3 hw1
        have g0 : (0 : Int) ≤ (k : Int) := by omega
        have g1 : (k : Int) < (bs.length : Int) := by omega
        cases h1 : hasB ⟨y1, y2, y3⟩ p with
        | false =>
          rw [h1] at hw1 hsucc
          have HW1 := Lib.hid hw1
          have HS := Lib.hid hsucc
          clear hw1 h1 hsucc
          go_wp2_with (go_at_call 96; refine (HW1.out _).mono ?_; rintro e w1 ⟨rfl, hb1⟩)
          go_roundw
          case rel => exact ⟨k + 1, by omega, by go_num, hB.trans (hb1.mono (by omega)), by rw [HS.out, if_neg (by decide), List.append_nil]; exact HO.out.below hb1 (Nat.le_refl _), _, _, _, rfl⟩
          case measure => simp [intOf]; omega
        | true =>
          rw [h1, if_pos rfl] at hsucc
          rw [h1] at hw1
          have HW1 := Lib.hid hw1
          have HS := Lib.hid hsucc
          clear hw1 h1 hsucc
          go_wp2_with fail
          refine (HW1.out _).mono ?_
          rintro e w1 ⟨rfl, hb1⟩
          have hz1 := hb1.size
          have HO1 := Lib.hid (HO.out.below hb1 (Nat.le_refl _))
          go_wp2_with (at_builtin; refine wpList_append_int rfl _ _ rfl (w.heap.size + 1) _ (idxI p bs k) rfl (HO1.out.below ((Below.refl _ _).alloc (Nat.le_refl _) _) (Nat.le_refl _)) _ _ (k : Int) rfl (by simp [go_sem]) (by omega) (by simp; omega) ?_; intro g' cap' w4 hO4 hg4)
          have hrow := HO1.out.row
          have hgo : w1.grownBy w4 (Value.slice a3 n3 c3).ownBlock := ⟨hg4.os, hg4.tape, hg4.output, by have := hg4.size; simp at this; omega, fun i hi hne => by
            rw [hg4.block i (by simp; omega) hne, Below.heap_alloc _ _ _ hi]⟩
          clear hg4
          have hB1 := hB.trans (hb1.mono (by omega))
          go_roundw
          case rel => exact ⟨k + 1, by omega, by go_num, hB1.grown hgo (by omega) (fun j e => hrow j e), by rw [HS.out]; exact hO4, _, _, _, rfl⟩
          case measure => simp [intOf]; omega
    · go_wp2
      go_ret
      have e : k = bs.length := by omega
      subst e
      exact ⟨_, rfl, ownsRow_base HO.out (by omega), hBw⟩
end Go.Proofs.Ytkpnlecmfmbkaaa

namespace Go.Proofs.Ytkpnlecmfmbkaaa
open Go.RowKit Go.Maps Go.Shelf
theorem infoPS : (Try.prog.info? 95).map (fun i => (i.zero, i.size, i.bytes)) = some (some (.int .u16 0), 1, 2) := by kernel_rfl
/-- The value owns a row of just these masks, beyond base. -/
def OwnU (W : World) (base : Nat) (u : Value) (ms : List Nat) : Prop := W.ownsRow base 95 1 u ms.length (ms.map fun (m : Nat) => Value.int .u16 m)
def UB (w : World) (s : Value) (ms : List Nat) : Prop := ms.length ≤ 1100000 ∧ ((∃ a c, s = .slice a 0 c ∧ ms = []) ∨ ∃ b off cap, s = .slice (some ⟨b, off, none⟩) ms.length cap ∧ b < w.heap.size ∧ ∀ k, k < ms.length → w.cell? ⟨b, off + k, none⟩ = some (.int .u16 (ms[k]?.getD 0 : Nat)))
theorem UB.below {w w' : World} {s : Value} {ms : List Nat} (h : UB w s ms) {B : Nat} (hb : Below B w w') (hB : w.heap.size ≤ B) : UB w' s ms := by
  obtain ⟨hl, h | ⟨b, off, cap, e, hlt, hI⟩⟩ := h
  · exact ⟨hl, .inl h⟩
  · exact ⟨hl, .inr ⟨b, off, cap, e, Nat.lt_of_lt_of_le hlt hb.size, fun k hk => (hb.cell (p := ⟨b, off + k, none⟩) (Nat.lt_of_lt_of_le hlt hB)).trans (hI k hk)⟩⟩
theorem UB.form {w : World} {s : Value} {ms : List Nat} (h : UB w s ms) : ∃ a c, s = .slice a ms.length c := by
  rcases h.2 with ⟨a, c, rfl, rfl⟩ | ⟨b, off, cap, rfl, _⟩ <;> exact ⟨_, _, rfl⟩
theorem OwnU.below {w w' : World} {base : Nat} {v : Value} {ms : List Nat} (h : OwnU w base v ms) {B : Nat} (hb : Below B w w') (hB : w.heap.size ≤ B) : OwnU w' base v ms := by
  obtain ⟨hl, h | ⟨g, cap, cur, rfl, hb', hcur, hrest⟩⟩ := h
  · exact ⟨hl, .inl h⟩
  · exact ⟨hl, .inr ⟨g, cap, cur, rfl, hb', ((only_of_below (hb.mono hB) none).block g (Array.getElem?_eq_some_iff.1 hcur).1 (by simp)).trans hcur, hrest⟩⟩
theorem OwnU.row {w : World} {base : Nat} {v : Value} {ms : List Nat} (h : OwnU w base v ms) : ∀ r, v.ownBlock = some r → base ≤ r := fun r hr => by
  rcases h.2 with ⟨rfl, _⟩ | ⟨g, cap, cur, rfl, hb, _⟩
  · simp [Value.ownBlock] at hr
  · obtain rfl : g = r := by simpa [Value.ownBlock] using hr
    exact hb
theorem OwnU.nil (W : World) (base : Nat) : OwnU W base (.slice none 0 0) [] := ⟨rfl, .inl ⟨rfl, rfl⟩⟩
theorem OwnU.form {W : World} {base : Nat} {u : Value} {ms : List Nat} (h : OwnU W base u ms) : ∃ a c, u = .slice a ms.length c := by
  rcases h.2 with ⟨rfl, h0⟩ | ⟨g, cap, _, rfl, _⟩
  · exact ⟨_, _, by rw [h0]⟩
  · exact ⟨_, _, rfl⟩
theorem OwnU.ub {W : World} {base : Nat} {u : Value} {ms : List Nat} (h : OwnU W base u ms) (hl : ms.length ≤ 1100000) : UB W u ms := by
  obtain ⟨_, h | ⟨g, cap, cur, rfl, hb, hcur, hn, hc, hsz, hx⟩⟩ := h
  · obtain ⟨rfl, h0⟩ := h
    exact ⟨hl, .inl ⟨_, _, rfl, List.length_eq_zero_iff.1 h0⟩⟩
  · refine ⟨hl, .inr ⟨g, 0, cap, rfl, (Array.getElem?_eq_some_iff.1 hcur).1, fun k hk => ?_⟩⟩
    have e : (ms.map fun (m : Nat) => Value.int .u16 m)[k]? = some (.int .u16 (ms[k]?.getD 0 : Nat)) := by simp [hk]
    rw [← hx, List.getElem?_take_of_lt (by omega)] at e
    rw [Nat.zero_add]
    simp [World.cell?, hcur]
    simpa using e
theorem wpList_append_u {w : World} {ops : Array Oper} {rest : List Oper} {o : Oper} {a : Act} {Q : Exit → Act → World → Prop} (hgd : o.guard = none) (s x : Operand)
    (ho : o.op = .call { callee := .builtin .append, args := #[s, x], argTypes := #[91, 91] })
    (base : Nat) (v : Value) (ms : List Nat) (hs : a.eval s = v) (hown : OwnU w base v ms) (b0 c : Nat) (y : Nat) (hx : a.eval x = .slice (some ⟨b0, 0, none⟩) 1 c)
    (c1 : w.cell? ⟨b0, 0, none⟩ = some (.int .u16 y)) (hl : ms.length ≤ 1100000) (hbase : base ≤ w.heap.size)
    (h : ∀ (g cap : Nat) (w' : World), OwnU w' base (.slice (some ⟨g, 0, none⟩) (ms.length + 1) cap) (ms ++ [y]) → w.grownBy w' v.ownBlock → wpList Try.prog ops Q rest (a.put o.dst (.slice (some ⟨g, 0, none⟩) (ms.length + 1) cap)) w') : wpList Try.prog ops Q (o :: rest) a w := by
  obtain ⟨i0, hi, hz0, hz1, hz2⟩ := info_parts infoPS
  refine wpList_append_own w hgd s x 91 ho base 95 i0 _ 1 2 Try.underlying91 hi hz0 hz1 hz2 rfl (by decide) v ms.length (ms.map fun (m : Nat) => Value.int .u16 m) hs hown ⟨b0, 0, none⟩ 1 c [.int .u16 y] hx rfl ?_ ?_ (by unfold maxLen; omega) (by omega) hbase ?_
  · intro j u hj
    rw [addr_at, Nat.zero_add]
    match j, hj with
    | 0, hj => simp at hj; rw [← hj]; exact c1
    | j + 1, hj => simp at hj
  · intro u hu
    simp at hu
    rw [hu]
    rfl
  · intro v' w' hown' hg _
    obtain ⟨g, cap, rfl⟩ := row_some hown'
    refine h g cap w' ?_ hg
    unfold OwnU
    rw [List.length_append, List.length_singleton, List.map_append, List.map_singleton]
    exact hown'
/-- The masks of the blocks. -/
def mbs (bs : List Blk) : List Nat := bs.map fun x => mskR (ptsB x)
theorem mbs_len (bs : List Blk) : (mbs bs).length = bs.length := by simp [mbs]
theorem mbs_take {bs : List Blk} {k : Nat} (hk : k < bs.length) : mbs (bs.take (k + 1)) = mbs (bs.take k) ++ [mskR (ptsB (bs[k]?.getD default))] := by
  unfold mbs
  rw [List.take_succ_eq_append_getElem hk, List.map_append]
  simp [hk]
theorem mbs_at {bs : List Blk} {k : Nat} (hk : k < bs.length) : (mbs bs)[k]?.getD 0 = mskR (ptsB (bs[k]?.getD default)) := by simp [mbs, hk]
set_option maxRecDepth 100000 in
set_option maxHeartbeats 1000000 in
theorem blockPoints_any (v : Int) (s : Value) (bs : List Blk) (w : World) (h : SB w s bs) (hok : ∀ x ∈ bs, okB x) :
    Calls Try.prog 109 #[.agg #[.int .i64 v, s]] w fun e w' => ∃ u, e = .returned u ∧ OwnU w' w.heap.size u (mbs bs) ∧ Below w.heap.size w w' := by
  have hs := h.slice
  have hl := h.2.1
  have H := Lib.hid h
  have HOK := Lib.hid hok
  clear h hok
  obtain ⟨a0, c0, rfl⟩ := hs
  go_enter Try.func109, Try.ntmps109
  go_wp2
  go_loopw [3, 9] (fun o t wr => ∃ k : Nat, k ≤ bs.length ∧ t = .int .i64 k ∧ Below w.heap.size w wr ∧ OwnU wr w.heap.size o (mbs (bs.take k))) (fun _ t _ => bs.length - (intOf t).toNat)
  case atStart => exact ⟨0, Nat.zero_le _, rfl, (Below.refl _ _).alloc (Nat.le_refl _) _, OwnU.nil _ _⟩
  case round =>
    obtain ⟨k, hk, rfl, hB, hO⟩ := hrel
    have hz := hB.size
    obtain ⟨a5, c5, hs5⟩ := hO.form
    by_cases hkl : k < bs.length
    · rcases H.out.2.2 with ⟨_, _, _, hnil⟩ | ⟨bb, off, cap, hval, hblt, hbl⟩
      · rw [hnil] at hkl; simp at hkl
      simp at hval
      obtain ⟨rfl, rfl⟩ := hval
      obtain ⟨x1, x2, x3⟩ := (hbl.below hB hblt) k hkl
      have HT := Lib.hid (mbs_take hkl)
      have hokx := HOK.out (bs[k]?.getD default) (by simp [hkl])
      have hln : (mbs (bs.take k)).length ≤ 1100000 := by rw [mbs_len, List.length_take]; omega
      obtain ⟨x, hx⟩ : ∃ x, x = bs[k]?.getD default := ⟨_, rfl⟩
      rw [← hx] at x1 x2 x3 HT hokx
      obtain ⟨L, hL⟩ : ∃ L, L = mbs (bs.take k) := ⟨_, rfl⟩
      rw [← hL] at HT hO hs5 hln
      have HSP := Lib.hid fun s W (hi : IB W s (ptsB x)) => setOfPoints_any s (ptsB x) W hi (okB_small hokx)
      obtain ⟨y, hy⟩ : ∃ y, y = mskR (ptsB x) := ⟨_, rfl⟩
      rw [← hy] at HSP HT
      obtain ⟨xa, xb, xc⟩ := x
      subst hs5
      have HO := Lib.hid hO
      clear hO hbl hx hL hokx hy
      dsimp only [ptsB] at HSP x1 x2 x3
      have g0 : (0 : Int) ≤ (k : Int) := by omega
      have g1 : (k : Int) < (bs.length : Int) := by omega
      go_wp2_with fail
      obtain ⟨wa, hwa⟩ : ∃ wa, wa = wr.alloc (.cells #[.int .i64 xa, .int .i64 xb, .int .i64 xc] 78) := ⟨_, rfl⟩
      have ha0 : wa.cell? ⟨wr.heap.size, 0, none⟩ = some (.int .i64 xa) := by rw [hwa]; simp
      have ha1 : wa.cell? ⟨wr.heap.size, 1, none⟩ = some (.int .i64 xb) := by rw [hwa]; simp
      have ha2 : wa.cell? ⟨wr.heap.size, 2, none⟩ = some (.int .i64 xc) := by rw [hwa]; simp
      have hza : wr.heap.size < wa.heap.size := by rw [hwa]; simp
      have hBa : Below wr.heap.size wr wa := by rw [hwa]; exact (Below.refl _ _).alloc (Nat.le_refl _) _
      rw [← hwa]
      clear hwa x1 x2 x3
      have HC := Lib.hid (HSP.out (.slice (some ⟨wr.heap.size, 0, none⟩) 3 3) wa ⟨by simp, .inr ⟨wr.heap.size, 0, 3, rfl, hza, ints3 ha0 ha1 ha2⟩⟩)
      have HO1 := Lib.hid (HO.out.below hBa (Nat.le_refl _))
      have HB1 := Lib.hid (hB.trans (hBa.mono hz))
      have hz1 : w.heap.size ≤ wa.heap.size := by omega
      clear HSP HO ha0 ha1 ha2 hBa hza
      refine HC.out.mono ?_
      rintro e w1 ⟨rfl, rfl⟩
      go_wp2_with (at_builtin; refine wpList_append_u rfl _ _ rfl w.heap.size (.slice a5 L.length c5) L rfl (by exact HO1.out.below ((Below.refl _ _).alloc (Nat.le_refl _) _) (Nat.le_refl _)) _ _ y rfl (by simp [go_sem]) hln (by simp; omega) ?_; intro g cap w4 hO4 hg4)
      have hB4 := (HB1.out.alloc hz1 _).grown hg4 (by simp; omega) (fun r e => HO1.out.row r e)
      go_roundw
      case rel => exact ⟨k + 1, by omega, by go_num, hB4, by rw [HT.out]; exact hO4⟩
      case measure => simp [intOf]; omega
    · have e : k = bs.length := by omega
      have HE := Lib.hid (show mbs (bs.take k) = mbs bs by rw [e, List.take_length])
      have HO := Lib.hid hO
      clear e hO
      subst hs5
      go_wp2
      go_ret
      exact ⟨_, rfl, by rw [← HE.out]; exact HO.out, hB⟩
set_option maxRecDepth 100000 in
set_option maxHeartbeats 1000000 in
theorem countWith_any (s : Value) (bs : List Blk) (n : Nat) (zs : List Int) (w : World) (h : UB w s (mbs bs)) (hn : n ≤ 3) (hok : ∀ x ∈ bs, okB x) (hz : ∀ z ∈ zs, 0 ≤ z ∧ z < 15) :
    Calls Try.prog 182 #[s, .int .i64 n, .int .u16 (mskR zs)] w (RV (.int .i64 (cntW n bs zs)) w) := by
  have hs := h.form
  have hl := h.1
  rw [mbs_len] at hs hl
  have H := Lib.hid h
  have HOK := Lib.hid hok
  have hml := mskR_lt hz
  have HPC := Lib.hid fun (x : Blk) (hx : okB x) => pc_R hx hz
  have HML := Lib.hid fun (x : Blk) (hx : okB x) => mskR_lt (okB_small hx)
  clear h hok hz
  obtain ⟨m, hm⟩ : ∃ m, m = mskR zs := ⟨_, rfl⟩
  rw [← hm] at hml HPC ⊢
  clear hm
  obtain ⟨a0, c0, rfl⟩ := hs
  go_enter Try.func182, Try.ntmps182
  go_wp2
  go_loopw [7, 12] (fun c t wr => ∃ k : Nat, k ≤ bs.length ∧ t = .int .i64 k ∧ c = .int .i64 (cntW n (bs.take k) zs) ∧ Below w.heap.size w wr) (fun _ t _ => bs.length - (intOf t).toNat)
  case atStart => exact ⟨0, Nat.zero_le _, rfl, rfl, Below.refl _ _⟩
  case round =>
    obtain ⟨k, hk, rfl, rfl, hB⟩ := hrel
    by_cases hkl : k < bs.length
    · rcases H.out.2 with ⟨_, _, _, hnil⟩ | ⟨bb, off, cap, hval, hblt, hbl⟩
      · exfalso; rw [← mbs_len, hnil] at hkl; simp at hkl
      rw [mbs_len] at hval
      simp at hval
      obtain ⟨rfl, rfl⟩ := hval
      have x1 := (hB.cell (p := ⟨bb, off + k, none⟩) hblt).trans (hbl k (by rw [mbs_len]; exact hkl))
      rw [mbs_at hkl] at x1
      have HT := Lib.hid (cntW_take (n := n) (zs := zs) hkl)
      have hokx := HOK.out (bs[k]?.getD default) (by simp [hkl])
      have hcl := cntW_le n (bs.take k) zs
      rw [List.length_take] at hcl
      replace hcl : cntW n (bs.take k) zs ≤ k := by omega
      obtain ⟨x, hx⟩ : ∃ x, x = bs[k]?.getD default := ⟨_, rfl⟩
      rw [← hx] at x1 HT hokx
      have hpc := HPC.out x hokx
      have hmx := HML.out x hokx
      have hcn := cntB_le x zs
      obtain ⟨y, hy⟩ : ∃ y, y = mskR (ptsB x) := ⟨_, rfl⟩
      rw [← hy] at x1 hpc hmx
      have q1 := (bits16 hmx hml).1
      have q2 := and_lt15 (x := y) hml
      obtain ⟨r, hr⟩ : ∃ r, r = y &&& m := ⟨_, rfl⟩
      rw [← hr] at q1 q2 hpc
      obtain ⟨C, hC⟩ : ∃ C, C = cntW n (bs.take k) zs := ⟨_, rfl⟩
      rw [← hC] at HT hcl ⊢
      have HSZ := Lib.hid fun W => size_any r q2 W
      obtain ⟨p, hp⟩ : ∃ p, p = cntB x zs := ⟨_, rfl⟩
      rw [hpc, ← hp] at HSZ
      rw [← hp] at HT hcn
      have g0 : (0 : Int) ≤ (k : Int) := by omega
      have g1 : (k : Int) < (bs.length : Int) := by omega
      clear hbl hx hokx hy hr hC hp hpc
      by_cases e : p = n
      · have HT2 := Lib.hid (show cntW n (bs.take (k + 1)) zs = C + 1 by rw [HT.out, if_pos e])
        subst e
        clear HT
        go_wp2_with fail
        refine (HSZ.out _).mono ?_
        rintro e w1 ⟨rfl, hb1⟩
        have hB2 := hB.trans (hb1.mono hB.size)
        clear hb1
        go_wp2
        go_roundw
        case rel => exact ⟨k + 1, by omega, by go_num, by rw [HT2.out]; go_num, hB2⟩
        case measure => simp [intOf]; omega
      · have HT2 := Lib.hid (show cntW n (bs.take (k + 1)) zs = C by rw [HT.out, if_neg e]; rfl)
        have ed : decide ((p : Int) = (n : Int)) = false := by simp; omega
        clear HT
        go_wp2_with fail
        refine (HSZ.out _).mono ?_
        rintro e w1 ⟨rfl, hb1⟩
        have hB2 := hB.trans (hb1.mono hB.size)
        clear hb1
        go_wp2
        go_roundw
        case rel => exact ⟨k + 1, by omega, by go_num, by rw [HT2.out], hB2⟩
        case measure => simp [intOf]; omega
    · have e : k = bs.length := by omega
      have HE := Lib.hid (show cntW n (bs.take k) zs = cntW n bs zs by rw [e, List.take_length])
      clear e
      go_wp2
      go_ret
      exact RV_of (int_eq (by rw [HE.out])) hB
theorem beq_zero (n : Nat) : ((n : Int) == 0) = decide (n = 0) := by
  by_cases h : n = 0
  · subst h; rfl
  · rw [decide_eq_false h]; simp; omega
theorem isClosed_any (s : Value) (bs : List Blk) (zs : List Int) (w : World) (h : UB w s (mbs bs)) (hok : ∀ x ∈ bs, okB x) (hz : ∀ z ∈ zs, 0 ≤ z ∧ z < 15) :
    Calls Try.prog 110 #[s, .int .u16 (mskR zs)] w (RV (.bool (closedL bs zs)) w) := by
  have HC := Lib.hid (countWith_any s bs 2 zs w h (by omega) hok hz)
  have HV := Lib.hid (show ((cntW 2 bs zs : Int) == 0) = closedL bs zs by rw [beq_zero, Bool.eq_iff_iff, decide_eq_true_eq, cntW_zero]; rfl)
  obtain ⟨a, c, rfl⟩ := h.form
  obtain ⟨m, hm⟩ : ∃ m, m = mskR zs := ⟨_, rfl⟩
  obtain ⟨C, hC⟩ : ∃ C, C = cntW 2 bs zs := ⟨_, rfl⟩
  rw [← hm, ← hC] at HC
  rw [← hC] at HV
  rw [← hm]
  clear hm hC h hok hz
  go_enter Try.func110, Try.ntmps110
  go_wp2_with fail
  refine HC.out.mono ?_
  rintro e w1 ⟨rfl, hb1⟩
  go_wp2
  go_ret
  exact RV_of (bool_eq (by rw [← HV.out])) hb1
theorem isIndependent_any (s : Value) (bs : List Blk) (zs : List Int) (w : World) (h : UB w s (mbs bs)) (hok : ∀ x ∈ bs, okB x) (hz : ∀ z ∈ zs, 0 ≤ z ∧ z < 15) :
    Calls Try.prog 123 #[s, .int .u16 (mskR zs)] w (RV (.bool (indepL bs zs)) w) := by
  have HC := Lib.hid (countWith_any s bs 3 zs w h (by omega) hok hz)
  have HV := Lib.hid (show ((cntW 3 bs zs : Int) == 0) = indepL bs zs by rw [beq_zero, Bool.eq_iff_iff, decide_eq_true_eq, cntW_zero]; rfl)
  obtain ⟨a, c, rfl⟩ := h.form
  obtain ⟨m, hm⟩ : ∃ m, m = mskR zs := ⟨_, rfl⟩
  obtain ⟨C, hC⟩ : ∃ C, C = cntW 3 bs zs := ⟨_, rfl⟩
  rw [← hm, ← hC] at HC
  rw [← hC] at HV
  rw [← hm]
  clear hm hC h hok hz
  go_enter Try.func123, Try.ntmps123
  go_wp2_with fail
  refine HC.out.mono ?_
  rintro e w1 ⟨rfl, hb1⟩
  go_wp2
  go_ret
  exact RV_of (bool_eq (by rw [← HV.out])) hb1
end Go.Proofs.Ytkpnlecmfmbkaaa

namespace Go.Proofs.Ytkpnlecmfmbkaaa
open Go.RowKit Go.Maps Go.Shelf
theorem IB.form {w : World} {s : Value} {zs : List Int} (h : IB w s zs) : ∃ a c, s = .slice a zs.length c := by
  rcases h.2 with ⟨a, c, rfl, rfl⟩ | ⟨b, off, cap, rfl, _⟩ <;> exact ⟨_, _, rfl⟩
theorem setCode_zero {v : Int} {bs : List Blk} {zs : List Int} (h : setCode v bs zs = 0) : isSysImpl v bs = true ∧ (∀ x ∈ bs, okB x) ∧ (∀ z ∈ zs, 0 ≤ z ∧ z < 15) ∧ zs.Pairwise (· < ·) ∧ ∀ z ∈ zs, z < v := by
  unfold setCode at h
  cases hi : isSysImpl v bs with
  | false => rw [hi] at h; simp at h
  | true =>
    rw [hi, if_pos rfl] at h
    obtain ⟨h3, h15, _⟩ := sys_size hi
    cases hp : (zs.all (inP v) && ascGo none zs) with
    | false => rw [hp] at h; simp at h
    | true =>
      rw [Bool.and_eq_true, List.all_eq_true] at hp
      have hin : ∀ z ∈ zs, 0 ≤ z ∧ z < v := fun z hz => by have := hp.1 z hz; simpa [inP] using this
      exact ⟨rfl, sys_ok hi, fun z hz => by have := hin z hz; omega, (asc_lt hp.2).1, fun z hz => (hin z hz).2⟩
theorem setCode_pt (v : Int) (bs : List Blk) (zs : List Int) : setCode v bs zs = if isSysImpl v bs then (if ptGo v none zs then 0 else 2) else 1 := by
  unfold setCode
  rw [ptGo_split]
set_option maxRecDepth 100000 in
theorem impPointsCode_any (v : Int) (s : Value) (bs : List Blk) (t : Value) (zs : List Int) (w : World) (h : SB w s bs) (ht : IB w t zs) :
    Calls Try.prog 108 #[.agg #[.int .i64 v, s], t] w (RV (.int .i64 (setCode v bs zs)) w) := by
  have hs := h.slice
  have HI := Lib.hid fun W (hb : Below w.heap.size w W) => IsSystem_any v s bs W (h.below hb (Nat.le_refl _))
  have HN := Lib.hid fun W (hb : Below w.heap.size w W) => isNumberSet_any v t zs W (ht.below hb (Nat.le_refl _))
  have HC := Lib.hid (setCode_pt v bs zs)
  have hts := ht.form
  obtain ⟨κ, hκ⟩ : ∃ κ, κ = setCode v bs zs := ⟨_, rfl⟩
  rw [← hκ] at HC ⊢
  have hb0 := (Below.refl w.heap.size w).alloc (Nat.le_refl _) (.cells #[.int .i64 v, s] 32)
  clear h ht hκ
  obtain ⟨a0, c0, rfl⟩ := hs
  obtain ⟨a1, c1, rfl⟩ := hts
  cases hi : isSysImpl v bs with
  | false =>
    rw [hi] at HI HC
    clear hi
    go_enter Try.func108, Try.ntmps108
    go_wp2_with fail
    refine (HI.out _ hb0).mono ?_
    rintro e w1 ⟨rfl, hb1⟩
    have hbw := hb0.trans (hb1.mono hb0.size)
    clear hb1
    go_wp2
    go_ret
    exact RV_of (int_eq (by rw [HC.out]; rfl)) hbw
  | true =>
    cases hp : ptGo v none zs with
    | false =>
      rw [hi, hp] at HC
      rw [hi] at HI
      rw [hp] at HN
      clear hi hp
      go_enter Try.func108, Try.ntmps108
      go_wp2_with fail
      refine (HI.out _ hb0).mono ?_
      rintro e w1 ⟨rfl, hb1⟩
      have q0 := cell_new hb1 0 rfl
      have hbw := hb0.trans (hb1.mono hb0.size)
      clear hb1
      go_wp2_with fail
      refine (HN.out _ hbw).mono ?_
      rintro e w2 ⟨rfl, rfl⟩
      go_wp2
      go_ret
      exact RV_of (int_eq (by rw [HC.out]; rfl)) hbw
    | true =>
      rw [hi, hp] at HC
      rw [hi] at HI
      rw [hp] at HN
      clear hi hp
      go_enter Try.func108, Try.ntmps108
      go_wp2_with fail
      refine (HI.out _ hb0).mono ?_
      rintro e w1 ⟨rfl, hb1⟩
      have q0 := cell_new hb1 0 rfl
      have hbw := hb0.trans (hb1.mono hb0.size)
      clear hb1
      go_wp2_with fail
      refine (HN.out _ hbw).mono ?_
      rintro e w2 ⟨rfl, rfl⟩
      go_wp2
      go_ret
      exact RV_of (int_eq (by rw [HC.out]; rfl)) hbw
def closF (v : Int) (bs : List Blk) (zs : List Int) : Bool × Int := (decide (setCode v bs zs = 0) && closedL bs zs, setCode v bs zs)
def indF (v : Int) (bs : List Blk) (zs : List Int) : Bool × Int := (decide (setCode v bs zs = 0) && indepL bs zs, setCode v bs zs)
set_option maxRecDepth 100000 in
theorem IsClosed_any (v : Int) (s : Value) (bs : List Blk) (t : Value) (zs : List Int) (w : World) (h : SB w s bs) (ht : IB w t zs) :
    Calls Try.prog 55 #[.agg #[.int .i64 v, s], t] w (RV (boolCode (closF v bs zs).1 (closF v bs zs).2) w) := by
  have hs := h.slice
  have hts := ht.form
  have hlen := h.2.1
  have HPC := Lib.hid fun W (hb : Below w.heap.size w W) => impPointsCode_any v s bs t zs W (h.below hb (Nat.le_refl _)) (ht.below hb (Nat.le_refl _))
  have HSB := Lib.hid h
  have HIB := Lib.hid ht
  have hb0 := (Below.refl w.heap.size w).alloc (Nat.le_refl _) (.cells #[.int .i64 v, s] 32)
  clear h ht
  obtain ⟨a0, c0, rfl⟩ := hs
  obtain ⟨a1, c1, rfl⟩ := hts
  by_cases hc : setCode v bs zs = 0
  · obtain ⟨_, hok, hin, _⟩ := setCode_zero hc
    have HV := Lib.hid (show closF v bs zs = (closedL bs zs, 0) by simp [closF, hc])
    have HBP := Lib.hid fun W (hb : Below w.heap.size w W) => blockPoints_any v _ bs W (HSB.out.below hb (Nat.le_refl _)) hok
    have HST := Lib.hid fun W (hb : Below w.heap.size w W) => setOfPoints_any _ zs W (HIB.out.below hb (Nat.le_refl _)) hin
    have HCL := Lib.hid fun u W (hu : UB W u (mbs bs)) => isClosed_any u bs zs W hu hok hin
    obtain ⟨m, hm⟩ : ∃ m, m = mskR zs := ⟨_, rfl⟩
    rw [← hm] at HST HCL
    rw [hc] at HPC
    rw [HV.out]
    obtain ⟨β, hβ⟩ : ∃ β, β = closedL bs zs := ⟨_, rfl⟩
    rw [← hβ] at HCL ⊢
    clear hc hok hin HV hm hβ HSB HIB
    go_enter Try.func55, Try.ntmps55
    go_wp2_with fail
    refine (HPC.out _ hb0).mono ?_
    rintro e w1 ⟨rfl, hb1⟩
    have q0 := cell_new hb1 0 rfl
    have q1 := cell_new hb1 1 rfl
    have hbw := below_new hb1
    clear hb1
    go_wp2_with fail
    refine (HBP.out _ hbw).mono ?_
    rintro e w2 ⟨u, rfl, hu, hb2⟩
    have HU := Lib.hid (hu.ub (by rw [mbs_len]; exact hlen))
    obtain ⟨a2, c2, hf⟩ := hu.form
    have hbw2 := hbw.trans (hb2.mono hbw.size)
    obtain ⟨n2, hn2⟩ : ∃ n2, n2 = (mbs bs).length := ⟨_, rfl⟩
    rw [← hn2] at hf
    subst hf
    clear hb2 hu hn2
    go_wp2_with fail
    refine (HST.out _ hbw2).mono ?_
    rintro e w3 ⟨rfl, rfl⟩
    go_wp2_with fail
    refine (HCL.out _ _ HU.out).mono ?_
    rintro e w4 ⟨rfl, hb4⟩
    have hbw4 := hbw2.trans (hb4.mono hbw2.size)
    go_wp2
    exact bodyPost_ret (v := boolCode β 0) (by simp [results, Try.results55, boolCode, go_sem, *]) rfl (RV_of rfl hbw4)
  · have HV := Lib.hid (show closF v bs zs = (false, setCode v bs zs) by simp [closF, hc])
    obtain ⟨κ, hκ⟩ : ∃ κ, κ = setCode v bs zs := ⟨_, rfl⟩
    rw [← hκ] at HPC HV hc
    have hne : (κ != 0) = true := by simpa using hc
    clear hc hκ
    rw [HV.out]
    go_enter Try.func55, Try.ntmps55
    go_wp2_with fail
    refine (HPC.out _ hb0).mono ?_
    rintro e w1 ⟨rfl, hb1⟩
    have hbw := below_new hb1
    clear hb1 HV
    go_wp2
    exact bodyPost_ret (v := boolCode false κ) (by simp [results, Try.results55, boolCode, go_sem, *]) rfl (RV_of rfl hbw)
set_option maxRecDepth 100000 in
theorem IsIndependent_any (v : Int) (s : Value) (bs : List Blk) (t : Value) (zs : List Int) (w : World) (h : SB w s bs) (ht : IB w t zs) :
    Calls Try.prog 61 #[.agg #[.int .i64 v, s], t] w (RV (boolCode (indF v bs zs).1 (indF v bs zs).2) w) := by
  have hs := h.slice
  have hts := ht.form
  have hlen := h.2.1
  have HPC := Lib.hid fun W (hb : Below w.heap.size w W) => impPointsCode_any v s bs t zs W (h.below hb (Nat.le_refl _)) (ht.below hb (Nat.le_refl _))
  have HSB := Lib.hid h
  have HIB := Lib.hid ht
  have hb0 := (Below.refl w.heap.size w).alloc (Nat.le_refl _) (.cells #[.int .i64 v, s] 32)
  clear h ht
  obtain ⟨a0, c0, rfl⟩ := hs
  obtain ⟨a1, c1, rfl⟩ := hts
  by_cases hc : setCode v bs zs = 0
  · obtain ⟨_, hok, hin, _⟩ := setCode_zero hc
    have HV := Lib.hid (show indF v bs zs = (indepL bs zs, 0) by simp [indF, hc])
    have HBP := Lib.hid fun W (hb : Below w.heap.size w W) => blockPoints_any v _ bs W (HSB.out.below hb (Nat.le_refl _)) hok
    have HST := Lib.hid fun W (hb : Below w.heap.size w W) => setOfPoints_any _ zs W (HIB.out.below hb (Nat.le_refl _)) hin
    have HCL := Lib.hid fun u W (hu : UB W u (mbs bs)) => isIndependent_any u bs zs W hu hok hin
    obtain ⟨m, hm⟩ : ∃ m, m = mskR zs := ⟨_, rfl⟩
    rw [← hm] at HST HCL
    rw [hc] at HPC
    rw [HV.out]
    obtain ⟨β, hβ⟩ : ∃ β, β = indepL bs zs := ⟨_, rfl⟩
    rw [← hβ] at HCL ⊢
    clear hc hok hin HV hm hβ HSB HIB
    go_enter Try.func61, Try.ntmps61
    go_wp2_with fail
    refine (HPC.out _ hb0).mono ?_
    rintro e w1 ⟨rfl, hb1⟩
    have q0 := cell_new hb1 0 rfl
    have q1 := cell_new hb1 1 rfl
    have hbw := below_new hb1
    clear hb1
    go_wp2_with fail
    refine (HBP.out _ hbw).mono ?_
    rintro e w2 ⟨u, rfl, hu, hb2⟩
    have HU := Lib.hid (hu.ub (by rw [mbs_len]; exact hlen))
    obtain ⟨a2, c2, hf⟩ := hu.form
    have hbw2 := hbw.trans (hb2.mono hbw.size)
    obtain ⟨n2, hn2⟩ : ∃ n2, n2 = (mbs bs).length := ⟨_, rfl⟩
    rw [← hn2] at hf
    subst hf
    clear hb2 hu hn2
    go_wp2_with fail
    refine (HST.out _ hbw2).mono ?_
    rintro e w3 ⟨rfl, rfl⟩
    go_wp2_with fail
    refine (HCL.out _ _ HU.out).mono ?_
    rintro e w4 ⟨rfl, hb4⟩
    have hbw4 := hbw2.trans (hb4.mono hbw2.size)
    go_wp2
    exact bodyPost_ret (v := boolCode β 0) (by simp [results, Try.results61, boolCode, go_sem, *]) rfl (RV_of rfl hbw4)
  · have HV := Lib.hid (show indF v bs zs = (false, setCode v bs zs) by simp [indF, hc])
    obtain ⟨κ, hκ⟩ : ∃ κ, κ = setCode v bs zs := ⟨_, rfl⟩
    rw [← hκ] at HPC HV hc
    have hne : (κ != 0) = true := by simpa using hc
    clear hc hκ
    rw [HV.out]
    go_enter Try.func61, Try.ntmps61
    go_wp2_with fail
    refine (HPC.out _ hb0).mono ?_
    rintro e w1 ⟨rfl, hb1⟩
    have hbw := below_new hb1
    clear hb1 HV
    go_wp2
    exact bodyPost_ret (v := boolCode false κ) (by simp [results, Try.results61, boolCode, go_sem, *]) rfl (RV_of rfl hbw)
end Go.Proofs.Ytkpnlecmfmbkaaa

namespace Go.Proofs.Ytkpnlecmfmbkaaa
open Go.RowKit Go.Maps Go.Shelf
theorem popA_half {n : Nat} (h : n < 32768) : pc n = n % 2 + pc (n / 2) := by
  have e := popA_split 14 1 (n / 2)
  have h0 : n / 2 / 2 ^ 14 = 0 := by omega
  have h1 : n / 2 % 2 ^ 14 = n / 2 := by omega
  rw [h0, h1] at e
  unfold pc
  rw [show Lib.popAux 15 (n / 2) = Lib.popAux (14 + 1) (n / 2) by rfl, e]
  simp [Lib.popAux]
theorem pc_zero : pc 0 = 0 := by decide
theorem pc_le (n : Nat) : pc n ≤ 15 := by
  unfold pc
  rw [popA_range]
  exact Nat.le_trans (List.length_filter_le _ _) (by simp)
set_option maxRecDepth 100000 in
theorem l05Ones_any (n : Nat) (h : n < 32768) (w : World) : Calls Try.prog 116 #[.int .i64 n] w (RS (.int .i64 (pc n)) w) := by
  have HP := Lib.hid (fun (m : Nat) (hm : m < 32768) => popA_half hm)
  obtain ⟨p, hp⟩ : ∃ p, p = pc n := ⟨_, rfl⟩
  have HE := Lib.hid hp
  have hp15 : p ≤ 15 := by rw [hp]; exact pc_le n
  rw [← hp]
  clear hp
  go_enter Try.func116, Try.ntmps116
  go_wp2
  go_loop [0, 3] (fun x c => ∃ m C : Nat, m ≤ n ∧ x = .int .i64 m ∧ c = .int .i64 C ∧ Hid (C + pc m = p)) (fun x _ => (intOf x).toNat)
  case atStart => exact ⟨n, 0, Nat.le_refl _, rfl, rfl, Lib.hid (by rw [HE.out, Nat.zero_add])⟩
  case round =>
    obtain ⟨m, C, hm, rfl, rfl, HC⟩ := hrel
    by_cases h0 : 0 < m
    · have e := HP.out m (by omega)
      have hc := HC.out
      have hle : C ≤ 15 := by omega
      have HN := Lib.hid (show C + m % 2 + pc (m / 2) = p by omega)
      have hd : decide ((0 : Int) < (m : Int)) = true := by simp; omega
      have q1 : ((m : Int)).tmod 2 = ((m % 2 : Nat) : Int) := by rw [Int.tmod_eq_emod_of_nonneg (by omega)]; omega
      have q2 : ((m : Int)).tdiv 2 = ((m / 2 : Nat) : Int) := by rw [Int.tdiv_eq_ediv_of_nonneg (by omega)]; omega
      obtain ⟨r, hr⟩ : ∃ r, r = m % 2 := ⟨_, rfl⟩
      obtain ⟨d, hdd⟩ : ∃ d, d = m / 2 := ⟨_, rfl⟩
      have hr2 : r ≤ 1 := by omega
      have hd2 : d < m := by omega
      rw [← hr] at q1 HN
      rw [← hdd] at q2 HN
      clear e hc hr hdd
      go_wp2
      go_round
      case rel => exact ⟨d, C + r, by omega, by go_num, by go_num, HN⟩
      case measure => simp [intOf]; omega
    · have e : m = 0 := by omega
      subst e
      have HF := Lib.hid (show C = p by have := HC.out; rw [pc_zero] at this; exact this)
      clear HC
      go_wp2
      go_ret
      exact RS_of (int_eq (by rw [HF.out]))
end Go.Proofs.Ytkpnlecmfmbkaaa

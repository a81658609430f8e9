
/- The number of colourings: plain. slices.Max of a list, and the count of a list of first uses. -/
import Derived.Test.YtkpnlecmfmbkaaaJ7
namespace Go.Proofs.Ytkpnlecmfmbkaaa
open Go.RowKit
/-- f c + .. + f (c + m - 1) -/
def sumF (f : Nat → Nat) : Nat → Nat → Nat
  | _, 0 => 0
  | c, m + 1 => f c + sumF f (c + 1) m
/-- The number of the colourings that go on from a list. -/
def allC (bs : List Blk) (k : Nat) : Nat → List Int → Nat
  | 0, _ => 1
  | d + 1, L => sumF (fun c => if goodE false bs (L ++ [(c : Int)]) then allC bs k d (L ++ [(c : Int)]) else 0) 0 k
/-- k (k - 1) .. (k - u + 1) -/
def ffN (k : Nat) : Nat → Nat
  | 0 => 1
  | u + 1 => ffN k u * (k - u)
/-- The same number over the lists in which each colour comes first behind all lesser ones. -/
def cntC (bs : List Blk) (k : Nat) : Nat → List Int → Nat → Nat
  | 0, _, used => ffN k used
  | d + 1, L, used => sumF (fun c => if goodE false bs (L ++ [(c : Int)]) then cntC bs k d (L ++ [(c : Int)]) (max used (c + 1)) else 0) 0 (min (used + 1) k)
theorem sumF_congr {f g : Nat → Nat} : ∀ (m c : Nat), (∀ i, c ≤ i → i < c + m → f i = g i) → sumF f c m = sumF g c m
  | 0, _, _ => rfl
  | m + 1, c, h => by
    unfold sumF
    rw [h c (Nat.le_refl _) (by omega), sumF_congr m (c + 1) fun i h1 h2 => h i (by omega) (by omega)]
theorem sumF_cut (f : Nat → Nat) : ∀ (m c l : Nat), sumF f c (m + l) = sumF f c m + sumF f (c + m) l
  | 0, c, l => by simp [sumF]
  | m + 1, c, l => by
    rw [show m + 1 + l = (m + l) + 1 by omega]
    show f c + sumF f (c + 1) (m + l) = f c + sumF f (c + 1) m + sumF f (c + (m + 1)) l
    rw [sumF_cut f m (c + 1) l, show c + 1 + m = c + (m + 1) by omega]
    omega
theorem sumF_same {f : Nat → Nat} {q : Nat} : ∀ (m c : Nat), (∀ i, c ≤ i → i < c + m → f i = q) → sumF f c m = m * q
  | 0, _, _ => by simp [sumF]
  | m + 1, c, h => by
    unfold sumF
    rw [h c (Nat.le_refl _) (by omega), sumF_same m (c + 1) fun i h1 h2 => h i (by omega) (by omega), Nat.succ_mul]
    omega
theorem sumF_mul (f : Nat → Nat) (q : Nat) : ∀ (m c : Nat), q * sumF f c m = sumF (fun i => q * f i) c m
  | 0, _ => by simp [sumF]
  | m + 1, c => by unfold sumF; rw [Nat.mul_add, sumF_mul f q m (c + 1)]
theorem sumF_le {f : Nat → Nat} {q : Nat} : ∀ (m c : Nat), (∀ i, f i ≤ q) → sumF f c m ≤ m * q
  | 0, _, _ => by simp [sumF]
  | m + 1, c, h => by
    unfold sumF
    have := h c
    have := sumF_le m (c + 1) h
    rw [Nat.succ_mul]
    omega
theorem sumF_list (f : Nat → Nat) : ∀ (m c : Nat), sumF f c m = ((List.range' c m).map f).sum
  | 0, _ => by simp [sumF]
  | m + 1, c => by
    unfold sumF
    rw [List.range'_succ, List.map_cons, List.sum_cons, sumF_list f m (c + 1)]
theorem sum_perm {l m : List Nat} (h : l.Perm m) : l.sum = m.sum := by
  induction h with
  | nil => rfl
  | cons x _ ih => simp [ih]
  | swap x y l => simp only [List.sum_cons]; omega
  | trans _ _ h1 h2 => exact h1.trans h2
/-- a and b exchanged -/
def swN (a b c : Nat) : Nat := if c = a then b else if c = b then a else c
theorem swN_swN (a b c : Nat) : swN a b (swN a b c) = c := by unfold swN; split <;> split <;> (try split) <;> omega
theorem swN_lt {a b c k : Nat} (ha : a < k) (hb : b < k) (h : c < k) : swN a b c < k := by unfold swN; split <;> (try split) <;> omega
theorem swN_inj {a b c d : Nat} (h : swN a b c = swN a b d) : c = d := by rw [← swN_swN a b c, h, swN_swN]
theorem sumF_swap (f : Nat → Nat) {a b k : Nat} (ha : a < k) (hb : b < k) : sumF (fun c => f (swN a b c)) 0 k = sumF f 0 k := by
  rw [sumF_list, sumF_list]
  have : ((List.range' 0 k).map fun c => f (swN a b c)) = ((List.range' 0 k).map (swN a b)).map f := by rw [List.map_map]; rfl
  rw [this]
  refine sum_perm (List.Perm.map f ?_)
  have hn : (List.range' 0 k).Nodup := List.nodup_range'
  have hn2 : ((List.range' 0 k).map (swN a b)).Nodup := by
    rw [List.Nodup, List.pairwise_map]
    exact hn.imp fun h e => h (swN_inj e)
  refine (List.perm_ext_iff_of_nodup hn2 hn).2 fun x => ?_
  simp only [List.mem_map, List.mem_range'_1]
  constructor
  · rintro ⟨c, ⟨_, hc⟩, rfl⟩
    exact ⟨Nat.zero_le _, by have := swN_lt ha hb (c := c) (by omega); omega⟩
  · rintro ⟨_, hx⟩
    exact ⟨swN a b x, ⟨Nat.zero_le _, by have := swN_lt ha hb (c := x) (by omega); omega⟩, swN_swN a b x⟩
/-- Lists of colours as natural numbers, so that they can be exchanged. -/
def natL (L : List Nat) : List Int := L.map fun c : Nat => (c : Int)
theorem natL_app (L : List Nat) (c : Nat) : natL L ++ [(c : Int)] = natL (L ++ [c]) := by simp [natL]
theorem clr_nat (L : List Nat) (p : Int) : clr (natL L) p = ((L[p.toNat]?.getD 0 : Nat) : Int) := by
  unfold clr natL
  rw [List.getElem?_map]
  cases L[p.toNat]? <;> rfl
theorem clr_sw {L : List Nat} {a b : Nat} {p : Int} (h0 : 0 ≤ p) (h1 : p < (L.length : Int)) : ∃ c : Nat, clr (natL L) p = (c : Int) ∧ clr (natL (L.map (swN a b))) p = (swN a b c : Nat) := by
  have hlt : p.toNat < L.length := by omega
  refine ⟨L[p.toNat], ?_, ?_⟩
  · rw [clr_nat, List.getElem?_eq_getElem hlt]; rfl
  · rw [clr_nat, List.getElem?_map, List.getElem?_eq_getElem hlt]; rfl
theorem blkOk_sw {L : List Nat} {a b : Nat} {x : Blk} (hok : okB x) (h : x.c < (L.length : Int)) : blkOk false (natL (L.map (swN a b))) x = blkOk false (natL L) x := by
  obtain ⟨g1, g2, g3, _⟩ := hok
  obtain ⟨c1, e1, f1⟩ := clr_sw (L := L) (a := a) (b := b) (p := x.a) (by omega) (by omega)
  obtain ⟨c2, e2, f2⟩ := clr_sw (L := L) (a := a) (b := b) (p := x.b) (by omega) (by omega)
  obtain ⟨c3, e3, f3⟩ := clr_sw (L := L) (a := a) (b := b) (p := x.c) (by omega) (by omega)
  unfold blkOk
  rw [e1, e2, e3, f1, f2, f3]
  have i12 : (((swN a b c1 : Nat) : Int) = (swN a b c2 : Nat)) ↔ ((c1 : Int) = c2) := ⟨fun e => by rw [swN_inj (Int.ofNat.inj e)], fun e => by rw [Int.ofNat.inj e]⟩
  have i23 : (((swN a b c2 : Nat) : Int) = (swN a b c3 : Nat)) ↔ ((c2 : Int) = c3) := ⟨fun e => by rw [swN_inj (Int.ofNat.inj e)], fun e => by rw [Int.ofNat.inj e]⟩
  simp [ruleB, i12, i23]
theorem goodE_sw {bs : List Blk} {L : List Nat} {a b : Nat} (hok : ∀ x ∈ bs, okB x) (h0 : 0 < L.length) : goodE false bs (natL (L.map (swN a b))) = goodE false bs (natL L) := by
  unfold goodE
  have hl : (natL (L.map (swN a b))).length = L.length := by simp [natL]
  have hl2 : (natL L).length = L.length := by simp [natL]
  rw [hl, hl2]
  rw [Bool.eq_iff_iff, List.all_eq_true, List.all_eq_true]
  have H : ∀ x ∈ endB bs (L.length - 1), blkOk false (natL (L.map (swN a b))) x = blkOk false (natL L) x := by
    intro x hx
    obtain ⟨hm, hc⟩ := List.mem_filter.1 hx
    simp only [decide_eq_true_eq] at hc
    exact blkOk_sw (hok x hm) (by omega)
  exact ⟨fun h x hx => by rw [← H x hx]; exact h x hx, fun h x hx => by rw [H x hx]; exact h x hx⟩
theorem allC_sw {bs : List Blk} {k a b : Nat} (hok : ∀ x ∈ bs, okB x) (ha : a < k) (hb : b < k) : ∀ (d : Nat) (L : List Nat), allC bs k d (natL (L.map (swN a b))) = allC bs k d (natL L)
  | 0, _ => rfl
  | d + 1, L => by
    unfold allC
    rw [← sumF_swap (fun c => if goodE false bs (natL (L.map (swN a b)) ++ [(c : Int)]) then allC bs k d (natL (L.map (swN a b)) ++ [(c : Int)]) else 0) ha hb]
    refine sumF_congr _ _ fun c _ _ => ?_
    show (if goodE false bs (natL (L.map (swN a b)) ++ [((swN a b c : Nat) : Int)]) = true then allC bs k d (natL (L.map (swN a b)) ++ [((swN a b c : Nat) : Int)]) else 0) = if goodE false bs (natL L ++ [(c : Int)]) = true then allC bs k d (natL L ++ [(c : Int)]) else 0
    rw [natL_app, natL_app, show L.map (swN a b) ++ [swN a b c] = (L ++ [c]).map (swN a b) by simp, goodE_sw hok (by simp), allC_sw hok ha hb d (L ++ [c])]
theorem sw_fix {L : List Nat} {a b u : Nat} (ha : u ≤ a) (hb : u ≤ b) (h : ∀ z ∈ L, z < u) : L.map (swN a b) = L := by
  rw [List.map_congr_left (g := id)]
  · simp
  · intro z hz
    have := h z hz
    unfold swN
    rw [if_neg (by omega), if_neg (by omega)]
    rfl
/-- An unused colour does as well as another one. -/
theorem unused_same {bs : List Blk} {k u c : Nat} {L : List Nat} (hok : ∀ x ∈ bs, okB x) (h : ∀ z ∈ L, z < u) (hc : u ≤ c) (hck : c < k) (d : Nat) :
    (if goodE false bs (natL L ++ [(c : Int)]) then allC bs k d (natL L ++ [(c : Int)]) else 0) = if goodE false bs (natL L ++ [(u : Int)]) then allC bs k d (natL L ++ [(u : Int)]) else 0 := by
  have e : (L ++ [u]).map (swN u c) = L ++ [c] := by
    rw [List.map_append, sw_fix (Nat.le_refl u) hc h]
    simp [swN]
  rw [natL_app, natL_app, ← e, goodE_sw hok (by simp), allC_sw hok (by omega) hck]
theorem cnt_all {bs : List Blk} {k : Nat} (hok : ∀ x ∈ bs, okB x) : ∀ (d : Nat) (L : List Nat) (used : Nat), used ≤ k → (∀ z ∈ L, z < used) → cntC bs k d (natL L) used = ffN k used * allC bs k d (natL L)
  | 0, L, used, _, _ => by simp [cntC, allC]
  | d + 1, L, used, hu, h => by
    unfold cntC allC
    have hlow : ∀ i, 0 ≤ i → i < 0 + used → (if goodE false bs (natL L ++ [(i : Int)]) then cntC bs k d (natL L ++ [(i : Int)]) (max used (i + 1)) else 0) = ffN k used * (if goodE false bs (natL L ++ [(i : Int)]) then allC bs k d (natL L ++ [(i : Int)]) else 0) := by
      intro i _ hi
      rw [show max used (i + 1) = used by omega]
      split
      · rw [natL_app, cnt_all hok d (L ++ [i]) used hu (fun z hz => by
          rcases List.mem_append.1 hz with hz | hz
          · exact h z hz
          · simp at hz; omega)]
      · rfl
    obtain ⟨r, hr⟩ : ∃ r, k = used + r := ⟨k - used, by omega⟩
    have hall : sumF (fun c => if goodE false bs (natL L ++ [(c : Int)]) then allC bs k d (natL L ++ [(c : Int)]) else 0) 0 k = sumF (fun c => if goodE false bs (natL L ++ [(c : Int)]) then allC bs k d (natL L ++ [(c : Int)]) else 0) 0 used + r * (if goodE false bs (natL L ++ [(used : Int)]) then allC bs k d (natL L ++ [(used : Int)]) else 0) := by
      have e1 := sumF_cut (fun c => if goodE false bs (natL L ++ [(c : Int)]) then allC bs k d (natL L ++ [(c : Int)]) else 0) used 0 r
      rw [← hr, Nat.zero_add] at e1
      rw [e1, sumF_same (q := if goodE false bs (natL L ++ [(used : Int)]) then allC bs k d (natL L ++ [(used : Int)]) else 0) r used (fun i h1 h2 => unused_same hok h h1 (by omega) d)]
    rw [hall]
    cases r with
    | zero =>
      rw [show min (used + 1) k = used by omega, sumF_congr used 0 hlow, ← sumF_mul]
      simp
    | succ r =>
      rw [show min (used + 1) k = used + 1 by omega, sumF_cut _ used 0 1, sumF_congr used 0 hlow, ← sumF_mul, Nat.mul_add, Nat.zero_add]
      congr 1
      show (if goodE false bs (natL L ++ [(used : Int)]) = true then cntC bs k d (natL L ++ [(used : Int)]) (max used (used + 1)) else 0) + 0 = _
      rw [Nat.add_zero, show max used (used + 1) = used + 1 by omega]
      split
      · rw [natL_app, cnt_all hok d (L ++ [used]) (used + 1) (by omega) (fun z hz => by
          rcases List.mem_append.1 hz with hz | hz
          · have := h z hz; omega
          · simp at hz; omega)]
        show ffN k used * (k - used) * _ = _
        rw [show k - used = r + 1 by omega, Nat.mul_assoc]
      · simp
/-- Both ways count the same. -/
theorem cnt_whole {bs : List Blk} {k : Nat} (hok : ∀ x ∈ bs, okB x) (n : Nat) : cntC bs k n [] 0 = allC bs k n [] := by
  have := cnt_all (k := k) hok n [] 0 (Nat.zero_le _) (by simp)
  simpa [natL, ffN] using this
theorem allC_le (bs : List Blk) (k : Nat) : ∀ (d : Nat) (L : List Int), allC bs k d L ≤ k ^ d
  | 0, _ => by simp [allC]
  | d + 1, L => by
    unfold allC
    rw [Nat.pow_succ, Nat.mul_comm]
    refine sumF_le _ _ fun c => ?_
    split
    · exact allC_le bs k d _
    · exact Nat.zero_le _
/-- What CountColourings answers. -/
def cntF (v : Int) (bs : List Blk) (k : Int) : Int × Int :=
  if isSysImpl v bs then (if (decide (1 ≤ k) && decide (k ≤ 3)) = true then (if v ≤ 9 then ((allC bs k.toNat v.toNat [] : Nat), 0) else (0, 3)) else (0, 2)) else (0, 1)
end Go.Proofs.Ytkpnlecmfmbkaaa

namespace Go.Proofs.Ytkpnlecmfmbkaaa
open Go.RowKit Go.Maps Go.Shelf
def MaxOf (zs : List Int) (m : Int) : Prop := m ∈ zs ∧ ∀ z ∈ zs, z ≤ m
theorem MaxOf.next {zs : List Int} {j : Nat} {m : Int} (hj : j < zs.length) (h : MaxOf (zs.take j) m) : MaxOf (zs.take (j + 1)) (max m (zs[j]?.getD 0)) := by
  have e : zs.take (j + 1) = zs.take j ++ [zs[j]?.getD 0] := by
    rw [List.take_add_one, List.getElem?_eq_getElem hj]; rfl
  rw [e]
  obtain ⟨h1, h2⟩ := h
  refine ⟨?_, fun z hz => ?_⟩
  · rw [List.mem_append, List.mem_singleton]
    rcases Int.le_total m (zs[j]?.getD 0) with h | h
    · exact .inr (by omega)
    · exact .inl (by rw [show max m (zs[j]?.getD 0) = m by omega]; exact h1)
  · rcases List.mem_append.1 hz with hz | hz
    · have := h2 z hz; omega
    · rw [List.mem_singleton] at hz; omega
set_option maxRecDepth 100000 in
theorem MaxI_any (s : Value) (zs : List Int) (m : Int) (w : World) (h : IA w s zs) (hl : zs.length ≤ 1100000) (hm : MaxOf zs m) :
    Calls Try.prog 140 #[s] w (RS (.int .i64 m) w) := by
  obtain ⟨b, off, cap, rfl, hlt, hI⟩ := h
  have h0 : 0 < zs.length := List.length_pos_of_mem hm.1
  have HM := Lib.hid hm
  have c0 := hI 0 h0
  rw [Nat.add_zero] at c0
  have HI := Lib.hid hI
  have e1 : decide ((zs.length : Int) < 1) = false := by simp; omega
  obtain ⟨z0, hz0⟩ : ∃ z, z = zs[0]?.getD 0 := ⟨_, rfl⟩
  have HS : Hid (MaxOf (zs.take 1) z0) := Lib.hid (by
    rw [hz0, List.take_one, List.head?_eq_getElem?, List.getElem?_eq_getElem h0]
    exact ⟨by simp, by simp⟩)
  rw [← hz0] at c0
  clear hI hm hz0
  go_enter Try.func140, Try.ntmps140
  go_wp2
  go_loop [3, 4] (fun q i => ∃ (j : Nat) (m : Int), 1 ≤ j ∧ j ≤ zs.length ∧ i = .int .i64 j ∧ q = .int .i64 m ∧ Hid (MaxOf (zs.take j) m)) (fun _ i => zs.length - (intOf i).toNat)
  case atStart => exact ⟨1, z0, Nat.le_refl _, by omega, rfl, rfl, HS⟩
  case round =>
    obtain ⟨j, q, hj1, hj, rfl, rfl, HR⟩ := hrel
    by_cases hjl : j < zs.length
    · have c1 := HI.out j hjl
      have HN := Lib.hid (HR.out.next hjl)
      obtain ⟨z, hz⟩ : ∃ z, z = zs[j]?.getD 0 := ⟨_, rfl⟩
      rw [← hz] at c1 HN
      have g0 : (0 : Int) ≤ (j : Int) := by omega
      have g1 : (j : Int) < (zs.length : Int) := by omega
      clear hz
      have HN0 := Lib.hid (show MaxOf (zs.take (j + 1)) (if q < z then z else q) by
        have h := HN.out
        rwa [show max q z = if q < z then z else q by split <;> omega] at h)
      clear HN
      go_wp2
      go_round
      case rel => exact ⟨j + 1, _, by omega, by omega, by go_num, rfl, HN0⟩
      case measure => simp [intOf]; omega
    · have hje : j = zs.length := by omega
      have HE := Lib.hid (show q = m by
        have h1 := HR.out
        rw [hje, List.take_length] at h1
        have := h1.2 m HM.out.1
        have := HM.out.2 q h1.1
        omega)
      clear hje
      go_wp2
      go_ret
      exact RS_of (int_eq HE.out)
end Go.Proofs.Ytkpnlecmfmbkaaa

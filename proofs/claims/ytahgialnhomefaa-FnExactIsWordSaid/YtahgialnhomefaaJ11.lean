
/- Squares and masks: plain. Masks of points of blocks: plain. Masks of disjoint blocks: plain. MeetingBlocks of the program. The part of a system on some points: plain. Helpers on difference families. spec.l02Square. The model's sets of blocks. MeetingBlocks of the model. The numbers from 0 on: plain. blockNumbers. slices.Contains at a slice that may be nil. oneIf. -/
import Derived.Test.YtahgialnhomefaaJ10
import Derived.Laws.BitsLemmas
import Derived.IntWalk
import Derived.Deep.QuietTactic
import Derived.BigQuiet
namespace Go.Proofs.Ytahgialnhomefaa
open Go.RowKit
theorem rnGo_iff {v : Int} : ∀ {l seen : List Int}, rnGo v seen l = true ↔ (∀ a ∈ l, 0 ≤ a ∧ a < v) ∧ l.Nodup ∧ ∀ a ∈ l, a ∉ seen
  | [], seen => by simp [rnGo]
  | b :: r, seen => by
    simp only [rnGo, Bool.and_eq_true, rnGo_iff (l := r), inP, decide_eq_true_eq, Bool.not_eq_true', decide_eq_false_iff_not, List.forall_mem_cons, List.nodup_cons, List.mem_append, List.mem_singleton, not_or]
    constructor
    · rintro ⟨⟨h1, h2⟩, h3, h4, h5⟩
      exact ⟨⟨h1, h3⟩, ⟨fun e => (h5 b e).2 rfl, h4⟩, h2, fun a ha => (h5 a ha).1⟩
    · rintro ⟨⟨h1, h3⟩, ⟨h6, h4⟩, h2, h5⟩
      exact ⟨⟨h1, h2⟩, h3, h4, fun a ha => ⟨h5 a ha, fun e => h6 (e ▸ ha)⟩⟩
theorem isRen_iff {n : Nat} {p : List Int} : isRen (n : Int) p = true ↔ p.length = n ∧ (∀ a ∈ p, 0 ≤ a ∧ a < (n : Int)) ∧ p.Nodup := by
  simp only [isRen, Bool.and_eq_true, decide_eq_true_eq, rnGo_iff]
  constructor
  · rintro ⟨h1, h2, h3, _⟩
    exact ⟨by omega, h2, h3⟩
  · rintro ⟨h1, h2, h3⟩
    exact ⟨by omega, h2, h3, by simp⟩
theorem nodup_of_cover {α : Type} [DecidableEq α] {l m : List α} (hn : l.Nodup) (hs : ∀ x ∈ l, x ∈ m) (hl : m.length ≤ l.length) : m.Nodup := by
  apply Classical.byContradiction
  intro hnot
  rw [List.Nodup, List.pairwise_iff_getElem] at hnot
  have ⟨i, j, hi, hj, hij, he⟩ : ∃ i j, ∃ (hi : i < m.length) (hj : j < m.length), i < j ∧ m[i] = m[j] := by
    apply Classical.byContradiction
    intro hc
    exact hnot fun i j hi hj hij he => hc ⟨i, j, hi, hj, hij, he⟩
  have h := List.Nodup.length_le_of_subset (l₂ := m.eraseIdx j) hn fun x hx => by
    obtain ⟨k, hk, rfl⟩ := List.getElem_of_mem (hs x hx)
    rw [List.mem_eraseIdx_iff_getElem]
    by_cases e : k = j
    · subst e
      exact ⟨i, hi, by omega, he⟩
    · exact ⟨k, hk, e, rfl⟩
  rw [List.length_eraseIdx, if_pos hj] at h
  omega
theorem msk_lt' {L : List Int} (h : ∀ d ∈ L, 0 ≤ d ∧ d ≤ 7) : msk L < 256 := by
  suffices ∀ (L : List Int) (m : Nat), m < 256 → (∀ d ∈ L, 0 ≤ d ∧ d ≤ 7) → L.foldl (fun m d => m ||| 2 ^ d.toNat) m < 256 from this L 0 (by decide) h
  intro L
  induction L with
  | nil => exact fun m hm _ => hm
  | cons d L ih =>
    intro m hm hd
    rw [List.foldl_cons]
    have hq := hd d (List.mem_cons_self)
    refine ih _ ?_ fun e he => hd e (List.mem_cons_of_mem _ he)
    refine Nat.or_lt_two_pow (n := 8) hm ?_
    exact Nat.pow_lt_pow_right (by decide) (by omega)
theorem bit_or {L : List Int} (h : ∀ d ∈ L, 0 ≤ d ∧ d ≤ 7) {d : Int} (h1 : 0 ≤ d) (h7 : d ≤ 7) : bits .or .i64 (msk L : Int) ((2 ^ d.toNat : Nat) : Int) = (msk (L ++ [d]) : Int) := by
  have hb := bits_small ⟨d.toNat, by omega⟩ ⟨msk L, msk_lt' h⟩
  simp only at hb
  rw [hb.2, msk_snoc]
theorem isRen_msk {n : Nat} {p : List Int} (hl : p.length = n) (hr : ∀ a ∈ p, 0 ≤ a ∧ a < (n : Int)) : isRen (n : Int) p = decide (msk p = 2 ^ n - 1) := by
  have hR : ((List.range n).map fun (k : Nat) => (k : Int)).Nodup := by
    rw [List.Nodup, List.pairwise_map]
    exact List.nodup_range.imp fun h e => h (by omega)
  rw [Bool.eq_iff_iff, isRen_iff, decide_eq_true_eq]
  have hm : msk p = 2 ^ n - 1 ↔ ∀ k : Nat, k < n → (k : Int) ∈ p := by
    constructor
    · intro h k hk
      have ht : (msk p).testBit k = true := by rw [h, Nat.testBit_two_pow_sub_one]; simpa using hk
      rw [msk_test, List.any_eq_true] at ht
      obtain ⟨d, hd, e⟩ := ht
      have := hr d hd
      simp at e
      have : d = (k : Int) := by omega
      exact this ▸ hd
    · intro h
      apply Nat.eq_of_testBit_eq
      intro k
      rw [msk_test, Nat.testBit_two_pow_sub_one, Bool.eq_iff_iff, List.any_eq_true, decide_eq_true_eq]
      constructor
      · rintro ⟨d, hd, e⟩
        have := hr d hd
        simp at e
        omega
      · intro hk
        exact ⟨_, h k hk, by simp⟩
  rw [hm]
  constructor
  · rintro ⟨_, _, hn⟩ k hk
    refine sub_back hn (m := (List.range n).map fun (k : Nat) => (k : Int)) (fun x hx => ?_) (by simp [hl]) _ (List.mem_map.2 ⟨k, List.mem_range.2 hk, rfl⟩)
    have := hr x hx
    exact List.mem_map.2 ⟨x.toNat, List.mem_range.2 (by omega), by omega⟩
  · intro h
    refine ⟨hl, hr, nodup_of_cover hR (fun x hx => ?_) (by simp [hl])⟩
    obtain ⟨k, hk, rfl⟩ := List.mem_map.1 hx
    exact h k (List.mem_range.1 hk)
end Go.Proofs.Ytahgialnhomefaa

namespace Go.Proofs.Ytahgialnhomefaa
open Go.RowKit
def ptsB (x : Blk) : List Int := [x.a, x.b, x.c]
def allP (L : List Blk) : List Int := L.flatMap ptsB
/-- Good blocks of at most 15 points. -/
def okB (x : Blk) : Prop := 0 ≤ x.a ∧ x.a < x.b ∧ x.b < x.c ∧ x.c < 15
theorem okB_small {x : Blk} (h : okB x) : ∀ z ∈ ptsB x, 0 ≤ z ∧ z < 15 := fun z hz => by
  obtain ⟨h1, h2, h3, h4⟩ := h
  simp only [ptsB, List.mem_cons, List.not_mem_nil, or_false] at hz
  omega
theorem allP_small {L : List Blk} (h : ∀ x ∈ L, okB x) : ∀ z ∈ allP L, 0 ≤ z ∧ z < 15 := fun z hz => by
  obtain ⟨x, hx, hz⟩ := List.mem_flatMap.1 hz
  exact okB_small (h x hx) z hz
def mkB (x : Blk) : Nat := 2 ^ x.a.toNat + 2 ^ x.b.toNat + 2 ^ x.c.toNat
theorem pow3 : ∀ a b c : Fin 15, a < b → b < c → 2 ^ a.val + 2 ^ b.val + 2 ^ c.val = 2 ^ a.val ||| 2 ^ b.val ||| 2 ^ c.val := by decide +kernel
theorem mkB_msk {x : Blk} (h : okB x) : mkB x = msk (ptsB x) := by
  obtain ⟨h1, h2, h3, h4⟩ := h
  have := pow3 ⟨x.a.toNat, by omega⟩ ⟨x.b.toNat, by omega⟩ ⟨x.c.toNat, by omega⟩ (by simp [Fin.lt_def]; omega) (by simp [Fin.lt_def]; omega)
  simpa [mkB, msk, ptsB] using this
theorem msk_lt15 {L : List Int} (h : ∀ d ∈ L, 0 ≤ d ∧ d < 15) : msk L < 32768 := by
  suffices ∀ (L : List Int) (m : Nat), m < 32768 → (∀ d ∈ L, 0 ≤ d ∧ d < 15) → L.foldl (fun m d => m ||| 2 ^ d.toNat) m < 32768 from this L 0 (by decide) h
  intro L
  induction L with
  | nil => exact fun m hm _ => hm
  | cons d L ih =>
    intro m hm hd
    rw [List.foldl_cons]
    have hq := hd d (List.mem_cons_self)
    refine ih _ ?_ fun e he => hd e (List.mem_cons_of_mem _ he)
    refine Nat.or_lt_two_pow (n := 15) hm ?_
    exact Nat.pow_lt_pow_right (by decide) (by omega)
theorem msk_mem {L : List Int} (h : ∀ d ∈ L, 0 ≤ d) {t : Nat} : (msk L).testBit t = true ↔ (t : Int) ∈ L := by
  rw [msk_test, List.any_eq_true]
  constructor
  · rintro ⟨e, he, hq⟩
    have := h e he
    simp at hq
    have : e = (t : Int) := by omega
    exact this ▸ he
  · intro ht
    exact ⟨_, ht, by simp⟩
theorem msk_append (L M : List Int) : msk (L ++ M) = msk L ||| msk M := by
  apply Nat.eq_of_testBit_eq
  intro t
  rw [Nat.testBit_or, msk_test, msk_test, msk_test, List.any_append]
theorem bits15 {x y : Nat} (hx : x < 32768) (hy : y < 32768) : bits .and .i64 (x : Int) (y : Int) = ((x &&& y : Nat) : Int) ∧ bits .or .i64 (x : Int) (y : Int) = ((x ||| y : Nat) : Int) := by
  have h := bits_nat .i64 63 (by decide) (fun n h0 h1 => IntWalk.i64_in _ (by omega)) x y (by omega) (by omega)
  exact h
end Go.Proofs.Ytahgialnhomefaa

namespace Go.Proofs.Ytahgialnhomefaa
open Go.RowKit
theorem touch_iff {x y : Blk} : touch x y = true ↔ ∃ z ∈ ptsB x, z ∈ ptsB y := by
  unfold touch comP ptsB hasB
  obtain ⟨a, b, c⟩ := x
  obtain ⟨d, e, f⟩ := y
  dsimp only
  constructor
  · intro h
    split at h
    · exact ⟨a, by simp, by simp_all; omega⟩
    · split at h
      · exact ⟨b, by simp, by simp_all; omega⟩
      · split at h
        · exact ⟨c, by simp, by simp_all; omega⟩
        · simp at h
  · rintro ⟨z, hz, hy⟩
    simp only [List.mem_cons, List.not_mem_nil, or_false] at hz hy
    split
    · rfl
    · split
      · rfl
      · split
        · rfl
        · simp_all
          omega
def dmk (L : List Blk) : Nat := msk (allP L)
theorem dmk_snoc (L : List Blk) (x : Blk) : dmk (L ++ [x]) = dmk L ||| msk (ptsB x) := by
  simp [dmk, allP, msk_append]
theorem dmk_and {L : List Blk} {x : Blk} (hL : ∀ y ∈ L, okB y) (hx : okB x) : (dmk L &&& mkB x ≠ 0) ↔ L.any (touch x) = true := by
  rw [mkB_msk hx, List.any_eq_true]
  have hs : ∀ d ∈ allP L, 0 ≤ d := fun d hd => (allP_small hL d hd).1
  have hsx : ∀ d ∈ ptsB x, 0 ≤ d := fun d hd => (okB_small hx d hd).1
  constructor
  · intro h
    obtain ⟨t, ht⟩ : ∃ t, (dmk L &&& msk (ptsB x)).testBit t = true := Nat.exists_testBit_of_ne_zero h
    rw [Nat.testBit_and, Bool.and_eq_true] at ht
    have h1 := (msk_mem hs).1 ht.1
    have h2 := (msk_mem hsx).1 ht.2
    obtain ⟨y, hy, hz⟩ := List.mem_flatMap.1 h1
    exact ⟨y, hy, touch_iff.2 ⟨_, h2, hz⟩⟩
  · rintro ⟨y, hy, ht⟩ e
    obtain ⟨z, hz, hzy⟩ := touch_iff.1 ht
    have hz0 := hsx z hz
    have h1 : (dmk L).testBit z.toNat = true := (msk_mem hs).2 (by rw [Int.toNat_of_nonneg hz0]; exact List.mem_flatMap.2 ⟨y, hy, hzy⟩)
    have h2 : (msk (ptsB x)).testBit z.toNat = true := (msk_mem hsx).2 (by rw [Int.toNat_of_nonneg hz0]; exact hz)
    have : (dmk L &&& msk (ptsB x)).testBit z.toNat = true := by rw [Nat.testBit_and, h1, h2]; rfl
    rw [e] at this
    simp at this
/-- What the model's loop does with one block more. -/
theorem dmk_step {L : List Blk} {x : Blk} (hL : ∀ y ∈ L, okB y) (hx : okB x) : (bits .and .i64 (dmk L : Int) (mkB x : Int) != 0) = L.any (touch x) ∧ bits .or .i64 (dmk L : Int) (mkB x : Int) = (dmk (L ++ [x]) : Int) := by
  have h1 : dmk L < 32768 := msk_lt15 (allP_small hL)
  have h2 : mkB x < 32768 := by rw [mkB_msk hx]; exact msk_lt15 (okB_small hx)
  obtain ⟨e1, e2⟩ := bits15 h1 h2
  refine ⟨?_, by rw [e2, dmk_snoc, mkB_msk hx]⟩
  rw [e1, Bool.eq_iff_iff, ← dmk_and hL hx]
  simp only [bne_iff_ne, ne_eq]
  omega
end Go.Proofs.Ytahgialnhomefaa

namespace Go.Proofs.Ytahgialnhomefaa
open Go.RowKit Go.Maps
/-- The numbers below k, other than i, of the blocks that touch a block. -/
def meetN (x : Blk) (i : Nat) (bs : List Blk) (k : Nat) : List Nat := (List.range k).filter fun q => decide (q ≠ i) && touch (bs[q]?.getD default) x
def meetI (x : Blk) (i : Nat) (bs : List Blk) (k : Nat) : List Int := (meetN x i bs k).map fun (q : Nat) => (q : Int)
theorem meetI_succ (x : Blk) (i : Nat) (bs : List Blk) (k : Nat) : meetI x i bs (k + 1) = meetI x i bs k ++ if (decide (k ≠ i) && touch (bs[k]?.getD default) x) = true then [(k : Int)] else [] := by
  unfold meetI meetN
  rw [List.range_succ, List.filter_append, List.map_append]
  congr 1
  rw [List.filter_cons]
  split <;> rfl
theorem meetI_len (x : Blk) (i : Nat) (bs : List Blk) (k : Nat) : (meetI x i bs k).length ≤ k := by
  unfold meetI meetN
  rw [List.length_map]
  exact Nat.le_trans (List.length_filter_le _ _) (by simp)
def meetF (v : Int) (bs : List Blk) (i : Int) : List Int × Int := if isSysImpl v bs then (if inP (bs.length : Int) i then (meetI (bs[i.toNat]?.getD default) i.toNat bs bs.length, 0) else ([], 2)) else ([], 1)
theorem meetF_len (v : Int) (bs : List Blk) (i : Int) : (meetF v bs i).1.length ≤ bs.length := by
  unfold meetF
  split
  · split
    · exact meetI_len _ _ _ _
    · simp
  · simp
set_option maxRecDepth 100000 in
set_option maxHeartbeats 1000000 in
theorem MeetingBlocks_any (v : Int) (s : Value) (bs : List Blk) (i : Int) (w : World) (h : SB w s bs) :
    Calls Try.prog 75 #[.agg #[.int .i64 v, s], .int .i64 i] w (RJ (meetF v bs i) w) := by
  have hs := h.slice
  have HI := Lib.hid fun W (hb : Below w.heap.size w W) => IsSystem_any v s bs W (h.below hb (Nat.le_refl _))
  have HSB := Lib.hid h
  have hlen := h.2.1
  clear h
  obtain ⟨a0, c0, rfl⟩ := hs
  cases hi : isSysImpl v bs with
  | false =>
    have HV := Lib.hid (show meetF v bs i = ([], 1) by simp [meetF, hi])
    rw [HV.out]
    rw [hi] at HI
    clear hi HSB
    go_enter Try.func75, Try.ntmps75
    go_wp2_with fail
    refine (HI.out _ ((Below.refl _ _).alloc (Nat.le_refl _) _)).mono ?_
    rintro e w1 ⟨rfl, hb1⟩
    have hb2 := below_new hb1
    clear hb1
    go_wp2
    go_ret2
    exact ⟨_, rfl, OwnJ.nil _ _, hb2⟩
  | true =>
    rw [hi] at HI
    have HN := Lib.hid fun a0 c0 W => isBlockNumber_any v a0 bs.length c0 i W
    cases hn : inP (bs.length : Int) i with
    | false =>
      have HV := Lib.hid (show meetF v bs i = ([], 2) by simp [meetF, hi, hn])
      rw [HV.out]
      rw [hn] at HN
      clear hi hn HSB
      go_enter Try.func75, Try.ntmps75
      go_wp2_with fail
      refine (HI.out _ ((Below.refl _ _).alloc (Nat.le_refl _) _)).mono ?_
      rintro e w1 ⟨rfl, hb1⟩
      have hb2 := below_new hb1
      have q0 := cell_new hb1 0 rfl
      have q1 := cell_new hb1 1 rfl
      have hz := hb2.size
      clear hb1
      go_wp2_with fail
      refine (HN.out _ _ _).mono ?_
      rintro e w2 ⟨rfl, hb3⟩
      go_wp2
      go_ret2
      exact ⟨_, rfl, OwnJ.nil _ _, hb2.trans (hb3.mono hz)⟩
    | true =>
      have hij : 0 ≤ i ∧ i < (bs.length : Int) := by simpa [inP] using hn
      obtain ⟨j, rfl⟩ : ∃ j : Nat, i = (j : Int) := ⟨i.toNat, by omega⟩
      have hj : j < bs.length := by omega
      have HV := Lib.hid (show meetF v bs (j : Int) = (meetI (bs[j]?.getD default) j bs bs.length, 0) by simp [meetF, hi, hn])
      rw [HV.out]
      rw [hn] at HN
      have j0 : (0 : Int) ≤ (j : Int) := by omega
      have j1 : (j : Int) < (bs.length : Int) := by omega
      clear hi hn hij HV
      obtain ⟨x, hx⟩ : ∃ x, x = bs[j]?.getD default := ⟨_, rfl⟩
      rw [← hx]
      have HX := Lib.hid hx
      clear hx
      go_enter Try.func75, Try.ntmps75
      go_wp2_with fail
      refine (HI.out _ ((Below.refl _ _).alloc (Nat.le_refl _) _)).mono ?_
      rintro e wq ⟨rfl, hbq⟩
      have hb2 := below_new hbq
      have q0 := cell_new hbq 0 rfl
      have q1 := cell_new hbq 1 rfl
      have hlq := block_lt_of_cell q0
      clear hbq
      go_wp2_with fail
      refine (HN.out _ _ _).mono ?_
      rintro e w1 ⟨rfl, hb3⟩
      have p1 := (hb3.cell (p := ⟨w.heap.size, 1, none⟩) hlq).trans q1
      have hl1 : w.heap.size < w1.heap.size := by have := hb3.size; omega
      have HB1 := Lib.hid (hb2.trans (hb3.mono hb2.size))
      clear hb2 hb3 q0 q1 hlq HI HN
      rcases HSB.out.2.2 with ⟨_, _, _, hnil⟩ | ⟨b, off, cap, hv, hblt, hbl⟩
      · exfalso; rw [hnil] at hj; simp at hj
      simp at hv
      obtain ⟨rfl, rfl⟩ := hv
      have HBL := Lib.hid (hbl.below HB1.out hblt)
      have hb1lt : b < w1.heap.size := by have := HB1.out.size; omega
      obtain ⟨x1, x2, x3⟩ := HBL.out j hj
      rw [← HX.out] at x1 x2 x3
      have HW := Lib.hid fun W => with_any _ _ x W MeetV.nil
      clear hbl
      obtain ⟨xa, xb, xc⟩ := x
      unfold bv at HW
      dsimp only at x1 x2 x3 HW
      go_wp2_with fail
      refine (HW.out _).mono ?_
      rintro e w2 ⟨u, rfl, hmv, hb4⟩
      have hz2 := hb4.size
      have p2 := (hb4.cell (p := ⟨w.heap.size, 1, none⟩) hl1).trans p1
      have HBL2 := Lib.hid (show Blks w2 b off bs from HBL.out.below hb4 hb1lt)
      have HB2 := Lib.hid (HB1.out.trans (hb4.mono HB1.out.size))
      have hl2 : w.heap.size < w2.heap.size := by omega
      have hb2lt : b < w2.heap.size := by omega
      clear hb4 x1 x2 x3 p1 HBL
      rcases hmv.call2 with ⟨hu, _⟩ | ⟨pc, pm, hu, hcall⟩
      · exfalso; cases hu
        cases hmv
      subst hu
      have HMV := Lib.hid hmv
      clear hcall hmv HW
      go_wp2_with fail
      go_loopw [7, 26] (fun o i wr => ∃ k : Nat, k ≤ bs.length ∧ i = .int .i64 k ∧ Below w2.heap.size w2 wr ∧ OwnJ wr w2.heap.size o (meetI ⟨xa, xb, xc⟩ j bs k) ∧ ∃ a n c, o = .slice a n c) (fun _ i _ => bs.length - (intOf i).toNat)
      case atStart => exact ⟨0, Nat.zero_le _, rfl, Below.refl _ _, OwnJ.nil _ _, _, _, _, rfl⟩
      case round =>
        obtain ⟨k, hk, rfl, hB, hO, hform⟩ := hrel
        have hz := hB.size
        have r1 := (hB.cell (p := ⟨w.heap.size, 1, none⟩) hl2).trans p2
        obtain ⟨a3, n3, c3, rfl⟩ := hform
        have HO := Lib.hid hO
        clear hO
        by_cases hkl : k < bs.length
        · obtain ⟨y1, y2, y3⟩ := (HBL2.out.below hB hb2lt) k hkl
          have hsu := meetI_succ ⟨xa, xb, xc⟩ j bs k
          have hln := meetI_len ⟨xa, xb, xc⟩ j bs k
          obtain ⟨y, hy⟩ : ∃ y, y = bs[k]?.getD default := ⟨_, rfl⟩
          rw [← hy] at y1 y2 y3 hsu
          have hcl := fun W (hb : Below wr.heap.size wr W) => (HMV.out.later (hB.trans (hb.mono hz)) (Nat.le_refl _)).call2
          have HC := Lib.hid fun W (hb : Below wr.heap.size wr W) => (show Calls Try.prog 126 #[bv y, .pointer (some ⟨pc, 0, none⟩), .pointer (some ⟨pm, 0, none⟩)] W (RV (.bool (touch y ⟨xa, xb, xc⟩)) W) by
            rcases hcl W hb with ⟨hq, _⟩ | ⟨pc', pm', hq, hc⟩
            · cases hq
            · cases hq
              have := hc y W (Below.refl _ _)
              simpa using this)
          have g0 : (0 : Int) ≤ (k : Int) := by omega
          have g1 : (k : Int) < (bs.length : Int) := by omega
          clear hcl hy
          obtain ⟨ya, yb, yc⟩ := y
          unfold bv at HC
          dsimp only at y1 y2 y3 HC
          by_cases hkj : k = j
          · have e1 : ((k : Int) != (j : Int)) = false := by simp; omega
            have HS := Lib.hid (show meetI ⟨xa, xb, xc⟩ j bs (k + 1) = meetI ⟨xa, xb, xc⟩ j bs k by rw [hsu]; simp [hkj])
            clear hsu hkj
            go_wp2
            go_roundw
            case rel => exact ⟨k + 1, by omega, by go_num, hB.alloc hz _, by rw [HS.out]; exact HO.out.below ((Below.refl _ _).alloc (Nat.le_refl _) _) (Nat.le_refl _), _, _, _, rfl⟩
            case measure => simp [intOf]; omega
          · have e1 : ((k : Int) != (j : Int)) = true := by simp; omega
            cases hμ : touch ⟨ya, yb, yc⟩ ⟨xa, xb, xc⟩ with
            | false =>
              have HS := Lib.hid (show meetI ⟨xa, xb, xc⟩ j bs (k + 1) = meetI ⟨xa, xb, xc⟩ j bs k by rw [hsu, hμ]; simp)
              rw [hμ] at HC
              clear hsu hkj hμ
              go_wp2_with fail
              refine (HC.out _ ((Below.refl _ _).alloc (Nat.le_refl _) _)).mono ?_
              rintro e w3 ⟨rfl, hb5⟩
              have hb6 := below_new hb5
              clear hb5
              go_wp2
              go_roundw
              case rel => exact ⟨k + 1, by omega, by go_num, hB.trans (hb6.mono hz), by rw [HS.out]; exact HO.out.below hb6 (Nat.le_refl _), _, _, _, rfl⟩
              case measure => simp [intOf]; omega
            | true =>
              have HS := Lib.hid (show meetI ⟨xa, xb, xc⟩ j bs (k + 1) = meetI ⟨xa, xb, xc⟩ j bs k ++ [(k : Int)] by rw [hsu, hμ]; simp [hkj])
              rw [hμ] at HC
              clear hsu hkj hμ
              go_wp2_with fail
              refine (HC.out _ ((Below.refl _ _).alloc (Nat.le_refl _) _)).mono ?_
              rintro e w3 ⟨rfl, hb5⟩
              have hb6 := below_new hb5
              have hz6 := hb6.size
              have HO3 := Lib.hid (HO.out.below hb6 (Nat.le_refl _))
              clear hb5
              go_wp2_with (at_builtin; refine wpList_append_int rfl _ _ rfl w2.heap.size _ (meetI ⟨xa, xb, xc⟩ j bs k) rfl (HO3.out.below ((Below.refl _ _).alloc (Nat.le_refl _) _) (Nat.le_refl _)) _ _ (k : Int) rfl (by simp [go_sem]) (by omega) (by simp; omega) ?_; intro g' cap' w4 hO4 hg4)
              have hrow := HO3.out.row
              have hgo : w3.grownBy w4 (Value.slice a3 n3 c3).ownBlock := gb_trans (World.grownBy_alloc _ _ none) hg4
              have hB3 := hB.trans (hb6.mono hz)
              clear hg4
              go_roundw
              case rel => exact ⟨k + 1, by omega, by go_num, hB3.grown hgo (by omega) (fun j e => hrow j e), by rw [HS.out]; exact hO4, _, _, _, rfl⟩
              case measure => simp [intOf]; omega
        · have e : k = bs.length := by omega
          subst e
          go_wp2
          go_ret2
          exact ⟨_, rfl, ownsRow_base HO.out (by omega), HB2.out.trans (hB.mono (by omega))⟩
end Go.Proofs.Ytahgialnhomefaa

namespace Go.Proofs.Ytahgialnhomefaa
/-- The place of a number in a list, from k on, or -1. -/
def plGo (x : Int) : List Int → Nat → Int
  | [], _ => -1
  | z :: r, k => if z = x then (k : Int) else plGo x r (k + 1)
def place (zs : List Int) (x : Int) : Int := plGo x zs 0
theorem plGo_le (x : Int) : ∀ (l : List Int) (k : Nat), plGo x l k = -1 ∨ ((k : Int) ≤ plGo x l k ∧ plGo x l k < (k : Int) + l.length)
  | [], k => .inl rfl
  | z :: r, k => by
    unfold plGo
    split
    · right; simp; omega
    · rcases plGo_le x r (k + 1) with h | h
      · exact .inl h
      · right; simp; omega
theorem place_le (zs : List Int) (x : Int) : place zs x = -1 ∨ (0 ≤ place zs x ∧ place zs x < zs.length) := by
  have := plGo_le x zs 0
  unfold place
  omega
/-- An ascending list of points. -/
def ptGo (v : Int) : Option Int → List Int → Bool
  | _, [] => true
  | p, a :: r => inP v a && (match p with | none => true | some q => decide (q < a)) && ptGo v (some a) r
def ascGo : Option Int → List Int → Bool
  | _, [] => true
  | p, a :: r => (match p with | none => true | some q => decide (q < a)) && ascGo (some a) r
theorem ptGo_split (v : Int) : ∀ (l : List Int) (p : Option Int), ptGo v p l = (l.all (inP v) && ascGo p l)
  | [], _ => rfl
  | a :: r, p => by
    unfold ptGo ascGo
    rw [ptGo_split v r (some a), List.all_cons]
    cases inP v a <;> cases r.all (inP v) <;> simp
theorem asc_lt : ∀ {l : List Int} {p : Option Int}, ascGo p l = true → (l.Pairwise (· < ·)) ∧ ∀ q, p = some q → ∀ x ∈ l, q < x
  | [], _, _ => ⟨List.Pairwise.nil, by simp⟩
  | a :: r, p, h => by
    unfold ascGo at h
    rw [Bool.and_eq_true] at h
    obtain ⟨h1, h2⟩ := asc_lt h.2
    refine ⟨List.pairwise_cons.2 ⟨fun x hx => h2 a rfl x hx, h1⟩, ?_⟩
    rintro q rfl x hx
    have hq : q < a := by simpa using h.1
    rcases List.mem_cons.1 hx with rfl | hx
    · exact hq
    · have := h2 a rfl x hx; omega
theorem plGo_mono {x y : Int} (hxy : x < y) : ∀ {l : List Int} {k : Nat}, l.Pairwise (· < ·) → 0 ≤ plGo x l k → 0 ≤ plGo y l k → plGo x l k < plGo y l k
  | [], k, _, h, _ => by simp [plGo] at h
  | z :: r, k, hp, hx, hy => by
    rw [List.pairwise_cons] at hp
    unfold plGo at hx hy ⊢
    by_cases h1 : z = x
    · rw [if_pos h1] at hx ⊢
      rw [if_neg (by omega)] at hy ⊢
      have := plGo_le y r (k + 1)
      omega
    · rw [if_neg h1] at hx ⊢
      by_cases h2 : z = y
      · exfalso
        -- x is behind z, so greater
        have hx' : ∃ u ∈ r, u = x := by
          clear hy hp
          induction r generalizing k with
          | nil => simp [plGo] at hx
          | cons u r ih =>
            unfold plGo at hx
            split at hx
            · exact ⟨u, by simp, ‹_›⟩
            · obtain ⟨q, hq, e⟩ := ih (k := k + 1) hx
              exact ⟨q, by simp [hq], e⟩
        obtain ⟨u, hu, rfl⟩ := hx'
        have := hp.1 u hu
        omega
      · rw [if_neg h2] at hy ⊢
        exact plGo_mono hxy hp.2 hx hy
/-- The block's place on the points, if it is there. -/
def onB (pts : List Int) (x : Blk) : Option Blk :=
  if 0 ≤ place pts x.a ∧ 0 ≤ place pts x.b ∧ 0 ≤ place pts x.c then some ⟨place pts x.a, place pts x.b, place pts x.c⟩ else none
def onF (v : Int) (bs : List Blk) (pts : List Int) : Int × List Blk × Int :=
  if isSysImpl v bs then (if decide (3 ≤ pts.length) && ptGo v none pts then ((pts.length : Int), bs.filterMap (onB pts), 0) else (0, [], 2)) else (0, [], 1)
theorem onB_bef {pts : List Int} (hp : pts.Pairwise (· < ·)) {x y x' y' : Blk} (hx : onB pts x = some x') (hy : onB pts y = some y') (h : befB x y = true) : befB x' y' = true := by
  unfold onB at hx hy
  split at hx
  · split at hy
    · rename_i h1 h2
      cases hx; cases hy
      rw [bef_iff] at h ⊢
      dsimp only
      rcases h with h | ⟨h, h' | ⟨h', h''⟩⟩
      · exact .inl (plGo_mono h hp h1.1 h2.1)
      · exact .inr ⟨by rw [h], .inl (plGo_mono h' hp h1.2.1 h2.2.1)⟩
      · exact .inr ⟨by rw [h], .inr ⟨by rw [h'], plGo_mono h'' hp h1.2.2 h2.2.2⟩⟩
    · cases hy
  · cases hx
theorem onL_strict {pts : List Int} (hp : pts.Pairwise (· < ·)) : ∀ {bs : List Blk}, (bs.Pairwise fun x y => befB x y = true) → (bs.filterMap (onB pts)).Pairwise fun x y => befB x y = true
  | [], _ => List.Pairwise.nil
  | b :: r, h => by
    rw [List.pairwise_cons] at h
    rw [List.filterMap_cons]
    split
    · exact onL_strict hp h.2
    · rename_i b' hb
      refine List.pairwise_cons.2 ⟨fun y' hy' => ?_, onL_strict hp h.2⟩
      obtain ⟨y, hy, e⟩ := List.mem_filterMap.1 hy'
      exact onB_bef hp hb e (h.1 y hy)
theorem onL_sorted {v : Int} {bs : List Blk} {pts : List Int} (hi : isSysImpl v bs = true) (hp : ptGo v none pts = true) : sortB (bs.filterMap (onB pts)) = bs.filterMap (onB pts) := by
  rw [ptGo_split, Bool.and_eq_true] at hp
  exact sortB_eq (strict_srt (onL_strict (asc_lt hp.2).1 (sys_strict hi))) (List.Perm.refl _)
theorem onB_in {pts : List Int} {x y : Blk} (h : onB pts x = some y) : (0 ≤ y.a ∧ y.a < pts.length) ∧ (0 ≤ y.b ∧ y.b < pts.length) ∧ (0 ≤ y.c ∧ y.c < pts.length) := by
  unfold onB at h
  split at h
  · cases h
    have h1 := place_le pts x.a
    have h2 := place_le pts x.b
    have h3 := place_le pts x.c
    dsimp only
    omega
  · cases h
theorem filterMap_take {pts : List Int} {bs : List Blk} {k : Nat} (hk : k < bs.length) {x : Blk} (hx : bs[k]? = some x) : (bs.take (k + 1)).filterMap (onB pts) = (bs.take k).filterMap (onB pts) ++ (onB pts x).toList := by
  have e : bs[k] = x := by rw [List.getElem?_eq_getElem hk] at hx; simpa using hx
  rw [List.take_succ_eq_append_getElem hk, List.filterMap_append, e]
  congr 1
theorem onF_len (v : Int) (bs : List Blk) (pts : List Int) : (onF v bs pts).2.1.length ≤ bs.length := by
  unfold onF
  split
  · split
    · exact List.length_filterMap_le _ _
    · simp
  · simp
end Go.Proofs.Ytahgialnhomefaa

namespace Go.Proofs.Ytahgialnhomefaa
open Go.RowKit Go.Maps
def famF (v : Int) (n : Nat) (F : Nat → List Int) : Bool × Int := if dfV v = true then (famB v n F, 0) else (false, 2)
def okP1 (v : Int) (k : Nat) (F : Nat → List Int) : Bool := triB v (F k) && (decide (k = 0) || decide (cmpL (F (k - 1)) (F k) < 0))
theorem okP_succ (v : Int) (k : Nat) (F : Nat → List Int) : okP v (k + 1) F = (okP v k F && okP1 v k F) := by
  unfold okP okP1
  simp [List.range_succ, List.all_append]
theorem okP_false {v : Int} {k n : Nat} {F : Nat → List Int} (hk : k < n) (h : okP1 v k F = false) : okP v n F = false := by
  unfold okP
  rw [List.all_eq_false]
  exact ⟨k, List.mem_range.2 hk, by unfold okP1 at h; simp only [h]; decide⟩
theorem okP_tri {v : Int} {k n : Nat} {F : Nat → List Int} (hk : k < n) (h : okP v n F = true) : triB v (F k) = true := by
  unfold okP at h
  have := List.all_eq_true.1 h k (List.mem_range.2 hk)
  simp only [Bool.and_eq_true] at this
  exact this.1
theorem tri_len {v : Int} {t : List Int} (h : triB v t = true) : t.length = 3 := by
  obtain ⟨a, b, c, rfl, _⟩ := triB_iff.1 h
  rfl
theorem SSB.rows {w : World} {a : Option Addr} {c n : Nat} {F : Nat → List Int} (h : SSB w (.slice a n c) n F) : ∀ k, k < n → ∃ b off a' c', a = some ⟨b, off, none⟩ ∧ b < w.heap.size ∧ w.cell? ⟨b, off + k, none⟩ = some (.slice a' (F k).length c') ∧ IB w (.slice a' (F k).length c') (F k) := fun k hk => by
  rcases h.2 with ⟨h0, _⟩ | ⟨b, off, cap, e, hlt, hr⟩
  · omega
  · simp at e
    obtain ⟨rfl, rfl⟩ := e
    obtain ⟨a', c', hc, hi⟩ := hr k hk
    exact ⟨b, off, a', c', rfl, hlt, hc, hi⟩
theorem IB.three {w : World} {a : Option Addr} {n c : Nat} {t : List Int} (h : IB w (.slice a n c) t) (h3 : t.length = 3) : ∃ b off, a = some ⟨b, off, none⟩ ∧ n = 3 ∧ b < w.heap.size ∧ Ints w b off t := by
  rcases h.2 with ⟨_, _, _, rfl⟩ | ⟨b, off, cap, e, hlt, hr⟩
  · simp at h3
  · simp at e
    obtain ⟨rfl, rfl, rfl⟩ := e
    exact ⟨b, off, rfl, h3, hlt, hr⟩
theorem diffs_ne {v : Int} (hv : dfV v = true) : diffs v ≠ [] ∧ (diffs v).length ≤ 7 := by
  simp only [dfV, Bool.or_eq_true, decide_eq_true_eq] at hv
  rcases hv with (rfl | rfl) | rfl <;> decide
end Go.Proofs.Ytahgialnhomefaa

namespace Go.Proofs.Ytahgialnhomefaa
open Go.RowKit Go.Maps
theorem IB.pos {w : World} {a : Option Addr} {n c : Nat} {t : List Int} (h : IB w (.slice a n c) t) (h3 : 0 < t.length) : ∃ b off, a = some ⟨b, off, none⟩ ∧ n = t.length ∧ b < w.heap.size ∧ Ints w b off t := by
  rcases h.2 with ⟨_, _, _, rfl⟩ | ⟨b, off, cap, e, hlt, hr⟩
  · simp at h3
  · simp at e
    obtain ⟨rfl, rfl, rfl⟩ := e
    exact ⟨b, off, rfl, rfl, hlt, hr⟩
theorem wrap_pow0 {t : Int} (h1 : 0 ≤ t) (h7 : t ≤ 7) : IntKind.i64.wrap (2 ^ t.toNat) = ((2 ^ t.toNat : Nat) : Int) ∧ IntKind.u64.wrap t = t := by
  have : t = 0 ∨ t = 1 ∨ t = 2 ∨ t = 3 ∨ t = 4 ∨ t = 5 ∨ t = 6 ∨ t = 7 := by omega
  rcases this with rfl | rfl | rfl | rfl | rfl | rfl | rfl | rfl <;> decide
theorem sqB_false1 {n x : Nat} {F : Nat → List Int} (hx : x < n) (h : isRen (n : Int) (F x) = false) : sqB n F = false := by
  rw [sqB, rowsOk_false hx h]; simp
theorem sqB_false2 {n x : Nat} {F : Nat → List Int} (hx : x < n) (h : isRen (n : Int) (col n F x) = false) : sqB n F = false := by
  rw [sqB, colsOk_false hx h]; simp
theorem isRen_out {n : Nat} {p : List Int} {z : Int} (h : z ∈ p) (hz : ¬ (0 ≤ z ∧ z < (n : Int))) : isRen (n : Int) p = false := by
  rcases e : isRen (n : Int) p with _ | _
  · rfl
  · exact absurd ((isRen_iff.1 e).2.1 z h) hz
theorem take_nx {l : List Int} {k : Nat} (h : k < l.length) : l.take (k + 1) = l.take k ++ [l[k]?.getD 0] := by
  rw [List.take_succ_eq_append_getElem h]; simp [h]
theorem colK_col (n : Nat) (F : Nat → List Int) (y : Nat) : colK F y n = col n F y := rfl
end Go.Proofs.Ytahgialnhomefaa

namespace Go.Proofs.Ytahgialnhomefaa
open Go.RowKit Go.Maps
/-- The code of a system and a set of its blocks. -/
def nsCode (v : Int) (bs : List Blk) (zs : List Int) : Int := if isSysImpl v bs then (if ptGo (bs.length : Int) none zs then 0 else 2) else 1
theorem ptGo_at {v : Int} {zs : List Int} {k : Nat} (hk : k < zs.length) (p : Option Int) : ptGo v p (zs.drop k) = (inP v (zs[k]?.getD 0) && (match p with | none => true | some q => decide (q < zs[k]?.getD 0)) && ptGo v (some (zs[k]?.getD 0)) (zs.drop (k + 1))) := by
  rw [List.drop_eq_getElem_cons hk]
  cases p <;> simp [ptGo, hk]
end Go.Proofs.Ytahgialnhomefaa

namespace Go.Proofs.Ytahgialnhomefaa
open Go.RowKit Go.Maps
theorem commonN_pos {x y : Blk} : 0 < commonN x y ↔ (x.a = y.a ∨ x.a = y.b ∨ x.a = y.c ∨ x.b = y.a ∨ x.b = y.b ∨ x.b = y.c ∨ x.c = y.a ∨ x.c = y.b ∨ x.c = y.c) := by
  constructor
  · intro h
    apply Classical.byContradiction
    intro hc
    simp only [not_or] at hc
    obtain ⟨h1, h2, h3, h4, h5, h6, h7, h8, h9⟩ := hc
    unfold commonN eq1 at h
    rw [if_neg h1, if_neg h2, if_neg h3, if_neg h4, if_neg h5, if_neg h6, if_neg h7, if_neg h8, if_neg h9] at h
    omega
  · rintro (h | h | h | h | h | h | h | h | h) <;> (unfold commonN eq1; rw [if_pos h]; omega)
theorem touch_common (x y : Blk) : touch y x = decide (0 < commonN x y) := by
  rw [Bool.eq_iff_iff, touch_iff, decide_eq_true_eq, commonN_pos]
  unfold ptsB
  simp only [List.mem_cons, List.not_mem_nil, or_false]
  constructor
  · rintro ⟨z, rfl | rfl | rfl, h | h | h⟩ <;> simp [h]
  · rintro (h | h | h | h | h | h | h | h | h)
    · exact ⟨y.a, by simp, by simp [h]⟩
    · exact ⟨y.b, by simp, by simp [h]⟩
    · exact ⟨y.c, by simp, by simp [h]⟩
    · exact ⟨y.a, by simp, by simp [h]⟩
    · exact ⟨y.b, by simp, by simp [h]⟩
    · exact ⟨y.c, by simp, by simp [h]⟩
    · exact ⟨y.a, by simp, by simp [h]⟩
    · exact ⟨y.b, by simp, by simp [h]⟩
    · exact ⟨y.c, by simp, by simp [h]⟩
def numCode (v : Int) (bs : List Blk) (i : Int) : Int := if isSysImpl v bs then (if inP (bs.length : Int) i then 0 else 2) else 1
set_option maxRecDepth 100000 in
theorem l05Number_any (v : Int) (s : Value) (bs : List Blk) (i : Int) (w : World) (h : SB w s bs) :
    Calls Try.prog 76 #[.agg #[.int .i64 v, s], .int .i64 i] w (RV (.int .i64 (numCode v bs i)) w) := by
  have hs := h.slice
  have hc := l01Is_any v s bs (w.alloc (.cells #[.int .i64 v, s] 30)) (h.below ((Below.refl _ _).alloc (Nat.le_refl _) _) (Nat.le_refl _))
  have hlen := h.2.1
  clear h
  obtain ⟨a0, c0, rfl⟩ := hs
  cases hi : isSysImpl v bs with
  | false =>
    rw [hi] at hc
    have HC := Lib.hid hc
    have HV := Lib.hid (show numCode v bs i = 1 by simp [numCode, hi])
    clear hc hi
    go_enter Try.func76, Try.ntmps76
    go_wp2_with fail
    refine HC.out.mono ?_
    rintro e w1 ⟨rfl, hb1⟩
    have hb2 := below_new hb1
    go_wp2
    go_ret
    exact RV_of (int_eq (by rw [HV.out])) hb2
  | true =>
    rw [hi] at hc
    have HC := Lib.hid hc
    have HV := Lib.hid (show numCode v bs i = if inP (bs.length : Int) i then 0 else 2 by simp [numCode, hi])
    clear hc hi
    have hwn : IntKind.i64.wrap ((bs.length : Int) - 1) = (bs.length : Int) - 1 := IntWalk.i64_in _ (by omega)
    have HIN := Lib.hid fun W => l01In_any i 0 ((bs.length : Int) - 1) W
    have hinp : (decide (0 ≤ i) && decide (i ≤ (bs.length : Int) - 1)) = inP (bs.length : Int) i := by rw [Bool.eq_iff_iff]; simp [inP]; omega
    rw [hinp] at HIN
    clear hinp
    cases hin : inP (bs.length : Int) i with
    | true =>
      rw [hin] at HIN
      have HW := Lib.hid (show numCode v bs i = 0 by rw [HV.out, hin]; rfl)
      clear hin HV
      go_enter Try.func76, Try.ntmps76
      go_wp2_with fail
      refine HC.out.mono ?_
      rintro e w1 ⟨rfl, hb1⟩
      have hb2 := below_new hb1
      have p1 := cell_new hb1 1 rfl
      clear hb1
      go_wp2_with fail
      refine (HIN.out _).mono ?_
      rintro e w2 ⟨rfl, rfl⟩
      go_wp2
      go_ret
      exact RV_of (int_eq (by rw [HW.out])) hb2
    | false =>
      rw [hin] at HIN
      have HW := Lib.hid (show numCode v bs i = 2 by rw [HV.out, hin]; rfl)
      clear hin HV
      go_enter Try.func76, Try.ntmps76
      go_wp2_with fail
      refine HC.out.mono ?_
      rintro e w1 ⟨rfl, hb1⟩
      have hb2 := below_new hb1
      have p1 := cell_new hb1 1 rfl
      clear hb1
      go_wp2_with fail
      refine (HIN.out _).mono ?_
      rintro e w2 ⟨rfl, rfl⟩
      go_wp2
      go_ret
      exact RV_of (int_eq (by rw [HW.out])) hb2
end Go.Proofs.Ytahgialnhomefaa

namespace Go.Proofs.Ytahgialnhomefaa
def numL (m : Nat) : List Int := (List.range m).map fun (k : Nat) => (k : Int)
theorem numL_succ (m : Nat) : numL (m + 1) = numL m ++ [(m : Int)] := by simp [numL, List.range_succ]
theorem numL_len (m : Nat) : (numL m).length = m := by simp [numL]
theorem numL_asc (m : Nat) : (numL m).Pairwise (· ≤ ·) := by
  unfold numL
  rw [List.pairwise_map]
  exact List.pairwise_lt_range.imp (by intro a b h; omega)
theorem numL_nodup (m : Nat) : (numL m).Nodup := by
  unfold numL
  rw [List.Nodup, List.pairwise_map]
  exact List.nodup_range.imp fun h e => h (by omega)
end Go.Proofs.Ytahgialnhomefaa

namespace Go.Proofs.Ytahgialnhomefaa
open Go.RowKit Go.Maps
set_option maxRecDepth 100000 in
theorem blockNumbers_any (v : Int) (s : Value) (bs : List Blk) (w : World) (h : SB w s bs) :
    Calls Try.prog 74 #[.agg #[.int .i64 v, s]] w (fun e w' => ∃ u, e = .returned u ∧ OwnJ w' w.heap.size u (numL bs.length) ∧ Below w.heap.size w w') := by
  have hs := h.slice
  have hl := h.2.1
  clear h
  obtain ⟨a0, c0, rfl⟩ := hs
  obtain ⟨N, hN⟩ : ∃ N, N = bs.length := ⟨_, rfl⟩
  rw [← hN] at hl ⊢
  clear hN
  have hb0 : Below w.heap.size w (w.alloc (.cells #[.int .i64 v, .slice a0 N c0] 30)) := (Below.refl _ _).alloc (Nat.le_refl _) _
  have HB0 := Lib.hid hb0
  clear hb0
  go_enter Try.func74, Try.ntmps74
  go_wp2_with fail
  go_loopw [3, 8] (fun o i wr => ∃ k : Nat, k ≤ N ∧ i = .int .i64 k ∧ Below w.heap.size w wr ∧ OwnJ wr w.heap.size o (numL k) ∧ ∃ a n c, o = .slice a n c) (fun _ i _ => N - (intOf i).toNat)
  case atStart => exact ⟨0, Nat.zero_le _, rfl, HB0.out, OwnJ.nil _ _, _, _, _, rfl⟩
  case round =>
    obtain ⟨k, hk, rfl, hB, hO, hform⟩ := hrel
    have hz := hB.size
    obtain ⟨a3, n3, c3, rfl⟩ := hform
    have HO := Lib.hid hO
    have hln := numL_len k
    have HSU := Lib.hid (numL_succ k)
    have hle : (numL k).length ≤ 1100000 := by omega
    clear hO hln
    by_cases hkl : k < N
    · go_wp2_with (at_builtin; refine wpList_append_int rfl _ _ rfl w.heap.size _ (numL k) rfl (HO.out.below ((Below.refl _ _).alloc (Nat.le_refl _) _) (Nat.le_refl _)) _ _ (k : Int) rfl (by simp [go_sem]) hle (by simp; omega) ?_; intro g' cap' w4 hO4 hg4)
      have hrow := HO.out.row
      have hgo := gb_trans (World.grownBy_alloc _ _ none) hg4
      clear hg4
      go_roundw
      case rel => exact ⟨k + 1, by omega, by go_num, hB.grown hgo hz (fun j e => hrow j e), by rw [HSU.out]; exact hO4, _, _, _, rfl⟩
      case measure => simp [intOf]; omega
    · have e : k = N := by omega
      subst e
      go_wp2
      go_ret
      exact ⟨_, rfl, HO.out, hB⟩
theorem OwnJ.slice {w : World} {base : Nat} {u : Value} {zs : List Int} (h : OwnJ w base u zs) : ∃ a c, u = .slice a zs.length c := by
  rcases h.2 with ⟨rfl, h0⟩ | ⟨g, cap, cur, rfl, _⟩
  · exact ⟨none, 0, by rw [h0]⟩
  · exact ⟨_, _, rfl⟩
end Go.Proofs.Ytahgialnhomefaa

namespace Go.Proofs.Ytahgialnhomefaa
open Go.RowKit Go.Maps Go.Shelf
theorem Index_nil (a : Option Addr) (c : Nat) (p : Int) (w : World) : Calls Try.prog 111 #[.slice a 0 c, .int .i64 p] w fun e w' => e = .returned (.int .i64 (-1)) ∧ w = w' := by
  go_enter Try.func111, Try.ntmps111
  go_wp2
  refine wp_loop_rounds 1 ?_
  rw [rounds_succ]
  go_wp2
  go_ret
  exact ⟨rfl, rfl⟩
theorem ContainsI_any (s : Value) (zs : List Int) (p : Int) (w : World) (h : IB w s zs) : Calls Try.prog 79 #[s, .int .i64 p] w (RS (.bool (inL p zs)) w) := by
  rcases h.2 with ⟨a, c, rfl, rfl⟩ | ⟨b, off, cap, rfl, _, hr⟩
  · go_enter Try.func79, Try.ntmps79
    go_wp2_with (go_at_call 111; refine (Index_nil _ _ _ _).mono ?_; rintro e w' ⟨rfl, rfl⟩)
    go_ret
    exact RS_of rfl
  · exact Contains_any b off cap zs p w hr (by have := h.1; omega)
end Go.Proofs.Ytahgialnhomefaa

namespace Go.Proofs.Ytahgialnhomefaa
open Go.RowKit Go.Maps
theorem oneIf_any (b : Bool) (w : World) : Calls Try.prog 78 #[.bool b] w (RS (.int .i64 (if b then 1 else 0)) w) := by
  cases b with
  | false =>
    go_enter Try.func78, Try.ntmps78
    go_wp2
    go_ret
    exact RS_of rfl
  | true =>
    go_enter Try.func78, Try.ntmps78
    go_wp2
    go_ret
    exact RS_of rfl
end Go.Proofs.Ytahgialnhomefaa

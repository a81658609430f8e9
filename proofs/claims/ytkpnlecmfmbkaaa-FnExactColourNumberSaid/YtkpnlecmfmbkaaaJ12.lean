
/- Six colours are enough: plain. ColourNumber of the program. ColourNumber of the model. The law FnExactColourNumber returns true. How the laws' arguments are read. The dump's head word by word, cheaply: what every row asks of it. -/
import Derived.Test.YtkpnlecmfmbkaaaJ11
import Derived.Deep.RegionWith
import Derived.Test.YtkpnlecmfmbkaaaRows
import Derived.ProofKit
import Derived.OpenShut
import Derived.Deep.Slices
import Derived.Lib.SmallJoins
import Derived.ChangeOld
namespace Go.Proofs.Ytkpnlecmfmbkaaa
open Go.RowKit
theorem tryN_ne {α : Type} {f : Nat → Option α} {c0 : Nat} (h : f c0 ≠ none) : ∀ (m c : Nat), c ≤ c0 → c0 < c + m → tryN f c m ≠ none
  | 0, c, h1, h2 => by omega
  | m + 1, c, h1, h2 => by
    unfold tryN
    cases hc : f c with
    | some r => simp
    | none =>
      have : c ≠ c0 := fun e => h (e ▸ hc)
      exact tryN_ne h m (c + 1) (by omega) (by omega)
theorem five_parts (f : Nat → Int) : ∀ l : List Nat, (l.filter fun j => decide (f j = 0)).length + (l.filter fun j => decide (f j = 1)).length + (l.filter fun j => decide (f j = 2)).length + (l.filter fun j => decide (f j = 3)).length + (l.filter fun j => decide (f j = 4)).length ≤ l.length
  | [] => by simp
  | a :: l => by
    have ih := five_parts f l
    simp only [List.filter_cons, decide_eq_true_eq]
    split <;> split <;> split <;> split <;> split <;> simp only [List.length_cons] <;> omega
theorem three_in (f : Nat → Int) (m : Nat) (c : Int) {i j k : Nat} (hi : i < m) (hj : j < m) (hk : k < m) (h1 : i ≠ j) (h2 : i ≠ k) (h3 : j ≠ k) (e1 : f i = c) (e2 : f j = c) (e3 : f k = c) : 3 ≤ ((List.range m).filter fun j => decide (f j = c)).length := by
  have := nodup_length [i, j, k] ((List.range m).filter fun j => decide (f j = c)) (by simp; exact ⟨⟨h1, h2⟩, h3⟩) (by
    intro x hx
    rw [List.mem_filter, List.mem_range]
    simp only [List.mem_cons, List.not_mem_nil, or_false] at hx
    rcases hx with rfl | rfl | rfl
    · exact ⟨hi, by simpa using e1⟩
    · exact ⟨hj, by simpa using e2⟩
    · exact ⟨hk, by simpa using e3⟩)
  simpa using this
/-- A point that meets each of the first five colours twice in a block. -/
def Wit (bs : List Blk) (L : List Int) (p : Nat) : Prop := ∀ c : Nat, c < 5 → ∃ x ∈ bs, x.c = (p : Int) ∧ clr L x.a = (c : Int) ∧ clr L x.b = (c : Int)
def Inv6 (bs : List Blk) (L : List Int) (used : Nat) : Prop := (∀ z ∈ L, 0 ≤ z ∧ z < (used : Int)) ∧ used ≤ 6 ∧ (used = 6 → ∃ p, p < L.length ∧ Wit bs L p)
theorem Wit.app {bs : List Blk} {L : List Int} {p : Nat} (hok : ∀ x ∈ bs, okB x) (hp : p ≤ L.length) (h : Wit bs L p) (a : Int) : Wit bs (L ++ [a]) p := by
  intro c hc
  obtain ⟨x, hx, h1, h2, h3⟩ := h c hc
  obtain ⟨g1, g2, g3, g4⟩ := hok x hx
  exact ⟨x, hx, h1, by rw [clr_app (by omega) (by omega)]; exact h2, by rw [clr_app (by omega) (by omega)]; exact h3⟩
theorem bad_wit {bs : List Blk} {L : List Int} {c : Int} (hok : ∀ x ∈ bs, okB x) (h : goodE false bs (L ++ [c]) = false) : ∃ x ∈ bs, x.c = (L.length : Int) ∧ clr L x.a = c ∧ clr L x.b = c := by
  unfold goodE endB at h
  rw [List.length_append, List.length_singleton, Nat.add_sub_cancel, List.all_eq_false] at h
  obtain ⟨x, hx, hb⟩ := h
  obtain ⟨hxm, hxc⟩ := List.mem_filter.1 hx
  simp only [decide_eq_true_eq] at hxc
  obtain ⟨g1, g2, g3, g4⟩ := hok x hxm
  have hl : clr (L ++ [c]) x.c = c := by unfold clr; rw [hxc]; simp
  unfold blkOk at hb
  rw [hl, clr_app (by omega) (by omega), clr_app (by omega) (by omega)] at hb
  simp [ruleB] at hb
  exact ⟨x, hxm, hxc, by omega, by omega⟩
theorem wit_two {n : Nat} {bs : List Blk} {L : List Int} (h : isSysImpl (n : Int) bs = true) (hl : L.length < n) {p : Nat} (hp : p < L.length) (h1 : Wit bs L p) (h2 : Wit bs L L.length) : False := by
  obtain ⟨_, h15, hg, _⟩ := sys_parts h
  have hn := prs_nodup h
  have H : ∀ c : Nat, c < 5 → 3 ≤ ((List.range L.length).filter fun j => decide ((fun j : Nat => clr L (j : Int)) j = (c : Int))).length := by
    intro c hc
    obtain ⟨x, hx, x1, x2, x3⟩ := h1 c hc
    obtain ⟨y, hy, y1, y2, y3⟩ := h2 c hc
    have gx := goodB_iff.1 (hg x hx)
    have gy := goodB_iff.1 (hg y hy)
    have hd : ¬ (x.a = y.a ∧ x.b = y.b) := by
      rintro ⟨e1, e2⟩
      have := flat_unique (f := pairsL) hn hx hy (p := (x.a, x.b)) (by simp [pairsL]) (by simp [pairsL, e1, e2])
      rw [this] at x1
      omega
    by_cases hq : x.a = y.a ∨ x.a = y.b
    · refine three_in _ _ _ (i := y.a.toNat) (j := y.b.toNat) (k := x.b.toNat) (by omega) (by omega) (by omega) (by omega) (by omega) (by omega) ?_ ?_ ?_
      · show clr L (y.a.toNat : Int) = _; rw [Int.toNat_of_nonneg (by omega)]; exact y2
      · show clr L (y.b.toNat : Int) = _; rw [Int.toNat_of_nonneg (by omega)]; exact y3
      · show clr L (x.b.toNat : Int) = _; rw [Int.toNat_of_nonneg (by omega)]; exact x3
    · refine three_in _ _ _ (i := y.a.toNat) (j := y.b.toNat) (k := x.a.toNat) (by omega) (by omega) (by omega) (by omega) (by omega) (by omega) ?_ ?_ ?_
      · show clr L (y.a.toNat : Int) = _; rw [Int.toNat_of_nonneg (by omega)]; exact y2
      · show clr L (y.b.toNat : Int) = _; rw [Int.toNat_of_nonneg (by omega)]; exact y3
      · show clr L (x.a.toNat : Int) = _; rw [Int.toNat_of_nonneg (by omega)]; exact x2
  have hs := five_parts (fun j : Nat => clr L (j : Int)) (List.range L.length)
  have a0 := H 0 (by omega)
  have a1 := H 1 (by omega)
  have a2 := H 2 (by omega)
  have a3 := H 3 (by omega)
  have a4 := H 4 (by omega)
  rw [List.length_range] at hs
  have b0 : 3 ≤ ((List.range L.length).filter fun j : Nat => decide (clr L (j : Int) = 0)).length := a0
  have b1 : 3 ≤ ((List.range L.length).filter fun j : Nat => decide (clr L (j : Int) = 1)).length := a1
  have b2 : 3 ≤ ((List.range L.length).filter fun j : Nat => decide (clr L (j : Int) = 2)).length := a2
  have b3 : 3 ≤ ((List.range L.length).filter fun j : Nat => decide (clr L (j : Int) = 3)).length := a3
  have b4 : 3 ≤ ((List.range L.length).filter fun j : Nat => decide (clr L (j : Int) = 4)).length := a4
  clear a0 a1 a2 a3 a4 H
  omega
theorem new_good {bs : List Blk} {L : List Int} {used : Nat} (hok : ∀ x ∈ bs, okB x) (h : ∀ z ∈ L, 0 ≤ z ∧ z < (used : Int)) : goodE false bs (L ++ [(used : Int)]) = true := by
  apply Classical.byContradiction
  intro hn
  obtain ⟨x, hx, h1, h2, h3⟩ := bad_wit hok (by simpa using hn)
  obtain ⟨g1, g2, g3, g4⟩ := hok x hx
  have hlt : x.a.toNat < L.length := by omega
  have := h (clr L x.a) (by unfold clr; rw [List.getElem?_eq_getElem hlt]; exact List.getElem_mem hlt)
  omega
theorem all_app {L : List Int} {used c : Nat} (h : ∀ z ∈ L, 0 ≤ z ∧ z < (used : Int)) : ∀ z ∈ L ++ [(c : Int)], 0 ≤ z ∧ z < ((max used (c + 1) : Nat) : Int) := by
  intro z hz
  rcases List.mem_append.1 hz with hz | hz
  · have := h z hz; omega
  · simp at hz; omega
theorem six_find {n : Nat} {bs : List Blk} (h : isSysImpl (n : Int) bs = true) : ∀ (d : Nat) (L : List Int) (used : Nat), L.length + d = n → Inv6 bs L used → findC false bs 6 1 d L used ≠ none
  | 0, L, used, hd, ⟨h1, h2, h3⟩ => by
    have := (sys_size h).1
    have hu : ¬ used < 1 := by
      intro hu
      have hlt : 0 < L.length := by omega
      have := h1 (L[0]) (List.getElem_mem hlt)
      omega
    unfold findC
    rw [if_neg hu]
    simp
  | d + 1, L, used, hd, ⟨h1, h2, h3⟩ => by
    have hok := sys_ok h
    have hlast : ∃ c, c < min (used + 1) 6 ∧ goodE false bs (L ++ [(c : Int)]) = true ∧ Inv6 bs (L ++ [(c : Int)]) (max used (c + 1)) := by
      by_cases h5 : used < 5
      · refine ⟨used, by omega, new_good hok h1, all_app h1, by omega, by omega⟩
      · by_cases hg : ∃ c : Nat, c < 5 ∧ goodE false bs (L ++ [(c : Int)]) = true
        · obtain ⟨c, hc, hgc⟩ := hg
          refine ⟨c, by omega, hgc, all_app h1, by omega, fun e => ?_⟩
          obtain ⟨p, hp, hw⟩ := h3 (by omega)
          exact ⟨p, by rw [List.length_append]; omega, hw.app hok (by omega) _⟩
        · have hw : Wit bs L L.length := by
            intro c hc
            refine bad_wit hok ?_
            cases hgc : goodE false bs (L ++ [(c : Int)]) with
            | false => rfl
            | true => exact absurd ⟨c, hc, hgc⟩ hg
          by_cases h6 : used = 6
          · obtain ⟨p, hp, hwp⟩ := h3 h6
            exact (wit_two h (by omega) hp hwp hw).elim
          · have : used = 5 := by omega
            subst this
            refine ⟨5, by omega, new_good hok h1, all_app h1, by omega, fun _ => ⟨L.length, by simp, hw.app hok (Nat.le_refl _) _⟩⟩
    obtain ⟨c, hc, hg, hi⟩ := hlast
    unfold findC
    rw [if_neg (by omega)]
    refine tryN_ne (c0 := c) ?_ _ _ (Nat.zero_le _) (by omega)
    show (if goodE false bs (L ++ [(c : Int)]) = true then _ else none) ≠ none
    rw [if_pos hg]
    exact six_find h d (L ++ [(c : Int)]) (max used (c + 1)) (by rw [List.length_append, List.length_singleton]; omega) hi
/-- With six colours there is always a colouring. -/
theorem six_enough {n : Nat} {bs : List Blk} (h : isSysImpl (n : Int) bs = true) : findC false bs 6 1 n [] 0 ≠ none := six_find h n [] 0 (by simp) ⟨by simp, by omega, by omega⟩
theorem six_firF {v : Int} {bs : List Blk} (h : isSysImpl v bs = true) : (firF false v bs 6).2 = 0 := by
  obtain ⟨h3, h15, _⟩ := sys_size h
  obtain ⟨n, rfl⟩ : ∃ n : Nat, v = n := ⟨v.toNat, by omega⟩
  unfold firF
  rw [if_pos h, if_pos (by simp)]
  rw [Int.toNat_natCast]
  have := six_enough h
  show (firR (findC false bs 6 1 n [] 0)).2 = 0
  cases hf : findC false bs 6 1 n [] 0 with
  | none => exact absurd hf this
  | some R => rfl
/-- The first k from j on for which there is a colouring. -/
def numGo6 (v : Int) (bs : List Blk) : Nat → Nat → Nat
  | 0, j => j
  | m + 1, j => if (firF false v bs j).2 = 0 then j else numGo6 v bs m (j + 1)
/-- What ColourNumber answers. -/
def colN (v : Int) (bs : List Blk) : Int × Int := if isSysImpl v bs then ((numGo6 v bs 5 1 : Nat), 0) else (0, 1)
theorem numGo6_le (v : Int) (bs : List Blk) : ∀ m j, numGo6 v bs m j ≤ j + m
  | 0, j => by simp [numGo6]
  | m + 1, j => by
    unfold numGo6
    split
    · omega
    · have := numGo6_le v bs m (j + 1); omega
end Go.Proofs.Ytkpnlecmfmbkaaa

namespace Go.Proofs.Ytkpnlecmfmbkaaa
open Go.RowKit Go.Maps Go.Shelf
def colNV (v : Int) (bs : List Blk) : Value := .tuple #[.int .i64 (colN v bs).1, .int .i64 (colN v bs).2]
theorem firF_codes {v : Int} {bs : List Blk} (h : isSysImpl v bs = true) {j : Nat} (h1 : 1 ≤ j) (h6 : j ≤ 6) : (firF false v bs j).2 = 0 ∨ (firF false v bs j).2 = 4 := by
  unfold firF
  rw [if_pos h, if_pos (by simp; omega)]
  cases findC false bs (j : Int).toNat (leastOf false (j : Int).toNat) v.toNat [] 0 <;> simp [firR]
set_option maxRecDepth 100000 in
set_option maxHeartbeats 4000000 in
theorem ColourNumber_any (v : Int) (s : Value) (bs : List Blk) (w : World) (h : SB w s bs) :
    Calls Try.prog 77 #[.agg #[.int .i64 v, s]] w (RV (colNV v bs) w) := by
  have HK : Hid (∀ (j : Nat) W, Below w.heap.size w W → Calls Try.prog 73 #[.agg #[.int .i64 v, s], .int .i64 j] W (RJ (firF false v bs j) W)) := Lib.hid fun j W hb => FirstColouring_any v s bs j W (h.below hb (Nat.le_refl _))
  obtain ⟨a0, c0, rfl⟩ := h.slice
  have hb0 : Below w.heap.size w (w.alloc (.cells #[.int .i64 v, .slice a0 bs.length c0] 32)) := (Below.refl _ _).alloc (Nat.le_refl _) _
  clear h
  cases hi : isSysImpl v bs with
  | false =>
    have hc1 : firF false v bs ((1 : Nat) : Int) = ([], 1) := by unfold firF; rw [if_neg (by simp [hi])]
    have HC := Lib.hid (show colNV v bs = .tuple #[.int .i64 0, .int .i64 1] by simp [colNV, colN, hi])
    have H1 := Lib.hid (HK.out 1)
    rw [hc1] at H1
    rw [HC.out]
    clear hi hc1
    go_enter Try.func77, Try.ntmps77
    go_wp2_with fail
    refine (H1.out _ hb0).mono ?_
    rintro e w1 ⟨u, rfl, hO, hb1⟩
    have hbw := below_new hb1
    obtain ⟨a6, c6, rfl⟩ := OwnJ.formS hO
    clear hO hb1
    go_wp2
    go_loopw [6] (fun c wr => c = .int .i64 1 ∧ Below w.heap.size w wr) (fun _ _ => 0)
    case atStart => exact ⟨rfl, hbw⟩
    case round =>
      obtain ⟨rfl, hB⟩ := hrel
      go_wp2
      go_ret2
      exact RV_of rfl hB
  | true =>
    have H6 := Lib.hid (six_firF hi)
    have HCD := Lib.hid fun (j : Nat) (h1 : 1 ≤ j) (h6 : j ≤ 6) => firF_codes hi h1 h6
    have HC := Lib.hid (show colNV v bs = .tuple #[.int .i64 (numGo6 v bs 5 1 : Nat), .int .i64 0] by simp [colNV, colN, hi])
    have H1 := Lib.hid (HK.out 1)
    obtain ⟨R1, hR1⟩ : ∃ R, R = firF false v bs ((1 : Nat) : Int) := ⟨_, rfl⟩
    rw [← hR1] at H1
    have HR1 := Lib.hid hR1
    rw [HC.out]
    clear hi hR1
    obtain ⟨R, κ⟩ := R1
    go_enter Try.func77, Try.ntmps77
    go_wp2_with fail
    refine (H1.out _ hb0).mono ?_
    rintro e w1 ⟨u, rfl, hO, hb1⟩
    have hbw := below_new hb1
    have q0 := cell_new hb1 0 rfl
    have q1 := cell_new hb1 1 rfl
    have hlt1 : w.heap.size < w1.heap.size := block_lt_of_cell q0
    obtain ⟨a6, c6, rfl⟩ := OwnJ.formS hO
    clear hO hb1
    go_wp2
    go_loopw [4, 6] (fun k c wr => ∃ j : Nat, 1 ≤ j ∧ j ≤ 6 ∧ k = .int .i64 j ∧ Hid (c = .int .i64 (firF false v bs j).2) ∧ Below w1.heap.size w1 wr ∧ Hid (numGo6 v bs 5 1 = numGo6 v bs (6 - j) j)) (fun k _ _ => 6 - (intOf k).toNat)
    case atStart => exact ⟨1, Nat.le_refl _, by omega, rfl, Lib.hid (by rw [← HR1.out]), Below.refl _ _, Lib.hid rfl⟩
    case round =>
      obtain ⟨j, hj1, hj6, rfl, HV, hB, HR⟩ := hrel
      have q0 := (hB.cell (p := ⟨w.heap.size, 0, none⟩) hlt1).trans q0
      have q1 := (hB.cell (p := ⟨w.heap.size, 1, none⟩) hlt1).trans q1
      have hbr := hbw.trans (hB.mono hbw.size)
      rcases HCD.out j hj1 hj6 with hz | hz
      · have hv := HV.out
        rw [hz] at hv
        subst hv
        have HN := Lib.hid (show numGo6 v bs 5 1 = j by
          rw [HR.out]
          cases hm : 6 - j with
          | zero => rfl
          | succ m => unfold numGo6; rw [if_pos hz])
        clear hz HV
        go_wp2
        go_ret2
        rw [HN.out]
        exact RV_of rfl hbr
      · have hv := HV.out
        rw [hz] at hv
        subst hv
        have hj5 : j ≤ 5 := by
          apply Classical.byContradiction
          intro hn
          have e6 : j = 6 := by omega
          rw [e6] at hz
          have := H6.out
          have hz' : (firF false v bs 6).2 = 4 := hz
          omega
        have HN := Lib.hid (show numGo6 v bs 5 1 = numGo6 v bs (6 - (j + 1)) (j + 1) by
          rw [HR.out]
          obtain ⟨m, hm⟩ : ∃ m, 6 - j = m + 1 := ⟨5 - j, by omega⟩
          rw [hm, show 6 - (j + 1) = m by omega]
          show (if (firF false v bs j).2 = 0 then j else numGo6 v bs m (j + 1)) = _
          rw [if_neg (by rw [hz]; decide)])
        have HJ := Lib.hid (HK.out (j + 1) _ hbr)
        rw [show ((j + 1 : Nat) : Int) = (j : Int) + 1 by omega] at HJ
        obtain ⟨R2, hR2⟩ : ∃ R, R = firF false v bs ((j : Int) + 1) := ⟨_, rfl⟩
        rw [← hR2] at HJ
        have HR2 := Lib.hid hR2
        clear hz HV hR2
        obtain ⟨R', κ'⟩ := R2
        go_wp2_with fail
        refine HJ.out.mono ?_
        rintro e w3 ⟨u3, rfl, hO3, hb3⟩
        obtain ⟨a7, c7, rfl⟩ := OwnJ.formS hO3
        have hB3 := hB.trans (hb3.mono hB.size)
        clear hO3 hb3
        go_wp2
        go_roundw
        case rel => exact ⟨j + 1, by omega, by omega, by go_num, Lib.hid (by rw [show ((j + 1 : Nat) : Int) = (j : Int) + 1 by omega, ← HR2.out]), hB3, HN⟩
        case measure => simp [intOf]; omega
end Go.Proofs.Ytkpnlecmfmbkaaa

namespace Go.Proofs.Ytkpnlecmfmbkaaa
open Go.RowKit Go.Maps Go.Shelf
theorem firF_at {n j : Nat} {bs : List Blk} (h : isSysImpl (n : Int) bs = true) (h1 : 1 ≤ j) (h6 : j ≤ 6) : firF false (n : Int) bs (j : Int) = firR (findC false bs j (leastOf false j) n [] 0) := by
  unfold firF
  rw [if_pos h, if_pos (by simp; omega), Int.toNat_natCast, Int.toNat_natCast]
set_option maxRecDepth 100000 in
set_option maxHeartbeats 4000000 in
theorem specColourNumber_any (v : Int) (s : Value) (bs : List Blk) (w : World) (h : SB w s bs) :
    Calls Try.prog 76 #[.agg #[.int .i64 v, s]] w (RV (colNV v bs) w) := by
  have HI := Lib.hid fun W (hb : Below w.heap.size w W) => l01Is_any v s bs W (h.below hb (Nat.le_refl _))
  have hb0 : Below w.heap.size w (w.alloc (.cells #[.int .i64 v, s] 32)) := (Below.refl _ _).alloc (Nat.le_refl _) _
  have HSB := Lib.hid h
  obtain ⟨a0, c0, rfl⟩ := h.slice
  clear h
  cases hi : isSysImpl v bs with
  | false =>
    have HC := Lib.hid (show colNV v bs = .tuple #[.int .i64 0, .int .i64 1] by simp [colNV, colN, hi])
    rw [hi] at HI
    rw [HC.out]
    clear hi HSB
    go_enter Try.func76, Try.ntmps76
    go_wp2_with fail
    refine (HI.out _ hb0).mono ?_
    rintro e w1 ⟨rfl, hb1⟩
    have hbw := below_new hb1
    clear hb1
    go_wp2
    go_ret2
    exact RV_of rfl hbw
  | true =>
    obtain ⟨v3, v15, _⟩ := sys_size hi
    have hok := sys_ok hi
    obtain ⟨n, rfl⟩ : ∃ n : Nat, v = n := ⟨v.toNat, by omega⟩
    have HFA := Lib.hid fun (j : Nat) (h1 : 1 ≤ j) (h6 : j ≤ 6) => firF_at hi h1 h6
    have HF := Lib.hid fun (j : Nat) W (hj : j ≤ 6) (hb : Below w.heap.size w W) => l07Find_any false n j (.slice a0 bs.length c0) bs hok (by omega) hj n [] 0 (W.alloc (.cells #[] 2)) W.heap.size W.heap.size 0 (HSB.out.below (hb.trans (((Below.refl _ _).alloc (Nat.le_refl _) _).mono hb.size)) (Nat.le_refl _)) (OwnJ.new0 W (Nat.le_refl _)) (by simp) (by simp) (good_nil false hok) (by omega) (by omega)
    have HC := Lib.hid (show colNV (n : Int) bs = .tuple #[.int .i64 (numGo6 (n : Int) bs 5 1 : Nat), .int .i64 0] by simp [colNV, colN, hi])
    rw [hi] at HI
    rw [HC.out]
    clear hi hok HSB
    go_enter Try.func76, Try.ntmps76
    go_wp2_with fail
    refine (HI.out _ hb0).mono ?_
    rintro e w1 ⟨rfl, hb1⟩
    have hbw := below_new hb1
    have q0 := cell_new hb1 0 rfl
    have q1 := cell_new hb1 1 rfl
    have hlt1 : w.heap.size < w1.heap.size := block_lt_of_cell q0
    clear hb1
    go_wp2
    go_loopw [4] (fun k wr => ∃ j : Nat, 1 ≤ j ∧ j ≤ 6 ∧ k = .int .i64 j ∧ Below w1.heap.size w1 wr ∧ Hid (numGo6 (n : Int) bs 5 1 = numGo6 (n : Int) bs (6 - j) j)) (fun k _ => 6 - (intOf k).toNat)
    case atStart => exact ⟨1, Nat.le_refl _, by omega, rfl, Below.refl _ _, Lib.hid rfl⟩
    case round =>
      obtain ⟨j, hj1, hj6, rfl, hB, HR⟩ := hrel
      have q0 := (hB.cell (p := ⟨w.heap.size, 0, none⟩) hlt1).trans q0
      have q1 := (hB.cell (p := ⟨w.heap.size, 1, none⟩) hlt1).trans q1
      have hbr := hbw.trans (hB.mono hbw.size)
      by_cases hj : j < 6
      · have t1 : decide ((j : Int) < 6) = true := by simp; omega
        obtain ⟨m, hm⟩ : ∃ m, 6 - j = m + 1 := ⟨5 - j, by omega⟩
        have HM := Lib.hid (show numGo6 (n : Int) bs 5 1 = if (firR (findC false bs j (leastOf false j) n [] 0)).2 = 0 then j else numGo6 (n : Int) bs m (j + 1) by
          rw [HR.out, hm]
          show (if (firF false (n : Int) bs j).2 = 0 then j else numGo6 (n : Int) bs m (j + 1)) = _
          rw [HFA.out j hj1 hj6])
        have hm2 : m = 6 - (j + 1) := by omega
        have HM2 := Lib.hid hm2
        have HJ := Lib.hid (HF.out j wr hj6 hbr)
        obtain ⟨r, hr⟩ : ∃ r, r = findC false bs j (leastOf false j) n [] 0 := ⟨_, rfl⟩
        rw [← hr] at HJ HM
        have hba : Below w1.heap.size w1 (wr.alloc (.cells #[] 2)) := hB.trans (((Below.refl _ _).alloc (Nat.le_refl _) _).mono hB.size)
        clear hm hm2 hr
        cases r with
        | none =>
          have HN := Lib.hid (show numGo6 (n : Int) bs 5 1 = numGo6 (n : Int) bs (6 - (j + 1)) (j + 1) by rw [HM.out, ← HM2.out]; rfl)
          clear HM
          go_wp2_with fail
          refine HJ.out.mono ?_
          rintro e w2 ⟨hb2, rfl⟩
          have hB2 := hba.trans (hb2.mono hba.size)
          clear hb2
          go_wp2
          go_roundw
          case rel => exact ⟨j + 1, by omega, by omega, by go_num, hB2, HN⟩
          case measure => simp [intOf]; omega
        | some R =>
          have HN := Lib.hid (show numGo6 (n : Int) bs 5 1 = j by rw [HM.out]; rfl)
          clear HM
          go_wp2_with fail
          refine HJ.out.mono ?_
          rintro e w2 ⟨hb2, g, cap, rfl, hO⟩
          have hB2 := hbw.trans ((hba.trans (hb2.mono hba.size)).mono hbw.size)
          clear hb2 hO
          go_wp2
          go_ret2
          rw [HN.out]
          exact RV_of rfl hB2
      · have hj7 : j = 6 := by omega
        have HN := Lib.hid (show numGo6 (n : Int) bs 5 1 = 6 by rw [HR.out, hj7]; rfl)
        have t1 : decide ((j : Int) < 6) = false := by simp; omega
        have HJ7 := Lib.hid hj7
        clear hj7 hj
        go_wp2
        go_ret2
        rw [HN.out, HJ7.out]
        exact RV_of rfl hbr
end Go.Proofs.Ytkpnlecmfmbkaaa

namespace Go.Proofs.Ytkpnlecmfmbkaaa
open Go.RowKit Go.Maps
set_option maxRecDepth 100000 in
theorem FnExactColourNumber_long (v : Int) (s : Value) (bs : List Blk)  (w : World) (h : InB w s bs) (hl : ¬ bs.length ≤ 1048576) : Calls Try.prog 22 #[.agg #[.int .i64 v, s]] w (RV (.bool true) w) := by
  have hsl := h.slice
  have hbd := h.2.1
  have hsz := szSystem_any v s bs.length hsl (by omega) 1048576 (by omega) (by omega)
  rw [if_pos (by omega)] at hsz
  have HSZ := Lib.hid hsz
  clear hsz h
  obtain ⟨a, c, rfl⟩ := hsl
  go_enter Try.func22, Try.ntmps22
  go_wp2_with (go_at_call 24; refine (HSZ.out _).mono ?_; rintro e w1 ⟨rfl, hb1⟩)
  go_ret
  exact RV_of rfl (((Below.refl _ _).alloc (Nat.le_refl _) _).trans (hb1.mono (by simp)))

set_option maxRecDepth 100000 in
set_option maxHeartbeats 1000000 in
theorem FnExactColourNumber_main (v : Int) (s : Value) (bs : List Blk)  (w : World) (h : InB w s bs) (hl : bs.length ≤ 1048576) : Calls Try.prog 22 #[.agg #[.int .i64 v, s]] w (RV (.bool true) w) := by
  have hsl := h.slice
  have hbd := h.2.1
  have hsz := szSystem_any v s bs.length hsl (by omega) 1048576 (by omega) (by omega)
  have hsb := h.sb hl
  rw [if_neg (by omega)] at hsz
  obtain ⟨m, hm⟩ : ∃ m, m = (1048576 : Int) - (bs.length : Int) := ⟨_, rfl⟩
  rw [← hm] at hsz
  have hm0 : 0 ≤ m := by omega
  have HSZ := Lib.hid hsz
  have HSB := Lib.hid hsb
  have hwf := h.1
  have HWF := Lib.hid hwf
  have HBD := Lib.hid (show bs.length ≤ 1100000 by omega)
  clear hsz hsb hm h hl hbd hwf
  have hsp : ∀ (W : World) (t : Value), SB W t bs → Calls Try.prog 76 #[.agg #[.int .i64 v, t]] W (RV (colNV v bs) W) := fun W t ht => specColourNumber_any v t bs W ht
  have him : ∀ (W : World) (t : Value), SB W t bs → Calls Try.prog 77 #[.agg #[.int .i64 v, t]] W (RV (colNV v bs) W) := fun W t ht => ColourNumber_any v t bs W ht
  obtain ⟨η, κ, hval⟩ : ∃ η κ, colNV v bs = .tuple #[.int .i64 η, .int .i64 κ] := by
    unfold colNV
    repeat (first | exact ⟨_, _, rfl⟩ | split)
  rw [hval] at hsp him
  have HSP := Lib.hid hsp
  have HIM := Lib.hid him
  clear hval hsp him
  have hne1 : (η != η) = false := by simp
  have hne2 : (κ != κ) = false := by simp
  obtain ⟨a, c, rfl⟩ := hsl
  go_enter Try.func22, Try.ntmps22
  go_wp2_with fail
  refine (HSZ.out _).mono ?_
  rintro e w1 ⟨rfl, hb1⟩
  have p0 := cell_new hb1 0 rfl
  have p1 := cell_new hb1 1 rfl
  have hz1 := hb1.size
  simp at hz1
  have hbw : Below w.heap.size w w1 := ((Below.refl _ _).alloc (Nat.le_refl _) _).trans (hb1.mono (by simp))
  clear hb1
  go_wp2_with fail
  refine (toSystem_any v _ bs _ (HSB.out.below hbw (Nat.le_refl _))).mono ?_
  rintro e w2 ⟨s2, rfl, ho2, hb2⟩
  have hsb2 := ho2.sb HWF.out HBD.out
  go_wp2_with fail
  refine (HSP.out _ _ hsb2).mono ?_
  rintro e w3 ⟨rfl, hb3⟩
  have hb13 := hb2.trans (hb3.mono hb2.size)
  have p0' := (hb13.cell (p := ⟨w.heap.size, 0, none⟩) (by show w.heap.size < _; omega)).trans p0
  have p1' := (hb13.cell (p := ⟨w.heap.size, 1, none⟩) (by show w.heap.size < _; omega)).trans p1
  have hz3 := hb13.size
  have hbw3 := hbw.trans (hb13.mono (by omega))
  clear p0 p1 hb2 hb3 hb13 ho2 hsb2 hbw
  go_wp2_with fail
  refine (toSystem_any v _ bs _ (HSB.out.below hbw3 (Nat.le_refl _))).mono ?_
  rintro e w4 ⟨s4, rfl, ho4, hb4⟩
  obtain ⟨g, cap, hs4, h41, h42, h43, h44⟩ := id ho4
  subst hs4
  have p0 := (hb4.cell (p := ⟨w.heap.size, 0, none⟩) (by show w.heap.size < _; omega)).trans p0'
  have p1 := (hb4.cell (p := ⟨w.heap.size, 1, none⟩) (by show w.heap.size < _; omega)).trans p1'
  have hz4 := hb4.size
  have hbw4 := hbw3.trans (hb4.mono (by omega))
  have hsb4 := ho4.sb HWF.out HBD.out
  clear p0' p1' hb4 hbw3 h41 h43 h44 ho4
  go_wp2_with fail
  refine (HIM.out _ _ (hsb4.below ((Below.refl _ _).alloc (Nat.le_refl _) _) (Nat.le_refl _))).mono ?_
  rintro e w5 ⟨rfl, hb5⟩
  have q0 := cell_new hb5 0 rfl
  have q1 := cell_new hb5 1 rfl
  have p0' := (hb5.cell (p := ⟨w.heap.size, 0, none⟩) (by simp; omega)).trans (cell_past p0 (by omega))
  have p1' := (hb5.cell (p := ⟨w.heap.size, 1, none⟩) (by simp; omega)).trans (cell_past p1 (by omega))
  have hz5 := hb5.size
  simp at hz5
  have hbw5 := (hbw4.alloc hbw4.size _).trans (hb5.mono (by simp; omega))
  have hsb5 := hsb4.below (((Below.refl _ _).alloc (Nat.le_refl _) _).trans (hb5.mono (by simp))) (Nat.le_refl _)
  clear p0 p1 hb5 hbw4 hsb4
  go_wp2
  go_region_with (first | (go_at_call 26; refine (toSystem_any v _ bs _ ?_).mono ?_; (exact HSB.out.below hbw5.drew (Nat.le_refl _)); rintro e w6 ⟨s6, rfl, ho6, hb6⟩; obtain ⟨g6, cap6, hs6, h61, h62, h63, h64⟩ := id ho6; subst hs6; have hsb6 := ho6.sb HWF.out HBD.out; have hsb56 := hsb5.below (Below.trans (Below.refl _ _).drew hb6) (Nat.le_refl _); have r0 := (hb6.cell (p := ⟨w4.heap.size, 0, none⟩) (by show w4.heap.size < _; simp; omega)).trans q0; have r1 := (hb6.cell (p := ⟨w4.heap.size, 1, none⟩) (by show w4.heap.size < _; simp; omega)).trans q1) | (go_at_call 30; refine (eqSystem_same v _ _ bs _ ?_ ?_).mono ?_; (exact hsb56); (exact hsb6); rintro e w7 ⟨rfl, hb7⟩))
  all_goals go_wp2
  all_goals go_ret
  all_goals exact RV_of rfl (hbw5.drew.trans ((hb6.mono (by simp; omega)).trans (hb7.mono (by have := hb6.size; simp at this; omega))))

theorem FnExactColourNumber_any (v : Int) (s : Value) (bs : List Blk)  (w : World) (h : InB w s bs) : Calls Try.prog 22 #[.agg #[.int .i64 v, s]] w (RV (.bool true) w) := by
  by_cases hl : bs.length ≤ 1048576
  · exact FnExactColourNumber_main v s bs  w h hl
  · exact FnExactColourNumber_long v s bs  w h hl
end Go.Proofs.Ytkpnlecmfmbkaaa

namespace Go.Proofs.Ytkpnlecmfmbkaaa
open Go.ChangeShapes Go.WideShapes Go.ChangeAt Go.RowKit Go.Deep Go.Joins
theorem ownKnobs : ownKnob Try.prog.godebug = none := by kernel_rfl
section
variable {H : Type} {enc : TypeId × Value → H} {W : World} {base : Nat} {held : Bool}
theorem arrCells : Try.prog.cellsOf 77 = 3 := by kernel_rfl
set_option maxRecDepth 100000 in
theorem open_arr3 {fuel : Nat} {cs : List Value} {x : DataW H × List MemPlace} (h : DataW.trod enc Try.prog W base (fun _ => true) held fuel 77 cs = some x) :
    ∃ a b c : Int, cs = [.int .i64 a, .int .i64 b, .int .i64 c] ∧ (Lit.int .i64 a).wf = true ∧ (Lit.int .i64 b).wf = true ∧ (Lit.int .i64 c).wf = true := by
  obtain ⟨xs, m, rfl, rfl, hl, hx, hat⟩ := DataW.trod_array Try.underlying77 h
  rw [arrCells] at hl
  match cs, hl with
  | [c0, c1, c2], _ =>
    match xs, hx with
    | [x0, x1, x2], _ =>
      have h0 := hat 0 (by omega)
      have h1 := hat 1 (by omega)
      have h2 := hat 2 (by omega)
      rw [int64Cells] at h0 h1 h2
      simp at h0 h1 h2
      obtain ⟨a, ha, _, wa⟩ := DataW.trod_int Try.underlying2 h0
      obtain ⟨b, hb, _, wb⟩ := DataW.trod_int Try.underlying2 h1
      obtain ⟨c, hc, _, wc⟩ := DataW.trod_int Try.underlying2 h2
      simp at ha hb hc
      exact ⟨a, b, c, by rw [ha, hb, hc], wa, wb, wc⟩
theorem add_at (b off i : Nat) : (⟨b, off, none⟩ : Addr).add i = ⟨b, off + i, none⟩ := by
  unfold Addr.add
  split
  · subst_vars; rfl
  · rfl
set_option maxRecDepth 100000 in
theorem open_arrs {fuel : Nat} {s : Value} {x : DataW H × List MemPlace} (h : DataW.trod enc Try.prog W base (fun _ => true) held fuel 22 [s] = some x) : ∃ bs, InB W s bs := by
  rcases open_slice Try.underlying22 h with ⟨hcs, _⟩ | ⟨a, len, cap, m, n, D, Pl, hcs, hb, hl, hm, hmm, hx, hi⟩
  · simp at hcs
    exact ⟨[], by simp, by simp, .inl ⟨none, 0, hcs, rfl⟩⟩
  · simp at hcs
    subst hcs
    simp at hmm
    subst hmm
    have hm' : m ≤ 9223372036854775807 := by unfold maxLen at hm; exact hm
    by_cases h0 : len = 0
    · subst h0
      exact ⟨[], by simp, by simp, .inl ⟨_, _, rfl, rfl⟩⟩
    · have cell : ∀ i, i < m → ∃ y : Blk, WFB y ∧ ∀ j (v : Value), [Value.int .i64 y.a, Value.int .i64 y.b, Value.int .i64 y.c][j]? = some v → W.cell? (a.add (i * 3 + j)) = some v := fun i him => by
        obtain ⟨cs', hc, ht⟩ := hi i him
        obtain ⟨p, q, r, rfl, wp, wq, wr⟩ := open_arr3 ht
        rw [arrCells] at hc
        obtain ⟨_, _, hat⟩ := World.cells?_some hc
        refine ⟨⟨p, q, r⟩, ⟨wp, wq, wr⟩, fun j v hv => ?_⟩
        have hj : j < 3 := by
          have := (List.getElem?_eq_some_iff.1 hv).1
          simpa using this
        rw [← Go.Deep.add_add, hat j hj]
        exact hv
      obtain ⟨F, hF⟩ := choose_lt (α := Blk) cell
      obtain ⟨b, off, spot⟩ := a
      have hc0 := (hF 0 (by omega)).2 0 _ rfl
      have hspot : spot = none := by simpa [Addr.add] using World.cell?_spot hc0
      subst hspot
      refine ⟨(List.range len).map F, ?_, by simp; omega, .inr ⟨b, off, m, by simp, ?_, ?_⟩⟩
      · intro y hy
        obtain ⟨i, hi', rfl⟩ := List.mem_map.1 hy
        exact (hF i (by have := List.mem_range.1 hi'; omega)).1
      · exact block_lt_of_cell hc0
      · intro k hk
        simp at hk
        have e : ((List.range len).map F)[k]?.getD default = F k := by simp [hk]
        rw [e]
        have := (hF k (by omega)).2
        refine ⟨?_, ?_, ?_⟩
        · have h0 := this 0 _ rfl
          rw [add_at] at h0
          exact h0
        · have h1 := this 1 _ rfl
          rw [add_at, ← Nat.add_assoc] at h1
          exact h1
        · have h2 := this 2 _ rfl
          rw [add_at, ← Nat.add_assoc] at h2
          exact h2
theorem isSys : ∃ f0 f1 : Field, Try.prog.underlying 24 = some (.struct #[f0, f1]) ∧ f0.type = 2 ∧ f1.type = 22 ∧ oneCellFields Try.prog #[f0, f1] = true :=
  ⟨_, _, Try.underlying24, rfl, rfl, by kernel_rfl⟩
theorem sysCells : Try.prog.cellsOf 24 = 2 := by kernel_rfl
set_option maxRecDepth 100000 in
theorem open_system {r : Reach} {b0 : Nat} {v : Value} {d : DataW H} {p : List MemPlace} (hv : Value.okWide Try.prog W r b0 24 v) (h : DataW.Trod enc Try.prog W base (fun _ => true) held 24 v d p) :
    ∃ (n : Int) (s : Value) (bs : List Blk), v = .agg #[.int .i64 n, s] ∧ WF n ∧ InB W s bs := by
  obtain ⟨f0, f1, hu, e0, e1, hone⟩ := isSys
  obtain ⟨v0, v1, y0, y1, n, rfl, _, _, h0, h1⟩ := open_agg2 hu hone sysCells hv h
  rw [e0] at h0
  rw [e1] at h1
  obtain ⟨k, hk, _, wk⟩ := DataW.trod_int Try.underlying2 h0
  simp at hk
  subst hk
  obtain ⟨bs, hbs⟩ := open_arrs h1
  exact ⟨k, v1, bs, rfl, wk, hbs⟩
end
end Go.Proofs.Ytkpnlecmfmbkaaa

namespace Go.Proofs.Ytkpnlecmfmbkaaa
set_option maxRecDepth 100000 in
noncomputable def iniP : { L : List Char // Try.prog.initOrder = String.ofList L } := ⟨_, by unfold Try.prog; rfl⟩
theorem iniL : Try.prog.initOrder.toList = iniP.1 := (congrArg String.toList iniP.2).trans String.toList_ofList
theorem words_cons (c : Char) (r : List Char) (h : c ≠ Char.ofNat 32) : wordsSigns (c :: r) = match wordsSigns r with | w :: ws => (c :: w) :: ws | [] => [[c]] := by
  rw [wordsSigns]
  all_goals first | rfl | exact h | (intro e; exact h e)
theorem words_word : ∀ (a b : List Char), (a.all fun c => c != Char.ofNat 32) = true → wordsSigns (a ++ Char.ofNat 32 :: b) = a :: wordsSigns b
  | [], b, _ => rfl
  | c :: a, b, h => by
    simp only [List.all_cons, Bool.and_eq_true, bne_iff_ne, ne_eq] at h
    rw [List.cons_append, words_cons _ _ h.1, words_word a b (by simpa using h.2)]
set_option maxRecDepth 100000 in
theorem split1 : iniP.1 = iniP.1.take 7 ++ Char.ofNat 32 :: iniP.1.drop 8 := by kernel_rfl
set_option maxRecDepth 100000 in
theorem split2 : iniP.1.drop 8 = (iniP.1.drop 8).take 64 ++ Char.ofNat 32 :: iniP.1.drop 73 := by kernel_rfl
set_option maxRecDepth 100000 in
theorem split3 : iniP.1.drop 73 = (iniP.1.drop 73).take 3 ++ Char.ofNat 32 :: iniP.1.drop 77 := by kernel_rfl
theorem isCut : (iniP.1.drop 73).take 3 = "cut".toList := by kernel_rfl
set_option maxRecDepth 100000 in
theorem isHead : ((iniP.1.take 7 == "harness".toList || iniP.1.take 7 == "ownmain".toList) && isSumSigns ((iniP.1.drop 8).take 64)) = true := by kernel_rfl
theorem wordsL : wordsSigns iniP.1 = iniP.1.take 7 :: (iniP.1.drop 8).take 64 :: "cut".toList :: wordsSigns (iniP.1.drop 77) := by
  rw [← isCut]
  conv => lhs; rw [split1]
  rw [words_word _ _ (by kernel_rfl)]
  conv => lhs; rw [split2]
  rw [words_word _ _ (by kernel_rfl)]
  conv => lhs; rw [split3]
  rw [words_word _ _ (by kernel_rfl)]
theorem behindL : behindMainWord (wordsSigns Try.prog.initOrder.toList) = "cut".toList :: wordsSigns (iniP.1.drop 77) := by
  rw [iniL, wordsL]
  unfold behindMainWord
  simp only [isHead, if_true]
theorem stripL (ws : List (List Char)) : stripLifts liftWords ("cut".toList :: ws) = ([], "cut".toList :: ws) := by kernel_rfl
section
variable (P : Program) (ws : List (List Char)) (h : behindMainWord (wordsSigns P.initOrder.toList) = "cut".toList :: ws)
include h
theorem head_of : P.headLifts = [] := by
  unfold Program.headLifts
  rw [h]
  simp only [stripL]
  kernel_rfl
theorem make_of : P.make = some .cut := by
  unfold Program.make
  rw [h, head_of P ws h]
  kernel_rfl
theorem lifts_of : P.liftsFinal = false := by
  unfold Program.liftsFinal
  rw [h, head_of P ws h]
  kernel_rfl
theorem enter_of (h1 : P.laysLater = false) (h2 : P.bearsReflect = false) (h3 : P.doorFits [] = true) : P.mayEnter = true := by
  unfold Program.mayEnter
  rw [h]
  simp only [stripL]
  rw [h1, h2, h3]
  kernel_rfl
end
theorem mayE : Try.pinned.checked.prog.mayEnter = true := enter_of _ _ behindL (by kernel_rfl) (by kernel_rfl) (by kernel_rfl)
theorem liftsF : Try.pinned.checked.prog.liftsFinal = false := lifts_of _ _ behindL
theorem makeF : Try.pinned.checked.prog.make = some .cut := make_of _ _ behindL
theorem both {a b : Bool} (h : a = true) (k : b = true) : (a && b) = true := by rw [h, k]; rfl
end Go.Proofs.Ytkpnlecmfmbkaaa

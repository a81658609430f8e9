
/- impl.InverseTrade. The model's insertion sort. The model's l04Made and InverseTrade. How the laws' arguments are read. How the laws' other arguments are read: slices of integers, slices of blocks, a block, rows. How a law's trade is read. The laws' own helpers for trades: sizes, copies, equality, marks. What a law over one system whose result is a system knows of the memory between two of its steps. -/
import Derived.Test.YtacfelgilphppaaJ8
import Derived.Deep.RegionHeld3
import Derived.Test.YtacfelgilphppaaRows
import Derived.ProofKit
import Derived.OpenShut
import Derived.Deep.Slices
import Derived.Lib.SmallJoins
import Derived.ChangeOld
namespace Go.Proofs.Ytacfelgilphppaa
open Go.RowKit Go.Maps
/-- A trade and a code. -/
def RTrd (r : Int × (List Blk × List Blk) × Int) (w : World) (e : Ending) (w' : World) : Prop :=
  ∃ so si, e = .returned (.tuple #[.agg #[.int .i64 r.1, so, si], .int .i64 r.2.2]) ∧ ResT w' w.heap.size w'.heap.size so r.2.1.1 si r.2.1.2 ∧ Below w.heap.size w w'
def invF (v : Int) (bo bi : List Blk) : Int × (List Blk × List Blk) × Int := if trdB v bo bi then (v, (bi, bo), 0) else (0, ([], []), 1)
/-- A trade's box and that of the result. -/
structure BoxR (w' : World) (b : Nat) (v : Int) (so si : Value) : Prop where
  lt : b + 1 < w'.heap.size
  x0 : w'.cell? ⟨b, 0, none⟩ = some (.int .i64 v)
  x1 : w'.cell? ⟨b, 1, none⟩ = some so
  x2 : w'.cell? ⟨b, 2, none⟩ = some si
  y0 : w'.cell? ⟨b + 1, 0, none⟩ = some (.int .i64 0)
  y1 : w'.cell? ⟨b + 1, 1, none⟩ = some (.slice none 0 0)
  y2 : w'.cell? ⟨b + 1, 2, none⟩ = some (.slice none 0 0)
  g0 : w'.frozen? ⟨b + 1, 0, none⟩ = false
  g1 : w'.frozen? ⟨b + 1, 1, none⟩ = false
  g2 : w'.frozen? ⟨b + 1, 2, none⟩ = false
def wRI (w : World) (v : Int) (so si : Value) : World := (w.alloc (.cells #[.int .i64 v, so, si] 63)).alloc (.cells #[.int .i64 0, .slice none 0 0, .slice none 0 0] 63)
theorem BoxR.new (w : World) (v : Int) (so si : Value) : BoxR (wRI w v so si) w.heap.size v so si := by
  unfold wRI
  exact ⟨by simp, by simp [go_sem], by simp [go_sem], by simp [go_sem], by simp [go_sem], by simp [go_sem], by simp [go_sem], by simp [go_sem], by simp [go_sem], by simp [go_sem]⟩
theorem wRI_below (w : World) (v : Int) (so si : Value) : Below w.heap.size w (wRI w v so si) := ((Below.refl _ _).alloc (Nat.le_refl _) _).alloc (by simp) _
theorem BoxR.below {w w' : World} {b : Nat} {v : Int} {so si : Value} (h : BoxR w b v so si) (hb : Below w.heap.size w w') : BoxR w' b v so si := by
  have hl := h.lt
  exact ⟨Nat.lt_of_lt_of_le hl hb.size, (hb.cell (p := ⟨b, 0, none⟩) (by show b < _; omega)).trans h.x0, (hb.cell (p := ⟨b, 1, none⟩) (by show b < _; omega)).trans h.x1, (hb.cell (p := ⟨b, 2, none⟩) (by show b < _; omega)).trans h.x2,
    (hb.cell (p := ⟨b + 1, 0, none⟩) hl).trans h.y0, (hb.cell (p := ⟨b + 1, 1, none⟩) hl).trans h.y1, (hb.cell (p := ⟨b + 1, 2, none⟩) hl).trans h.y2,
    (hb.frozen (p := ⟨b + 1, 0, none⟩) hl).trans h.g0, (hb.frozen (p := ⟨b + 1, 1, none⟩) hl).trans h.g1, (hb.frozen (p := ⟨b + 1, 2, none⟩) hl).trans h.g2⟩
theorem ResT.kept {w w' : World} {lo hi : Nat} {so si : Value} {bo bi : List Blk} {row : Option Nat} (h : ResT w lo hi so bo si bi) (hg : w.grownBy w' row) (hr : ∀ r, row = some r → r < lo) : ResT w' lo hi so bo si bi := by
  obtain ⟨a, b, c, d, ha, hb, hc, hd, hx, r1, r2⟩ := h
  exact ⟨a, b, c, d, ha, hb, hc, hd, hx, r1.kept hg (fun r e => by have := hr r e; omega), r2.kept hg (fun r e => by have := hr r e; omega)⟩
def set3 (W : World) (b : Nat) (u v x : Value) : World := ((W.setCell ⟨b, 0, none⟩ u).setCell ⟨b, 1, none⟩ v).setCell ⟨b, 2, none⟩ x
theorem set3_gb (W : World) (b : Nat) (u v x : Value) : W.grownBy (set3 W b u v x) (some b) := only_setCell (only_setCell (only_setCell (only_refl W (some b)) rfl u) rfl v) rfl x
theorem RTrd.of {w W : World} {lo : Nat} {so si : Value} {r : Int × (List Blk × List Blk) × Int} {p κ : Int} (hB : Below w.heap.size w W) (hr : ResT W lo W.heap.size so r.2.1.1 si r.2.1.2) (hlo : w.heap.size + 1 < lo) (h1 : p = r.1) (h2 : κ = r.2.2) (u v x : Value) :
    RTrd r w (.returned (.tuple #[.agg #[.int .i64 p, so, si], .int .i64 κ])) (set3 W (w.heap.size + 1) u v x) := by
  subst h1 h2
  have hg := set3_gb W (w.heap.size + 1) u v x
  refine ⟨so, si, rfl, ?_, hB.grown hg hB.size (fun r e => by cases e; omega)⟩
  have e : (set3 W (w.heap.size + 1) u v x).heap.size = W.heap.size := by simp [set3]
  rw [e]
  exact (hr.kept hg (fun r e => by cases e; omega)).wide (by omega) (Nat.le_refl _)
theorem RTrd.no {w W : World} (hB : Below w.heap.size w W) (κ : Int) (u v x : Value) : RTrd (0, ([], []), κ) w (.returned (.tuple #[.agg #[.int .i64 0, .slice none 0 0, .slice none 0 0], .int .i64 κ])) (set3 W (w.heap.size + 1) u v x) := by
  have hg := set3_gb W (w.heap.size + 1) u v x
  refine ⟨_, _, rfl, ?_, hB.grown hg hB.size (fun r e => by cases e; omega)⟩
  have := ResT.nil (set3 W (w.heap.size + 1) u v x) (set3 W (w.heap.size + 1) u v x).heap.size
  exact this.wide (Nat.le_trans hB.size hg.size) (Nat.le_refl _)
theorem cloneRR {W0 W1 : World} {u : Value} {bs : List Blk} (h : OwnR W1 W0.heap.size u bs) : ResR W1 W0.heap.size W1.heap.size u bs := h.res
set_option maxRecDepth 100000 in
set_option maxHeartbeats 4000000 in
theorem InverseTrade_any (v : Int) (so : Value) (bo : List Blk) (si : Value) (bi : List Blk) (w : World) (h : TB w so bo si bi) : Calls Try.prog 71 #[.agg #[.int .i64 v, so, si]] w (RTrd (invF v bo bi) w) := by
  have hs := h.1.slice
  have ht := h.2.slice
  have HI := Lib.hid fun W (hb : Below w.heap.size w W) => IsTrade_any v so bo si bi W (h.below hb (Nat.le_refl _))
  have HO := Lib.hid fun W (hb : Below w.heap.size w W) => cloneB_any so bo W (h.1.sx.below hb (Nat.le_refl _)) h.1.2.1
  have HN := Lib.hid fun W (hb : Below w.heap.size w W) => cloneB_any si bi W (h.2.sx.below hb (Nat.le_refl _)) h.2.2.1
  clear h
  obtain ⟨a, c, rfl⟩ := hs
  obtain ⟨a', c', rfl⟩ := ht
  have HB := Lib.hid (BoxR.new w v (.slice a bo.length c) (.slice a' bi.length c'))
  have HBW := Lib.hid (wRI_below w v (.slice a bo.length c) (.slice a' bi.length c'))
  unfold invF
  cases hi : trdB v bo bi with
  | false =>
    rw [hi] at HI
    rw [if_neg (by simp)]
    clear hi HO HN
    go_enter Try.func71, Try.ntmps71
    go_wp2_with fail
    refine (HI.out (wRI w v (.slice a bo.length c) (.slice a' bi.length c')) HBW.out).mono ?_
    rintro e w1 ⟨rfl, hb1⟩
    obtain ⟨_, _, _, _, y0, y1, y2, g0, g1, g2⟩ := HB.out.below hb1
    have hB1 := HBW.out.trans (hb1.mono HBW.out.size)
    clear hb1
    go_wp2
    exact bodyPost_ret (v := .tuple #[.agg #[.int .i64 0, .slice none 0 0, .slice none 0 0], .int .i64 1]) (by simp [results, Try.results71, go_sem, *]) rfl (RTrd.no hB1 1 _ _ _)
  | true =>
    rw [hi] at HI
    rw [if_pos rfl]
    clear hi
    go_enter Try.func71, Try.ntmps71
    go_wp2_with fail
    refine (HI.out (wRI w v (.slice a bo.length c) (.slice a' bi.length c')) HBW.out).mono ?_
    rintro e w1 ⟨rfl, hb1⟩
    have hbx := HB.out.below hb1
    have hB1 := HBW.out.trans (hb1.mono HBW.out.size)
    have HBX := Lib.hid hbx
    have HB1 := Lib.hid hB1
    obtain ⟨hlt, x0, x1, x2, _, _, _, _, _, _⟩ := hbx
    clear hb1 hB1
    go_upto_region 3 with fail
    go_region_held3 (fun w' => w'.cell? ⟨w.heap.size, 0, none⟩ = some (.int .i64 v) ∧ w'.cell? ⟨w.heap.size, 1, none⟩ = some (.slice a bo.length c) ∧ w'.cell? ⟨w.heap.size, 2, none⟩ = some (.slice a' bi.length c'))
      (first | exact ⟨i0, i1, i2⟩ | exact ⟨o0, o1, o2⟩ | exact ⟨x0, x1, x2⟩ | go_keep)
      (first
        | (go_at_call_of 131 (Value.slice a' bi.length c'); refine (HN.out _ ?_).mono ?_; (first | exact HB1.out.trans (hstO.mono HB1.out.size) | exact HB1.out.drew); rintro e wI ⟨uI, rfl, hoI, hbI⟩; obtain ⟨aI, cI, hsI⟩ := hoI.form; subst hsI; have hstI : Below w1.heap.size w1 wI := (by first | exact hstO.trans (hbI.mono hstO.size) | exact ((Below.refl _ _).drew).trans hbI); have hbxI := HBX.out.below hstI; have i0 := hbxI.x0; have i1 := hbxI.x1; have i2 := hbxI.x2; (first | (have HT := Lib.hid (ResT.of (lo := w1.heap.size) (hi := wI.heap.size) hoI.res (hrO.below hbI (Nat.le_refl _)) hstO.size (Nat.le_refl _) (Nat.le_refl _) hbI.size (.inr (Nat.le_refl _))); obtain ⟨_, _, _, _, z0, z1, z2, k0, k1, k2⟩ := hbxI) | (have hrI : ResR wI w1.heap.size wI.heap.size _ bi := hoI.res.wide (Nat.le_refl _) (Nat.le_refl _))))
        | (go_at_call_of 131 (Value.slice a bo.length c); refine (HO.out _ ?_).mono ?_; (first | exact HB1.out.trans (hstI.mono HB1.out.size) | exact HB1.out.drew); rintro e wO ⟨uO, rfl, hoO, hbO⟩; obtain ⟨aO, cO, hsO⟩ := hoO.form; subst hsO; have hstO : Below w1.heap.size w1 wO := (by first | exact hstI.trans (hbO.mono hstI.size) | exact ((Below.refl _ _).drew).trans hbO); have hbxO := HBX.out.below hstO; have o0 := hbxO.x0; have o1 := hbxO.x1; have o2 := hbxO.x2; (first | (have HT := Lib.hid (ResT.of (lo := w1.heap.size) (hi := wO.heap.size) (hrI.below hbO (Nat.le_refl _)) hoO.res (Nat.le_refl _) hbO.size hstI.size (Nat.le_refl _) (.inl (Nat.le_refl _))); obtain ⟨_, _, _, _, z0, z1, z2, k0, k1, k2⟩ := hbxO) | (have hrO : ResR wO w1.heap.size wO.heap.size _ bo := hoO.res.wide (Nat.le_refl _) (Nat.le_refl _)))))
    all_goals
      go_wp2
      first
      | exact bodyPost_ret (v := .tuple #[.agg #[.int .i64 v, .slice aI bi.length cI, .slice aO bo.length cO], .int .i64 0]) (by simp [results, Try.results71, go_sem, *]) rfl (RTrd.of (HB1.out.trans (hstO.mono HB1.out.size)) HT.out (by omega) rfl rfl _ _ _)
      | exact bodyPost_ret (v := .tuple #[.agg #[.int .i64 v, .slice aI bi.length cI, .slice aO bo.length cO], .int .i64 0]) (by simp [results, Try.results71, go_sem, *]) rfl (RTrd.of (HB1.out.trans (hstI.mono HB1.out.size)) HT.out (by omega) rfl rfl _ _ _)
end Go.Proofs.Ytacfelgilphppaa

namespace Go.Proofs.Ytacfelgilphppaa
open Go.RowKit Go.Maps
theorem ins_start (x : Blk) (l : List Blk) : l ++ [x] = l.take l.length ++ x :: l.drop l.length := by simp
theorem ins_round (l : List Blk) {m : Nat} (hm : m < l.length) (y : Blk) : (l.take (m + 1) ++ y :: l.drop (m + 1)).set (m + 1) (l[m]?.getD default) = l.take m ++ (l[m]?.getD default) :: l.drop m := by
  have h1 : (l.take (m + 1)).length = m + 1 := by simp; omega
  rw [List.set_append_right _ _ (by omega), h1, Nat.sub_self, List.set_cons_zero]
  rw [List.getElem?_eq_getElem hm, Option.getD_some, List.take_succ_eq_append_getElem hm, List.append_assoc]
  congr 1
  rw [List.singleton_append, List.drop_eq_getElem_cons hm]
theorem ins_end (l : List Blk) {m : Nat} (hm : m ≤ l.length) (x y : Blk) : (l.take m ++ y :: l.drop m).set m x = l.take m ++ x :: l.drop m := by
  have h1 : (l.take m).length = m := by simp; omega
  rw [List.set_append_right _ _ (by omega), h1, Nat.sub_self, List.set_cons_zero]
theorem ins_len (l : List Blk) {m : Nat} (hm : m ≤ l.length) (y : Blk) : (l.take m ++ y :: l.drop m).length = l.length + 1 := by
  simp; omega
theorem ins_at (l : List Blk) {m : Nat} (hm : m < l.length) (y : Blk) : (l.take (m + 1) ++ y :: l.drop (m + 1))[m]?.getD default = l[m]?.getD default := by
  rw [List.getElem?_append_left (by simp; omega), List.getElem?_take_of_lt (by omega)]
set_option maxRecDepth 100000 in
set_option maxHeartbeats 1000000 in
theorem l01Sort_any (s : Value) (bs : List Blk) (w : World) (h : SX w s bs) (hl : bs.length ≤ 100000) :
    Calls Try.prog 166 #[s] w fun e w' => ∃ u, e = .returned u ∧ OwnR w' w.heap.size u (sortB bs) ∧ Below w.heap.size w w' := by
  have hs : ∃ a c, s = .slice a bs.length c := by rcases h with ⟨a0, c0, rfl, rfl⟩ | ⟨b, off, cap, rfl, _⟩ <;> exact ⟨_, _, rfl⟩
  have HSX := Lib.hid h
  clear h
  obtain ⟨a0, c0, rfl⟩ := hs
  go_enter Try.func166, Try.ntmps166
  go_wp2
  have ho0 := lit_own w
  obtain ⟨w0, hw0⟩ : ∃ w0, w.alloc (.cells #[] 93) = w0 := ⟨_, rfl⟩
  have hB0 : Below w.heap.size w w0 := by rw [← hw0]; exact (Below.refl _ _).alloc (Nat.le_refl _) _
  have hz0 : w.heap.size < w0.heap.size := by rw [← hw0]; simp
  rw [hw0] at ho0 ⊢
  have HO0 := Lib.hid ho0
  clear hw0 ho0
  go_loopw [3, 4] (fun o i wr => ∃ k : Nat, k ≤ bs.length ∧ i = .int .i64 k ∧ Below w.heap.size w wr ∧ OwnR wr w.heap.size o (sortB (bs.take k)) ∧ ∃ a c, o = .slice a k c) (fun _ i _ => bs.length - (intOf i).toNat)
  case atStart => exact ⟨0, Nat.zero_le _, rfl, hB0, by simpa [sortB] using HO0.out, _, _, rfl⟩
  case round =>
    obtain ⟨k, hk, rfl, hB, hO, a3, c3, rfl⟩ := hrel
    have hz := hB.size
    by_cases hkl : k < bs.length
    · rcases HSX.out with ⟨_, _, _, hnil⟩ | ⟨b, off, cap, hv, hblt, hbl⟩
      · rw [hnil] at hkl; simp at hkl
      · simp at hv
        obtain ⟨rfl, rfl⟩ := hv
        have HBL := Lib.hid hbl
        obtain ⟨x, hx, ex, x1, x2, x3⟩ := blks_at (hbl.below hB hblt) hkl
        obtain ⟨l, hl1⟩ : ∃ l, l = sortB (bs.take k) := ⟨_, rfl⟩
        have hll : l.length = k := by rw [hl1, sortB_length]; simp; omega
        have hnext : sortB (bs.take (k + 1)) = insB x l := by
          rw [List.getElem?_eq_getElem hkl] at ex
          have ex' : bs[k] = x := by simpa using ex
          rw [take_next hkl, ex', sortB_snoc, hl1]
        rw [← hl1] at hO
        have HO := Lib.hid hO
        have HNX := Lib.hid hnext
        have HLL := Lib.hid hll
        have hlen2 : l.length ≤ 100000 := by omega
        have g0 : (0 : Int) ≤ (k : Int) := by omega
        have g1 : (k : Int) < (bs.length : Int) := by omega
        have HEX := Lib.hid ex
        clear hx ex hl1 hO hnext hll hbl
        go_wp2_with (at_builtin; refine wpList_append_blk rfl _ _ rfl w.heap.size _ l rfl (HO.out.below ((Below.refl _ _).alloc (Nat.le_refl _) _) (Nat.le_refl _)) _ _ x rfl (by simp [go_sem]) (by simp [go_sem]) (by simp [go_sem]) (by omega) (by simp; omega) ?_; intro g' cap' w4 hO4 hg4)
        have hB4 : Below w.heap.size w w4 := (hB.alloc (by omega) _).grown hg4 (by simp; omega) (fun r e => HO.out.row r e)
        have HBR := Lib.hid (l01Before_any x)
        have HX := Lib.hid (show bs[k]?.getD default = x by rw [HEX.out]; rfl)
        clear hg4 x1 x2 x3
        go_loopw [5] (fun t wr2 => ∃ m : Nat, m ≤ k ∧ t = .int .i64 m ∧ Below w.heap.size w wr2 ∧ (∃ y, OwnR wr2 w.heap.size (.slice (some ⟨g', 0, none⟩) (l.length + 1) cap') (l.take m ++ y :: l.drop m)) ∧ Hid (posB x l l.length = posB x l m)) (fun t _ => (intOf t).toNat)
        case atStart => exact ⟨k, Nat.le_refl _, rfl, hB4, ⟨x, by have := hO4; rw [ins_start, HLL.out] at this; rw [HLL.out]; exact this⟩, Lib.hid (by rw [HLL.out])⟩
        case round =>
          obtain ⟨m, hm, rfl, hB2, ⟨y, hO2⟩, HP⟩ := hrel
          obtain ⟨hn0, hgb, hat⟩ := hO2.at_
          clear hn0
          have hxx := (HBL.out.below hB2 hblt) k hkl
          rw [HX.out] at hxx
          obtain ⟨x1, x2, x3⟩ := hxx
          have hglt := hat.lt
          have hz2 := hB2.size
          have hblt2 : b < wr.heap.size := by omega
          have hfree := hat.free
          have HO2 := Lib.hid hO2
          rcases m with _ | m
          · rw [show ((0 : Nat) : Int) = 0 from rfl]
            have gl1 : (0 : Int) < ((l.length + 1 : Nat) : Int) := by omega
            have gl2 : (0 : Int) < (l.length : Int) + 1 := by omega
            obtain ⟨c1, c2, c3'⟩ := hat.at_ 0 (by rw [ins_len l (Nat.zero_le _) y]; omega)
            simp only [Nat.zero_mul, Nat.zero_add] at c1 c2 c3'
            have hnew := HO2.out.set3 (i := 0) (by rw [ins_len l (Nat.zero_le _) y]; omega) x
            rw [ins_end l (Nat.zero_le _) x y] at hnew
            have hins : insB x l = l.take 0 ++ x :: l.drop 0 := by unfold insB; rw [HP.out]; rfl
            rw [← hins, ← HNX.out] at hnew
            simp only [Nat.zero_mul, Nat.zero_add] at hnew
            have HN := Lib.hid hnew
            clear hO2 hat hnew hins
            go_wp2
            go_quiet (fail)
            go_wp2
            go_roundw
            case rel => exact ⟨k + 1, by omega, by go_num, (((below_drewN hB2 _).setCell (p := ⟨g', 0, none⟩) hgb _).setCell (p := ⟨g', 1, none⟩) hgb _).setCell (p := ⟨g', 2, none⟩) hgb _, HN.out, _, _, by rw [HLL.out]⟩
            case measure => simp [intOf]; omega
          · have hml : m < l.length := by rw [HLL.out]; omega
            have hm1 : m + 1 ≤ l.length := by omega
            have gl1 : (m : Int) + 1 < ((l.length + 1 : Nat) : Int) := by omega
            have gl2 : (m : Int) + 1 < (l.length : Int) + 1 := by omega
            have gl3 : (m : Int) < ((l.length + 1 : Nat) : Int) := by omega
            have gl4 : (m : Int) < (l.length : Int) + 1 := by omega
            have gl5 : (0 : Int) < (m : Int) + 1 := by omega
            have gl6 : (0 : Int) ≤ (m : Int) := by omega
            have gl7 : (m : Int) ≤ 100000 := by omega
            have hatm := hat.at_ m (by rw [ins_len l hm1 y]; omega)
            rw [ins_at l hml y, Nat.zero_add] at hatm
            obtain ⟨c1, c2, c3'⟩ := hat.at_ (m + 1) (by rw [ins_len l hm1 y]; omega)
            rw [Nat.zero_add] at c1 c2 c3'
            obtain ⟨z, hz⟩ : ∃ z, z = l[m]?.getD default := ⟨_, rfl⟩
            have hpos : posB x l (m + 1) = if befB x (l[m]?.getD default) then posB x l m else m + 1 := rfl
            rw [← hz] at hatm hpos
            have HZ := Lib.hid hz
            have HPP := Lib.hid hpos
            obtain ⟨q1, q2, q3⟩ := hatm
            have hbr := HBR.out z
            clear hO2 hat hpos hz
            have r1 := cell_regrown x1
            have r2 := cell_regrown x2
            have r3 := cell_regrown x3
            have s1 := cell_regrown q1
            have s2 := cell_regrown q2
            have s3 := cell_regrown q3
            have t1 := cell_regrown c1
            have t2 := cell_regrown c2
            have t3 := cell_regrown c3'
            have rf : ∀ d os o, (Sort.grow (redrawn wr d) os).frozen? ⟨g', o, none⟩ = false := fun d os o => ((below_regrown wr d os).frozen (p := ⟨g', o, none⟩) hglt).trans (hfree o)
            obtain ⟨za, zb, zc⟩ := z
            obtain ⟨xa, xb, xc⟩ := x
            unfold bv at hbr
            dsimp only at hbr x1 x2 x3 q1 q2 q3 r1 r2 r3 s1 s2 s3
            cases hbe : befB ⟨xa, xb, xc⟩ ⟨za, zb, zc⟩ with
            | false =>
              rw [hbe] at hbr
              have HC := Lib.hid hbr
              have HBE := Lib.hid hbe
              clear hbr hbe
              go_wp2
              refine wp_region_quiet_below (by kernel_rfl) (by kernel_rfl) ?_
              repeat (go_big_quiet_step (exact Calls.regrown_of (HC.out _)))
              refine wpQuiet_nil ?_
              intro _ hw'
              obtain ⟨⟨dq, osq⟩, hw''⟩ := hw'
              subst hw''
              go_wp2
              have hnew := (HO2.out.below (below_regrown wr dq osq) (Nat.le_refl _)).set3 (i := m + 1) (by rw [ins_len l hm1 y]; omega) ⟨xa, xb, xc⟩
              rw [ins_end l hm1 _ y] at hnew
              have hins : insB ⟨xa, xb, xc⟩ l = l.take (m + 1) ++ ⟨xa, xb, xc⟩ :: l.drop (m + 1) := by unfold insB; rw [HP.out, HPP.out, if_neg (by rw [HBE.out]; decide)]
              rw [← hins, ← HNX.out] at hnew
              have HN := Lib.hid hnew
              clear hnew hins
              go_roundw
              case rel => exact ⟨k + 1, by omega, by go_num, (((hB2.trans ((below_regrown wr dq osq).mono hz2)).setCell (p := ⟨g', (m + 1) * 3, none⟩) hgb _).setCell (p := ⟨g', (m + 1) * 3 + 1, none⟩) hgb _).setCell (p := ⟨g', (m + 1) * 3 + 2, none⟩) hgb _, HN.out, _, _, by rw [HLL.out]⟩
              case measure => simp [intOf]; omega
            | true =>
              rw [hbe] at hbr
              have HC := Lib.hid hbr
              have HBE := Lib.hid hbe
              clear hbr hbe
              go_wp2
              refine wp_region_quiet_below (by kernel_rfl) (by kernel_rfl) ?_
              repeat (go_big_quiet_step (exact Calls.regrown_of (HC.out _)))
              refine wpQuiet_nil ?_
              intro _ hw'
              obtain ⟨⟨dq, osq⟩, hw''⟩ := hw'
              subst hw''
              go_wp2
              have hnew := (HO2.out.below (below_regrown wr dq osq) (Nat.le_refl _)).set3 (i := m + 1) (by rw [ins_len l hm1 y]; omega) ⟨za, zb, zc⟩
              have hro := ins_round l hml y
              rw [← HZ.out] at hro
              rw [hro] at hnew
              have HN := Lib.hid hnew
              clear hnew hro
              go_roundw
              case rel => exact ⟨m, by omega, rfl, (((hB2.trans ((below_regrown wr dq osq).mono hz2)).setCell (p := ⟨g', (m + 1) * 3, none⟩) hgb _).setCell (p := ⟨g', (m + 1) * 3 + 1, none⟩) hgb _).setCell (p := ⟨g', (m + 1) * 3 + 2, none⟩) hgb _, ⟨⟨za, zb, zc⟩, HN.out⟩, Lib.hid (by rw [HP.out, HPP.out, if_pos HBE.out])⟩
              case measure => simp [intOf]
    · go_wp2
      go_ret
      have e : k = bs.length := by omega
      subst e
      rw [List.take_length] at hO
      exact ⟨_, rfl, hO, hB⟩
set_option maxRecDepth 100000 in
theorem l01Made_any (v : Int) (s : Value) (bs : List Blk) (w : World) (h : SX w s bs) (hl : bs.length ≤ 100000) :
    Calls Try.prog 104 #[.int .i64 v, s] w fun e w' => ∃ u, e = .returned (.agg #[.int .i64 v, u]) ∧ ResR w' w.heap.size w'.heap.size u (sortB bs) ∧ Below w.heap.size w w' := by
  have hs : ∃ a c, s = .slice a bs.length c := by rcases h with ⟨a0, c0, rfl, rfl⟩ | ⟨b, off, cap, rfl, _⟩ <;> exact ⟨_, _, rfl⟩
  have HS := Lib.hid (l01Sort_any s bs (w.alloc (.cells #[.int .i64 0, .slice none 0 0] 31)) (h.below ((Below.refl _ _).alloc (Nat.le_refl _) _) (Nat.le_refl _)) hl)
  clear h
  obtain ⟨a0, c0, rfl⟩ := hs
  go_enter Try.func104, Try.ntmps104
  go_wp2_with fail
  refine HS.out.mono ?_
  rintro e w1 ⟨u, rfl, ho, hb1⟩
  have hlt : w.heap.size < w1.heap.size := by have := hb1.size; simp at this; omega
  have hbw : Below w.heap.size w w1 := ((Below.refl _ _).alloc (Nat.le_refl _) _).trans (hb1.mono (by simp))
  have d0 := cell_new hb1 0 rfl
  have d1 := cell_new hb1 1 rfl
  have f0 : w1.frozen? ⟨w.heap.size, 0, none⟩ = false := (hb1.frozen (p := ⟨w.heap.size, 0, none⟩) (by simp)).trans (by simp [go_sem])
  have f1 : w1.frozen? ⟨w.heap.size, 1, none⟩ = false := (hb1.frozen (p := ⟨w.heap.size, 1, none⟩) (by simp)).trans (by simp [go_sem])
  have hr := ho.res
  have hbase : (w.alloc (.cells #[.int .i64 0, .slice none 0 0] 31)).heap.size = w.heap.size + 1 := by simp
  rw [hbase] at hr
  obtain ⟨a3, n3, hs3⟩ := hr.slice
  obtain ⟨m3, hm3⟩ : ∃ m, m = (sortB bs).length := ⟨_, rfl⟩
  rw [← hm3] at hs3
  clear hm3 ho hb1 hbase
  subst hs3
  go_wp2
  exact bodyPost_ret (v := .agg #[.int .i64 v, .slice a3 m3 n3]) (by simp [results, Try.results104, go_sem, *]) rfl ⟨_, rfl, (hr.kept (gb_set2 w1 w.heap.size (.int .i64 v) (.slice a3 m3 n3)) (fun r e => by cases e; exact .inl (by omega))).wide (by omega) (by simp [World.setCell]), below_set2 hbw (by omega) _ _⟩
end Go.Proofs.Ytacfelgilphppaa

namespace Go.Proofs.Ytacfelgilphppaa
open Go.RowKit Go.Maps
set_option maxRecDepth 100000 in
set_option maxHeartbeats 1000000 in
theorem l04Made_any (v : Int) (s : Value) (bs : List Blk) (t : Value) (cs : List Blk) (w : World) (h : SX w s bs) (k : SX w t cs) (hl : bs.length ≤ 100000) (hk : cs.length ≤ 100000) :
    Calls Try.prog 130 #[.int .i64 v, s, t] w fun e w' => ∃ u u', e = .returned (.agg #[.int .i64 v, u, u']) ∧ ResT w' w.heap.size w'.heap.size u (sortB bs) u' (sortB cs) ∧ Below w.heap.size w w' := by
  have hs : ∃ a c, s = .slice a bs.length c := by rcases h with ⟨a0, c0, rfl, rfl⟩ | ⟨b, off, cap, rfl, _⟩ <;> exact ⟨_, _, rfl⟩
  have ht : ∃ a c, t = .slice a cs.length c := by rcases k with ⟨a0, c0, rfl, rfl⟩ | ⟨b, off, cap, rfl, _⟩ <;> exact ⟨_, _, rfl⟩
  have HS := Lib.hid (l01Sort_any s bs (w.alloc (.cells #[.int .i64 0, .slice none 0 0, .slice none 0 0] 63)) (h.below ((Below.refl _ _).alloc (Nat.le_refl _) _) (Nat.le_refl _)) hl)
  have HT := Lib.hid fun W (hb : Below w.heap.size w W) => l01Sort_any t cs W (k.below hb (Nat.le_refl _)) hk
  clear h k
  obtain ⟨a0, c0, rfl⟩ := hs
  obtain ⟨a1, c1, rfl⟩ := ht
  go_enter Try.func130, Try.ntmps130
  go_wp2_with fail
  refine HS.out.mono ?_
  rintro e w1 ⟨u, rfl, ho, hb1⟩
  have hlt : w.heap.size < w1.heap.size := by have := hb1.size; simp at this; omega
  have hbw : Below w.heap.size w w1 := ((Below.refl _ _).alloc (Nat.le_refl _) _).trans (hb1.mono (by simp))
  have d0 := cell_new hb1 0 rfl
  have d1 := cell_new hb1 1 rfl
  have d2 := cell_new hb1 2 rfl
  have f0 : w1.frozen? ⟨w.heap.size, 0, none⟩ = false := (hb1.frozen (p := ⟨w.heap.size, 0, none⟩) (by simp)).trans (by simp [go_sem])
  have f1 : w1.frozen? ⟨w.heap.size, 1, none⟩ = false := (hb1.frozen (p := ⟨w.heap.size, 1, none⟩) (by simp)).trans (by simp [go_sem])
  have f2 : w1.frozen? ⟨w.heap.size, 2, none⟩ = false := (hb1.frozen (p := ⟨w.heap.size, 2, none⟩) (by simp)).trans (by simp [go_sem])
  have hr := ho.res
  have hbase : (w.alloc (.cells #[.int .i64 0, .slice none 0 0, .slice none 0 0] 63)).heap.size = w.heap.size + 1 := by simp
  rw [hbase] at hr
  have HR := Lib.hid hr
  have hf := ho.formS
  clear ho hb1 hbase hr
  obtain ⟨a3, n3, rfl⟩ := hf
  go_wp2_with fail
  refine (HT.out _ hbw).mono ?_
  rintro e w2 ⟨u', rfl, ho2, hb2⟩
  have e0 := (hb2.cell (p := ⟨w.heap.size, 0, none⟩) hlt).trans d0
  have e1 := (hb2.cell (p := ⟨w.heap.size, 1, none⟩) hlt).trans d1
  have e2 := (hb2.cell (p := ⟨w.heap.size, 2, none⟩) hlt).trans d2
  have g0 := (hb2.frozen (p := ⟨w.heap.size, 0, none⟩) hlt).trans f0
  have g1 := (hb2.frozen (p := ⟨w.heap.size, 1, none⟩) hlt).trans f1
  have g2 := (hb2.frozen (p := ⟨w.heap.size, 2, none⟩) hlt).trans f2
  have HX := Lib.hid (ResT.of (lo := w.heap.size + 1) (hi := w2.heap.size) (HR.out.below hb2 (Nat.le_refl _)) ho2.res (Nat.le_refl _) hb2.size hlt (Nat.le_refl _) (.inl (Nat.le_refl _)))
  have HB := Lib.hid (hbw.trans (hb2.mono hbw.size))
  have hf2 := ho2.formS
  obtain ⟨m3, hm3⟩ : ∃ m, m = (sortB bs).length := ⟨_, rfl⟩
  obtain ⟨m4, hm4⟩ : ∃ m, m = (sortB cs).length := ⟨_, rfl⟩
  obtain ⟨a4, n4, rfl⟩ := hf2
  rw [← hm3, ← hm4] at HX
  rw [← hm3, ← hm4]
  clear d0 d1 d2 f0 f1 f2 ho2 hb2 hbw hm3 hm4
  go_wp2
  exact bodyPost_ret (v := .agg #[.int .i64 v, .slice a3 m3 n3, .slice a4 m4 n4]) (by simp [results, Try.results130, go_sem, *]) rfl ⟨_, _, rfl, (HX.out.kept (set3_gb w2 w.heap.size (.int .i64 v) (.slice a3 m3 n3) (.slice a4 m4 n4)) (fun r e => by cases e; omega)).wide (by omega) (by simp [World.setCell]), HB.out.grown (set3_gb w2 w.heap.size (.int .i64 v) (.slice a3 m3 n3) (.slice a4 m4 n4)) HB.out.size (fun r e => by cases e; omega)⟩
theorem trd_parts {v : Int} {bo bi : List Blk} (h : trdB v bo bi = true) : isSysImpl v bo = true ∧ isSysImpl v bi = true ∧ samePr bo bi = true ∧ dsj bo bi = true := by
  simp only [trdB, Bool.and_eq_true] at h
  exact ⟨h.1.1, h.1.2, h.2.1, h.2.2⟩
set_option maxRecDepth 100000 in
set_option maxHeartbeats 1000000 in
theorem specInverseTrade_any (v : Int) (so : Value) (bo : List Blk) (si : Value) (bi : List Blk) (w : World) (h : TB w so bo si bi) : Calls Try.prog 70 #[.agg #[.int .i64 v, so, si]] w (RTrd (invF v bo bi) w) := by
  have hs := h.1.slice
  have ht := h.2.slice
  have HI := Lib.hid fun W (hb : Below w.heap.size w W) => l04Is_any v so bo si bi W (h.below hb (Nat.le_refl _))
  have HM := Lib.hid fun (l1 : bi.length ≤ 100000) (l2 : bo.length ≤ 100000) W (hb : Below w.heap.size w W) => l04Made_any v si bi so bo W (h.2.sx.below hb (Nat.le_refl _)) (h.1.sx.below hb (Nat.le_refl _)) l1 l2
  clear h
  obtain ⟨a, c, rfl⟩ := hs
  obtain ⟨a', c', rfl⟩ := ht
  have HB := Lib.hid (BoxR.new w v (.slice a bo.length c) (.slice a' bi.length c'))
  have HBW := Lib.hid (wRI_below w v (.slice a bo.length c) (.slice a' bi.length c'))
  unfold invF
  cases hi : trdB v bo bi with
  | false =>
    rw [hi] at HI
    rw [if_neg (by simp)]
    clear hi HM
    go_enter Try.func70, Try.ntmps70
    go_wp2_with fail
    refine (HI.out (wRI w v (.slice a bo.length c) (.slice a' bi.length c')) HBW.out).mono ?_
    rintro e w1 ⟨rfl, hb1⟩
    obtain ⟨_, _, _, _, y0, y1, y2, g0, g1, g2⟩ := HB.out.below hb1
    have hB1 := HBW.out.trans (hb1.mono HBW.out.size)
    clear hb1
    go_wp2
    exact bodyPost_ret (v := .tuple #[.agg #[.int .i64 0, .slice none 0 0, .slice none 0 0], .int .i64 1]) (by simp [results, Try.results70, go_sem, *]) rfl (RTrd.no hB1 1 _ _ _)
  | true =>
    rw [hi] at HI
    rw [if_pos rfl]
    obtain ⟨p1, p2, _, _⟩ := trd_parts hi
    have q1 := sys_strict p1
    have q2 := sys_strict p2
    have HM2 := Lib.hid (HM.out (by have := (sys_size p2).2.2; omega) (by have := (sys_size p1).2.2; omega))
    rw [sortB_strict q1, sortB_strict q2] at HM2
    clear hi HM p1 p2 q1 q2
    go_enter Try.func70, Try.ntmps70
    go_wp2_with fail
    refine (HI.out (wRI w v (.slice a bo.length c) (.slice a' bi.length c')) HBW.out).mono ?_
    rintro e w1 ⟨rfl, hb1⟩
    have hbx := HB.out.below hb1
    have hB1 := HBW.out.trans (hb1.mono HBW.out.size)
    have HBX := Lib.hid hbx
    have HB1 := Lib.hid hB1
    obtain ⟨hlt, x0, x1, x2, _, _, _, _, _, _⟩ := hbx
    clear hb1 hB1
    go_wp2_with fail
    refine (HM2.out _ HB1.out).mono ?_
    rintro e w2 ⟨u, u', rfl, hr2, hb2⟩
    obtain ⟨_, _, _, _, y0, y1, y2, g0, g1, g2⟩ := HBX.out.below hb2
    have hB2 := HB1.out.trans (hb2.mono HB1.out.size)
    obtain ⟨⟨a5, c5, rfl⟩, ⟨a6, c6, rfl⟩⟩ := hr2.slice
    have HR := Lib.hid hr2
    clear hb2 hr2 x0 x1 x2
    go_wp2
    exact bodyPost_ret (v := .tuple #[.agg #[.int .i64 v, .slice a5 bi.length c5, .slice a6 bo.length c6], .int .i64 0]) (by simp [results, Try.results70, go_sem, *]) rfl (RTrd.of hB2 HR.out (by omega) rfl rfl _ _ _)
theorem invF_len (v : Int) (bo bi : List Blk) : (invF v bo bi).2.1.1.length + (invF v bo bi).2.1.2.length ≤ bo.length + bi.length := by
  unfold invF
  split <;> simp <;> omega
theorem invF_wfo (v : Int) {bo bi : List Blk} (h : ∀ x ∈ bi, WFB x) : ∀ x ∈ (invF v bo bi).2.1.1, WFB x := by
  unfold invF
  split
  · exact h
  · simp
theorem invF_wfi (v : Int) {bo bi : List Blk} (h : ∀ x ∈ bo, WFB x) : ∀ x ∈ (invF v bo bi).2.1.2, WFB x := by
  unfold invF
  split
  · exact h
  · simp
end Go.Proofs.Ytacfelgilphppaa

namespace Go.Proofs.Ytacfelgilphppaa
open Go.ChangeShapes Go.WideShapes Go.ChangeAt Go.RowKit Go.Deep Go.Joins
theorem ownKnobs : ownKnob Try.prog.godebug = none := by kernel_rfl
section
variable {H : Type} {enc : TypeId × Value → H} {W : World} {base : Nat} {held : Bool}
theorem arrCells : Try.prog.cellsOf 92 = 3 := by kernel_rfl
set_option maxRecDepth 100000 in
theorem open_arr3 {fuel : Nat} {cs : List Value} {x : DataW H × List MemPlace} (h : DataW.trod enc Try.prog W base (fun _ => true) held fuel 92 cs = some x) :
    ∃ a b c : Int, cs = [.int .i64 a, .int .i64 b, .int .i64 c] ∧ (Lit.int .i64 a).wf = true ∧ (Lit.int .i64 b).wf = true ∧ (Lit.int .i64 c).wf = true := by
  obtain ⟨xs, m, rfl, rfl, hl, hx, hat⟩ := DataW.trod_array Try.underlying92 h
  rw [arrCells] at hl
  match cs, hl with
  | [c0, c1, c2], _ =>
    match xs, hx with
    | [x0, x1, x2], _ =>
      have h0 := hat 0 (by omega)
      have h1 := hat 1 (by omega)
      have h2 := hat 2 (by omega)
      rw [int64Cells] at h0 h1 h2
      simp at h0 h1 h2
      obtain ⟨a, ha, _, wa⟩ := DataW.trod_int Try.underlying2 h0
      obtain ⟨b, hb, _, wb⟩ := DataW.trod_int Try.underlying2 h1
      obtain ⟨c, hc, _, wc⟩ := DataW.trod_int Try.underlying2 h2
      simp at ha hb hc
      exact ⟨a, b, c, by rw [ha, hb, hc], wa, wb, wc⟩
theorem add_at (b off i : Nat) : (⟨b, off, none⟩ : Addr).add i = ⟨b, off + i, none⟩ := by
  unfold Addr.add
  split
  · subst_vars; rfl
  · rfl
set_option maxRecDepth 100000 in
theorem open_arrs {fuel : Nat} {s : Value} {x : DataW H × List MemPlace} (h : DataW.trod enc Try.prog W base (fun _ => true) held fuel 22 [s] = some x) : ∃ bs, InB W s bs := by
  rcases open_slice Try.underlying22 h with ⟨hcs, _⟩ | ⟨a, len, cap, m, n, D, Pl, hcs, hb, hl, hm, hmm, hx, hi⟩
  · simp at hcs
    exact ⟨[], by simp, by simp, .inl ⟨none, 0, hcs, rfl⟩⟩
  · simp at hcs
    subst hcs
    simp at hmm
    subst hmm
    have hm' : m ≤ 9223372036854775807 := by unfold maxLen at hm; exact hm
    by_cases h0 : len = 0
    · subst h0
      exact ⟨[], by simp, by simp, .inl ⟨_, _, rfl, rfl⟩⟩
    · have cell : ∀ i, i < m → ∃ y : Blk, WFB y ∧ ∀ j (v : Value), [Value.int .i64 y.a, Value.int .i64 y.b, Value.int .i64 y.c][j]? = some v → W.cell? (a.add (i * 3 + j)) = some v := fun i him => by
        obtain ⟨cs', hc, ht⟩ := hi i him
        obtain ⟨p, q, r, rfl, wp, wq, wr⟩ := open_arr3 ht
        rw [arrCells] at hc
        obtain ⟨_, _, hat⟩ := World.cells?_some hc
        refine ⟨⟨p, q, r⟩, ⟨wp, wq, wr⟩, fun j v hv => ?_⟩
        have hj : j < 3 := by
          have := (List.getElem?_eq_some_iff.1 hv).1
          simpa using this
        rw [← Go.Deep.add_add, hat j hj]
        exact hv
      obtain ⟨F, hF⟩ := choose_lt (α := Blk) cell
      obtain ⟨b, off, spot⟩ := a
      have hc0 := (hF 0 (by omega)).2 0 _ rfl
      have hspot : spot = none := by simpa [Addr.add] using World.cell?_spot hc0
      subst hspot
      refine ⟨(List.range len).map F, ?_, by simp; omega, .inr ⟨b, off, m, by simp, ?_, ?_⟩⟩
      · intro y hy
        obtain ⟨i, hi', rfl⟩ := List.mem_map.1 hy
        exact (hF i (by have := List.mem_range.1 hi'; omega)).1
      · exact block_lt_of_cell hc0
      · intro k hk
        simp at hk
        have e : ((List.range len).map F)[k]?.getD default = F k := by simp [hk]
        rw [e]
        have := (hF k (by omega)).2
        refine ⟨?_, ?_, ?_⟩
        · have h0 := this 0 _ rfl
          rw [add_at] at h0
          exact h0
        · have h1 := this 1 _ rfl
          rw [add_at, ← Nat.add_assoc] at h1
          exact h1
        · have h2 := this 2 _ rfl
          rw [add_at, ← Nat.add_assoc] at h2
          exact h2
theorem isSys : ∃ f0 f1 : Field, Try.prog.underlying 24 = some (.struct #[f0, f1]) ∧ f0.type = 2 ∧ f1.type = 22 ∧ oneCellFields Try.prog #[f0, f1] = true :=
  ⟨_, _, Try.underlying24, rfl, rfl, by kernel_rfl⟩
theorem sysCells : Try.prog.cellsOf 24 = 2 := by kernel_rfl
set_option maxRecDepth 100000 in
theorem open_system {r : Reach} {b0 : Nat} {v : Value} {d : DataW H} {p : List MemPlace} (hv : Value.okWide Try.prog W r b0 24 v) (h : DataW.Trod enc Try.prog W base (fun _ => true) held 24 v d p) :
    ∃ (n : Int) (s : Value) (bs : List Blk), v = .agg #[.int .i64 n, s] ∧ WF n ∧ InB W s bs := by
  obtain ⟨f0, f1, hu, e0, e1, hone⟩ := isSys
  obtain ⟨v0, v1, y0, y1, n, rfl, _, _, h0, h1⟩ := open_agg2 hu hone sysCells hv h
  rw [e0] at h0
  rw [e1] at h1
  obtain ⟨k, hk, _, wk⟩ := DataW.trod_int Try.underlying2 h0
  simp at hk
  subst hk
  obtain ⟨bs, hbs⟩ := open_arrs h1
  exact ⟨k, v1, bs, rfl, wk, hbs⟩
end
end Go.Proofs.Ytacfelgilphppaa

namespace Go.Proofs.Ytacfelgilphppaa
open Go.ChangeShapes Go.WideShapes Go.ChangeAt Go.RowKit Go.Deep Go.Joins
/-- The value is a slice of just these integers, however many. -/
def InZ (w : World) (s : Value) (zs : List Int) : Prop :=
  (∀ z ∈ zs, WF z) ∧ zs.length ≤ 9223372036854775807 ∧ ((∃ a c, s = .slice a 0 c ∧ zs = []) ∨ ∃ b off cap, s = .slice (some ⟨b, off, none⟩) zs.length cap ∧ b < w.heap.size ∧ Ints w b off zs)
theorem InZ.slice {w : World} {s : Value} {zs : List Int} (h : InZ w s zs) : ∃ a c, s = .slice a zs.length c := by
  rcases h.2.2 with ⟨a, c, rfl, rfl⟩ | ⟨b, off, cap, rfl, _⟩ <;> exact ⟨_, _, rfl⟩
theorem InZ.ib {w : World} {s : Value} {zs : List Int} (h : InZ w s zs) (hl : zs.length ≤ 1048576) : IB w s zs := ⟨by omega, h.2.2⟩
/-- The value is a slice of just these rows, however many. -/
def InSS (w : World) (s : Value) (n : Nat) (F : Nat → List Int) : Prop :=
  n ≤ 9223372036854775807 ∧ ((n = 0 ∧ ∃ a c, s = .slice a 0 c) ∨ ∃ b off cap, s = .slice (some ⟨b, off, none⟩) n cap ∧ b < w.heap.size ∧ ∀ k, k < n → ∃ u, w.cell? ⟨b, off + k, none⟩ = some u ∧ InZ w u (F k))
theorem okWide_array {P : Program} {w : World} {r : Reach} {base : Nat} {t : TypeId} {v : Value} {n : Nat} {e : TypeId} (ht : P.underlying t = some (.array n e)) (h : Value.okWide P w r base t v) : ∃ cs, v = .agg cs ∧ cs.size = P.cellsOf t := by
  simp only [Value.okWide, ht] at h
  obtain ⟨cs, h1, h2, _⟩ := h
  exact ⟨cs, h1, h2⟩
section
variable {H : Type} {enc : TypeId × Value → H} {W : World} {base : Nat} {held : Bool}
set_option maxRecDepth 100000 in
theorem open_zs {fuel : Nat} {s : Value} {x : DataW H × List MemPlace} (h : DataW.trod enc Try.prog W base (fun _ => true) held fuel 26 [s] = some x) : ∃ zs, InZ W s zs := by
  rcases open_slice1 Try.underlying26 int64Cells h with ⟨hcs, _⟩ | ⟨a, len, cap, m, n, V, D, Pl, hcs, hb, hl, hm, hmm, hx, hi⟩
  · simp at hcs
    exact ⟨[], by simp, by simp, .inl ⟨none, 0, hcs, rfl⟩⟩
  · simp at hcs
    subst hcs
    simp at hmm
    subst hmm
    have hm' : m ≤ 9223372036854775807 := by unfold maxLen at hm; exact hm
    by_cases h0 : len = 0
    · subst h0
      exact ⟨[], by simp, by simp, .inl ⟨_, _, rfl, rfl⟩⟩
    · have cell : ∀ i, i < m → ∃ y : Int, WF y ∧ W.cell? (a.add i) = some (.int .i64 y) := fun i him => by
        obtain ⟨hc, ht⟩ := hi i him
        obtain ⟨k, hk, _, wk⟩ := DataW.trod_int Try.underlying2 ht
        simp at hk
        exact ⟨k, wk, by rw [hc, hk]⟩
      obtain ⟨F, hF⟩ := choose_lt (α := Int) cell
      obtain ⟨b, off, spot⟩ := a
      have hc0 := (hF 0 (by omega)).2
      have hspot : spot = none := by simpa [Addr.add] using World.cell?_spot hc0
      subst hspot
      refine ⟨(List.range len).map F, ?_, by simp; omega, .inr ⟨b, off, m, by simp, ?_, ?_⟩⟩
      · intro y hy
        obtain ⟨i, hi', rfl⟩ := List.mem_map.1 hy
        exact (hF i (by have := List.mem_range.1 hi'; omega)).1
      · exact block_lt_of_cell hc0
      · intro k hk
        simp at hk
        have e : ((List.range len).map F)[k]?.getD 0 = F k := by simp [hk]
        rw [e]
        have h1 := (hF k (by omega)).2
        rw [add_at] at h1
        exact h1
set_option maxRecDepth 100000 in
theorem open_ints64 {r : Reach} {b0 : Nat} {v : Value} {d : DataW H} {p : List MemPlace} (hv : Value.okWide Try.prog W r b0 26 v) (h : DataW.Trod enc Try.prog W base (fun _ => true) held 26 v d p) : ∃ zs, InZ W v zs := by
  obtain ⟨a, len, cap, rfl⟩ := okWide_slice Try.underlying26 hv
  obtain ⟨fuel, hf⟩ := h
  exact open_zs hf
set_option maxRecDepth 100000 in
theorem open_blocks {r : Reach} {b0 : Nat} {v : Value} {d : DataW H} {p : List MemPlace} (hv : Value.okWide Try.prog W r b0 22 v) (h : DataW.Trod enc Try.prog W base (fun _ => true) held 22 v d p) : ∃ bs, InB W v bs := by
  obtain ⟨a, len, cap, rfl⟩ := okWide_slice Try.underlying22 hv
  obtain ⟨fuel, hf⟩ := h
  exact open_arrs hf
theorem sliceCells : Try.prog.cellsOf 26 = 1 := by kernel_rfl
set_option maxRecDepth 100000 in
theorem open_rows {r : Reach} {b0 : Nat} {v : Value} {d : DataW H} {p : List MemPlace} (hv : Value.okWide Try.prog W r b0 43 v) (h : DataW.Trod enc Try.prog W base (fun _ => true) held 43 v d p) : ∃ n F, InSS W v n F := by
  obtain ⟨A0, L0, C0, rfl⟩ := okWide_slice Try.underlying43 hv
  obtain ⟨fuel, hf⟩ := h
  have hf' : DataW.trod enc Try.prog W base (fun _ => true) held fuel 43 [.slice A0 L0 C0] = some (d, p) := hf
  rcases open_slice1 Try.underlying43 sliceCells hf' with ⟨hcs, _⟩ | ⟨a, len, cap, m, n, V, D, Pl, hcs, hb, hl, hm, hmm, hx, hi⟩
  · simp at hcs
    obtain ⟨rfl, rfl, rfl⟩ := hcs
    exact ⟨0, fun _ => [], by omega, .inl ⟨rfl, _, _, rfl⟩⟩
  · simp at hcs
    obtain ⟨e1, e2, e3⟩ := hcs
    subst e1
    subst e2
    subst e3
    simp at hmm
    subst hmm
    have hm' : m ≤ 9223372036854775807 := by unfold maxLen at hm; exact hm
    by_cases h0 : L0 = 0
    · subst h0
      exact ⟨0, fun _ => [], by omega, .inl ⟨rfl, _, _, rfl⟩⟩
    · have cell : ∀ i, i < m → ∃ y : List Int, ∃ u, W.cell? (a.add i) = some u ∧ InZ W u y := fun i him => by
        obtain ⟨hc, ht⟩ := hi i him
        obtain ⟨zs, hz⟩ := open_zs ht
        exact ⟨zs, _, hc, hz⟩
      obtain ⟨F, hF⟩ := choose_lt (α := List Int) cell
      obtain ⟨b, off, spot⟩ := a
      obtain ⟨u0, hc0, _⟩ := hF 0 (by omega)
      have hspot : spot = none := by simpa [Addr.add] using World.cell?_spot hc0
      subst hspot
      refine ⟨L0, F, by omega, .inr ⟨b, off, m, rfl, block_lt_of_cell hc0, fun k hk => ?_⟩⟩
      obtain ⟨u, h1, h2⟩ := hF k (by omega)
      rw [add_at] at h1
      exact ⟨u, h1, h2⟩
set_option maxRecDepth 100000 in
theorem open_blk {r : Reach} {b0 : Nat} {v : Value} {d : DataW H} {p : List MemPlace} (hv : Value.okWide Try.prog W r b0 92 v) (h : DataW.Trod enc Try.prog W base (fun _ => true) held 92 v d p) : ∃ x, v = bv x ∧ WFB x := by
  obtain ⟨cs, rfl, hsz⟩ := okWide_array Try.underlying92 hv
  obtain ⟨fuel, hf⟩ := h
  obtain ⟨a, b, c, e, wa, wb, wc⟩ := open_arr3 hf
  have : cs.toList = [.int .i64 a, .int .i64 b, .int .i64 c] := e
  refine ⟨⟨a, b, c⟩, ?_, wa, wb, wc⟩
  unfold bv
  rw [← this]
end
end Go.Proofs.Ytacfelgilphppaa

namespace Go.Proofs.Ytacfelgilphppaa
open Go.ChangeShapes Go.WideShapes Go.ChangeAt Go.RowKit Go.Deep Go.Joins
section
variable {H : Type} {enc : TypeId × Value → H} {W : World} {base : Nat} {held : Bool}
theorem isTrd : ∃ f0 f1 f2 : Field, Try.prog.underlying 59 = some (.struct #[f0, f1, f2]) ∧ f0.type = 2 ∧ f1.type = 22 ∧ f2.type = 22 ∧ oneCellFields Try.prog #[f0, f1, f2] = true :=
  ⟨_, _, _, Try.underlying59, rfl, rfl, rfl, by kernel_rfl⟩
theorem trdCells : Try.prog.cellsOf 59 = 3 := by kernel_rfl
set_option maxRecDepth 100000 in
theorem open_trade {r : Reach} {b0 : Nat} {v : Value} {d : DataW H} {p : List MemPlace} (hv : Value.okWide Try.prog W r b0 59 v) (h : DataW.Trod enc Try.prog W base (fun _ => true) held 59 v d p) :
    ∃ (n : Int) (so : Value) (bo : List Blk) (si : Value) (bi : List Blk), v = .agg #[.int .i64 n, so, si] ∧ InT W so bo si bi := by
  obtain ⟨f0, f1, f2, hu, e0, e1, e2, hone⟩ := isTrd
  obtain ⟨v0, v1, v2, y0, y1, y2, n, rfl, _, _, h0, h1, h2⟩ := open_agg3 hu hone trdCells hv h
  rw [e0] at h0
  rw [e1] at h1
  rw [e2] at h2
  obtain ⟨k, hk, _, wk⟩ := DataW.trod_int Try.underlying2 h0
  simp at hk
  subst hk
  obtain ⟨bo, hbo⟩ := open_arrs h1
  obtain ⟨bi, hbi⟩ := open_arrs h2
  exact ⟨k, v1, bo, v2, bi, rfl, hbo, hbi⟩
end
end Go.Proofs.Ytacfelgilphppaa

namespace Go.Proofs.Ytacfelgilphppaa
open Go.RowKit Go.Maps
set_option maxRecDepth 100000 in
theorem szTrade_any (v : Int) (so si : Value) (no ni : Nat) (hso : ∃ a c, so = .slice a no c) (hsi : ∃ a c, si = .slice a ni c) (hno : (no : Int) ≤ 9223372036854775807) (hni : (ni : Int) ≤ 9223372036854775807) (left : Int) (h0 : 0 ≤ left) (h1 : left ≤ 1048576) (w : World) :
    Calls Try.prog 62 #[.agg #[.int .i64 v, so, si], .int .i64 left] w (RV (.int .i64 (if left - ((no + ni : Nat) : Int) < 0 then -1 else left - ((no + ni : Nat) : Int))) w) := by
  obtain ⟨a, c, rfl⟩ := hso
  obtain ⟨a', c', rfl⟩ := hsi
  have hc := szBlockS_any (.slice a no c) no ⟨a, c, rfl⟩ hno left h0 h1
  by_cases h : left - no < 0
  · rw [if_pos h] at hc
    rw [if_pos (by omega)]
    have HC := Lib.hid hc
    clear hc h
    go_enter Try.func62, Try.ntmps62
    go_wp2_with (go_at_call 90; refine (HC.out _).mono ?_; rintro e w1 ⟨rfl, rfl⟩)
    go_ret
    exact RV_of rfl ((Below.refl _ _).alloc (Nat.le_refl _) _)
  · rw [if_neg h] at hc
    have hd := szBlockS_any (.slice a' ni c') ni ⟨a', c', rfl⟩ hni (left - no) (by omega) (by omega)
    by_cases k : left - no - ni < 0
    · rw [if_pos k] at hd
      rw [if_pos (by omega)]
      obtain ⟨m, hm⟩ : ∃ m, m = left - (no : Int) := ⟨_, rfl⟩
      rw [← hm] at hc hd
      have hm0 : 0 ≤ m := by omega
      have HC := Lib.hid hc
      have HD := Lib.hid hd
      clear hc hd h k hm
      go_enter Try.func62, Try.ntmps62
      go_wp2_with fail
      refine (HC.out _).mono ?_
      rintro e w1 ⟨rfl, rfl⟩
      go_wp2_with fail
      refine (HD.out _).mono ?_
      rintro e w1 ⟨rfl, rfl⟩
      go_wp2
      go_ret
      exact RV_of rfl ((Below.refl _ _).alloc (Nat.le_refl _) _)
    · rw [if_neg k] at hd
      rw [if_neg (by omega)]
      obtain ⟨n, hn⟩ : ∃ n, n = left - (no : Int) - (ni : Int) := ⟨_, rfl⟩
      rw [← hn] at hd
      rw [show left - ((no + ni : Nat) : Int) = n by omega]
      obtain ⟨m, hm⟩ : ∃ m, m = left - (no : Int) := ⟨_, rfl⟩
      rw [← hm] at hc hd
      have hm0 : 0 ≤ m := by omega
      have hn0 : 0 ≤ n := by omega
      have HC := Lib.hid hc
      have HD := Lib.hid hd
      clear hc hd h k hm hn
      go_enter Try.func62, Try.ntmps62
      go_wp2_with fail
      refine (HC.out _).mono ?_
      rintro e w1 ⟨rfl, rfl⟩
      go_wp2_with fail
      refine (HD.out _).mono ?_
      rintro e w1 ⟨rfl, rfl⟩
      go_wp2
      go_ret
      exact RV_of rfl ((Below.refl _ _).alloc (Nat.le_refl _) _)
theorem OwnB.grown1 {w w' : World} {lo g cap : Nat} {bs : List Blk} (h : OwnB w lo (.slice (some ⟨g, 0, none⟩) bs.length cap) bs) {row : Option Nat} (hg : w.grownBy w' row) (hr : ∀ r, row = some r → r < g) : OwnB w' lo (.slice (some ⟨g, 0, none⟩) bs.length cap) bs := by
  obtain ⟨g', cap', e, h1, h2, h3, h4, h5⟩ := h
  simp at e
  obtain ⟨rfl, rfl⟩ := e
  have hb := hg.block g h2 (fun e => by have := hr g e.symm; omega)
  refine ⟨g, cap, rfl, h1, Nat.lt_of_lt_of_le h2 hg.size, fun k hk => ?_, fun o => ?_, h5⟩
  · obtain ⟨p1, p2, p3⟩ := h3 k hk
    exact ⟨(World.cell?_of_block (w := w) (a := ⟨g, _, none⟩) hb).trans p1, (World.cell?_of_block (w := w) (a := ⟨g, _, none⟩) hb).trans p2, (World.cell?_of_block (w := w) (a := ⟨g, _, none⟩) hb).trans p3⟩
  · exact (World.frozen?_of_block (w := w) (a := ⟨g, o, none⟩) hb).trans (h4 o)
set_option maxRecDepth 100000 in
set_option maxHeartbeats 1000000 in
theorem toTrade_any (v : Int) (so : Value) (bo : List Blk) (si : Value) (bi : List Blk) (w : World) (h : TB w so bo si bi) : Calls Try.prog 64 #[.agg #[.int .i64 v, so, si]] w
    (fun e w' => ∃ tq ti, e = .returned (.agg #[.int .i64 v, tq, ti]) ∧ OwnT w' w.heap.size tq bo ti bi ∧ Below w.heap.size w w') := by
  have hs := h.1.slice
  have ht := h.2.slice
  have H1 := Lib.hid h.1
  have H2 := Lib.hid h.2
  clear h
  obtain ⟨a, c, rfl⟩ := hs
  obtain ⟨a', c', rfl⟩ := ht
  go_enter Try.func64, Try.ntmps64
  go_wp2_with fail
  refine (toBlockS_any _ bo _ (H1.out.below (B := w.heap.size) (by repeat (first | exact Below.refl _ _ | refine Below.setCell ?_ (by simp) _ | refine Below.alloc ?_ (by first | exact Nat.le_refl _ | simp; try omega) _)) (Nat.le_refl _))).mono ?_
  rintro e w1 ⟨s1, rfl, ho, hb1⟩
  obtain ⟨g, cap, rfl, ho1, hlt1⟩ : ∃ g cap, s1 = .slice (some ⟨g, 0, none⟩) bo.length cap ∧ w.heap.size + 1 + 1 + 1 ≤ g ∧ g < w1.heap.size := by
    obtain ⟨g, cap, e, p1, p2, _⟩ := id ho
    simp only [World.size_alloc] at p1
    exact ⟨g, cap, e, p1, p2⟩
  have HO1 := Lib.hid (ho.mono (lo' := w.heap.size) (by simp; omega))
  have hbw : Below w.heap.size w w1 := Below.trans (by repeat (first | exact Below.refl _ _ | refine Below.setCell ?_ (by simp) _ | refine Below.alloc ?_ (by first | exact Nat.le_refl _ | simp; try omega) _)) (hb1.mono (by simp; omega))
  have x2 : w1.cell? ⟨w.heap.size, 2, none⟩ = some (.slice a' bi.length c') := (hb1.cell (p := ⟨w.heap.size, 2, none⟩) (by simp <;> omega)).trans (by simp [go_sem])
  have c10 : w1.cell? ⟨w.heap.size + 1, 0, none⟩ = some (.int .i64 0) := (hb1.cell (p := ⟨w.heap.size + 1, 0, none⟩) (by simp <;> omega)).trans (by simp [go_sem])
  have c11 : w1.cell? ⟨w.heap.size + 1, 1, none⟩ = some (.slice none 0 0) := (hb1.cell (p := ⟨w.heap.size + 1, 1, none⟩) (by simp <;> omega)).trans (by simp [go_sem])
  have c12 : w1.cell? ⟨w.heap.size + 1, 2, none⟩ = some (.slice none 0 0) := (hb1.cell (p := ⟨w.heap.size + 1, 2, none⟩) (by simp <;> omega)).trans (by simp [go_sem])
  have c20 : w1.cell? ⟨w.heap.size + 1 + 1, 0, none⟩ = some (.int .i64 v) := (hb1.cell (p := ⟨w.heap.size + 1 + 1, 0, none⟩) (by simp)).trans (by simp [go_sem])
  have c21 : w1.cell? ⟨w.heap.size + 1 + 1, 1, none⟩ = some (.slice none 0 0) := (hb1.cell (p := ⟨w.heap.size + 1 + 1, 1, none⟩) (by simp)).trans (by simp [go_sem])
  have c22 : w1.cell? ⟨w.heap.size + 1 + 1, 2, none⟩ = some (.slice none 0 0) := (hb1.cell (p := ⟨w.heap.size + 1 + 1, 2, none⟩) (by simp)).trans (by simp [go_sem])
  have f10 : w1.frozen? ⟨w.heap.size + 1, 0, none⟩ = false := (hb1.frozen (p := ⟨w.heap.size + 1, 0, none⟩) (by simp <;> omega)).trans (by simp [go_sem])
  have f11 : w1.frozen? ⟨w.heap.size + 1, 1, none⟩ = false := (hb1.frozen (p := ⟨w.heap.size + 1, 1, none⟩) (by simp <;> omega)).trans (by simp [go_sem])
  have f12 : w1.frozen? ⟨w.heap.size + 1, 2, none⟩ = false := (hb1.frozen (p := ⟨w.heap.size + 1, 2, none⟩) (by simp <;> omega)).trans (by simp [go_sem])
  have f21 : w1.frozen? ⟨w.heap.size + 1 + 1, 1, none⟩ = false := (hb1.frozen (p := ⟨w.heap.size + 1 + 1, 1, none⟩) (by simp)).trans (by simp [go_sem])
  have f22 : w1.frozen? ⟨w.heap.size + 1 + 1, 2, none⟩ = false := (hb1.frozen (p := ⟨w.heap.size + 1 + 1, 2, none⟩) (by simp)).trans (by simp [go_sem])
  clear hb1 ho
  go_wp2_with fail
  have hgs : w1.grownBy (w1.setCell ⟨w.heap.size + 1 + 1, 1, none⟩ (.slice (some ⟨g, 0, none⟩) bo.length cap)) (some (w.heap.size + 1 + 1)) := only_setCell (only_refl w1 (some (w.heap.size + 1 + 1))) rfl _
  have hbs : Below w.heap.size w (w1.setCell ⟨w.heap.size + 1 + 1, 1, none⟩ (.slice (some ⟨g, 0, none⟩) bo.length cap)) := hbw.setCell (by simp; omega) _
  have HO1' := Lib.hid (HO1.out.grown1 hgs (fun r e => by cases e; omega))
  have oth : ∀ (b o : Nat), (b ≠ w.heap.size + 1 + 1 ∨ o ≠ 1) → (w1.setCell ⟨w.heap.size + 1 + 1, 1, none⟩ (.slice (some ⟨g, 0, none⟩) bo.length cap)).cell? ⟨b, o, none⟩ = w1.cell? ⟨b, o, none⟩ := fun b o hne =>
    World.cell?_setCell_other w1 _ _ _ (by intro e; simp only [Addr.mk.injEq] at e; omega)
  have d10 := (oth (w.heap.size + 1) 0 (by omega)).trans c10
  have d11 := (oth (w.heap.size + 1) 1 (by omega)).trans c11
  have d12 := (oth (w.heap.size + 1) 2 (by omega)).trans c12
  have d20 := (oth (w.heap.size + 1 + 1) 0 (by omega)).trans c20
  have d21 : (w1.setCell ⟨w.heap.size + 1 + 1, 1, none⟩ (.slice (some ⟨g, 0, none⟩) bo.length cap)).cell? ⟨w.heap.size + 1 + 1, 1, none⟩ = some (.slice (some ⟨g, 0, none⟩) bo.length cap) := World.cell?_setCell_same _ _ _ c21
  have d22 := (oth (w.heap.size + 1 + 1) 2 (by omega)).trans c22
  have fz : ∀ (b o : Nat), (w1.setCell ⟨w.heap.size + 1 + 1, 1, none⟩ (.slice (some ⟨g, 0, none⟩) bo.length cap)).frozen? ⟨b, o, none⟩ = w1.frozen? ⟨b, o, none⟩ := fun b o => World.frozen?_setCell _ _ _ _
  have e10 := (fz (w.heap.size + 1) 0).trans f10
  have e11 := (fz (w.heap.size + 1) 1).trans f11
  have e12 := (fz (w.heap.size + 1) 2).trans f12
  have e22 := (fz (w.heap.size + 1 + 1) 2).trans f22
  have hz2 : (w1.setCell ⟨w.heap.size + 1 + 1, 1, none⟩ (.slice (some ⟨g, 0, none⟩) bo.length cap)).heap.size = w1.heap.size := by simp
  obtain ⟨w2, hw2⟩ : ∃ w2, w1.setCell ⟨w.heap.size + 1 + 1, 1, none⟩ (.slice (some ⟨g, 0, none⟩) bo.length cap) = w2 := ⟨_, rfl⟩
  rw [hw2] at hbs HO1' d10 d11 d12 d20 d21 d22 e10 e11 e12 e22 hz2 ⊢
  clear hgs oth fz hw2 c10 c11 c12 c20 c21 c22 f10 f11 f12 f21 f22 x2 hbw HO1
  have hp : w.heap.size + 1 + 1 < w2.heap.size := by omega
  refine (toBlockS_any _ bi _ (H2.out.below hbs (Nat.le_refl _))).mono ?_
  rintro e w3 ⟨s3, rfl, ho3, hb3⟩
  obtain ⟨g', cap', rfl, ho3', hlt3⟩ : ∃ g' cap', s3 = .slice (some ⟨g', 0, none⟩) bi.length cap' ∧ w2.heap.size ≤ g' ∧ g' < w3.heap.size := by
    obtain ⟨g', cap', e, p1, p2, _⟩ := id ho3
    exact ⟨g', cap', e, p1, p2⟩
  have HO3 := Lib.hid (ho3.mono (lo' := w.heap.size) (by omega))
  have HO1 := Lib.hid (HO1'.out.below hb3 (Nat.le_refl _))
  have cel : ∀ (b o : Nat) (u : Value), w2.cell? ⟨b, o, none⟩ = some u → b < w2.heap.size → w3.cell? ⟨b, o, none⟩ = some u := fun b o u hu hb => (hb3.cell (p := ⟨b, o, none⟩) hb).trans hu
  have frz : ∀ (b o : Nat), w2.frozen? ⟨b, o, none⟩ = false → b < w2.heap.size → w3.frozen? ⟨b, o, none⟩ = false := fun b o hu hb => (hb3.frozen (p := ⟨b, o, none⟩) hb).trans hu
  have c10 := cel _ _ _ d10 (by omega)
  have c11 := cel _ _ _ d11 (by omega)
  have c12 := cel _ _ _ d12 (by omega)
  have c20 := cel _ _ _ d20 (by omega)
  have c21 := cel _ _ _ d21 (by omega)
  have c22 := cel _ _ _ d22 (by omega)
  have f10 := frz _ _ e10 (by omega)
  have f11 := frz _ _ e11 (by omega)
  have f12 := frz _ _ e12 (by omega)
  have f22 := frz _ _ e22 (by omega)
  have hbw := hbs.trans (hb3.mono hbs.size)
  have hz3 := hb3.size
  clear cel frz d10 d11 d12 d20 d21 d22 e10 e11 e12 e22 hb3 ho3 hbs HO1' H1 H2
  have HF := Lib.hid (show OwnT ((((w3.setCell ⟨w.heap.size + 1 + 1, 2, none⟩ (.slice (some ⟨g', 0, none⟩) bi.length cap')).setCell ⟨w.heap.size + 1, 0, none⟩ (.int .i64 v)).setCell ⟨w.heap.size + 1, 1, none⟩ (.slice (some ⟨g, 0, none⟩) bo.length cap)).setCell ⟨w.heap.size + 1, 2, none⟩ (.slice (some ⟨g', 0, none⟩) bi.length cap')) w.heap.size (.slice (some ⟨g, 0, none⟩) bo.length cap) bo (.slice (some ⟨g', 0, none⟩) bi.length cap') bi from by
    have G1 := only_setCell (only_refl w3 (some (w.heap.size + 1 + 1))) (p := ⟨w.heap.size + 1 + 1, 2, none⟩) rfl (.slice (some ⟨g', 0, none⟩) bi.length cap')
    have G2 := only_setCell (only_refl (w3.setCell ⟨w.heap.size + 1 + 1, 2, none⟩ (.slice (some ⟨g', 0, none⟩) bi.length cap')) (some (w.heap.size + 1))) (p := ⟨w.heap.size + 1, 0, none⟩) rfl (.int .i64 v)
    have G3 := only_setCell (only_setCell G2 (p := ⟨w.heap.size + 1, 1, none⟩) rfl (.slice (some ⟨g, 0, none⟩) bo.length cap)) (p := ⟨w.heap.size + 1, 2, none⟩) rfl (.slice (some ⟨g', 0, none⟩) bi.length cap')
    exact ⟨g, cap, g', cap', rfl, rfl, by omega, (HO1.out.grown1 G1 (fun r e => by cases e; omega)).grown1 G3 (fun r e => by cases e; omega), (HO3.out.grown1 G1 (fun r e => by cases e; omega)).grown1 G3 (fun r e => by cases e; omega)⟩)
  have HB := Lib.hid ((((hbw.setCell (p := ⟨w.heap.size + 1 + 1, 2, none⟩) (by show w.heap.size ≤ w.heap.size + 1 + 1; omega) (.slice (some ⟨g', 0, none⟩) bi.length cap')).setCell (p := ⟨w.heap.size + 1, 0, none⟩) (by show w.heap.size ≤ w.heap.size + 1; omega) (.int .i64 v)).setCell (p := ⟨w.heap.size + 1, 1, none⟩) (by show w.heap.size ≤ w.heap.size + 1; omega) (.slice (some ⟨g, 0, none⟩) bo.length cap)).setCell (p := ⟨w.heap.size + 1, 2, none⟩) (by show w.heap.size ≤ w.heap.size + 1; omega) (.slice (some ⟨g', 0, none⟩) bi.length cap'))
  clear HO1 HO3 hbw
  go_wp2
  exact bodyPost_ret (v := .agg #[.int .i64 v, .slice (some ⟨g, 0, none⟩) bo.length cap, .slice (some ⟨g', 0, none⟩) bi.length cap']) (by simp [results, Try.results64, go_sem, *]) rfl ⟨_, _, rfl, HF.out, HB.out⟩
set_option maxRecDepth 100000 in
set_option maxHeartbeats 1000000 in
theorem eqTrade_same (v : Int) (so si tq ti : Value) (bo bi : List Blk) (w : World) (h : TB w so bo si bi) (k : TB w tq bo ti bi) : Calls Try.prog 66 #[.agg #[.int .i64 v, so, si], .agg #[.int .i64 v, tq, ti]] w (RV (.bool true) w) := by
  have h1 := h.1.slice
  have h2 := h.2.slice
  have k1 := k.1.slice
  have k2 := k.2.slice
  have HC1 := Lib.hid fun W (hb : Below w.heap.size w W) => eqBlockS_same so tq bo W (h.1.below hb (Nat.le_refl _)) (k.1.below hb (Nat.le_refl _))
  have HC2 := Lib.hid fun W (hb : Below w.heap.size w W) => eqBlockS_same si ti bi W (h.2.below hb (Nat.le_refl _)) (k.2.below hb (Nat.le_refl _))
  clear h k
  obtain ⟨a1, c1, rfl⟩ := h1
  obtain ⟨a2, c2, rfl⟩ := h2
  obtain ⟨a3, c3, rfl⟩ := k1
  obtain ⟨a4, c4, rfl⟩ := k2
  have hnv : (v != v) = false := by simp
  go_enter Try.func66, Try.ntmps66
  go_wp2_with fail
  have hB0 : Below w.heap.size w ((w.alloc (.cells #[.int .i64 v, .slice a1 bo.length c1, .slice a2 bi.length c2] 63)).alloc (.cells #[.int .i64 v, .slice a3 bo.length c3, .slice a4 bi.length c4] 63)) := ((Below.refl _ _).alloc (Nat.le_refl _) _).alloc (by simp) _
  have p2 : ((w.alloc (.cells #[.int .i64 v, .slice a1 bo.length c1, .slice a2 bi.length c2] 63)).alloc (.cells #[.int .i64 v, .slice a3 bo.length c3, .slice a4 bi.length c4] 63)).cell? ⟨w.heap.size, 2, none⟩ = some (.slice a2 bi.length c2) := cell_past (new_at 2 rfl) (by simp)
  have q2 : ((w.alloc (.cells #[.int .i64 v, .slice a1 bo.length c1, .slice a2 bi.length c2] 63)).alloc (.cells #[.int .i64 v, .slice a3 bo.length c3, .slice a4 bi.length c4] 63)).cell? ⟨w.heap.size + 1, 2, none⟩ = some (.slice a4 bi.length c4) := by
    have := new_at (w := w.alloc (.cells #[.int .i64 v, .slice a1 bo.length c1, .slice a2 bi.length c2] 63)) (cs := #[.int .i64 v, .slice a3 bo.length c3, .slice a4 bi.length c4]) (T := 63) 2 rfl
    rw [World.size_alloc] at this
    exact this
  refine (HC1.out _ hB0).mono ?_
  rintro e w1 ⟨rfl, hb1⟩
  have r2 := (hb1.cell (p := ⟨w.heap.size, 2, none⟩) (by simp; omega)).trans p2
  have s2 := (hb1.cell (p := ⟨w.heap.size + 1, 2, none⟩) (by simp)).trans q2
  have hbw := hB0.trans (hb1.mono hB0.size)
  clear hb1 p2 q2 hB0
  go_wp2_with fail
  refine (HC2.out _ hbw).mono ?_
  rintro e w2 ⟨rfl, hb2⟩
  go_wp2
  go_ret
  exact RV_of rfl (hbw.trans (hb2.mono hbw.size))
theorem ResR.narrow {w : World} {lo hi : Nat} {s : Value} {bs : List Blk} (h : ResR w lo hi s bs) : ResR w lo (min hi w.heap.size) s bs := by
  rcases h with h | ⟨g, cap, rfl, h1, h2, ho⟩
  · exact .inl h
  · exact .inr ⟨g, cap, rfl, h1, by have := ho.lt; omega, ho⟩
set_option maxRecDepth 100000 in
set_option maxHeartbeats 1000000 in
theorem markTrade_any (lo hi : Nat) (v : Int) (so : Value) (bo : List Blk) (si : Value) (bi : List Blk) (k : Int) (w : World) (h : ResT w lo hi so bo si bi) (hl : bo.length + bi.length ≤ 1100000) (h0 : 0 ≤ k) (h1 : k ≤ 4000000) :
    Calls Try.prog 69 #[.agg #[.int .i64 v, so, si], .int .i64 k] w (fun e w' => e = .returned (.int .i64 (k + 3 * ((bo.length + bi.length : Nat) : Int))) ∧ OnlyIn lo hi w w' ∧ ResT w' lo hi so (markL k bo.length) si (markL (k + 3 * (bo.length : Int)) bi.length)) := by
  obtain ⟨ls1, ls2⟩ := h.slice
  obtain ⟨a, b, c, d, ha, hb, hc, hd, hx, r1, r2⟩ := h
  have HC1 := Lib.hid (markR a (min b w.heap.size) so bo k (w.alloc (.cells #[.int .i64 v, so, si] 63)) (r1.narrow.below ((Below.refl _ _).alloc (Nat.le_refl _) _) (Nat.le_refl _)) (by omega) h0 (by omega))
  have hr2 := r2.narrow.below ((Below.refl w.heap.size w).alloc (Nat.le_refl _) (.cells #[.int .i64 v, so, si] 63)) (Nat.le_refl _)
  have R2 := Lib.hid hr2
  clear hr2 r2 r1
  obtain ⟨m, hm⟩ : ∃ m, m = k + 3 * (bo.length : Int) := ⟨_, rfl⟩
  have HC2 := Lib.hid fun (W : World) (hW : ResR W c (min d w.heap.size) si bi) => markR c (min d w.heap.size) si bi m W hW (by omega) (by omega) (by omega)
  rw [show k + 3 * ((bo.length + bi.length : Nat) : Int) = m + 3 * (bi.length : Int) by omega]
  rw [← hm] at HC1 ⊢
  have hm0 : 0 ≤ m := by omega
  obtain ⟨n, hn⟩ : ∃ n, n = m + 3 * (bi.length : Int) := ⟨_, rfl⟩
  rw [← hn] at HC2 ⊢
  have hn0 : 0 ≤ n := by omega
  clear hm hn
  obtain ⟨a1, c1, rfl⟩ := ls1
  obtain ⟨a2, c2, rfl⟩ := ls2
  go_enter Try.func69, Try.ntmps69
  go_wp2_with fail
  refine HC1.out.mono ?_
  rintro e w1 ⟨rfl, ⟨row, hg, hrow⟩, hr1⟩
  have x2 : w1.cell? ⟨w.heap.size, 2, none⟩ = some (.slice a2 bi.length c2) := hg.cell (new_at 2 rfl) (fun e => by have := hrow _ e.symm; simp at this; omega)
  have R1 := Lib.hid hr1
  have K2 := Lib.hid (R2.out.kept hg (fun r e => by have := hrow r e; omega))
  have O1 := Lib.hid ((OnlyIn.of_below (lo := w.heap.size) ((Below.refl w.heap.size w).alloc (Nat.le_refl _) (.cells #[.int .i64 v, .slice a1 bo.length c1, .slice a2 bi.length c2] 63))))
  have hg1 := Lib.hid hg
  have hs1 := hg.size
  clear hg hr1 R2
  go_wp2_with fail
  refine (HC2.out _ K2.out).mono ?_
  rintro e w2 ⟨rfl, ⟨row2, hg2, hrow2⟩, hr2⟩
  have R2 := Lib.hid hr2
  have G2 := Lib.hid hg2
  clear hg2 hr2
  go_wp2
  go_ret
  refine ⟨rfl, ?_, ⟨a, min b w.heap.size, c, min d w.heap.size, ha, by omega, hc, by omega, by omega, ?_, R2.out⟩⟩
  · have oA : OnlyIn lo hi w (w.alloc (.cells #[.int .i64 v, .slice a1 bo.length c1, .slice a2 bi.length c2] 63)) := OnlyIn.of_grown (World.grownBy_alloc _ _ none) (by simp)
    exact (oA.trans (OnlyIn.of_grown hg1.out (fun r e => by have := hrow r e; omega))).trans (OnlyIn.of_grown G2.out (fun r e => by have := hrow2 r e; omega))
  · have := R1.out.kept G2.out (fun r e => by have := hrow2 r e; omega)
    exact this
set_option maxRecDepth 100000 in
set_option maxHeartbeats 1000000 in
theorem heldTrade_any (lo hi : Nat) (v : Int) (so : Value) (no : Nat) (si : Value) (ni : Nat) (k : Int) (w : World) (h : ResT w lo hi so (markL k no) si (markL (k + 3 * (no : Int)) ni)) (hl : no + ni ≤ 1100000) (h0 : 0 ≤ k) (h1 : k ≤ 4000000) :
    Calls Try.prog 72 #[.agg #[.int .i64 v, so, si], .int .i64 k] w (RV (.int .i64 (k + 3 * ((no + ni : Nat) : Int))) w) := by
  obtain ⟨ls1, ls2⟩ := h.slice
  obtain ⟨a, b, c, d, ha, hb, hc, hd, hx, r1, r2⟩ := h
  have HC1 := Lib.hid (heldR a b so no k (w.alloc (.cells #[.int .i64 v, so, si] 63)) (r1.below ((Below.refl _ _).alloc (Nat.le_refl _) _) (Nat.le_refl _)) (by omega) h0 (by omega))
  have hr2 := r2.below ((Below.refl w.heap.size w).alloc (Nat.le_refl _) (.cells #[.int .i64 v, so, si] 63)) (Nat.le_refl _)
  obtain ⟨m, hm⟩ : ∃ m, m = k + 3 * (no : Int) := ⟨_, rfl⟩
  rw [← hm] at hr2 HC1
  have HC2 := Lib.hid (heldR c d si ni m _ hr2 (by omega) (by omega) (by omega))
  rw [show k + 3 * ((no + ni : Nat) : Int) = m + 3 * (ni : Int) by omega]
  have hm0 : 0 ≤ m := by omega
  obtain ⟨n, hn⟩ : ∃ n, n = m + 3 * (ni : Int) := ⟨_, rfl⟩
  rw [← hn] at HC2 ⊢
  have hn0 : 0 ≤ n := by omega
  clear hm hn hr2 r1 r2
  rw [markL_length] at ls1 ls2
  obtain ⟨a1, c1, rfl⟩ := ls1
  obtain ⟨a2, c2, rfl⟩ := ls2
  go_enter Try.func72, Try.ntmps72
  go_wp2_with fail
  refine HC1.out.mono ?_
  rintro e w1 ⟨rfl, rfl⟩
  go_wp2_with fail
  refine HC2.out.mono ?_
  rintro e w1 ⟨rfl, rfl⟩
  go_wp2
  go_ret
  exact RV_of rfl ((Below.refl _ _).alloc (Nat.le_refl _) _)
end Go.Proofs.Ytacfelgilphppaa

namespace Go.Proofs.Ytacfelgilphppaa
open Go.RowKit Go.Maps
structure CS (w : World) (v p : Int) (s sW s8 sG : Value) (XW X XG i0 i1 j1 j2 k1 k2 : Nat) (LW L8 LG : List Blk) (W : World) : Prop where
  st : St1 w v s W
  o0 : w.heap.size < i0
  o1 : i0 ≤ i1
  o2 : i1 ≤ XW
  o3 : XW < j1
  o4 : j1 ≤ j2
  o5 : j2 ≤ X
  o6 : X < k1
  o7 : k1 ≤ k2
  o8 : k2 ≤ XG
  rW : ResR W i0 i1 sW LW
  vW : VarB W XW p sW
  r8 : ResR W j1 j2 s8 L8
  vX : VarB W X v s8
  rG : ResR W k1 k2 sG LG
  vG : VarB W XG p sG
section
variable {w : World} {v p : Int} {s sW s8 sG : Value} {XW X XG i0 i1 j1 j2 k1 k2 : Nat} {LW L8 LG : List Blk} {W W' : World}
theorem CS.step (h : CS w v p s sW s8 sG XW X XG i0 i1 j1 j2 k1 k2 LW L8 LG W) (hg : W.grownBy W' none) : CS w v p s sW s8 sG XW X XG i0 i1 j1 j2 k1 k2 LW L8 LG W' :=
  ⟨h.st.step hg (by simp), h.o0, h.o1, h.o2, h.o3, h.o4, h.o5, h.o6, h.o7, h.o8, h.rW.kept hg (by simp), h.vW.step hg (by simp), h.r8.kept hg (by simp), h.vX.step hg (by simp), h.rG.kept hg (by simp), h.vG.step hg (by simp)⟩
theorem CS.mark8 (h : CS w v p s sW s8 sG XW X XG i0 i1 j1 j2 k1 k2 LW L8 LG W) {row : Option Nat} (hg : W.grownBy W' row) (hr : ∀ r, row = some r → j1 ≤ r ∧ r < j2) {L : List Blk} (hn : ResR W' j1 j2 s8 L) :
    CS w v p s sW s8 sG XW X XG i0 i1 j1 j2 k1 k2 LW L LG W' := by
  obtain ⟨st, o0, o1, o2, o3, o4, o5, o6, o7, o8, rW, vW, r8, vX, rG, vG⟩ := h
  exact ⟨st.step hg (fun r e => by have := hr r e; omega), o0, o1, o2, o3, o4, o5, o6, o7, o8, rW.kept hg (fun r e => by have := hr r e; omega), vW.step hg (fun e => by have := hr _ e; omega), hn, vX.step hg (fun e => by have := hr _ e; omega), rG.kept hg (fun r e => by have := hr r e; omega), vG.step hg (fun e => by have := hr _ e; omega)⟩
theorem CS.markG (h : CS w v p s sW s8 sG XW X XG i0 i1 j1 j2 k1 k2 LW L8 LG W) {row : Option Nat} (hg : W.grownBy W' row) (hr : ∀ r, row = some r → k1 ≤ r ∧ r < k2) {L : List Blk} (hn : ResR W' k1 k2 sG L) :
    CS w v p s sW s8 sG XW X XG i0 i1 j1 j2 k1 k2 LW L8 L W' := by
  obtain ⟨st, o0, o1, o2, o3, o4, o5, o6, o7, o8, rW, vW, r8, vX, rG, vG⟩ := h
  exact ⟨st.step hg (fun r e => by have := hr r e; omega), o0, o1, o2, o3, o4, o5, o6, o7, o8, rW.kept hg (fun r e => by have := hr r e; omega), vW.step hg (fun e => by have := hr _ e; omega), r8.kept hg (fun r e => by have := hr r e; omega), vX.step hg (fun e => by have := hr _ e; omega), hn, vG.step hg (fun e => by have := hr _ e; omega)⟩
end
end Go.Proofs.Ytacfelgilphppaa

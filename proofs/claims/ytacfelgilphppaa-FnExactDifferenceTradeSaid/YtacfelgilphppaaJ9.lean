
/- impl.InverseTrade. The model's insertion sort. The model's l04Made and InverseTrade. The model's l04Less. What a law over one system whose result is a system knows of the memory between two of its steps. impl.DifferenceTrade. The model's DifferenceTrade. The memory of a law across a drawn statement that makes a variable for a system. -/
import Derived.Test.YtacfelgilphppaaJ8
import Derived.Deep.RegionHeld3
namespace Go.Proofs.Ytacfelgilphppaa
open Go.RowKit Go.Maps
/-- A trade and a code. -/
def RTrd (r : Int × (List Blk × List Blk) × Int) (w : World) (e : Ending) (w' : World) : Prop :=
  ∃ so si, e = .returned (.tuple #[.agg #[.int .i64 r.1, so, si], .int .i64 r.2.2]) ∧ ResT w' w.heap.size w'.heap.size so r.2.1.1 si r.2.1.2 ∧ Below w.heap.size w w'
def invF (v : Int) (bo bi : List Blk) : Int × (List Blk × List Blk) × Int := if trdB v bo bi then (v, (bi, bo), 0) else (0, ([], []), 1)
/-- A trade's box and that of the result. -/
structure BoxR (w' : World) (b : Nat) (v : Int) (so si : Value) : Prop where
  lt : b + 1 < w'.heap.size
  x0 : w'.cell? ⟨b, 0, none⟩ = some (.int .i64 v)
  x1 : w'.cell? ⟨b, 1, none⟩ = some so
  x2 : w'.cell? ⟨b, 2, none⟩ = some si
  y0 : w'.cell? ⟨b + 1, 0, none⟩ = some (.int .i64 0)
  y1 : w'.cell? ⟨b + 1, 1, none⟩ = some (.slice none 0 0)
  y2 : w'.cell? ⟨b + 1, 2, none⟩ = some (.slice none 0 0)
  g0 : w'.frozen? ⟨b + 1, 0, none⟩ = false
  g1 : w'.frozen? ⟨b + 1, 1, none⟩ = false
  g2 : w'.frozen? ⟨b + 1, 2, none⟩ = false
def wRI (w : World) (v : Int) (so si : Value) : World := (w.alloc (.cells #[.int .i64 v, so, si] 63)).alloc (.cells #[.int .i64 0, .slice none 0 0, .slice none 0 0] 63)
theorem BoxR.new (w : World) (v : Int) (so si : Value) : BoxR (wRI w v so si) w.heap.size v so si := by
  unfold wRI
  exact ⟨by simp, by simp [go_sem], by simp [go_sem], by simp [go_sem], by simp [go_sem], by simp [go_sem], by simp [go_sem], by simp [go_sem], by simp [go_sem], by simp [go_sem]⟩
theorem wRI_below (w : World) (v : Int) (so si : Value) : Below w.heap.size w (wRI w v so si) := ((Below.refl _ _).alloc (Nat.le_refl _) _).alloc (by simp) _
theorem BoxR.below {w w' : World} {b : Nat} {v : Int} {so si : Value} (h : BoxR w b v so si) (hb : Below w.heap.size w w') : BoxR w' b v so si := by
  have hl := h.lt
  exact ⟨Nat.lt_of_lt_of_le hl hb.size, (hb.cell (p := ⟨b, 0, none⟩) (by show b < _; omega)).trans h.x0, (hb.cell (p := ⟨b, 1, none⟩) (by show b < _; omega)).trans h.x1, (hb.cell (p := ⟨b, 2, none⟩) (by show b < _; omega)).trans h.x2,
    (hb.cell (p := ⟨b + 1, 0, none⟩) hl).trans h.y0, (hb.cell (p := ⟨b + 1, 1, none⟩) hl).trans h.y1, (hb.cell (p := ⟨b + 1, 2, none⟩) hl).trans h.y2,
    (hb.frozen (p := ⟨b + 1, 0, none⟩) hl).trans h.g0, (hb.frozen (p := ⟨b + 1, 1, none⟩) hl).trans h.g1, (hb.frozen (p := ⟨b + 1, 2, none⟩) hl).trans h.g2⟩
theorem ResT.kept {w w' : World} {lo hi : Nat} {so si : Value} {bo bi : List Blk} {row : Option Nat} (h : ResT w lo hi so bo si bi) (hg : w.grownBy w' row) (hr : ∀ r, row = some r → r < lo) : ResT w' lo hi so bo si bi := by
  obtain ⟨a, b, c, d, ha, hb, hc, hd, hx, r1, r2⟩ := h
  exact ⟨a, b, c, d, ha, hb, hc, hd, hx, r1.kept hg (fun r e => by have := hr r e; omega), r2.kept hg (fun r e => by have := hr r e; omega)⟩
def set3 (W : World) (b : Nat) (u v x : Value) : World := ((W.setCell ⟨b, 0, none⟩ u).setCell ⟨b, 1, none⟩ v).setCell ⟨b, 2, none⟩ x
theorem set3_gb (W : World) (b : Nat) (u v x : Value) : W.grownBy (set3 W b u v x) (some b) := only_setCell (only_setCell (only_setCell (only_refl W (some b)) rfl u) rfl v) rfl x
theorem RTrd.of {w W : World} {lo : Nat} {so si : Value} {r : Int × (List Blk × List Blk) × Int} {p κ : Int} (hB : Below w.heap.size w W) (hr : ResT W lo W.heap.size so r.2.1.1 si r.2.1.2) (hlo : w.heap.size + 1 < lo) (h1 : p = r.1) (h2 : κ = r.2.2) (u v x : Value) :
    RTrd r w (.returned (.tuple #[.agg #[.int .i64 p, so, si], .int .i64 κ])) (set3 W (w.heap.size + 1) u v x) := by
  subst h1 h2
  have hg := set3_gb W (w.heap.size + 1) u v x
  refine ⟨so, si, rfl, ?_, hB.grown hg hB.size (fun r e => by cases e; omega)⟩
  have e : (set3 W (w.heap.size + 1) u v x).heap.size = W.heap.size := by simp [set3]
  rw [e]
  exact (hr.kept hg (fun r e => by cases e; omega)).wide (by omega) (Nat.le_refl _)
theorem RTrd.no {w W : World} (hB : Below w.heap.size w W) (κ : Int) (u v x : Value) : RTrd (0, ([], []), κ) w (.returned (.tuple #[.agg #[.int .i64 0, .slice none 0 0, .slice none 0 0], .int .i64 κ])) (set3 W (w.heap.size + 1) u v x) := by
  have hg := set3_gb W (w.heap.size + 1) u v x
  refine ⟨_, _, rfl, ?_, hB.grown hg hB.size (fun r e => by cases e; omega)⟩
  have := ResT.nil (set3 W (w.heap.size + 1) u v x) (set3 W (w.heap.size + 1) u v x).heap.size
  exact this.wide (Nat.le_trans hB.size hg.size) (Nat.le_refl _)
theorem cloneRR {W0 W1 : World} {u : Value} {bs : List Blk} (h : OwnR W1 W0.heap.size u bs) : ResR W1 W0.heap.size W1.heap.size u bs := h.res
set_option maxRecDepth 100000 in
set_option maxHeartbeats 4000000 in
theorem InverseTrade_any (v : Int) (so : Value) (bo : List Blk) (si : Value) (bi : List Blk) (w : World) (h : TB w so bo si bi) : Calls Try.prog 71 #[.agg #[.int .i64 v, so, si]] w (RTrd (invF v bo bi) w) := by
  have hs := h.1.slice
  have ht := h.2.slice
  have HI := Lib.hid fun W (hb : Below w.heap.size w W) => IsTrade_any v so bo si bi W (h.below hb (Nat.le_refl _))
  have HO := Lib.hid fun W (hb : Below w.heap.size w W) => cloneB_any so bo W (h.1.sx.below hb (Nat.le_refl _)) h.1.2.1
  have HN := Lib.hid fun W (hb : Below w.heap.size w W) => cloneB_any si bi W (h.2.sx.below hb (Nat.le_refl _)) h.2.2.1
  clear h
  obtain ⟨a, c, rfl⟩ := hs
  obtain ⟨a', c', rfl⟩ := ht
  have HB := Lib.hid (BoxR.new w v (.slice a bo.length c) (.slice a' bi.length c'))
  have HBW := Lib.hid (wRI_below w v (.slice a bo.length c) (.slice a' bi.length c'))
  unfold invF
  cases hi : trdB v bo bi with
  | false =>
    rw [hi] at HI
    rw [if_neg (by simp)]
    clear hi HO HN
    go_enter Try.func71, Try.ntmps71
    go_wp2_with fail
    refine (HI.out (wRI w v (.slice a bo.length c) (.slice a' bi.length c')) HBW.out).mono ?_
    rintro e w1 ⟨rfl, hb1⟩
    obtain ⟨_, _, _, _, y0, y1, y2, g0, g1, g2⟩ := HB.out.below hb1
    have hB1 := HBW.out.trans (hb1.mono HBW.out.size)
    clear hb1
    go_wp2
    exact bodyPost_ret (v := .tuple #[.agg #[.int .i64 0, .slice none 0 0, .slice none 0 0], .int .i64 1]) (by simp [results, Try.results71, go_sem, *]) rfl (RTrd.no hB1 1 _ _ _)
  | true =>
    rw [hi] at HI
    rw [if_pos rfl]
    clear hi
    go_enter Try.func71, Try.ntmps71
    go_wp2_with fail
    refine (HI.out (wRI w v (.slice a bo.length c) (.slice a' bi.length c')) HBW.out).mono ?_
    rintro e w1 ⟨rfl, hb1⟩
    have hbx := HB.out.below hb1
    have hB1 := HBW.out.trans (hb1.mono HBW.out.size)
    have HBX := Lib.hid hbx
    have HB1 := Lib.hid hB1
    obtain ⟨hlt, x0, x1, x2, _, _, _, _, _, _⟩ := hbx
    clear hb1 hB1
    go_upto_region 3 with fail
    go_region_held3 (fun w' => w'.cell? ⟨w.heap.size, 0, none⟩ = some (.int .i64 v) ∧ w'.cell? ⟨w.heap.size, 1, none⟩ = some (.slice a bo.length c) ∧ w'.cell? ⟨w.heap.size, 2, none⟩ = some (.slice a' bi.length c'))
      (first | exact ⟨i0, i1, i2⟩ | exact ⟨o0, o1, o2⟩ | exact ⟨x0, x1, x2⟩ | go_keep)
      (first
        | (go_at_call_of 131 (Value.slice a' bi.length c'); refine (HN.out _ ?_).mono ?_; (first | exact HB1.out.trans (hstO.mono HB1.out.size) | exact HB1.out.drew); rintro e wI ⟨uI, rfl, hoI, hbI⟩; obtain ⟨aI, cI, hsI⟩ := hoI.form; subst hsI; have hstI : Below w1.heap.size w1 wI := (by first | exact hstO.trans (hbI.mono hstO.size) | exact ((Below.refl _ _).drew).trans hbI); have hbxI := HBX.out.below hstI; have i0 := hbxI.x0; have i1 := hbxI.x1; have i2 := hbxI.x2; (first | (have HT := Lib.hid (ResT.of (lo := w1.heap.size) (hi := wI.heap.size) hoI.res (hrO.below hbI (Nat.le_refl _)) hstO.size (Nat.le_refl _) (Nat.le_refl _) hbI.size (.inr (Nat.le_refl _))); obtain ⟨_, _, _, _, z0, z1, z2, k0, k1, k2⟩ := hbxI) | (have hrI : ResR wI w1.heap.size wI.heap.size _ bi := hoI.res.wide (Nat.le_refl _) (Nat.le_refl _))))
        | (go_at_call_of 131 (Value.slice a bo.length c); refine (HO.out _ ?_).mono ?_; (first | exact HB1.out.trans (hstI.mono HB1.out.size) | exact HB1.out.drew); rintro e wO ⟨uO, rfl, hoO, hbO⟩; obtain ⟨aO, cO, hsO⟩ := hoO.form; subst hsO; have hstO : Below w1.heap.size w1 wO := (by first | exact hstI.trans (hbO.mono hstI.size) | exact ((Below.refl _ _).drew).trans hbO); have hbxO := HBX.out.below hstO; have o0 := hbxO.x0; have o1 := hbxO.x1; have o2 := hbxO.x2; (first | (have HT := Lib.hid (ResT.of (lo := w1.heap.size) (hi := wO.heap.size) (hrI.below hbO (Nat.le_refl _)) hoO.res (Nat.le_refl _) hbO.size hstI.size (Nat.le_refl _) (.inl (Nat.le_refl _))); obtain ⟨_, _, _, _, z0, z1, z2, k0, k1, k2⟩ := hbxO) | (have hrO : ResR wO w1.heap.size wO.heap.size _ bo := hoO.res.wide (Nat.le_refl _) (Nat.le_refl _)))))
    all_goals
      go_wp2
      first
      | exact bodyPost_ret (v := .tuple #[.agg #[.int .i64 v, .slice aI bi.length cI, .slice aO bo.length cO], .int .i64 0]) (by simp [results, Try.results71, go_sem, *]) rfl (RTrd.of (HB1.out.trans (hstO.mono HB1.out.size)) HT.out (by omega) rfl rfl _ _ _)
      | exact bodyPost_ret (v := .tuple #[.agg #[.int .i64 v, .slice aI bi.length cI, .slice aO bo.length cO], .int .i64 0]) (by simp [results, Try.results71, go_sem, *]) rfl (RTrd.of (HB1.out.trans (hstI.mono HB1.out.size)) HT.out (by omega) rfl rfl _ _ _)
end Go.Proofs.Ytacfelgilphppaa

namespace Go.Proofs.Ytacfelgilphppaa
open Go.RowKit Go.Maps
theorem ins_start (x : Blk) (l : List Blk) : l ++ [x] = l.take l.length ++ x :: l.drop l.length := by simp
theorem ins_round (l : List Blk) {m : Nat} (hm : m < l.length) (y : Blk) : (l.take (m + 1) ++ y :: l.drop (m + 1)).set (m + 1) (l[m]?.getD default) = l.take m ++ (l[m]?.getD default) :: l.drop m := by
  have h1 : (l.take (m + 1)).length = m + 1 := by simp; omega
  rw [List.set_append_right _ _ (by omega), h1, Nat.sub_self, List.set_cons_zero]
  rw [List.getElem?_eq_getElem hm, Option.getD_some, List.take_succ_eq_append_getElem hm, List.append_assoc]
  congr 1
  rw [List.singleton_append, List.drop_eq_getElem_cons hm]
theorem ins_end (l : List Blk) {m : Nat} (hm : m ≤ l.length) (x y : Blk) : (l.take m ++ y :: l.drop m).set m x = l.take m ++ x :: l.drop m := by
  have h1 : (l.take m).length = m := by simp; omega
  rw [List.set_append_right _ _ (by omega), h1, Nat.sub_self, List.set_cons_zero]
theorem ins_len (l : List Blk) {m : Nat} (hm : m ≤ l.length) (y : Blk) : (l.take m ++ y :: l.drop m).length = l.length + 1 := by
  simp; omega
theorem ins_at (l : List Blk) {m : Nat} (hm : m < l.length) (y : Blk) : (l.take (m + 1) ++ y :: l.drop (m + 1))[m]?.getD default = l[m]?.getD default := by
  rw [List.getElem?_append_left (by simp; omega), List.getElem?_take_of_lt (by omega)]
set_option maxRecDepth 100000 in
set_option maxHeartbeats 1000000 in
theorem l01Sort_any (s : Value) (bs : List Blk) (w : World) (h : SX w s bs) (hl : bs.length ≤ 100000) :
    Calls Try.prog 166 #[s] w fun e w' => ∃ u, e = .returned u ∧ OwnR w' w.heap.size u (sortB bs) ∧ Below w.heap.size w w' := by
  have hs : ∃ a c, s = .slice a bs.length c := by rcases h with ⟨a0, c0, rfl, rfl⟩ | ⟨b, off, cap, rfl, _⟩ <;> exact ⟨_, _, rfl⟩
  have HSX := Lib.hid h
  clear h
  obtain ⟨a0, c0, rfl⟩ := hs
  go_enter Try.func166, Try.ntmps166
  go_wp2
  have ho0 := lit_own w
  obtain ⟨w0, hw0⟩ : ∃ w0, w.alloc (.cells #[] 93) = w0 := ⟨_, rfl⟩
  have hB0 : Below w.heap.size w w0 := by rw [← hw0]; exact (Below.refl _ _).alloc (Nat.le_refl _) _
  have hz0 : w.heap.size < w0.heap.size := by rw [← hw0]; simp
  rw [hw0] at ho0 ⊢
  have HO0 := Lib.hid ho0
  clear hw0 ho0
  go_loopw [3, 4] (fun o i wr => ∃ k : Nat, k ≤ bs.length ∧ i = .int .i64 k ∧ Below w.heap.size w wr ∧ OwnR wr w.heap.size o (sortB (bs.take k)) ∧ ∃ a c, o = .slice a k c) (fun _ i _ => bs.length - (intOf i).toNat)
  case atStart => exact ⟨0, Nat.zero_le _, rfl, hB0, by simpa [sortB] using HO0.out, _, _, rfl⟩
  case round =>
    obtain ⟨k, hk, rfl, hB, hO, a3, c3, rfl⟩ := hrel
    have hz := hB.size
    by_cases hkl : k < bs.length
    · rcases HSX.out with ⟨_, _, _, hnil⟩ | ⟨b, off, cap, hv, hblt, hbl⟩
      · rw [hnil] at hkl; simp at hkl
      · simp at hv
        obtain ⟨rfl, rfl⟩ := hv
        have HBL := Lib.hid hbl
        obtain ⟨x, hx, ex, x1, x2, x3⟩ := blks_at (hbl.below hB hblt) hkl
        obtain ⟨l, hl1⟩ : ∃ l, l = sortB (bs.take k) := ⟨_, rfl⟩
        have hll : l.length = k := by rw [hl1, sortB_length]; simp; omega
        have hnext : sortB (bs.take (k + 1)) = insB x l := by
          rw [List.getElem?_eq_getElem hkl] at ex
          have ex' : bs[k] = x := by simpa using ex
          rw [take_next hkl, ex', sortB_snoc, hl1]
        rw [← hl1] at hO
        have HO := Lib.hid hO
        have HNX := Lib.hid hnext
        have HLL := Lib.hid hll
        have hlen2 : l.length ≤ 100000 := by omega
        have g0 : (0 : Int) ≤ (k : Int) := by omega
        have g1 : (k : Int) < (bs.length : Int) := by omega
        have HEX := Lib.hid ex
        clear hx ex hl1 hO hnext hll hbl
        go_wp2_with (at_builtin; refine wpList_append_blk rfl _ _ rfl w.heap.size _ l rfl (HO.out.below ((Below.refl _ _).alloc (Nat.le_refl _) _) (Nat.le_refl _)) _ _ x rfl (by simp [go_sem]) (by simp [go_sem]) (by simp [go_sem]) (by omega) (by simp; omega) ?_; intro g' cap' w4 hO4 hg4)
        have hB4 : Below w.heap.size w w4 := (hB.alloc (by omega) _).grown hg4 (by simp; omega) (fun r e => HO.out.row r e)
        have HBR := Lib.hid (l01Before_any x)
        have HX := Lib.hid (show bs[k]?.getD default = x by rw [HEX.out]; rfl)
        clear hg4 x1 x2 x3
        go_loopw [5] (fun t wr2 => ∃ m : Nat, m ≤ k ∧ t = .int .i64 m ∧ Below w.heap.size w wr2 ∧ (∃ y, OwnR wr2 w.heap.size (.slice (some ⟨g', 0, none⟩) (l.length + 1) cap') (l.take m ++ y :: l.drop m)) ∧ Hid (posB x l l.length = posB x l m)) (fun t _ => (intOf t).toNat)
        case atStart => exact ⟨k, Nat.le_refl _, rfl, hB4, ⟨x, by have := hO4; rw [ins_start, HLL.out] at this; rw [HLL.out]; exact this⟩, Lib.hid (by rw [HLL.out])⟩
        case round =>
          obtain ⟨m, hm, rfl, hB2, ⟨y, hO2⟩, HP⟩ := hrel
          obtain ⟨hn0, hgb, hat⟩ := hO2.at_
          clear hn0
          have hxx := (HBL.out.below hB2 hblt) k hkl
          rw [HX.out] at hxx
          obtain ⟨x1, x2, x3⟩ := hxx
          have hglt := hat.lt
          have hz2 := hB2.size
          have hblt2 : b < wr.heap.size := by omega
          have hfree := hat.free
          have HO2 := Lib.hid hO2
          rcases m with _ | m
          · rw [show ((0 : Nat) : Int) = 0 from rfl]
            have gl1 : (0 : Int) < ((l.length + 1 : Nat) : Int) := by omega
            have gl2 : (0 : Int) < (l.length : Int) + 1 := by omega
            obtain ⟨c1, c2, c3'⟩ := hat.at_ 0 (by rw [ins_len l (Nat.zero_le _) y]; omega)
            simp only [Nat.zero_mul, Nat.zero_add] at c1 c2 c3'
            have hnew := HO2.out.set3 (i := 0) (by rw [ins_len l (Nat.zero_le _) y]; omega) x
            rw [ins_end l (Nat.zero_le _) x y] at hnew
            have hins : insB x l = l.take 0 ++ x :: l.drop 0 := by unfold insB; rw [HP.out]; rfl
            rw [← hins, ← HNX.out] at hnew
            simp only [Nat.zero_mul, Nat.zero_add] at hnew
            have HN := Lib.hid hnew
            clear hO2 hat hnew hins
            go_wp2
            go_quiet (fail)
            go_wp2
            go_roundw
            case rel => exact ⟨k + 1, by omega, by go_num, (((below_drewN hB2 _).setCell (p := ⟨g', 0, none⟩) hgb _).setCell (p := ⟨g', 1, none⟩) hgb _).setCell (p := ⟨g', 2, none⟩) hgb _, HN.out, _, _, by rw [HLL.out]⟩
            case measure => simp [intOf]; omega
          · have hml : m < l.length := by rw [HLL.out]; omega
            have hm1 : m + 1 ≤ l.length := by omega
            have gl1 : (m : Int) + 1 < ((l.length + 1 : Nat) : Int) := by omega
            have gl2 : (m : Int) + 1 < (l.length : Int) + 1 := by omega
            have gl3 : (m : Int) < ((l.length + 1 : Nat) : Int) := by omega
            have gl4 : (m : Int) < (l.length : Int) + 1 := by omega
            have gl5 : (0 : Int) < (m : Int) + 1 := by omega
            have gl6 : (0 : Int) ≤ (m : Int) := by omega
            have gl7 : (m : Int) ≤ 100000 := by omega
            have hatm := hat.at_ m (by rw [ins_len l hm1 y]; omega)
            rw [ins_at l hml y, Nat.zero_add] at hatm
            obtain ⟨c1, c2, c3'⟩ := hat.at_ (m + 1) (by rw [ins_len l hm1 y]; omega)
            rw [Nat.zero_add] at c1 c2 c3'
            obtain ⟨z, hz⟩ : ∃ z, z = l[m]?.getD default := ⟨_, rfl⟩
            have hpos : posB x l (m + 1) = if befB x (l[m]?.getD default) then posB x l m else m + 1 := rfl
            rw [← hz] at hatm hpos
            have HZ := Lib.hid hz
            have HPP := Lib.hid hpos
            obtain ⟨q1, q2, q3⟩ := hatm
            have hbr := HBR.out z
            clear hO2 hat hpos hz
            have r1 := cell_regrown x1
            have r2 := cell_regrown x2
            have r3 := cell_regrown x3
            have s1 := cell_regrown q1
            have s2 := cell_regrown q2
            have s3 := cell_regrown q3
            have t1 := cell_regrown c1
            have t2 := cell_regrown c2
            have t3 := cell_regrown c3'
            have rf : ∀ d os o, (Sort.grow (redrawn wr d) os).frozen? ⟨g', o, none⟩ = false := fun d os o => ((below_regrown wr d os).frozen (p := ⟨g', o, none⟩) hglt).trans (hfree o)
            obtain ⟨za, zb, zc⟩ := z
            obtain ⟨xa, xb, xc⟩ := x
            unfold bv at hbr
            dsimp only at hbr x1 x2 x3 q1 q2 q3 r1 r2 r3 s1 s2 s3
            cases hbe : befB ⟨xa, xb, xc⟩ ⟨za, zb, zc⟩ with
            | false =>
              rw [hbe] at hbr
              have HC := Lib.hid hbr
              have HBE := Lib.hid hbe
              clear hbr hbe
              go_wp2
              refine wp_region_quiet_below (by kernel_rfl) (by kernel_rfl) ?_
              repeat (go_big_quiet_step (exact Calls.regrown_of (HC.out _)))
              refine wpQuiet_nil ?_
              intro _ hw'
              obtain ⟨⟨dq, osq⟩, hw''⟩ := hw'
              subst hw''
              go_wp2
              have hnew := (HO2.out.below (below_regrown wr dq osq) (Nat.le_refl _)).set3 (i := m + 1) (by rw [ins_len l hm1 y]; omega) ⟨xa, xb, xc⟩
              rw [ins_end l hm1 _ y] at hnew
              have hins : insB ⟨xa, xb, xc⟩ l = l.take (m + 1) ++ ⟨xa, xb, xc⟩ :: l.drop (m + 1) := by unfold insB; rw [HP.out, HPP.out, if_neg (by rw [HBE.out]; decide)]
              rw [← hins, ← HNX.out] at hnew
              have HN := Lib.hid hnew
              clear hnew hins
              go_roundw
              case rel => exact ⟨k + 1, by omega, by go_num, (((hB2.trans ((below_regrown wr dq osq).mono hz2)).setCell (p := ⟨g', (m + 1) * 3, none⟩) hgb _).setCell (p := ⟨g', (m + 1) * 3 + 1, none⟩) hgb _).setCell (p := ⟨g', (m + 1) * 3 + 2, none⟩) hgb _, HN.out, _, _, by rw [HLL.out]⟩
              case measure => simp [intOf]; omega
            | true =>
              rw [hbe] at hbr
              have HC := Lib.hid hbr
              have HBE := Lib.hid hbe
              clear hbr hbe
              go_wp2
              refine wp_region_quiet_below (by kernel_rfl) (by kernel_rfl) ?_
              repeat (go_big_quiet_step (exact Calls.regrown_of (HC.out _)))
              refine wpQuiet_nil ?_
              intro _ hw'
              obtain ⟨⟨dq, osq⟩, hw''⟩ := hw'
              subst hw''
              go_wp2
              have hnew := (HO2.out.below (below_regrown wr dq osq) (Nat.le_refl _)).set3 (i := m + 1) (by rw [ins_len l hm1 y]; omega) ⟨za, zb, zc⟩
              have hro := ins_round l hml y
              rw [← HZ.out] at hro
              rw [hro] at hnew
              have HN := Lib.hid hnew
              clear hnew hro
              go_roundw
              case rel => exact ⟨m, by omega, rfl, (((hB2.trans ((below_regrown wr dq osq).mono hz2)).setCell (p := ⟨g', (m + 1) * 3, none⟩) hgb _).setCell (p := ⟨g', (m + 1) * 3 + 1, none⟩) hgb _).setCell (p := ⟨g', (m + 1) * 3 + 2, none⟩) hgb _, ⟨⟨za, zb, zc⟩, HN.out⟩, Lib.hid (by rw [HP.out, HPP.out, if_pos HBE.out])⟩
              case measure => simp [intOf]
    · go_wp2
      go_ret
      have e : k = bs.length := by omega
      subst e
      rw [List.take_length] at hO
      exact ⟨_, rfl, hO, hB⟩
set_option maxRecDepth 100000 in
theorem l01Made_any (v : Int) (s : Value) (bs : List Blk) (w : World) (h : SX w s bs) (hl : bs.length ≤ 100000) :
    Calls Try.prog 104 #[.int .i64 v, s] w fun e w' => ∃ u, e = .returned (.agg #[.int .i64 v, u]) ∧ ResR w' w.heap.size w'.heap.size u (sortB bs) ∧ Below w.heap.size w w' := by
  have hs : ∃ a c, s = .slice a bs.length c := by rcases h with ⟨a0, c0, rfl, rfl⟩ | ⟨b, off, cap, rfl, _⟩ <;> exact ⟨_, _, rfl⟩
  have HS := Lib.hid (l01Sort_any s bs (w.alloc (.cells #[.int .i64 0, .slice none 0 0] 31)) (h.below ((Below.refl _ _).alloc (Nat.le_refl _) _) (Nat.le_refl _)) hl)
  clear h
  obtain ⟨a0, c0, rfl⟩ := hs
  go_enter Try.func104, Try.ntmps104
  go_wp2_with fail
  refine HS.out.mono ?_
  rintro e w1 ⟨u, rfl, ho, hb1⟩
  have hlt : w.heap.size < w1.heap.size := by have := hb1.size; simp at this; omega
  have hbw : Below w.heap.size w w1 := ((Below.refl _ _).alloc (Nat.le_refl _) _).trans (hb1.mono (by simp))
  have d0 := cell_new hb1 0 rfl
  have d1 := cell_new hb1 1 rfl
  have f0 : w1.frozen? ⟨w.heap.size, 0, none⟩ = false := (hb1.frozen (p := ⟨w.heap.size, 0, none⟩) (by simp)).trans (by simp [go_sem])
  have f1 : w1.frozen? ⟨w.heap.size, 1, none⟩ = false := (hb1.frozen (p := ⟨w.heap.size, 1, none⟩) (by simp)).trans (by simp [go_sem])
  have hr := ho.res
  have hbase : (w.alloc (.cells #[.int .i64 0, .slice none 0 0] 31)).heap.size = w.heap.size + 1 := by simp
  rw [hbase] at hr
  obtain ⟨a3, n3, hs3⟩ := hr.slice
  obtain ⟨m3, hm3⟩ : ∃ m, m = (sortB bs).length := ⟨_, rfl⟩
  rw [← hm3] at hs3
  clear hm3 ho hb1 hbase
  subst hs3
  go_wp2
  exact bodyPost_ret (v := .agg #[.int .i64 v, .slice a3 m3 n3]) (by simp [results, Try.results104, go_sem, *]) rfl ⟨_, rfl, (hr.kept (gb_set2 w1 w.heap.size (.int .i64 v) (.slice a3 m3 n3)) (fun r e => by cases e; exact .inl (by omega))).wide (by omega) (by simp [World.setCell]), below_set2 hbw (by omega) _ _⟩
end Go.Proofs.Ytacfelgilphppaa

namespace Go.Proofs.Ytacfelgilphppaa
open Go.RowKit Go.Maps
set_option maxRecDepth 100000 in
set_option maxHeartbeats 1000000 in
theorem l04Made_any (v : Int) (s : Value) (bs : List Blk) (t : Value) (cs : List Blk) (w : World) (h : SX w s bs) (k : SX w t cs) (hl : bs.length ≤ 100000) (hk : cs.length ≤ 100000) :
    Calls Try.prog 130 #[.int .i64 v, s, t] w fun e w' => ∃ u u', e = .returned (.agg #[.int .i64 v, u, u']) ∧ ResT w' w.heap.size w'.heap.size u (sortB bs) u' (sortB cs) ∧ Below w.heap.size w w' := by
  have hs : ∃ a c, s = .slice a bs.length c := by rcases h with ⟨a0, c0, rfl, rfl⟩ | ⟨b, off, cap, rfl, _⟩ <;> exact ⟨_, _, rfl⟩
  have ht : ∃ a c, t = .slice a cs.length c := by rcases k with ⟨a0, c0, rfl, rfl⟩ | ⟨b, off, cap, rfl, _⟩ <;> exact ⟨_, _, rfl⟩
  have HS := Lib.hid (l01Sort_any s bs (w.alloc (.cells #[.int .i64 0, .slice none 0 0, .slice none 0 0] 63)) (h.below ((Below.refl _ _).alloc (Nat.le_refl _) _) (Nat.le_refl _)) hl)
  have HT := Lib.hid fun W (hb : Below w.heap.size w W) => l01Sort_any t cs W (k.below hb (Nat.le_refl _)) hk
  clear h k
  obtain ⟨a0, c0, rfl⟩ := hs
  obtain ⟨a1, c1, rfl⟩ := ht
  go_enter Try.func130, Try.ntmps130
  go_wp2_with fail
  refine HS.out.mono ?_
  rintro e w1 ⟨u, rfl, ho, hb1⟩
  have hlt : w.heap.size < w1.heap.size := by have := hb1.size; simp at this; omega
  have hbw : Below w.heap.size w w1 := ((Below.refl _ _).alloc (Nat.le_refl _) _).trans (hb1.mono (by simp))
  have d0 := cell_new hb1 0 rfl
  have d1 := cell_new hb1 1 rfl
  have d2 := cell_new hb1 2 rfl
  have f0 : w1.frozen? ⟨w.heap.size, 0, none⟩ = false := (hb1.frozen (p := ⟨w.heap.size, 0, none⟩) (by simp)).trans (by simp [go_sem])
  have f1 : w1.frozen? ⟨w.heap.size, 1, none⟩ = false := (hb1.frozen (p := ⟨w.heap.size, 1, none⟩) (by simp)).trans (by simp [go_sem])
  have f2 : w1.frozen? ⟨w.heap.size, 2, none⟩ = false := (hb1.frozen (p := ⟨w.heap.size, 2, none⟩) (by simp)).trans (by simp [go_sem])
  have hr := ho.res
  have hbase : (w.alloc (.cells #[.int .i64 0, .slice none 0 0, .slice none 0 0] 63)).heap.size = w.heap.size + 1 := by simp
  rw [hbase] at hr
  have HR := Lib.hid hr
  have hf := ho.formS
  clear ho hb1 hbase hr
  obtain ⟨a3, n3, rfl⟩ := hf
  go_wp2_with fail
  refine (HT.out _ hbw).mono ?_
  rintro e w2 ⟨u', rfl, ho2, hb2⟩
  have e0 := (hb2.cell (p := ⟨w.heap.size, 0, none⟩) hlt).trans d0
  have e1 := (hb2.cell (p := ⟨w.heap.size, 1, none⟩) hlt).trans d1
  have e2 := (hb2.cell (p := ⟨w.heap.size, 2, none⟩) hlt).trans d2
  have g0 := (hb2.frozen (p := ⟨w.heap.size, 0, none⟩) hlt).trans f0
  have g1 := (hb2.frozen (p := ⟨w.heap.size, 1, none⟩) hlt).trans f1
  have g2 := (hb2.frozen (p := ⟨w.heap.size, 2, none⟩) hlt).trans f2
  have HX := Lib.hid (ResT.of (lo := w.heap.size + 1) (hi := w2.heap.size) (HR.out.below hb2 (Nat.le_refl _)) ho2.res (Nat.le_refl _) hb2.size hlt (Nat.le_refl _) (.inl (Nat.le_refl _)))
  have HB := Lib.hid (hbw.trans (hb2.mono hbw.size))
  have hf2 := ho2.formS
  obtain ⟨m3, hm3⟩ : ∃ m, m = (sortB bs).length := ⟨_, rfl⟩
  obtain ⟨m4, hm4⟩ : ∃ m, m = (sortB cs).length := ⟨_, rfl⟩
  obtain ⟨a4, n4, rfl⟩ := hf2
  rw [← hm3, ← hm4] at HX
  rw [← hm3, ← hm4]
  clear d0 d1 d2 f0 f1 f2 ho2 hb2 hbw hm3 hm4
  go_wp2
  exact bodyPost_ret (v := .agg #[.int .i64 v, .slice a3 m3 n3, .slice a4 m4 n4]) (by simp [results, Try.results130, go_sem, *]) rfl ⟨_, _, rfl, (HX.out.kept (set3_gb w2 w.heap.size (.int .i64 v) (.slice a3 m3 n3) (.slice a4 m4 n4)) (fun r e => by cases e; omega)).wide (by omega) (by simp [World.setCell]), HB.out.grown (set3_gb w2 w.heap.size (.int .i64 v) (.slice a3 m3 n3) (.slice a4 m4 n4)) HB.out.size (fun r e => by cases e; omega)⟩
theorem trd_parts {v : Int} {bo bi : List Blk} (h : trdB v bo bi = true) : isSysImpl v bo = true ∧ isSysImpl v bi = true ∧ samePr bo bi = true ∧ dsj bo bi = true := by
  simp only [trdB, Bool.and_eq_true] at h
  exact ⟨h.1.1, h.1.2, h.2.1, h.2.2⟩
set_option maxRecDepth 100000 in
set_option maxHeartbeats 1000000 in
theorem specInverseTrade_any (v : Int) (so : Value) (bo : List Blk) (si : Value) (bi : List Blk) (w : World) (h : TB w so bo si bi) : Calls Try.prog 70 #[.agg #[.int .i64 v, so, si]] w (RTrd (invF v bo bi) w) := by
  have hs := h.1.slice
  have ht := h.2.slice
  have HI := Lib.hid fun W (hb : Below w.heap.size w W) => l04Is_any v so bo si bi W (h.below hb (Nat.le_refl _))
  have HM := Lib.hid fun (l1 : bi.length ≤ 100000) (l2 : bo.length ≤ 100000) W (hb : Below w.heap.size w W) => l04Made_any v si bi so bo W (h.2.sx.below hb (Nat.le_refl _)) (h.1.sx.below hb (Nat.le_refl _)) l1 l2
  clear h
  obtain ⟨a, c, rfl⟩ := hs
  obtain ⟨a', c', rfl⟩ := ht
  have HB := Lib.hid (BoxR.new w v (.slice a bo.length c) (.slice a' bi.length c'))
  have HBW := Lib.hid (wRI_below w v (.slice a bo.length c) (.slice a' bi.length c'))
  unfold invF
  cases hi : trdB v bo bi with
  | false =>
    rw [hi] at HI
    rw [if_neg (by simp)]
    clear hi HM
    go_enter Try.func70, Try.ntmps70
    go_wp2_with fail
    refine (HI.out (wRI w v (.slice a bo.length c) (.slice a' bi.length c')) HBW.out).mono ?_
    rintro e w1 ⟨rfl, hb1⟩
    obtain ⟨_, _, _, _, y0, y1, y2, g0, g1, g2⟩ := HB.out.below hb1
    have hB1 := HBW.out.trans (hb1.mono HBW.out.size)
    clear hb1
    go_wp2
    exact bodyPost_ret (v := .tuple #[.agg #[.int .i64 0, .slice none 0 0, .slice none 0 0], .int .i64 1]) (by simp [results, Try.results70, go_sem, *]) rfl (RTrd.no hB1 1 _ _ _)
  | true =>
    rw [hi] at HI
    rw [if_pos rfl]
    obtain ⟨p1, p2, _, _⟩ := trd_parts hi
    have q1 := sys_strict p1
    have q2 := sys_strict p2
    have HM2 := Lib.hid (HM.out (by have := (sys_size p2).2.2; omega) (by have := (sys_size p1).2.2; omega))
    rw [sortB_strict q1, sortB_strict q2] at HM2
    clear hi HM p1 p2 q1 q2
    go_enter Try.func70, Try.ntmps70
    go_wp2_with fail
    refine (HI.out (wRI w v (.slice a bo.length c) (.slice a' bi.length c')) HBW.out).mono ?_
    rintro e w1 ⟨rfl, hb1⟩
    have hbx := HB.out.below hb1
    have hB1 := HBW.out.trans (hb1.mono HBW.out.size)
    have HBX := Lib.hid hbx
    have HB1 := Lib.hid hB1
    obtain ⟨hlt, x0, x1, x2, _, _, _, _, _, _⟩ := hbx
    clear hb1 hB1
    go_wp2_with fail
    refine (HM2.out _ HB1.out).mono ?_
    rintro e w2 ⟨u, u', rfl, hr2, hb2⟩
    obtain ⟨_, _, _, _, y0, y1, y2, g0, g1, g2⟩ := HBX.out.below hb2
    have hB2 := HB1.out.trans (hb2.mono HB1.out.size)
    obtain ⟨⟨a5, c5, rfl⟩, ⟨a6, c6, rfl⟩⟩ := hr2.slice
    have HR := Lib.hid hr2
    clear hb2 hr2 x0 x1 x2
    go_wp2
    exact bodyPost_ret (v := .tuple #[.agg #[.int .i64 v, .slice a5 bi.length c5, .slice a6 bo.length c6], .int .i64 0]) (by simp [results, Try.results70, go_sem, *]) rfl (RTrd.of hB2 HR.out (by omega) rfl rfl _ _ _)
theorem invF_len (v : Int) (bo bi : List Blk) : (invF v bo bi).2.1.1.length + (invF v bo bi).2.1.2.length ≤ bo.length + bi.length := by
  unfold invF
  split <;> simp <;> omega
theorem invF_wfo (v : Int) {bo bi : List Blk} (h : ∀ x ∈ bi, WFB x) : ∀ x ∈ (invF v bo bi).2.1.1, WFB x := by
  unfold invF
  split
  · exact h
  · simp
theorem invF_wfi (v : Int) {bo bi : List Blk} (h : ∀ x ∈ bo, WFB x) : ∀ x ∈ (invF v bo bi).2.1.2, WFB x := by
  unfold invF
  split
  · exact h
  · simp
end Go.Proofs.Ytacfelgilphppaa

namespace Go.Proofs.Ytacfelgilphppaa
open Go.RowKit Go.Maps
theorem lit_own' (W : World) : OwnR (W.alloc (.cells #[] 93)) W.heap.size (.slice (some ⟨W.heap.size, 0, none⟩) 0 0) [] := OwnR.lit W
set_option maxRecDepth 100000 in
set_option maxHeartbeats 2000000 in
theorem l04Less_any (s : Value) (bs : List Blk) (t : Value) (cs : List Blk) (w : World) (h : SB w s bs) (k : SB w t cs) :
    Calls Try.prog 134 #[s, t] w (RA (lessL bs cs) w) := by
  have hs := h.slice
  have ht := k.slice
  have hl := h.2.1
  have HMB := Lib.hid fun x W (hb : Below w.heap.size w W) => l04Member_any t cs x W (k.below hb (Nat.le_refl _))
  have HSB := Lib.hid h
  clear h k
  obtain ⟨a, c, rfl⟩ := hs
  obtain ⟨a', c', rfl⟩ := ht
  have ho0 := Lib.hid (lit_own' w)
  go_enter Try.func134, Try.ntmps134
  go_wp2_with fail
  go_loopw [5, 6] (fun o i wr => ∃ k : Nat, k ≤ bs.length ∧ i = .int .i64 k ∧ Below w.heap.size w wr ∧ OwnR wr w.heap.size o (lessL (bs.take k) cs) ∧ ∃ a n c, o = .slice a n c) (fun _ i _ => bs.length - (intOf i).toNat)
  case atStart => exact ⟨0, Nat.zero_le _, rfl, (Below.refl _ _).alloc (Nat.le_refl _) _, ho0.out, _, _, _, rfl⟩
  case round =>
    obtain ⟨k, hk, rfl, hBr, hO, hform⟩ := hrel
    have hSl := hBr.size
    by_cases hkl : k < bs.length
    · rcases HSB.out.2.2 with ⟨_, _, _, hnil⟩ | ⟨b, off, cap, hval, hblt, hbl⟩
      · rw [hnil] at hkl; simp at hkl
      · simp at hval
        obtain ⟨rfl, rfl⟩ := hval
        have hblr := hbl.below hBr hblt
        obtain ⟨x, hx, ex, x1, x2, x3⟩ := blks_at hblr hkl
        have hnx := filter_take_next (p := fun x => !decide (x ∈ cs)) hkl ex
        have hlc := lessL_length (bs.take k) cs
        have hlc2 : (bs.take k).length ≤ bs.length := by simp; omega
        have g0 : (0 : Int) ≤ (k : Int) := by omega
        have g1 : (k : Int) < (bs.length : Int) := by omega
        have hmb := HMB.out x
        obtain ⟨p, q, r⟩ := x
        have HNX := Lib.hid hnx
        have HBR := Lib.hid hBr
        unfold bv at hmb
        dsimp only at hmb x1 x2 x3
        clear hbl hx ex hnx hblr hBr
        obtain ⟨a3, n3, c3, rfl⟩ := hform
        have HO := Lib.hid hO
        clear hO
        by_cases hin : (⟨p, q, r⟩ : Blk) ∈ cs
        · rw [decide_eq_true hin] at hmb
          have HM := Lib.hid hmb
          have hcl : lessL (bs.take (k + 1)) cs = lessL (bs.take k) cs := by
            unfold lessL
            rw [HNX.out, if_neg (by simpa using hin), List.append_nil]
          have HCL := Lib.hid hcl
          clear hcl hmb hin
          go_wp2_with fail
          refine (HM.out _ HBR.out).mono ?_
          rintro e w2 ⟨rfl, hb2⟩
          have HB2 := Lib.hid (HBR.out.trans (hb2.mono hSl))
          have HO2 := Lib.hid (HO.out.below hb2 (Nat.le_refl _))
          clear hb2
          go_wp2
          go_roundw
          case rel => exact ⟨k + 1, by omega, by go_num, HB2.out, by rw [HCL.out]; exact HO2.out, _, _, _, rfl⟩
          case measure => simp [intOf]; omega
        · rw [decide_eq_false hin] at hmb
          have HM := Lib.hid hmb
          have hcl : lessL (bs.take (k + 1)) cs = lessL (bs.take k) cs ++ [⟨p, q, r⟩] := by
            unfold lessL
            rw [HNX.out, if_pos (by simpa using hin)]
          have HCL := Lib.hid hcl
          clear hcl hmb hin
          go_wp2_with fail
          refine (HM.out _ HBR.out).mono ?_
          rintro e w2 ⟨rfl, hb2⟩
          have z1 := (hb2.cell (p := ⟨b, off + k * 3, none⟩) (show b < wr.heap.size by omega)).trans x1
          have z2 := (hb2.cell (p := ⟨b, off + k * 3 + 1, none⟩) (show b < wr.heap.size by omega)).trans x2
          have z3 := (hb2.cell (p := ⟨b, off + k * 3 + 2, none⟩) (show b < wr.heap.size by omega)).trans x3
          have hB2 := HBR.out.trans (hb2.mono hSl)
          have HB2 := Lib.hid hB2
          have HO2 := Lib.hid (HO.out.below hb2 (Nat.le_refl _))
          have hz2 := hB2.size
          clear hb2 x1 x2 x3 hB2
          go_wp2_with (at_builtin; refine wpList_append_blk rfl _ _ rfl w.heap.size _ (lessL (bs.take k) cs) rfl (HO2.out.below ((Below.refl _ _).alloc (Nat.le_refl _) _) (Nat.le_refl _)) _ _ ⟨p, q, r⟩ rfl (by simp [go_sem]) (by simp [go_sem]) (by simp [go_sem]) (by omega) (by simp; omega) ?_; intro g' cap' w4 hO4 hg4)
          have hrow := HO2.out.row
          have hgo : w2.grownBy w4 (Value.slice a3 n3 c3).ownBlock := ⟨hg4.os, hg4.tape, hg4.output, by have := hg4.size; simp at this; omega, fun i hi hne => by
            rw [hg4.block i (by simp; omega) hne, Below.heap_alloc _ _ _ hi]⟩
          clear hg4 z1 z2 z3
          go_roundw
          case rel => exact ⟨k + 1, by omega, by go_num, HB2.out.grown hgo hz2 (fun j e => hrow j e), by rw [HCL.out]; exact hO4, _, _, _, rfl⟩
          case measure => simp [intOf]; omega
    · obtain ⟨a3, n3, c3, rfl⟩ := hform
      go_wp2
      go_ret
      have e : k = bs.length := by omega
      subst e
      rw [List.take_length] at hO
      exact ⟨_, rfl, hO, hBr⟩
end Go.Proofs.Ytacfelgilphppaa

namespace Go.Proofs.Ytacfelgilphppaa
open Go.RowKit Go.Maps
structure CS (w : World) (v p : Int) (s sW s8 sG : Value) (XW X XG i0 i1 j1 j2 k1 k2 : Nat) (LW L8 LG : List Blk) (W : World) : Prop where
  st : St1 w v s W
  o0 : w.heap.size < i0
  o1 : i0 ≤ i1
  o2 : i1 ≤ XW
  o3 : XW < j1
  o4 : j1 ≤ j2
  o5 : j2 ≤ X
  o6 : X < k1
  o7 : k1 ≤ k2
  o8 : k2 ≤ XG
  rW : ResR W i0 i1 sW LW
  vW : VarB W XW p sW
  r8 : ResR W j1 j2 s8 L8
  vX : VarB W X v s8
  rG : ResR W k1 k2 sG LG
  vG : VarB W XG p sG
section
variable {w : World} {v p : Int} {s sW s8 sG : Value} {XW X XG i0 i1 j1 j2 k1 k2 : Nat} {LW L8 LG : List Blk} {W W' : World}
theorem CS.step (h : CS w v p s sW s8 sG XW X XG i0 i1 j1 j2 k1 k2 LW L8 LG W) (hg : W.grownBy W' none) : CS w v p s sW s8 sG XW X XG i0 i1 j1 j2 k1 k2 LW L8 LG W' :=
  ⟨h.st.step hg (by simp), h.o0, h.o1, h.o2, h.o3, h.o4, h.o5, h.o6, h.o7, h.o8, h.rW.kept hg (by simp), h.vW.step hg (by simp), h.r8.kept hg (by simp), h.vX.step hg (by simp), h.rG.kept hg (by simp), h.vG.step hg (by simp)⟩
theorem CS.mark8 (h : CS w v p s sW s8 sG XW X XG i0 i1 j1 j2 k1 k2 LW L8 LG W) {row : Option Nat} (hg : W.grownBy W' row) (hr : ∀ r, row = some r → j1 ≤ r ∧ r < j2) {L : List Blk} (hn : ResR W' j1 j2 s8 L) :
    CS w v p s sW s8 sG XW X XG i0 i1 j1 j2 k1 k2 LW L LG W' := by
  obtain ⟨st, o0, o1, o2, o3, o4, o5, o6, o7, o8, rW, vW, r8, vX, rG, vG⟩ := h
  exact ⟨st.step hg (fun r e => by have := hr r e; omega), o0, o1, o2, o3, o4, o5, o6, o7, o8, rW.kept hg (fun r e => by have := hr r e; omega), vW.step hg (fun e => by have := hr _ e; omega), hn, vX.step hg (fun e => by have := hr _ e; omega), rG.kept hg (fun r e => by have := hr r e; omega), vG.step hg (fun e => by have := hr _ e; omega)⟩
theorem CS.markG (h : CS w v p s sW s8 sG XW X XG i0 i1 j1 j2 k1 k2 LW L8 LG W) {row : Option Nat} (hg : W.grownBy W' row) (hr : ∀ r, row = some r → k1 ≤ r ∧ r < k2) {L : List Blk} (hn : ResR W' k1 k2 sG L) :
    CS w v p s sW s8 sG XW X XG i0 i1 j1 j2 k1 k2 LW L8 L W' := by
  obtain ⟨st, o0, o1, o2, o3, o4, o5, o6, o7, o8, rW, vW, r8, vX, rG, vG⟩ := h
  exact ⟨st.step hg (fun r e => by have := hr r e; omega), o0, o1, o2, o3, o4, o5, o6, o7, o8, rW.kept hg (fun r e => by have := hr r e; omega), vW.step hg (fun e => by have := hr _ e; omega), r8.kept hg (fun r e => by have := hr r e; omega), vX.step hg (fun e => by have := hr _ e; omega), hn, vG.step hg (fun e => by have := hr _ e; omega)⟩
end
end Go.Proofs.Ytacfelgilphppaa

namespace Go.Proofs.Ytacfelgilphppaa
open Go.RowKit Go.Maps
def diffF (v : Int) (bs : List Blk) (u : Int) (cs : List Blk) : Int × (List Blk × List Blk) × Int :=
  if isSysImpl v bs && isSysImpl u cs then (if decide (v = u) && samePr bs cs then (v, (lessL bs cs, lessL cs bs), 0) else (0, ([], []), 5)) else (0, ([], []), 1)
/-- The boxes of two systems and of the result. -/
structure BoxSST (w' : World) (b : Nat) (v : Int) (s : Value) (u : Int) (t : Value) : Prop where
  lt : b + 1 + 1 < w'.heap.size
  x0 : w'.cell? ⟨b, 0, none⟩ = some (.int .i64 v)
  x1 : w'.cell? ⟨b, 1, none⟩ = some s
  y0 : w'.cell? ⟨b + 1, 0, none⟩ = some (.int .i64 u)
  y1 : w'.cell? ⟨b + 1, 1, none⟩ = some t
  z0 : w'.cell? ⟨b + 1 + 1, 0, none⟩ = some (.int .i64 0)
  z1 : w'.cell? ⟨b + 1 + 1, 1, none⟩ = some (.slice none 0 0)
  z2 : w'.cell? ⟨b + 1 + 1, 2, none⟩ = some (.slice none 0 0)
  f0 : w'.frozen? ⟨b + 1 + 1, 0, none⟩ = false
  f1 : w'.frozen? ⟨b + 1 + 1, 1, none⟩ = false
  f2 : w'.frozen? ⟨b + 1 + 1, 2, none⟩ = false
def wSST (w : World) (v : Int) (s : Value) (u : Int) (t : Value) : World := ((w.alloc (.cells #[.int .i64 v, s] 31)).alloc (.cells #[.int .i64 u, t] 31)).alloc (.cells #[.int .i64 0, .slice none 0 0, .slice none 0 0] 63)
theorem BoxSST.new (w : World) (v : Int) (s : Value) (u : Int) (t : Value) : BoxSST (wSST w v s u t) w.heap.size v s u t := by
  unfold wSST
  constructor <;> simp [go_sem]
theorem wSST_below (w : World) (v : Int) (s : Value) (u : Int) (t : Value) : Below w.heap.size w (wSST w v s u t) := (((Below.refl _ _).alloc (Nat.le_refl _) _).alloc (by simp) _).alloc (by simp; omega) _
theorem BoxSST.below {w w' : World} {b : Nat} {v : Int} {s : Value} {u : Int} {t : Value} (h : BoxSST w b v s u t) (hb : Below w.heap.size w w') : BoxSST w' b v s u t := by
  have hl := h.lt
  exact ⟨Nat.lt_of_lt_of_le hl hb.size, (hb.cell (p := ⟨b, 0, none⟩) (by show b < _; omega)).trans h.x0, (hb.cell (p := ⟨b, 1, none⟩) (by show b < _; omega)).trans h.x1, (hb.cell (p := ⟨b + 1, 0, none⟩) (by show b + 1 < _; omega)).trans h.y0, (hb.cell (p := ⟨b + 1, 1, none⟩) (by show b + 1 < _; omega)).trans h.y1,
    (hb.cell (p := ⟨b + 1 + 1, 0, none⟩) hl).trans h.z0, (hb.cell (p := ⟨b + 1 + 1, 1, none⟩) hl).trans h.z1, (hb.cell (p := ⟨b + 1 + 1, 2, none⟩) hl).trans h.z2,
    (hb.frozen (p := ⟨b + 1 + 1, 0, none⟩) hl).trans h.f0, (hb.frozen (p := ⟨b + 1 + 1, 1, none⟩) hl).trans h.f1, (hb.frozen (p := ⟨b + 1 + 1, 2, none⟩) hl).trans h.f2⟩
theorem RTrd.of' {w W : World} {X lo : Nat} {so si : Value} {r : Int × (List Blk × List Blk) × Int} {p κ : Int} (hB : Below w.heap.size w W) (hr : ResT W lo W.heap.size so r.2.1.1 si r.2.1.2) (hX : w.heap.size ≤ X) (hlo : X < lo) (h1 : p = r.1) (h2 : κ = r.2.2) (u v x : Value) :
    RTrd r w (.returned (.tuple #[.agg #[.int .i64 p, so, si], .int .i64 κ])) (set3 W X u v x) := by
  subst h1 h2
  have hg := set3_gb W X u v x
  refine ⟨so, si, rfl, ?_, hB.grown hg hB.size (fun r e => by cases e; omega)⟩
  have e : (set3 W X u v x).heap.size = W.heap.size := by simp [set3]
  rw [e]
  exact (hr.kept hg (fun r e => by cases e; omega)).wide (by omega) (Nat.le_refl _)
theorem RTrd.no' {w W : World} {X : Nat} (hB : Below w.heap.size w W) (hX : w.heap.size ≤ X) (κ : Int) (u v x : Value) : RTrd (0, ([], []), κ) w (.returned (.tuple #[.agg #[.int .i64 0, .slice none 0 0, .slice none 0 0], .int .i64 κ])) (set3 W X u v x) := by
  have hg := set3_gb W X u v x
  refine ⟨_, _, rfl, ?_, hB.grown hg hB.size (fun r e => by cases e; omega)⟩
  have := ResT.nil (set3 W X u v x) (set3 W X u v x).heap.size
  exact this.wide (Nat.le_trans hB.size hg.size) (Nat.le_refl _)
set_option maxRecDepth 100000 in
set_option maxHeartbeats 4000000 in
theorem DifferenceTrade_any (v : Int) (s : Value) (bs : List Blk) (u : Int) (t : Value) (cs : List Blk) (w : World) (h : SB w s bs) (k : SB w t cs) :
    Calls Try.prog 85 #[.agg #[.int .i64 v, s], .agg #[.int .i64 u, t]] w (RTrd (diffF v bs u cs) w) := by
  have hs := h.slice
  have ht := k.slice
  have HI := Lib.hid fun W (hb : Below w.heap.size w W) => IsSystem_any v s bs W (h.below hb (Nat.le_refl _))
  have HT := Lib.hid fun W (hb : Below w.heap.size w W) => IsSystem_any u t cs W (k.below hb (Nat.le_refl _))
  have HP := Lib.hid fun (h1 : isSysImpl v bs = true) (h2 : isSysImpl u cs = true) W (hb : Below w.heap.size w W) => haveSame_any v u s bs t cs W (h.below hb (Nat.le_refl _)) (k.below hb (Nat.le_refl _)) h1 h2
  have HSB := Lib.hid h
  have KSB := Lib.hid k
  clear h k
  obtain ⟨a, c, rfl⟩ := hs
  obtain ⟨a', c', rfl⟩ := ht
  have HB := Lib.hid (BoxSST.new w v (.slice a bs.length c) u (.slice a' cs.length c'))
  have HBW := Lib.hid (wSST_below w v (.slice a bs.length c) u (.slice a' cs.length c'))
  cases hi : isSysImpl v bs with
  | false =>
    rw [hi] at HI
    have HV := Lib.hid (show diffF v bs u cs = (0, ([], []), 1) by simp only [diffF, hi]; rfl)
    clear hi HT HP HSB KSB
    go_enter Try.func85, Try.ntmps85
    go_wp2_with fail
    refine (HI.out (wSST w v (.slice a bs.length c) u (.slice a' cs.length c')) HBW.out).mono ?_
    rintro e w1 ⟨rfl, hb1⟩
    obtain ⟨_, _, _, _, _, z0, z1, z2, f0, f1, f2⟩ := HB.out.below hb1
    have hB1 := HBW.out.trans (hb1.mono HBW.out.size)
    clear hb1
    go_wp2
    exact bodyPost_ret (v := .tuple #[.agg #[.int .i64 0, .slice none 0 0, .slice none 0 0], .int .i64 1]) (by simp [results, Try.results85, go_sem, *]) rfl (by rw [HV.out]; exact RTrd.no' hB1 (by omega) 1 _ _ _)
  | true =>
    rw [hi] at HI
    have HP1 := Lib.hid (HP.out hi)
    clear HP
    cases hj : isSysImpl u cs with
    | false =>
      rw [hj] at HT
      have HV := Lib.hid (show diffF v bs u cs = (0, ([], []), 1) by simp only [diffF, hi, hj]; rfl)
      clear hi hj HP1 HSB KSB
      go_enter Try.func85, Try.ntmps85
      go_wp2_with fail
      refine (HI.out (wSST w v (.slice a bs.length c) u (.slice a' cs.length c')) HBW.out).mono ?_
      rintro e w1 ⟨rfl, hb1⟩
      have hbx1 := HB.out.below hb1
      have y0 := hbx1.y0
      have y1 := hbx1.y1
      have HBX1 := Lib.hid hbx1
      have HB1 := Lib.hid (HBW.out.trans (hb1.mono HBW.out.size))
      clear hb1 hbx1
      go_wp2_with fail
      refine (HT.out _ HB1.out).mono ?_
      rintro e w2 ⟨rfl, hb2⟩
      obtain ⟨_, _, _, _, _, z0, z1, z2, f0, f1, f2⟩ := HBX1.out.below hb2
      have hB2 := HB1.out.trans (hb2.mono HB1.out.size)
      clear hb2 y0 y1
      go_wp2
      exact bodyPost_ret (v := .tuple #[.agg #[.int .i64 0, .slice none 0 0, .slice none 0 0], .int .i64 1]) (by simp [results, Try.results85, go_sem, *]) rfl (by rw [HV.out]; exact RTrd.no' hB2 (by omega) 1 _ _ _)
    | true =>
      rw [hj] at HT
      have HV := Lib.hid (show diffF v bs u cs = (if (decide (v = u) && samePr bs cs) = true then (v, (lessL bs cs, lessL cs bs), 0) else (0, ([], []), 5)) by simp only [diffF, hi, hj]; rfl)
      have HP2 := Lib.hid (HP1.out hj)
      have l1 := (sys_size hi).2.2
      have l2 := (sys_size hj).2.2
      clear hi hj HP1
      go_enter Try.func85, Try.ntmps85
      go_wp2_with fail
      refine (HI.out (wSST w v (.slice a bs.length c) u (.slice a' cs.length c')) HBW.out).mono ?_
      rintro e w1 ⟨rfl, hb1⟩
      have hbx1 := HB.out.below hb1
      have y0 := hbx1.y0
      have y1 := hbx1.y1
      have HBX1 := Lib.hid hbx1
      have HB1 := Lib.hid (HBW.out.trans (hb1.mono HBW.out.size))
      clear hb1 hbx1
      go_wp2_with fail
      refine (HT.out _ HB1.out).mono ?_
      rintro e w2 ⟨rfl, hb2⟩
      have hbx2 := HBX1.out.below hb2
      clear y0 y1
      have x0 := hbx2.x0
      have x1 := hbx2.x1
      have y0 := hbx2.y0
      have y1 := hbx2.y1
      have HBX2 := Lib.hid hbx2
      have HB2 := Lib.hid (HB1.out.trans (hb2.mono HB1.out.size))
      clear hb2 hbx2
      by_cases hvu : v = u
      · subst hvu
        have hnn : (v != v) = false := by simp
        have hv1 := HV.out
        rw [decide_eq_true rfl, Bool.true_and] at hv1
        obtain ⟨β, hβ⟩ : ∃ β, β = samePr bs cs := ⟨_, rfl⟩
        rw [← hβ] at HP2 hv1
        have HV1 := Lib.hid hv1
        clear hβ hv1 HV
        go_wp2_with fail
        refine (HP2.out _ HB2.out).mono ?_
        rintro e w3 ⟨rfl, hb3⟩
        have HBX3 := Lib.hid (HBX2.out.below hb3)
        have HB3 := Lib.hid (HB2.out.trans (hb3.mono HB2.out.size))
        clear hb3 x0 x1 y0 y1
        cases β with
        | false =>
          have HV2 := Lib.hid (show diffF v bs v cs = (0, ([], []), 5) from HV1.out.trans (if_neg (by decide)))
          obtain ⟨_, _, _, _, _, z0, z1, z2, f0, f1, f2⟩ := HBX3.out
          go_wp2
          exact bodyPost_ret (v := .tuple #[.agg #[.int .i64 0, .slice none 0 0, .slice none 0 0], .int .i64 5]) (by simp [results, Try.results85, go_sem, *]) rfl (by rw [HV2.out]; exact RTrd.no' HB3.out (by omega) 5 _ _ _)
        | true =>
          have HV2 := Lib.hid (show diffF v bs v cs = (v, (lessL bs cs, lessL cs bs), 0) from HV1.out.trans (if_pos rfl))
          clear HV1
          obtain ⟨hlt3, x0, x1, y0, y1, _, _, _, _, _, _⟩ := HBX3.out
          go_upto_region 5 with fail
          go_cut [6] (fun o wx => BoxSST wx w.heap.size v (.slice a bs.length c) v (.slice a' cs.length c') ∧ Below w.heap.size w wx ∧ Below w3.heap.size w3 wx ∧ ResR wx w3.heap.size wx.heap.size o (lessL bs cs) ∧ ∃ p q, o = .slice p (lessL bs cs).length q)
          case first =>
            go_region_with (first | (go_at_call 98; refine (setOf_any _ cs _ ?_).mono ?_; (exact KSB.out.below HB3.out.drew (Nat.le_refl _)); rintro e w4 ⟨rfl, hS4, hb4⟩; have hst4 : Below w3.heap.size w3 w4 := ((Below.refl _ _).drew).trans hb4; have hbx4 := HBX3.out.below hst4; have q1 := hbx4.x1; have HBX4 := Lib.hid hbx4; clear hbx4; have HB4 := Lib.hid (HB3.out.trans (hst4.mono HB3.out.size))) | (go_at_call 133; refine (blocksWithout_any _ bs _ _ cs _ ?_ hS4).mono ?_; (exact HSB.out.below HB4.out (Nat.le_refl _)); rintro e w5 ⟨u5, rfl, hO5, hb5⟩))
            all_goals
              go_wp2_with fail
              go_meet
              exact ⟨HBX4.out.below hb5, HB4.out.trans (hb5.mono HB4.out.size), hst4.trans (hb5.mono hst4.size), hO5.res.wide hst4.size (Nat.le_refl _), hO5.res.slice⟩
          case rest =>
          obtain ⟨hbx5, hB5, hst5, hr5, p5, q5, rfl⟩ := hcut
          obtain ⟨w5, hw5⟩ : ∃ W, W = wc := ⟨_, rfl⟩
          rw [← hw5] at hbx5 hB5 hst5 hr5 ⊢
          clear hw5 x0 x1 y0 y1
          have HBX5 := Lib.hid hbx5
          have HB5 := Lib.hid hB5
          have HR5 := Lib.hid hr5
          have hz5 := hst5.size
          obtain ⟨hlt5, x0, x1, y0, y1, _, _, _, _, _, _⟩ := hbx5
          clear hB5 hr5 hst5
          go_upto_region 6 with fail
          go_cut [7] (fun o wx => BoxSST wx w.heap.size v (.slice a bs.length c) v (.slice a' cs.length c') ∧ Below w.heap.size w wx ∧ Below w5.heap.size w5 wx ∧ ResR wx w5.heap.size wx.heap.size o (lessL cs bs) ∧ ∃ p q, o = .slice p (lessL cs bs).length q)
          case first =>
            go_region_with (first | (go_at_call 98; refine (setOf_any _ bs _ ?_).mono ?_; (exact HSB.out.below HB5.out.drew (Nat.le_refl _)); rintro e w6 ⟨rfl, hS6, hb6⟩; have hst6 : Below w5.heap.size w5 w6 := ((Below.refl _ _).drew).trans hb6; have hbx6 := HBX5.out.below hst6; have q1 := hbx6.y1; have HBX6 := Lib.hid hbx6; clear hbx6; have HB6 := Lib.hid (HB5.out.trans (hst6.mono HB5.out.size))) | (go_at_call 133; refine (blocksWithout_any _ cs _ _ bs _ ?_ hS6).mono ?_; (exact KSB.out.below HB6.out (Nat.le_refl _)); rintro e w7 ⟨u7, rfl, hO7, hb7⟩))
            all_goals
              go_wp2_with fail
              go_meet
              exact ⟨HBX6.out.below hb7, HB6.out.trans (hb7.mono HB6.out.size), hst6.trans (hb7.mono hst6.size), hO7.res.wide hst6.size (Nat.le_refl _), hO7.res.slice⟩
          case rest =>
          obtain ⟨hbx7, hB7, hst7, hr7, p7, q7, rfl⟩ := hcut
          obtain ⟨w7, hw7⟩ : ∃ W, W = wc := ⟨_, rfl⟩
          rw [← hw7] at hbx7 hB7 hst7 hr7 ⊢
          clear hw7 x0 x1 y0 y1
          have HT7 := Lib.hid (ResT.of (lo := w3.heap.size) (hi := w7.heap.size) (HR5.out.below hst7 (Nat.le_refl _)) hr7 (Nat.le_refl _) hst7.size hz5 (Nat.le_refl _) (.inl (Nat.le_refl _)))
          obtain ⟨m5, hm5⟩ : ∃ m, m = (lessL bs cs).length := ⟨_, rfl⟩
          obtain ⟨m7, hm7⟩ : ∃ m, m = (lessL cs bs).length := ⟨_, rfl⟩
          rw [← hm5, ← hm7] at HT7
          rw [← hm5, ← hm7]
          obtain ⟨_, x0, x1, y0, y1, z0, z1, z2, f0, f1, f2⟩ := hbx7
          clear hst7 hr7 HR5 hm5 hm7
          go_wp2
          exact bodyPost_ret (v := .tuple #[.agg #[.int .i64 v, .slice p5 m5 q5, .slice p7 m7 q7], .int .i64 0]) (by simp [results, Try.results85, go_sem, *]) rfl (by rw [HV2.out]; exact RTrd.of' (r := (v, (lessL bs cs, lessL cs bs), 0)) hB7 HT7.out (by omega) (by omega) rfl rfl _ _ _)
      · have hne : (v != u) = true := by simpa using hvu
        have hv1 := HV.out
        rw [decide_eq_false hvu, Bool.false_and, if_neg (by decide)] at hv1
        have HV2 := Lib.hid hv1
        clear hv1 HV
        obtain ⟨_, _, _, _, _, z0, z1, z2, f0, f1, f2⟩ := HBX2.out
        clear x0 x1 y0 y1
        obtain ⟨x0, x1, y0, y1⟩ : _ ∧ _ ∧ _ ∧ _ := ⟨HBX2.out.x0, HBX2.out.x1, HBX2.out.y0, HBX2.out.y1⟩
        go_wp2
        exact bodyPost_ret (v := .tuple #[.agg #[.int .i64 0, .slice none 0 0, .slice none 0 0], .int .i64 5]) (by simp [results, Try.results85, go_sem, *]) rfl (by rw [HV2.out]; exact RTrd.no' HB2.out (by omega) 5 _ _ _)
end Go.Proofs.Ytacfelgilphppaa

namespace Go.Proofs.Ytacfelgilphppaa
open Go.RowKit Go.Maps
set_option maxRecDepth 100000 in
set_option maxHeartbeats 4000000 in
theorem specDifferenceTrade_any (v : Int) (s : Value) (bs : List Blk) (u : Int) (t : Value) (cs : List Blk) (w : World) (h : SB w s bs) (k : SB w t cs) :
    Calls Try.prog 84 #[.agg #[.int .i64 v, s], .agg #[.int .i64 u, t]] w (RTrd (diffF v bs u cs) w) := by
  have hs := h.slice
  have ht := k.slice
  have HI := Lib.hid fun W (hb : Below w.heap.size w W) => l01Is_any v s bs W (h.below hb (Nat.le_refl _))
  have HT := Lib.hid fun W (hb : Below w.heap.size w W) => l01Is_any u t cs W (k.below hb (Nat.le_refl _))
  have HP := Lib.hid fun (h1 : isSysImpl v bs = true) (h2 : isSysImpl u cs = true) W (hb : Below w.heap.size w W) => l04Same_any v u s bs t cs W (h.below hb (Nat.le_refl _)) (k.below hb (Nat.le_refl _)) (sys_good h1) (sys_good h2) (sys_parts h1).2.1 (sys_parts h2).2.1
  have HSB := Lib.hid h
  have KSB := Lib.hid k
  clear h k
  obtain ⟨a, c, rfl⟩ := hs
  obtain ⟨a', c', rfl⟩ := ht
  have HB := Lib.hid (BoxSST.new w v (.slice a bs.length c) u (.slice a' cs.length c'))
  have HBW := Lib.hid (wSST_below w v (.slice a bs.length c) u (.slice a' cs.length c'))
  cases hi : isSysImpl v bs with
  | false =>
    rw [hi] at HI
    have HV := Lib.hid (show diffF v bs u cs = (0, ([], []), 1) by simp only [diffF, hi]; rfl)
    clear hi HT HP HSB KSB
    go_enter Try.func84, Try.ntmps84
    go_wp2_with fail
    refine (HI.out (wSST w v (.slice a bs.length c) u (.slice a' cs.length c')) HBW.out).mono ?_
    rintro e w1 ⟨rfl, hb1⟩
    obtain ⟨_, _, _, _, _, z0, z1, z2, f0, f1, f2⟩ := HB.out.below hb1
    have hB1 := HBW.out.trans (hb1.mono HBW.out.size)
    clear hb1
    go_wp2
    exact bodyPost_ret (v := .tuple #[.agg #[.int .i64 0, .slice none 0 0, .slice none 0 0], .int .i64 1]) (by simp [results, Try.results84, go_sem, *]) rfl (by rw [HV.out]; exact RTrd.no' hB1 (by omega) 1 _ _ _)
  | true =>
    rw [hi] at HI
    have HP1 := Lib.hid (HP.out hi)
    clear HP
    cases hj : isSysImpl u cs with
    | false =>
      rw [hj] at HT
      have HV := Lib.hid (show diffF v bs u cs = (0, ([], []), 1) by simp only [diffF, hi, hj]; rfl)
      clear hi hj HP1 HSB KSB
      go_enter Try.func84, Try.ntmps84
      go_wp2_with fail
      refine (HI.out (wSST w v (.slice a bs.length c) u (.slice a' cs.length c')) HBW.out).mono ?_
      rintro e w1 ⟨rfl, hb1⟩
      have hbx1 := HB.out.below hb1
      have y0 := hbx1.y0
      have y1 := hbx1.y1
      have HBX1 := Lib.hid hbx1
      have HB1 := Lib.hid (HBW.out.trans (hb1.mono HBW.out.size))
      clear hb1 hbx1
      go_wp2_with fail
      refine (HT.out _ HB1.out).mono ?_
      rintro e w2 ⟨rfl, hb2⟩
      obtain ⟨_, _, _, _, _, z0, z1, z2, f0, f1, f2⟩ := HBX1.out.below hb2
      have hB2 := HB1.out.trans (hb2.mono HB1.out.size)
      clear hb2 y0 y1
      go_wp2
      exact bodyPost_ret (v := .tuple #[.agg #[.int .i64 0, .slice none 0 0, .slice none 0 0], .int .i64 1]) (by simp [results, Try.results84, go_sem, *]) rfl (by rw [HV.out]; exact RTrd.no' hB2 (by omega) 1 _ _ _)
    | true =>
      rw [hj] at HT
      have HV := Lib.hid (show diffF v bs u cs = (if (decide (v = u) && samePr bs cs) = true then (v, (lessL bs cs, lessL cs bs), 0) else (0, ([], []), 5)) by simp only [diffF, hi, hj]; rfl)
      have HP2 := Lib.hid (HP1.out hj)
      have l1 := (sys_size hi).2.2
      have l2 := (sys_size hj).2.2
      have hq1 : sortB (lessL bs cs) = lessL bs cs := sortB_strict (lessL_strict (sys_strict hi))
      have hq2 : sortB (lessL cs bs) = lessL cs bs := sortB_strict (lessL_strict (sys_strict hj))
      have hl1 := lessL_length bs cs
      have hl2 := lessL_length cs bs
      have HLE := Lib.hid (fun W (hb : Below w.heap.size w W) => l04Less_any _ bs _ cs W (HSB.out.below hb (Nat.le_refl _)) (KSB.out.below hb (Nat.le_refl _)))
      have HLF := Lib.hid (fun W (hb : Below w.heap.size w W) => l04Less_any _ cs _ bs W (KSB.out.below hb (Nat.le_refl _)) (HSB.out.below hb (Nat.le_refl _)))
      have HMD := Lib.hid (fun (v : Int) (s t : Value) (W : World) (h : SX W s (lessL bs cs)) (k : SX W t (lessL cs bs)) => l04Made_any v s (lessL bs cs) t (lessL cs bs) W h k (by omega) (by omega))
      rw [hq1, hq2] at HMD
      have HMX := Lib.hid HMD.out
      clear HMD hq1 hq2
      clear hi hj HP1
      go_enter Try.func84, Try.ntmps84
      go_wp2_with fail
      refine (HI.out (wSST w v (.slice a bs.length c) u (.slice a' cs.length c')) HBW.out).mono ?_
      rintro e w1 ⟨rfl, hb1⟩
      have hbx1 := HB.out.below hb1
      have y0 := hbx1.y0
      have y1 := hbx1.y1
      have HBX1 := Lib.hid hbx1
      have HB1 := Lib.hid (HBW.out.trans (hb1.mono HBW.out.size))
      clear hb1 hbx1
      go_wp2_with fail
      refine (HT.out _ HB1.out).mono ?_
      rintro e w2 ⟨rfl, hb2⟩
      have hbx2 := HBX1.out.below hb2
      clear y0 y1
      have x0 := hbx2.x0
      have x1 := hbx2.x1
      have y0 := hbx2.y0
      have y1 := hbx2.y1
      have HBX2 := Lib.hid hbx2
      have HB2 := Lib.hid (HB1.out.trans (hb2.mono HB1.out.size))
      clear hb2 hbx2
      by_cases hvu : v = u
      · subst hvu
        have hnn : (v != v) = false := by simp
        have hv1 := HV.out
        rw [decide_eq_true rfl, Bool.true_and] at hv1
        obtain ⟨β, hβ⟩ : ∃ β, β = samePr bs cs := ⟨_, rfl⟩
        rw [← hβ] at HP2 hv1
        have HV1 := Lib.hid hv1
        clear hβ hv1 HV
        go_wp2_with fail
        refine (HP2.out _ HB2.out).mono ?_
        rintro e w3 ⟨rfl, hb3⟩
        have HBX3 := Lib.hid (HBX2.out.below hb3)
        have HB3 := Lib.hid (HB2.out.trans (hb3.mono HB2.out.size))
        clear hb3 x0 x1 y0 y1
        cases β with
        | false =>
          have HV2 := Lib.hid (show diffF v bs v cs = (0, ([], []), 5) from HV1.out.trans (if_neg (by decide)))
          obtain ⟨_, _, _, _, _, z0, z1, z2, f0, f1, f2⟩ := HBX3.out
          go_wp2
          exact bodyPost_ret (v := .tuple #[.agg #[.int .i64 0, .slice none 0 0, .slice none 0 0], .int .i64 5]) (by simp [results, Try.results84, go_sem, *]) rfl (by rw [HV2.out]; exact RTrd.no' HB3.out (by omega) 5 _ _ _)
        | true =>
          have HV2 := Lib.hid (show diffF v bs v cs = (v, (lessL bs cs, lessL cs bs), 0) from HV1.out.trans (if_pos rfl))
          clear HV1
          have hbx3 := HBX3.out
          obtain ⟨hlt3, x0, x1, y0, y1, _, _, _, _, _, _⟩ := id hbx3
          have hz3 := HB3.out.size
          go_upto_region 5 with fail
          go_region_held3 (fun w' => w'.cell? ⟨w.heap.size, 0, none⟩ = some (.int .i64 v) ∧ w'.cell? ⟨w.heap.size, 1, none⟩ = some (.slice a bs.length c) ∧ w'.cell? ⟨w.heap.size + 1, 1, none⟩ = some (.slice a' cs.length c'))
            (first | exact ⟨E0, E1, E2⟩ | exact ⟨F0, F1, F2⟩ | exact ⟨G0, G1, G2⟩ | exact ⟨K0, K1, K2⟩ | go_keep)
            (first
              | (go_at_call_of 134 #[Value.slice a bs.length c, Value.slice a' cs.length c']; refine (HLE.out _ (by first | exact HB3.out | exact HB3.out.drew)).mono ?_; rintro e w7 ⟨u7, rfl, ho7, hb7⟩; have hB7 : Below w3.heap.size w3 w7 := (by first | exact hb7 | exact ((Below.refl _ _).drew).trans hb7); have BX7 := HBX3.out.below hB7; have E0 := BX7.x0; have E1 := BX7.x1; have E2 := BX7.y1; obtain ⟨a7, c7, hu⟩ := ho7.form; subst hu; have HO7 := Lib.hid ho7; have hz7 := hB7.size)
              | (go_at_call 134; refine (HLF.out _ (by first | exact HB3.out.trans (hB7.mono hz3) | exact (HB3.out.trans (hB7.mono hz3)).drew)).mono ?_; rintro e w8 ⟨u8, rfl, ho8, hb8⟩; have hB8 : Below w7.heap.size w7 w8 := (by first | exact hb8 | exact ((Below.refl _ _).drew).trans hb8); have BX8 := BX7.below hB8; have F0 := BX8.x0; have F1 := BX8.x1; have F2 := BX8.y1; obtain ⟨a8, c8, hu⟩ := ho8.form; subst hu; have HS7 := Lib.hid (HO7.out.below hB8 (Nat.le_refl _)).sx; have HS8 := Lib.hid ho8.sx; have hz8 := hB8.size)
              | (go_at_call 130; refine (HMX.out v _ _ _ ?_ ?_).mono ?_; (first | exact HS7.out | exact HS7.out.below ((Below.refl _ _).drew) (Nat.le_refl _)); (first | exact HS8.out | exact HS8.out.below ((Below.refl _ _).drew) (Nat.le_refl _)); rintro e w9 ⟨u9, u9', rfl, hr9, hb9⟩; have hB9 : Below w8.heap.size w8 w9 := (by first | exact hb9 | exact ((Below.refl _ _).drew).trans hb9); have BX9 := BX8.below hB9; have G0 := BX9.x0; have G1 := BX9.x1; have G2 := BX9.y1; obtain ⟨⟨p5, q5, hu5⟩, ⟨p7, q7, hu7⟩⟩ := hr9.slice; (obtain ⟨m5, hm5⟩ : ∃ m, m = (lessL bs cs).length := ⟨_, rfl⟩); (obtain ⟨m7, hm7⟩ : ∃ m, m = (lessL cs bs).length := ⟨_, rfl⟩); rw [← hm5] at hu5; rw [← hm7] at hu7; subst hu5; subst hu7; clear hm5 hm7; have HT9 := Lib.hid (hr9.wide (lo' := w8.heap.size) (by first | exact Nat.le_refl _ | simp) (Nat.le_refl _)); have hz9 := hB9.size; have hBF := (HB3.out.trans (hB7.mono hz3)).trans ((hB8.mono (by omega)).trans (hB9.mono (by omega))); obtain ⟨_, _, _, _, _, z0, z1, z2, f0, f1, f2⟩ := id BX9; have gset := set3_gb w9 (w.heap.size + 1 + 1) (.int .i64 v) (.slice p5 m5 q5) (.slice p7 m7 q7); have K0 := gset.cell G0 (by simp; omega); have K1 := gset.cell G1 (by simp; omega); have K2 := gset.cell G2 (by simp)))
          all_goals
            go_wp2
            exact bodyPost_ret (v := .tuple #[.agg #[.int .i64 v, .slice p5 m5 q5, .slice p7 m7 q7], .int .i64 0]) (by simp [results, Try.results84, go_sem, *]) rfl (by rw [HV2.out]; exact RTrd.of' (r := (v, (lessL bs cs, lessL cs bs), 0)) hBF HT9.out (by omega) (by omega) rfl rfl _ _ _)
      · have hne : (v != u) = true := by simpa using hvu
        have hv1 := HV.out
        rw [decide_eq_false hvu, Bool.false_and, if_neg (by decide)] at hv1
        have HV2 := Lib.hid hv1
        clear hv1 HV
        obtain ⟨_, _, _, _, _, z0, z1, z2, f0, f1, f2⟩ := HBX2.out
        clear x0 x1 y0 y1
        obtain ⟨x0, x1, y0, y1⟩ : _ ∧ _ ∧ _ ∧ _ := ⟨HBX2.out.x0, HBX2.out.x1, HBX2.out.y0, HBX2.out.y1⟩
        go_wp2
        exact bodyPost_ret (v := .tuple #[.agg #[.int .i64 0, .slice none 0 0, .slice none 0 0], .int .i64 5]) (by simp [results, Try.results84, go_sem, *]) rfl (by rw [HV2.out]; exact RTrd.no' HB2.out (by omega) 5 _ _ _)
theorem diffF_len (v : Int) (bs : List Blk) (u : Int) (cs : List Blk) : (diffF v bs u cs).2.1.1.length + (diffF v bs u cs).2.1.2.length ≤ bs.length + cs.length := by
  have h1 := lessL_length bs cs
  have h2 := lessL_length cs bs
  unfold diffF
  split
  · split
    · simp; omega
    · simp
  · simp
theorem diffF_le (v : Int) (bs : List Blk) (u : Int) (cs : List Blk) : (diffF v bs u cs).2.1.1.length + (diffF v bs u cs).2.1.2.length ≤ 70 := by
  have h1 := lessL_length bs cs
  have h2 := lessL_length cs bs
  unfold diffF
  split
  · rename_i h
    simp only [Bool.and_eq_true] at h
    have p1 := (sys_size h.1).2.2
    have p2 := (sys_size h.2).2.2
    split
    · simp; omega
    · simp
  · simp
theorem diffF_wfo (v : Int) {bs : List Blk} (u : Int) (cs : List Blk) (h : ∀ x ∈ bs, WFB x) : ∀ x ∈ (diffF v bs u cs).2.1.1, WFB x := by
  unfold diffF
  split
  · split
    · exact fun x hx => h x (lessL_mem.1 hx).1
    · simp
  · simp
theorem diffF_wfi (v : Int) (bs : List Blk) (u : Int) {cs : List Blk} (h : ∀ x ∈ cs, WFB x) : ∀ x ∈ (diffF v bs u cs).2.1.2, WFB x := by
  unfold diffF
  split
  · split
    · exact fun x hx => h x (lessL_mem.1 hx).1
    · simp
  · simp
end Go.Proofs.Ytacfelgilphppaa

namespace Go.Proofs.Ytacfelgilphppaa
open Go.RowKit Go.Maps
/-- A variable for a system that has been made and not yet been stored into. -/
structure ZBox (W : World) (X : Nat) : Prop where
  c0 : W.cell? ⟨X, 0, none⟩ = some (.int .i64 0)
  c1 : W.cell? ⟨X, 1, none⟩ = some (.slice none 0 0)
  f0 : W.frozen? ⟨X, 0, none⟩ = false
  f1 : W.frozen? ⟨X, 1, none⟩ = false
def zeroSys : Obj := .cells #[.int .i64 0, .slice none 0 0] 31
theorem ZBox.fresh (W : World) : ZBox (W.alloc (.cells #[.int .i64 0, .slice none 0 0] 31)) W.heap.size := by constructor <;> simp [go_sem]
theorem ZBox.kept {W W' : World} {X : Nat} (h : ZBox W X) (hg : W.grownBy W' none) : ZBox W' X := by
  have hb := hg.block X (World.block_lt_of_cell? W ⟨X, 0, none⟩ h.c0) (by simp)
  exact ⟨hg.cell h.c0 (by simp), hg.cell h.c1 (by simp), (World.frozen?_of_block (a := ⟨X, 0, none⟩) hb).trans h.f0, (World.frozen?_of_block (a := ⟨X, 1, none⟩) hb).trans h.f1⟩
theorem ZBox.lt {W : World} {X : Nat} (h : ZBox W X) : X < W.heap.size := World.block_lt_of_cell? W ⟨X, 0, none⟩ h.c0
theorem gb_tr {a b c : World} (h : a.grownBy b none) (k : b.grownBy c none) : a.grownBy c none := gb_trans h k
section
variable {w W0 Wp W : World} {I : List Item} {X lo : Nat} {p : Int} {s : Value} {L : List Blk}
/-- The variable was made ahead of the result: W0 before the statement, Wp where the result's call begins, W behind it; X the variable. -/
theorem Mem.early (h : Mem w I W0) (g0 : W0.grownBy Wp none) (hX0 : W0.heap.size ≤ X) (hX : X < Wp.heap.size) (hz : ZBox Wp X) (hb : Below Wp.heap.size Wp W) (hr : ResR W Wp.heap.size W.heap.size s L) :
    Mem w (iVar X p s :: iBlks Wp.heap.size W.heap.size s L :: I) ((W.setCell ⟨X, 0, none⟩ (.int .i64 p)).setCell ⟨X, 1, none⟩ s) := by
  have h1 : Mem w (iVar X 0 (.slice none 0 0) :: I) Wp := h.push g0 (iVar X 0 (.slice none 0 0)) hX0 (Nat.le_succ _) hX (iVar_ok _ _ _) ⟨hX, hz.c0, hz.c1⟩
  have h2 := h1.pushB hb hr
  have hz2 := hz.kept (gb_below hb)
  have hgs := gb_set2 W X (.int .i64 p) s
  have h3 := h2.mark 1 rfl (OnlyIn.of_grown (lo := X) (hi := X + 1) hgs (fun r e => by cases e; omega)) (P' := fun W => VarB W X p s) (iVar_ok X p s) ⟨by simpa [World.setCell] using hz2.lt, ?_, ?_⟩
  · exact h3.swap
  · rw [World.cell?_setCell_other _ _ _ _ (by simp), World.cell?_setCell_same' _ _ _ (by rw [hz2.c0]; rfl)]
  · rw [World.cell?_setCell_same' _ _ _ (by rw [World.cell?_setCell_other _ _ _ _ (by simp), hz2.c1]; rfl)]
/-- The variable was made behind the result. -/
theorem Mem.late (h : Mem w I W0) (g0 : W0.grownBy Wp none) (hb : Below Wp.heap.size Wp W) (hr : ResR W Wp.heap.size W.heap.size s L) :
    Mem w (iVar W.heap.size p s :: iBlks Wp.heap.size W.heap.size s L :: I) (W.alloc (.cells #[.int .i64 p, s] 31)) :=
  ((h.step g0).pushB hb hr).pushVar p s _
theorem Mem.drew (h : Mem w I W) : Mem w I W.drew := h.step (gb_drew1 _)
end
/-- Behind a drawn statement whose result is a system and a code. -/
def SysRel {w W0 : World} {I : List Item} (_ : Mem w I W0) (p : Int) (L : List Blk) (κ : Int) (bx kv : Value) (wx : World) : Prop :=
  ∃ X lo hi a n, bx = .pointer (some ⟨X, 0, none⟩) ∧ kv = .int .i64 κ ∧ Mem w (iVar X p (.slice a L.length n) :: iBlks lo hi (.slice a L.length n) L :: I) wx
section
variable {w W0 Wp W : World} {I : List Item} {X : Nat} {p κ : Int} {L : List Blk} {a : Option Addr} {n : Nat}
theorem SysRel.early (h : Mem w I W0) (g0 : W0.grownBy Wp none) (hX0 : W0.heap.size ≤ X) (hz : ZBox Wp X) (hb : Below Wp.heap.size Wp W) (hr : ResR W Wp.heap.size W.heap.size (.slice a L.length n) L) :
    SysRel h p L κ (.pointer (some ⟨X, 0, none⟩)) (.int .i64 κ) ((W.setCell ⟨X, 0, none⟩ (.int .i64 p)).setCell ⟨X, 1, none⟩ (.slice a L.length n)) :=
  ⟨X, _, _, a, n, rfl, rfl, h.early g0 hX0 hz.lt hz hb hr⟩
theorem SysRel.late (h : Mem w I W0) (g0 : W0.grownBy Wp none) (hb : Below Wp.heap.size Wp W) (hr : ResR W Wp.heap.size W.heap.size (.slice a L.length n) L) :
    SysRel h p L κ (.pointer (some ⟨W.heap.size, 0, none⟩)) (.int .i64 κ) (W.alloc (.cells #[.int .i64 p, .slice a L.length n] 31)) :=
  ⟨W.heap.size, _, _, a, n, rfl, rfl, h.late g0 hb hr⟩
theorem SysRel.drew {h : Mem w I W0} {bx kv : Value} (k : SysRel h p L κ bx kv W) : SysRel h p L κ bx kv W.drew := by
  obtain ⟨X, lo, hi, a, n, h1, h2, h3⟩ := k
  exact ⟨X, lo, hi, a, n, h1, h2, h3.step (gb_drew1 _)⟩
end
theorem keepset {W : World} {X q o : Nat} {u a b : Value} (h : W.cell? ⟨q, o, none⟩ = some u) (hq : q < X) : ((W.setCell ⟨X, 0, none⟩ a).setCell ⟨X, 1, none⟩ b).cell? ⟨q, o, none⟩ = some u :=
  (gb_set2 W X a b).cell h (by simp; omega)
end Go.Proofs.Ytacfelgilphppaa

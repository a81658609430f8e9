
/- The model's insertion sort. The model's block of three points. The model's DoubleSystem answers as dblF. impl.SquareOf makes the square of its number. The model's l01Order. The model's RenumberSystem. The model's RenumberSystem, whole. -/
import Derived.Test.YtehdpgjbmnkkiaaJ7
namespace Go.Proofs.Ytehdpgjbmnkkiaa
open Go.RowKit Go.Maps
theorem ins_start (x : Blk) (l : List Blk) : l ++ [x] = l.take l.length ++ x :: l.drop l.length := by simp
theorem ins_round (l : List Blk) {m : Nat} (hm : m < l.length) (y : Blk) : (l.take (m + 1) ++ y :: l.drop (m + 1)).set (m + 1) (l[m]?.getD default) = l.take m ++ (l[m]?.getD default) :: l.drop m := by
  have h1 : (l.take (m + 1)).length = m + 1 := by simp; omega
  rw [List.set_append_right _ _ (by omega), h1, Nat.sub_self, List.set_cons_zero]
  rw [List.getElem?_eq_getElem hm, Option.getD_some, List.take_succ_eq_append_getElem hm, List.append_assoc]
  congr 1
  rw [List.singleton_append, List.drop_eq_getElem_cons hm]
theorem ins_end (l : List Blk) {m : Nat} (hm : m ≤ l.length) (x y : Blk) : (l.take m ++ y :: l.drop m).set m x = l.take m ++ x :: l.drop m := by
  have h1 : (l.take m).length = m := by simp; omega
  rw [List.set_append_right _ _ (by omega), h1, Nat.sub_self, List.set_cons_zero]
theorem ins_len (l : List Blk) {m : Nat} (hm : m ≤ l.length) (y : Blk) : (l.take m ++ y :: l.drop m).length = l.length + 1 := by
  simp; omega
theorem ins_at (l : List Blk) {m : Nat} (hm : m < l.length) (y : Blk) : (l.take (m + 1) ++ y :: l.drop (m + 1))[m]?.getD default = l[m]?.getD default := by
  rw [List.getElem?_append_left (by simp; omega), List.getElem?_take_of_lt (by omega)]
set_option maxRecDepth 100000 in
set_option maxHeartbeats 1000000 in
theorem l01Sort_any (s : Value) (bs : List Blk) (w : World) (h : SX w s bs) (hl : bs.length ≤ 100000) :
    Calls Try.prog 161 #[s] w fun e w' => ∃ u, e = .returned u ∧ OwnR w' w.heap.size u (sortB bs) ∧ Below w.heap.size w w' := by
  have hs : ∃ a c, s = .slice a bs.length c := by rcases h with ⟨a0, c0, rfl, rfl⟩ | ⟨b, off, cap, rfl, _⟩ <;> exact ⟨_, _, rfl⟩
  have HSX := Lib.hid h
  clear h
  obtain ⟨a0, c0, rfl⟩ := hs
  go_enter Try.func161, Try.ntmps161
  go_wp2
  have ho0 := lit_own w
  obtain ⟨w0, hw0⟩ : ∃ w0, w.alloc (.cells #[] 93) = w0 := ⟨_, rfl⟩
  have hB0 : Below w.heap.size w w0 := by rw [← hw0]; exact (Below.refl _ _).alloc (Nat.le_refl _) _
  have hz0 : w.heap.size < w0.heap.size := by rw [← hw0]; simp
  rw [hw0] at ho0 ⊢
  have HO0 := Lib.hid ho0
  clear hw0 ho0
  go_loopw [3, 4] (fun o i wr => ∃ k : Nat, k ≤ bs.length ∧ i = .int .i64 k ∧ Below w.heap.size w wr ∧ OwnR wr w.heap.size o (sortB (bs.take k)) ∧ ∃ a c, o = .slice a k c) (fun _ i _ => bs.length - (intOf i).toNat)
  case atStart => exact ⟨0, Nat.zero_le _, rfl, hB0, by simpa [sortB] using HO0.out, _, _, rfl⟩
  case round =>
    obtain ⟨k, hk, rfl, hB, hO, a3, c3, rfl⟩ := hrel
    have hz := hB.size
    by_cases hkl : k < bs.length
    · rcases HSX.out with ⟨_, _, _, hnil⟩ | ⟨b, off, cap, hv, hblt, hbl⟩
      · rw [hnil] at hkl; simp at hkl
      · simp at hv
        obtain ⟨rfl, rfl⟩ := hv
        have HBL := Lib.hid hbl
        obtain ⟨x, hx, ex, x1, x2, x3⟩ := blks_at (hbl.below hB hblt) hkl
        obtain ⟨l, hl1⟩ : ∃ l, l = sortB (bs.take k) := ⟨_, rfl⟩
        have hll : l.length = k := by rw [hl1, sortB_length]; simp; omega
        have hnext : sortB (bs.take (k + 1)) = insB x l := by
          rw [List.getElem?_eq_getElem hkl] at ex
          have ex' : bs[k] = x := by simpa using ex
          rw [take_next hkl, ex', sortB_snoc, hl1]
        rw [← hl1] at hO
        have HO := Lib.hid hO
        have HNX := Lib.hid hnext
        have HLL := Lib.hid hll
        have hlen2 : l.length ≤ 100000 := by omega
        have g0 : (0 : Int) ≤ (k : Int) := by omega
        have g1 : (k : Int) < (bs.length : Int) := by omega
        have HEX := Lib.hid ex
        clear hx ex hl1 hO hnext hll hbl
        go_wp2_with (at_builtin; refine wpList_append_blk rfl _ _ rfl w.heap.size _ l rfl (HO.out.below ((Below.refl _ _).alloc (Nat.le_refl _) _) (Nat.le_refl _)) _ _ x rfl (by simp [go_sem]) (by simp [go_sem]) (by simp [go_sem]) (by omega) (by simp; omega) ?_; intro g' cap' w4 hO4 hg4)
        have hB4 : Below w.heap.size w w4 := (hB.alloc (by omega) _).grown hg4 (by simp; omega) (fun r e => HO.out.row r e)
        have HBR := Lib.hid (l01Before_any x)
        have HX := Lib.hid (show bs[k]?.getD default = x by rw [HEX.out]; rfl)
        clear hg4 x1 x2 x3
        go_loopw [5] (fun t wr2 => ∃ m : Nat, m ≤ k ∧ t = .int .i64 m ∧ Below w.heap.size w wr2 ∧ (∃ y, OwnR wr2 w.heap.size (.slice (some ⟨g', 0, none⟩) (l.length + 1) cap') (l.take m ++ y :: l.drop m)) ∧ Hid (posB x l l.length = posB x l m)) (fun t _ => (intOf t).toNat)
        case atStart => exact ⟨k, Nat.le_refl _, rfl, hB4, ⟨x, by have := hO4; rw [ins_start, HLL.out] at this; rw [HLL.out]; exact this⟩, Lib.hid (by rw [HLL.out])⟩
        case round =>
          obtain ⟨m, hm, rfl, hB2, ⟨y, hO2⟩, HP⟩ := hrel
          obtain ⟨hn0, hgb, hat⟩ := hO2.at_
          clear hn0
          have hxx := (HBL.out.below hB2 hblt) k hkl
          rw [HX.out] at hxx
          obtain ⟨x1, x2, x3⟩ := hxx
          have hglt := hat.lt
          have hz2 := hB2.size
          have hblt2 : b < wr.heap.size := by omega
          have hfree := hat.free
          have HO2 := Lib.hid hO2
          rcases m with _ | m
          · rw [show ((0 : Nat) : Int) = 0 from rfl]
            have gl1 : (0 : Int) < ((l.length + 1 : Nat) : Int) := by omega
            have gl2 : (0 : Int) < (l.length : Int) + 1 := by omega
            obtain ⟨c1, c2, c3'⟩ := hat.at_ 0 (by rw [ins_len l (Nat.zero_le _) y]; omega)
            simp only [Nat.zero_mul, Nat.zero_add] at c1 c2 c3'
            have hnew := HO2.out.set3 (i := 0) (by rw [ins_len l (Nat.zero_le _) y]; omega) x
            rw [ins_end l (Nat.zero_le _) x y] at hnew
            have hins : insB x l = l.take 0 ++ x :: l.drop 0 := by unfold insB; rw [HP.out]; rfl
            rw [← hins, ← HNX.out] at hnew
            simp only [Nat.zero_mul, Nat.zero_add] at hnew
            have HN := Lib.hid hnew
            clear hO2 hat hnew hins
            go_wp2
            go_quiet (fail)
            go_wp2
            go_roundw
            case rel => exact ⟨k + 1, by omega, by go_num, (((below_drewN hB2 _).setCell (p := ⟨g', 0, none⟩) hgb _).setCell (p := ⟨g', 1, none⟩) hgb _).setCell (p := ⟨g', 2, none⟩) hgb _, HN.out, _, _, by rw [HLL.out]⟩
            case measure => simp [intOf]; omega
          · have hml : m < l.length := by rw [HLL.out]; omega
            have hm1 : m + 1 ≤ l.length := by omega
            have gl1 : (m : Int) + 1 < ((l.length + 1 : Nat) : Int) := by omega
            have gl2 : (m : Int) + 1 < (l.length : Int) + 1 := by omega
            have gl3 : (m : Int) < ((l.length + 1 : Nat) : Int) := by omega
            have gl4 : (m : Int) < (l.length : Int) + 1 := by omega
            have gl5 : (0 : Int) < (m : Int) + 1 := by omega
            have gl6 : (0 : Int) ≤ (m : Int) := by omega
            have gl7 : (m : Int) ≤ 100000 := by omega
            have hatm := hat.at_ m (by rw [ins_len l hm1 y]; omega)
            rw [ins_at l hml y, Nat.zero_add] at hatm
            obtain ⟨c1, c2, c3'⟩ := hat.at_ (m + 1) (by rw [ins_len l hm1 y]; omega)
            rw [Nat.zero_add] at c1 c2 c3'
            obtain ⟨z, hz⟩ : ∃ z, z = l[m]?.getD default := ⟨_, rfl⟩
            have hpos : posB x l (m + 1) = if befB x (l[m]?.getD default) then posB x l m else m + 1 := rfl
            rw [← hz] at hatm hpos
            have HZ := Lib.hid hz
            have HPP := Lib.hid hpos
            obtain ⟨q1, q2, q3⟩ := hatm
            have hbr := HBR.out z
            clear hO2 hat hpos hz
            have r1 := cell_regrown x1
            have r2 := cell_regrown x2
            have r3 := cell_regrown x3
            have s1 := cell_regrown q1
            have s2 := cell_regrown q2
            have s3 := cell_regrown q3
            have t1 := cell_regrown c1
            have t2 := cell_regrown c2
            have t3 := cell_regrown c3'
            have rf : ∀ d os o, (Sort.grow (redrawn wr d) os).frozen? ⟨g', o, none⟩ = false := fun d os o => ((below_regrown wr d os).frozen (p := ⟨g', o, none⟩) hglt).trans (hfree o)
            obtain ⟨za, zb, zc⟩ := z
            obtain ⟨xa, xb, xc⟩ := x
            unfold bv at hbr
            dsimp only at hbr x1 x2 x3 q1 q2 q3 r1 r2 r3 s1 s2 s3
            cases hbe : befB ⟨xa, xb, xc⟩ ⟨za, zb, zc⟩ with
            | false =>
              rw [hbe] at hbr
              have HC := Lib.hid hbr
              have HBE := Lib.hid hbe
              clear hbr hbe
              go_wp2
              refine wp_region_quiet_below (by kernel_rfl) (by kernel_rfl) ?_
              repeat (go_big_quiet_step (exact Calls.regrown_of (HC.out _)))
              refine wpQuiet_nil ?_
              intro _ hw'
              obtain ⟨⟨dq, osq⟩, hw''⟩ := hw'
              subst hw''
              go_wp2
              have hnew := (HO2.out.below (below_regrown wr dq osq) (Nat.le_refl _)).set3 (i := m + 1) (by rw [ins_len l hm1 y]; omega) ⟨xa, xb, xc⟩
              rw [ins_end l hm1 _ y] at hnew
              have hins : insB ⟨xa, xb, xc⟩ l = l.take (m + 1) ++ ⟨xa, xb, xc⟩ :: l.drop (m + 1) := by unfold insB; rw [HP.out, HPP.out, if_neg (by rw [HBE.out]; decide)]
              rw [← hins, ← HNX.out] at hnew
              have HN := Lib.hid hnew
              clear hnew hins
              go_roundw
              case rel => exact ⟨k + 1, by omega, by go_num, (((hB2.trans ((below_regrown wr dq osq).mono hz2)).setCell (p := ⟨g', (m + 1) * 3, none⟩) hgb _).setCell (p := ⟨g', (m + 1) * 3 + 1, none⟩) hgb _).setCell (p := ⟨g', (m + 1) * 3 + 2, none⟩) hgb _, HN.out, _, _, by rw [HLL.out]⟩
              case measure => simp [intOf]; omega
            | true =>
              rw [hbe] at hbr
              have HC := Lib.hid hbr
              have HBE := Lib.hid hbe
              clear hbr hbe
              go_wp2
              refine wp_region_quiet_below (by kernel_rfl) (by kernel_rfl) ?_
              repeat (go_big_quiet_step (exact Calls.regrown_of (HC.out _)))
              refine wpQuiet_nil ?_
              intro _ hw'
              obtain ⟨⟨dq, osq⟩, hw''⟩ := hw'
              subst hw''
              go_wp2
              have hnew := (HO2.out.below (below_regrown wr dq osq) (Nat.le_refl _)).set3 (i := m + 1) (by rw [ins_len l hm1 y]; omega) ⟨za, zb, zc⟩
              have hro := ins_round l hml y
              rw [← HZ.out] at hro
              rw [hro] at hnew
              have HN := Lib.hid hnew
              clear hnew hro
              go_roundw
              case rel => exact ⟨m, by omega, rfl, (((hB2.trans ((below_regrown wr dq osq).mono hz2)).setCell (p := ⟨g', (m + 1) * 3, none⟩) hgb _).setCell (p := ⟨g', (m + 1) * 3 + 1, none⟩) hgb _).setCell (p := ⟨g', (m + 1) * 3 + 2, none⟩) hgb _, ⟨⟨za, zb, zc⟩, HN.out⟩, Lib.hid (by rw [HP.out, HPP.out, if_pos HBE.out])⟩
              case measure => simp [intOf]
    · go_wp2
      go_ret
      have e : k = bs.length := by omega
      subst e
      rw [List.take_length] at hO
      exact ⟨_, rfl, hO, hB⟩
set_option maxRecDepth 100000 in
theorem l01Made_any (v : Int) (s : Value) (bs : List Blk) (w : World) (h : SX w s bs) (hl : bs.length ≤ 100000) :
    Calls Try.prog 140 #[.int .i64 v, s] w fun e w' => ∃ u, e = .returned (.agg #[.int .i64 v, u]) ∧ ResR w' w.heap.size w'.heap.size u (sortB bs) ∧ Below w.heap.size w w' := by
  have hs : ∃ a c, s = .slice a bs.length c := by rcases h with ⟨a0, c0, rfl, rfl⟩ | ⟨b, off, cap, rfl, _⟩ <;> exact ⟨_, _, rfl⟩
  have HS := Lib.hid (l01Sort_any s bs (w.alloc (.cells #[.int .i64 0, .slice none 0 0] 31)) (h.below ((Below.refl _ _).alloc (Nat.le_refl _) _) (Nat.le_refl _)) hl)
  clear h
  obtain ⟨a0, c0, rfl⟩ := hs
  go_enter Try.func140, Try.ntmps140
  go_wp2_with fail
  refine HS.out.mono ?_
  rintro e w1 ⟨u, rfl, ho, hb1⟩
  have hlt : w.heap.size < w1.heap.size := by have := hb1.size; simp at this; omega
  have hbw : Below w.heap.size w w1 := ((Below.refl _ _).alloc (Nat.le_refl _) _).trans (hb1.mono (by simp))
  have d0 := cell_new hb1 0 rfl
  have d1 := cell_new hb1 1 rfl
  have f0 : w1.frozen? ⟨w.heap.size, 0, none⟩ = false := (hb1.frozen (p := ⟨w.heap.size, 0, none⟩) (by simp)).trans (by simp [go_sem])
  have f1 : w1.frozen? ⟨w.heap.size, 1, none⟩ = false := (hb1.frozen (p := ⟨w.heap.size, 1, none⟩) (by simp)).trans (by simp [go_sem])
  have hr := ho.res
  have hbase : (w.alloc (.cells #[.int .i64 0, .slice none 0 0] 31)).heap.size = w.heap.size + 1 := by simp
  rw [hbase] at hr
  obtain ⟨a3, n3, hs3⟩ := hr.slice
  obtain ⟨m3, hm3⟩ : ∃ m, m = (sortB bs).length := ⟨_, rfl⟩
  rw [← hm3] at hs3
  clear hm3 ho hb1 hbase
  subst hs3
  go_wp2
  exact bodyPost_ret (v := .agg #[.int .i64 v, .slice a3 m3 n3]) (by simp [results, Try.results140, go_sem, *]) rfl ⟨_, rfl, (hr.kept (gb_set2 w1 w.heap.size (.int .i64 v) (.slice a3 m3 n3)) (fun r e => by cases e; exact .inl (by omega))).wide (by omega) (by simp [World.setCell]), below_set2 hbw (by omega) _ _⟩
end Go.Proofs.Ytehdpgjbmnkkiaa

namespace Go.Proofs.Ytehdpgjbmnkkiaa
open Go.RowKit Go.Maps
set_option maxRecDepth 100000 in
theorem l01Block_any (a b c : Int) (w : World) (a0 : 0 ≤ a) (a1 : a ≤ 1000) (b0 : 0 ≤ b) (b1 : b ≤ 1000) (c0 : 0 ≤ c) (c1 : c ≤ 1000) : Calls Try.prog 139 #[.int .i64 a, .int .i64 b, .int .i64 c] w (RV (bv (blk3 a b c)) w) := by
  go_enter Try.func139, Try.ntmps139
  go_wp2
  all_goals
    refine bodyPost_ret (v := bv (blk3 a b c)) ?_ rfl ⟨rfl, (Below.refl _ _).alloc (Nat.le_refl _) _⟩
    simp [results, Try.results139, go_sem, bv, blk3]
    omega
end Go.Proofs.Ytehdpgjbmnkkiaa

namespace Go.Proofs.Ytehdpgjbmnkkiaa
open Go.RowKit Go.Maps
theorem l01Block_is {a b c p q r : Int} (W : World) (a0 : 0 ≤ a) (a1 : a ≤ 1000) (b0 : 0 ≤ b) (b1 : b ≤ 1000) (c0 : 0 ≤ c) (c1 : c ≤ 1000) (hp : p = min (min a b) c) (hr : r = max (max a b) c) (hq : q = a + b + c - p - r) :
    Calls Try.prog 139 #[.int .i64 a, .int .i64 b, .int .i64 c] W (RV (.agg #[.int .i64 p, .int .i64 q, .int .i64 r]) W) := by
  have h := l01Block_any a b c W a0 a1 b0 b1 c0 c1
  rw [blk3_of hp hr hq] at h
  exact h
end Go.Proofs.Ytehdpgjbmnkkiaa

namespace Go.Proofs.Ytehdpgjbmnkkiaa
open Go.RowKit Go.Maps
theorem mkRow (n : Nat) (hn : n ≤ 1100000) (W : World) : (Instr.makeSlice 40 (.int .i64 (n : Int)) (.int .i64 (n : Int))).run Try.prog W = .ok (.slice (some ⟨W.heap.size, 0, none⟩) n n) (W.alloc (.cells (madeCells #[.int .i64 0] n) 2)) := by
  obtain ⟨i0, hi, hz0, hz1, hz2⟩ := info_parts infoInt64
  have hr := run_make (P := Try.prog) W 40 2 i0 (.int .i64 0) Try.underlying40 hi hz0 .i64 .i64 n n (by omega) (by omega) (by rw [hz2]; omega) (by omega)
  simp only [Int.toNat_natCast, hz1, Nat.mul_one] at hr
  exact hr
end Go.Proofs.Ytehdpgjbmnkkiaa

namespace Go.Proofs.Ytehdpgjbmnkkiaa
open Go.RowKit Go.Maps
theorem infoBoolT : (Try.prog.info? 4).map (fun i => (i.zero, i.size, i.bytes)) = some (some (.bool false), 1, 1) := by kernel_rfl
theorem mkBoolsR (n : Nat) (hn : n ≤ 1100000) (W : World) : (Instr.makeSlice 168 (.int .i64 (n : Int)) (.int .i64 (n : Int))).run Try.prog W = .ok (.slice (some ⟨W.heap.size, 0, none⟩) n n) (W.alloc (.cells (madeCells #[.bool false] n) 4)) := by
  obtain ⟨i0, hi, hz0, hz1, hz2⟩ := info_parts infoBoolT
  have hr := run_make (P := Try.prog) W 168 4 i0 (.bool false) Try.underlying168 hi hz0 .i64 .i64 n n (by omega) (by omega) (by rw [hz2]; omega) (by omega)
  simp only [Int.toNat_natCast, hz1, Nat.mul_one] at hr
  exact hr
/-- A row of bools. -/
structure BoolsAt (w : World) (g n : Nat) (f : Nat → Bool) : Prop where
  lt : g < w.heap.size
  cell : ∀ q, q < n → w.cell? ⟨g, q, none⟩ = some (.bool (f q))
  free : ∀ o, w.frozen? ⟨g, o, none⟩ = false
theorem BoolsAt.made (w : World) (n : Nat) (T : TypeId) : BoolsAt (w.alloc (.cells (madeCells #[.bool false] n) T)) w.heap.size n (fun _ => false) := by
  refine ⟨by simp, fun k hk => ?_, fun o => by simp⟩
  rw [World.cell?_alloc_at _ _ _ _ rfl]
  simp [madeCells, hk, Nat.mod_one]
theorem BoolsAt.set {w : World} {g n : Nat} {f : Nat → Bool} (h : BoolsAt w g n f) {i : Nat} (hi : i < n) : BoolsAt (w.setCell ⟨g, i, none⟩ (.bool true)) g n (fun q => if q = i then true else f q) := by
  refine ⟨by simpa [World.setCell] using h.lt, fun q hq => ?_, fun o => by rw [World.frozen?_setCell]; exact h.free o⟩
  by_cases e : q = i
  · subst e
    rw [World.cell?_setCell_same' _ _ _ (by rw [h.cell q hq]; rfl)]
    simp
  · rw [World.cell?_setCell_other _ _ _ _ (by simp <;> omega), h.cell q hq, if_neg e]
theorem BoolsAt.congr {w : World} {g n : Nat} {f f' : Nat → Bool} (h : BoolsAt w g n f) (e : ∀ q, q < n → f q = f' q) : BoolsAt w g n f' := ⟨h.lt, fun q hq => by rw [← e q hq]; exact h.cell q hq, h.free⟩
theorem BoolsAt.kept {w w' : World} {g n : Nat} {f : Nat → Bool} {row : Option Nat} (h : BoolsAt w g n f) (hg : w.grownBy w' row) (hne : some g ≠ row) : BoolsAt w' g n f :=
  ⟨Nat.lt_of_lt_of_le h.lt hg.size, fun q hq => (World.cell?_of_block (w := w) (a := ⟨g, _, none⟩) (hg.block g h.lt hne)).trans (h.cell q hq), fun o => (World.frozen?_of_block (w := w) (a := ⟨g, o, none⟩) (hg.block g h.lt hne)).trans (h.free o)⟩
theorem take_snoc2 {l : List Int} {k : Nat} (h : k < l.length) : l.take (k + 1) = l.take k ++ [l[k]?.getD 0] := by
  rw [List.take_succ_eq_append_getElem h]; simp [h]
end Go.Proofs.Ytehdpgjbmnkkiaa

namespace Go.Proofs.Ytehdpgjbmnkkiaa
open Go.RowKit Go.Maps
set_option maxRecDepth 100000 in
set_option maxHeartbeats 1000000 in
theorem l01Renamed_any (v : Int) (s : Value) (bs : List Blk) (t : Value) (p : List Int) (w : World) (h : SB w s bs) (ht : IB w t p) (hg : ∀ x ∈ bs, goodB v x = true) (hv3 : 3 ≤ v) (hv15 : v ≤ 15) (hb35 : bs.length ≤ 35) (hren : isRen v p = true) :
    Calls Try.prog 105 #[.agg #[.int .i64 v, s], t] w fun e w' => ∃ u, e = .returned (.agg #[.int .i64 v, u]) ∧ ResR w' w.heap.size w'.heap.size u (sortB (bs.map (renB p))) ∧ Below w.heap.size w w' := by
  have hs := h.slice
  have HSX := Lib.hid h.sx
  have HT := Lib.hid ht
  have HG := Lib.hid hg
  have hts : ∃ a c, t = .slice a p.length c := by rcases ht.2 with ⟨a, c, rfl, rfl⟩ | ⟨b, off, cap, rfl, _⟩ <;> exact ⟨_, _, rfl⟩
  have HREN := Lib.hid hren
  have hpl : (p.length : Int) = v := by unfold isRen at hren; simp only [Bool.and_eq_true, decide_eq_true_eq] at hren; exact hren.1
  have HPL := Lib.hid hpl
  clear h ht hg hren hpl
  obtain ⟨a0, c0, rfl⟩ := hs
  obtain ⟨a1, c1, rfl⟩ := hts
  go_enter Try.func105, Try.ntmps105
  go_wp2_with fail
  obtain ⟨w2, hw2⟩ : ∃ w2, ((w.alloc (.cells #[.int .i64 v, .slice a0 bs.length c0] 31)).alloc (.cells #[.int .i64 0, .slice none 0 0] 31)) = w2 := ⟨_, rfl⟩
  have six : Six w2 w.heap.size v (.slice a0 bs.length c0) := by rw [← hw2]; exact ⟨by simp [go_sem], by simp [go_sem], by simp [go_sem], by simp [go_sem], by simp [go_sem], by simp [go_sem]⟩
  have hz2 : w2.heap.size = w.heap.size + 1 + 1 := by rw [← hw2]; simp
  have hbw2 : Below w.heap.size w w2 := by rw [← hw2]; exact below2 _ _ _ _
  rw [hw2]
  clear hw2
  have HO := lit_own w2
  have HB3 : Below w2.heap.size w2 (w2.alloc (.cells #[] 93)) := (Below.refl _ _).alloc (Nat.le_refl _) _
  rw [hz2] at HO HB3
  obtain ⟨q0, q1, _⟩ := id six
  have HSIX := Lib.hid six
  have HSX2 := Lib.hid (HSX.out.below hbw2 (Nat.le_refl _))
  have HT2 := Lib.hid (HT.out.below hbw2 (Nat.le_refl _))
  have HO0 := Lib.hid (And.intro HO HB3)
  have hlt2 : w.heap.size + 1 < w2.heap.size := by omega
  have hlt3 : w.heap.size < w2.heap.size := by omega
  have HZ2 := Lib.hid hz2
  clear six HO HB3 HSX HT hz2
  go_loopw [5, 6] (fun o t wr => ∃ k : Nat, k ≤ bs.length ∧ t = .int .i64 k ∧ Below w2.heap.size w2 wr ∧ OwnR wr w2.heap.size o ((bs.take k).map (renB p)) ∧ ∃ a n c, o = .slice a n c) (fun _ t _ => bs.length - (intOf t).toNat)
  case atStart =>
    have := HO0.out
    rw [← HZ2.out] at this
    exact ⟨0, Nat.zero_le _, rfl, this.2, by rw [← HZ2.out]; exact this.1, _, _, _, rfl⟩
  case round =>
    obtain ⟨k, hk, rfl, hB, hO, a5, n5, c5, rfl⟩ := hrel
    have hz := hB.size
    have hz1 : w.heap.size < wr.heap.size := by omega
    have r0 := (hB.cell (p := ⟨w.heap.size, 0, none⟩) hlt3).trans q0
    have r1 := (hB.cell (p := ⟨w.heap.size, 1, none⟩) hlt3).trans q1
    have HO5 := Lib.hid hO
    clear hO
    by_cases hkl : k < bs.length
    · rcases HSX2.out with ⟨_, _, _, hnil⟩ | ⟨b, off, cap, hv, hblt, hbl⟩
      · rw [hnil] at hkl; simp at hkl
      rcases HT2.out.2 with ⟨_, _, _, hnil⟩ | ⟨pb, po, pc, hv2, hplt, hpi⟩
      · exfalso; have := HPL.out; rw [hnil] at this; simp at this; omega
      simp at hv hv2
      obtain ⟨rfl, rfl⟩ := hv
      obtain ⟨rfl, rfl⟩ := hv2
      have hz4 : b < wr.heap.size := by omega
      have hz5 : pb < wr.heap.size := by omega
      obtain ⟨x, hx, ex, x1, x2, x3⟩ := blks_at (hbl.below hB hblt) hkl
      obtain ⟨g1, g2, g3, g4⟩ := goodB_iff.1 (HG.out x hx)
      obtain ⟨xa, xb, xc⟩ := x
      dsimp only at x1 x2 x3 g1 g2 g3 g4
      obtain ⟨na, rfl⟩ : ∃ n : Nat, xa = (n : Int) := ⟨xa.toNat, by omega⟩
      obtain ⟨nb, rfl⟩ : ∃ n : Nat, xb = (n : Int) := ⟨xb.toNat, by omega⟩
      obtain ⟨nc, rfl⟩ : ∃ n : Nat, xc = (n : Int) := ⟨xc.toNat, by omega⟩
      have hpl := HPL.out
      have t1 := (hB.cell (p := ⟨pb, po + na, none⟩) hplt).trans (hpi na (by omega))
      have t2 := (hB.cell (p := ⟨pb, po + nb, none⟩) hplt).trans (hpi nb (by omega))
      have t3 := (hB.cell (p := ⟨pb, po + nc, none⟩) hplt).trans (hpi nc (by omega))
      obtain ⟨ya, hya⟩ : ∃ y, y = p[na]?.getD 0 := ⟨_, rfl⟩
      obtain ⟨yb, hyb⟩ : ∃ y, y = p[nb]?.getD 0 := ⟨_, rfl⟩
      obtain ⟨yc, hyc⟩ : ∃ y, y = p[nc]?.getD 0 := ⟨_, rfl⟩
      rw [← hya] at t1
      rw [← hyb] at t2
      rw [← hyc] at t3
      obtain ⟨r, hr⟩ : ∃ r, r = blk3 ya yb yc := ⟨_, rfl⟩
      have hsucc : (bs.take (k + 1)).map (renB p) = (bs.take k).map (renB p) ++ [r] := by
        have e1 : bs[k] = ⟨(na : Int), (nb : Int), (nc : Int)⟩ := by rw [List.getElem?_eq_getElem hkl] at ex; simpa using ex
        rw [List.take_succ_eq_append_getElem hkl, List.map_append, e1, hr, hya, hyb, hyc]
        simp [renB, at0]
      have HSU := Lib.hid hsucc
      have hya1 : 0 ≤ ya ∧ ya < v := by rw [hya]; exact at0_in (a := (na : Int)) HREN.out g1 (by omega)
      have hyb1 : 0 ≤ yb ∧ yb < v := by rw [hyb]; exact at0_in (a := (nb : Int)) HREN.out (by omega) (by omega)
      have hyc1 : 0 ≤ yc ∧ yc < v := by rw [hyc]; exact at0_in (a := (nc : Int)) HREN.out (by omega) g4
      have HBF := Lib.hid fun (W : World) => l01Block_any ya yb yc W (by omega) (by omega) (by omega) (by omega) (by omega) (by omega)
      rw [← hr] at HBF
      obtain ⟨ra, rb, rc⟩ := r
      unfold bv at HBF
      dsimp only at HBF
      have j1 : (na : Int) < (p.length : Int) := by omega
      have j2 : (nb : Int) < (p.length : Int) := by omega
      have j3 : (nc : Int) < (p.length : Int) := by omega
      have i0 : (0 : Int) ≤ (k : Int) := by omega
      have i1 : (k : Int) < (bs.length : Int) := by omega
      have hl3 : ((bs.take k).map (renB p)).length ≤ 1000 := by simp; omega
      obtain ⟨L, hL⟩ : ∃ L, L = (bs.take k).map (renB p) := ⟨_, rfl⟩
      rw [← hL] at HO5 HSU hl3
      have HLT := Lib.hid (show ∀ r, (Value.slice a5 n5 c5).ownBlock = some r → w2.heap.size ≤ r ∧ r < wr.heap.size from ownsRow_lt HO5.out)
      clear hx ex hbl hpi hsucc hya hyb hyc hya1 hyb1 hyc1 hr hL hpl
      have m0 : (wr.alloc (.cells #[.int .i64 (na : Int), .int .i64 (nb : Int), .int .i64 (nc : Int)] 93)).cell? ⟨pb, po + na, none⟩ = some (.int .i64 ya) := cell_past t1 hz5
      have m1 : (wr.alloc (.cells #[.int .i64 (na : Int), .int .i64 (nb : Int), .int .i64 (nc : Int)] 93)).cell? ⟨pb, po + nb, none⟩ = some (.int .i64 yb) := cell_past t2 hz5
      have m2 : (wr.alloc (.cells #[.int .i64 (na : Int), .int .i64 (nb : Int), .int .i64 (nc : Int)] 93)).cell? ⟨pb, po + nc, none⟩ = some (.int .i64 yc) := cell_past t3 hz5
      go_wp2
      have n0 : (wr.alloc (.cells #[.int .i64 (na : Int), .int .i64 (nb : Int), .int .i64 (nc : Int)] 93)).cell? ⟨wr.heap.size, 0, none⟩ = some (.int .i64 (na : Int)) := by simp [go_sem]
      have n1 : (wr.alloc (.cells #[.int .i64 (na : Int), .int .i64 (nb : Int), .int .i64 (nc : Int)] 93)).cell? ⟨wr.heap.size, 1, none⟩ = some (.int .i64 (nb : Int)) := by simp [go_sem]
      have n2 : (wr.alloc (.cells #[.int .i64 (na : Int), .int .i64 (nb : Int), .int .i64 (nc : Int)] 93)).cell? ⟨wr.heap.size, 2, none⟩ = some (.int .i64 (nc : Int)) := by simp [go_sem]
      have ho1 := HO5.out.below ((Below.refl _ _).alloc (Nat.le_refl _) (.cells #[.int .i64 (na : Int), .int .i64 (nb : Int), .int .i64 (nc : Int)] 93)) (Nat.le_refl _)
      have hB1 := hB.alloc hz (.cells #[.int .i64 (na : Int), .int .i64 (nb : Int), .int .i64 (nc : Int)] 93)
      have hz6 : (wr.alloc (.cells #[.int .i64 (na : Int), .int .i64 (nb : Int), .int .i64 (nc : Int)] 93)).heap.size = wr.heap.size + 1 := by simp
      obtain ⟨W1, hW1⟩ : ∃ W1, (wr.alloc (.cells #[.int .i64 (na : Int), .int .i64 (nb : Int), .int .i64 (nc : Int)] 93)) = W1 := ⟨_, rfl⟩
      rw [hW1] at m0 m1 m2 n0 n1 n2 ho1 hB1 hz6 ⊢
      have HO1 := Lib.hid ho1
      have HZ6 := Lib.hid hz6
      have hpz : pb < W1.heap.size := by omega
      have hwz : wr.heap.size < W1.heap.size := by omega
      clear hW1 t1 t2 t3 x1 x2 x3 ho1 hz6 r0 r1
      go_region_held3 (fun w' => w'.cell? ⟨pb, po + na, none⟩ = some (.int .i64 ya) ∧ w'.cell? ⟨pb, po + nb, none⟩ = some (.int .i64 yb) ∧ w'.cell? ⟨pb, po + nc, none⟩ = some (.int .i64 yc) ∧ w'.cell? ⟨wr.heap.size, 0, none⟩ = some (.int .i64 (na : Int)) ∧ w'.cell? ⟨wr.heap.size, 1, none⟩ = some (.int .i64 (nb : Int)) ∧ w'.cell? ⟨wr.heap.size, 2, none⟩ = some (.int .i64 (nc : Int)))
        (first | exact ⟨E0, E1, E2, E3, E4, E5⟩ | exact ⟨F0, F1, F2, F3, F4, F5⟩ | go_keep)
        (first
          | (go_at_call 139; refine (HBF.out _).mono ?_; rintro e w5 ⟨rfl, hb5⟩; have hB5 : Below W1.heap.size W1 w5 := (by first | exact ((Below.refl _ _).drew).trans (hb5.mono (by simp)) | exact hb5); have E0 := (hB5.cell (p := ⟨pb, po + na, none⟩) hpz).trans m0; have E1 := (hB5.cell (p := ⟨pb, po + nb, none⟩) hpz).trans m1; have E2 := (hB5.cell (p := ⟨pb, po + nc, none⟩) hpz).trans m2; have E3 := (hB5.cell (p := ⟨wr.heap.size, 0, none⟩) hwz).trans n0; have E4 := (hB5.cell (p := ⟨wr.heap.size, 1, none⟩) hwz).trans n1; have E5 := (hB5.cell (p := ⟨wr.heap.size, 2, none⟩) hwz).trans n2; have HO6 := Lib.hid (HO1.out.below hB5 (Nat.le_refl _)))
          | (refine step_append_many rfl (.tmp 21) (.tmp 38) rfl w2.heap.size (.slice a5 n5 c5) L (by simp [Act.eval]) (by first | exact HO6.out.below ((Below.refl _ _).alloc (Nat.le_refl _) _) (Nat.le_refl _) | exact HO6.out.below (((Below.refl _ _).alloc (Nat.le_refl _) _).drew) (Nat.le_refl _)) (.slice (some ⟨w5.heap.size, 0, none⟩) 1 1) [⟨ra, rb, rc⟩] (by simp [Act.eval]) (by first | exact sx_one _ ⟨ra, rb, rc⟩ _ | exact (sx_one _ ⟨ra, rb, rc⟩ _).below ((Below.refl _ _).drew) (Nat.le_refl _)) (by simp; omega) (by have := hB5.size; simp; omega) ?_; intro a3 c3 w3 ho3 hg3; have hgw : w5.grownBy w3 (Value.slice a5 n5 c5).ownBlock := gb_trans (World.grownBy_alloc _ _ none) (by first | exact hg3 | exact gb_drewL hg3); have F0 := hgw.cell E0 (fun e => by have := (HLT.out _ e.symm).1; simp at this; omega); have F1 := hgw.cell E1 (fun e => by have := (HLT.out _ e.symm).1; simp at this; omega); have F2 := hgw.cell E2 (fun e => by have := (HLT.out _ e.symm).1; simp at this; omega); have F3 := hgw.cell E3 (fun e => by have := (HLT.out _ e.symm).2; simp at this); have F4 := hgw.cell E4 (fun e => by have := (HLT.out _ e.symm).2; simp at this); have F5 := hgw.cell E5 (fun e => by have := (HLT.out _ e.symm).2; simp at this)))
      have hrow := HO6.out.row
      have hB6 := hB1.trans (hB5.mono (by omega))
      have hz7 := hB5.size
      have hB7 := hB6.grown hgw (by omega) (fun j e => hrow j e)
      go_wp2
      go_roundw
      case rel => exact ⟨k + 1, by omega, by go_num, hB7, by rw [HSU.out]; exact ho3, _, _, _, rfl⟩
      case measure => simp [intOf]; omega
    · have e : k = bs.length := by omega
      subst e
      rw [List.take_length] at HO5
      obtain ⟨L, hL⟩ : ∃ L, L = bs.map (renB p) := ⟨_, rfl⟩
      have hLl : L.length ≤ 100000 := by rw [hL, List.length_map]; omega
      have HLL := Lib.hid hL
      rw [← hL] at HO5
      have HSF := Lib.hid (l01Made_any v (.slice a5 n5 c5) L wr HO5.out.sx hLl)
      obtain ⟨e0, e1, k0, k1⟩ := HSIX.out.2.2
      have f0 := (hB.cell (p := ⟨w.heap.size + 1, 0, none⟩) hlt2).trans e0
      have f1 := (hB.cell (p := ⟨w.heap.size + 1, 1, none⟩) hlt2).trans e1
      have f2 := (hB.frozen (p := ⟨w.heap.size + 1, 0, none⟩) hlt2).trans k0
      have f3 := (hB.frozen (p := ⟨w.heap.size + 1, 1, none⟩) hlt2).trans k1
      clear e0 e1 k0 k1 hL
      go_wp2_with fail
      refine HSF.out.mono ?_
      rintro e w3 ⟨u, rfl, hres, hb3⟩
      obtain ⟨a9, c9, hu⟩ := hres.slice
      obtain ⟨n9, hn9⟩ : ∃ n, n = (sortB L).length := ⟨_, rfl⟩
      rw [← hn9] at hu
      subst hu
      have g0 := (hb3.cell (p := ⟨w.heap.size + 1, 0, none⟩) (by show w.heap.size + 1 < _; omega)).trans f0
      have g1 := (hb3.cell (p := ⟨w.heap.size + 1, 1, none⟩) (by show w.heap.size + 1 < _; omega)).trans f1
      have g2 := (hb3.frozen (p := ⟨w.heap.size + 1, 0, none⟩) (by show w.heap.size + 1 < _; omega)).trans f2
      have g3 := (hb3.frozen (p := ⟨w.heap.size + 1, 1, none⟩) (by show w.heap.size + 1 < _; omega)).trans f3
      have hz9 := hb3.size
      have hB9 : Below w.heap.size w w3 := (hbw2.trans (hB.mono (by omega))).trans (hb3.mono (by omega))
      clear f0 f1 f2 f3 hb3 hn9
      go_wp2
      have hfin := (hres.kept (gb_set2 w3 (w.heap.size + 1) (.int .i64 v) (.slice a9 n9 c9)) (fun r e => by cases e; exact .inl (by omega))).wide (lo' := w.heap.size) (by omega) (gb_set2 w3 (w.heap.size + 1) (.int .i64 v) (.slice a9 n9 c9)).size
      rw [HLL.out] at hfin
      exact bodyPost_ret (v := .agg #[.int .i64 v, .slice a9 n9 c9]) (by simp [results, Try.results105, go_sem, *]) rfl ⟨_, rfl, hfin, below_set2 hB9 (by omega) _ _⟩
end Go.Proofs.Ytehdpgjbmnkkiaa

namespace Go.Proofs.Ytehdpgjbmnkkiaa
open Go.RowKit Go.Maps
theorem renF_wf (v : Int) (bs : List Blk) (p : List Int) : ∀ x ∈ (renF v bs p).2.1, WFB x := by
  unfold renF
  split
  · rename_i hi
    split
    · rename_i hr
      intro x hx
      have hx : x ∈ sortB (bs.map (renB p)) := hx
      rw [sortB_mem] at hx
      obtain ⟨y, hy, rfl⟩ := List.mem_map.1 hx
      have hg := goodB_iff.1 (sys_good hi y hy)
      obtain ⟨_, hv, _⟩ := sys_size hi
      have h := blk3_in (at0_in hr (a := y.a) (by omega) (by omega)) (at0_in hr (a := y.b) (by omega) (by omega)) (at0_in hr (a := y.c) (by omega) (by omega))
      exact ⟨wf_pl h.1.1 (by have := h.1.2; unfold renB; omega), wf_pl h.2.1.1 (by have := h.2.1.2; unfold renB; omega), wf_pl h.2.2.1 (by have := h.2.2.2; unfold renB; omega)⟩
    · simp
  · simp
end Go.Proofs.Ytehdpgjbmnkkiaa

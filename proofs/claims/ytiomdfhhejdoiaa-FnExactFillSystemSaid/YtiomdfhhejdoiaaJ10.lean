
/- impl.PutBlock answers as the plain function putF. The model's insertion sort. The model's block of three points. The model's DoubleSystem answers as dblF. The model's PutBlock. -/
import Derived.Test.YtiomdfhhejdoiaaJ9
import Derived.Deep.RegionHeld3
namespace Go.Proofs.Ytiomdfhhejdoiaa
open Go.RowKit Go.Maps
def putF (v : Int) (bs : List Blk) (x : Blk) : Int × List Blk × Int :=
  if isSysImpl v bs then (if goodB v x then (if freeB (bs.flatMap pairsL) x then (v, sortB (bs ++ [x]), 0) else (0, [], 5)) else (0, [], 2)) else (0, [], 1)
theorem putF_len (v : Int) (bs : List Blk) (x : Blk) : (putF v bs x).2.1.length ≤ bs.length + 1 := by
  unfold putF
  repeat' split
  all_goals simp [sortB_length]
/-- The boxes of a system and a block that came in, and of the result. -/
structure Box3 (w' : World) (b : Nat) (v : Int) (s : Value) (x : Blk) : Prop where
  x0 : w'.cell? ⟨b, 0, none⟩ = some (.int .i64 v)
  x1 : w'.cell? ⟨b, 1, none⟩ = some s
  y0 : w'.cell? ⟨b + 1, 0, none⟩ = some (.int .i64 x.a)
  y1 : w'.cell? ⟨b + 1, 1, none⟩ = some (.int .i64 x.b)
  y2 : w'.cell? ⟨b + 1, 2, none⟩ = some (.int .i64 x.c)
  d0 : w'.cell? ⟨b + 1 + 1, 0, none⟩ = some (.int .i64 0)
  d1 : w'.cell? ⟨b + 1 + 1, 1, none⟩ = some (.slice none 0 0)
  f0 : w'.frozen? ⟨b + 1 + 1, 0, none⟩ = false
  f1 : w'.frozen? ⟨b + 1 + 1, 1, none⟩ = false
def w3b (w : World) (v : Int) (s : Value) (x : Blk) : World := ((w.alloc (.cells #[.int .i64 v, s] 31)).alloc (.cells #[.int .i64 x.a, .int .i64 x.b, .int .i64 x.c] 68)).alloc (.cells #[.int .i64 0, .slice none 0 0] 31)
theorem Box3.new (w : World) (v : Int) (s : Value) (x : Blk) : Box3 (w3b w v s x) w.heap.size v s x := by
  unfold w3b
  constructor <;> simp [go_sem]
theorem w3b_size (w : World) (v : Int) (s : Value) (x : Blk) : (w3b w v s x).heap.size = w.heap.size + 1 + 1 + 1 := by simp [w3b]
theorem w3b_below (w : World) (v : Int) (s : Value) (x : Blk) : Below w.heap.size w (w3b w v s x) := (((Below.refl _ _).alloc (Nat.le_refl _) _).alloc (by simp) _).alloc (by simp; omega) _
theorem Box3.kept {w w' : World} {b : Nat} {v : Int} {s : Value} {x : Blk} {row : Option Nat} (h : Box3 w b v s x) (hg : w.grownBy w' row) (hr : ∀ r, row = some r → b + 1 + 1 < r) : Box3 w' b v s x := by
  have n : ∀ q, q ≤ b + 1 + 1 → some q ≠ row := fun q hq e => by have := hr q e.symm; omega
  have hb := hg.block (b + 1 + 1) (World.block_lt_of_cell? w ⟨b + 1 + 1, 0, none⟩ h.d0) (n _ (by omega))
  exact ⟨hg.cell h.x0 (n _ (by show b ≤ _; omega)), hg.cell h.x1 (n _ (by show b ≤ _; omega)), hg.cell h.y0 (n _ (by show b + 1 ≤ _; omega)), hg.cell h.y1 (n _ (by show b + 1 ≤ _; omega)), hg.cell h.y2 (n _ (by show b + 1 ≤ _; omega)), hg.cell h.d0 (n _ (by show b + 1 + 1 ≤ _; omega)), hg.cell h.d1 (n _ (by show b + 1 + 1 ≤ _; omega)),
    (World.frozen?_of_block (a := ⟨b + 1 + 1, 0, none⟩) hb).trans h.f0, (World.frozen?_of_block (a := ⟨b + 1 + 1, 1, none⟩) hb).trans h.f1⟩
theorem Box3.below {w w' : World} {b : Nat} {v : Int} {s : Value} {x : Blk} (h : Box3 w b v s x) (hb : Below w.heap.size w w') : Box3 w' b v s x := h.kept (gb_below hb) (by simp)
theorem sx_one' (W : World) (x : Blk) (T : TypeId) : SX (W.alloc (.cells #[.int .i64 x.a, .int .i64 x.b, .int .i64 x.c] T)) (.slice (some ⟨W.heap.size, 0, none⟩) 1 1) [x] :=
  .inr ⟨W.heap.size, 0, 1, rfl, by simp, fun k hk => by
    have : k = 0 := by simp at hk; omega
    subst this
    simp⟩
end Go.Proofs.Ytiomdfhhejdoiaa

namespace Go.Proofs.Ytiomdfhhejdoiaa
open Go.RowKit Go.Maps
theorem ins_start (x : Blk) (l : List Blk) : l ++ [x] = l.take l.length ++ x :: l.drop l.length := by simp
theorem ins_round (l : List Blk) {m : Nat} (hm : m < l.length) (y : Blk) : (l.take (m + 1) ++ y :: l.drop (m + 1)).set (m + 1) (l[m]?.getD default) = l.take m ++ (l[m]?.getD default) :: l.drop m := by
  have h1 : (l.take (m + 1)).length = m + 1 := by simp; omega
  rw [List.set_append_right _ _ (by omega), h1, Nat.sub_self, List.set_cons_zero]
  rw [List.getElem?_eq_getElem hm, Option.getD_some, List.take_succ_eq_append_getElem hm, List.append_assoc]
  congr 1
  rw [List.singleton_append, List.drop_eq_getElem_cons hm]
theorem ins_end (l : List Blk) {m : Nat} (hm : m ≤ l.length) (x y : Blk) : (l.take m ++ y :: l.drop m).set m x = l.take m ++ x :: l.drop m := by
  have h1 : (l.take m).length = m := by simp; omega
  rw [List.set_append_right _ _ (by omega), h1, Nat.sub_self, List.set_cons_zero]
theorem ins_len (l : List Blk) {m : Nat} (hm : m ≤ l.length) (y : Blk) : (l.take m ++ y :: l.drop m).length = l.length + 1 := by
  simp; omega
theorem ins_at (l : List Blk) {m : Nat} (hm : m < l.length) (y : Blk) : (l.take (m + 1) ++ y :: l.drop (m + 1))[m]?.getD default = l[m]?.getD default := by
  rw [List.getElem?_append_left (by simp; omega), List.getElem?_take_of_lt (by omega)]
set_option maxRecDepth 100000 in
set_option maxHeartbeats 1000000 in
theorem l01Sort_any (s : Value) (bs : List Blk) (w : World) (h : SX w s bs) (hl : bs.length ≤ 100000) :
    Calls Try.prog 86 #[s] w fun e w' => ∃ u, e = .returned u ∧ OwnR w' w.heap.size u (sortB bs) ∧ Below w.heap.size w w' := by
  have hs : ∃ a c, s = .slice a bs.length c := by rcases h with ⟨a0, c0, rfl, rfl⟩ | ⟨b, off, cap, rfl, _⟩ <;> exact ⟨_, _, rfl⟩
  have HSX := Lib.hid h
  clear h
  obtain ⟨a0, c0, rfl⟩ := hs
  go_enter Try.func86, Try.ntmps86
  go_wp2
  have ho0 := lit_own w
  obtain ⟨w0, hw0⟩ : ∃ w0, w.alloc (.cells #[] 68) = w0 := ⟨_, rfl⟩
  have hB0 : Below w.heap.size w w0 := by rw [← hw0]; exact (Below.refl _ _).alloc (Nat.le_refl _) _
  have hz0 : w.heap.size < w0.heap.size := by rw [← hw0]; simp
  rw [hw0] at ho0 ⊢
  have HO0 := Lib.hid ho0
  clear hw0 ho0
  go_loopw [3, 4] (fun o i wr => ∃ k : Nat, k ≤ bs.length ∧ i = .int .i64 k ∧ Below w.heap.size w wr ∧ OwnR wr w.heap.size o (sortB (bs.take k)) ∧ ∃ a c, o = .slice a k c) (fun _ i _ => bs.length - (intOf i).toNat)
  case atStart => exact ⟨0, Nat.zero_le _, rfl, hB0, by simpa [sortB] using HO0.out, _, _, rfl⟩
  case round =>
    obtain ⟨k, hk, rfl, hB, hO, a3, c3, rfl⟩ := hrel
    have hz := hB.size
    by_cases hkl : k < bs.length
    · rcases HSX.out with ⟨_, _, _, hnil⟩ | ⟨b, off, cap, hv, hblt, hbl⟩
      · rw [hnil] at hkl; simp at hkl
      · simp at hv
        obtain ⟨rfl, rfl⟩ := hv
        have HBL := Lib.hid hbl
        obtain ⟨x, hx, ex, x1, x2, x3⟩ := blks_at (hbl.below hB hblt) hkl
        obtain ⟨l, hl1⟩ : ∃ l, l = sortB (bs.take k) := ⟨_, rfl⟩
        have hll : l.length = k := by rw [hl1, sortB_length]; simp; omega
        have hnext : sortB (bs.take (k + 1)) = insB x l := by
          rw [List.getElem?_eq_getElem hkl] at ex
          have ex' : bs[k] = x := by simpa using ex
          rw [take_next hkl, ex', sortB_snoc, hl1]
        rw [← hl1] at hO
        have HO := Lib.hid hO
        have HNX := Lib.hid hnext
        have HLL := Lib.hid hll
        have hlen2 : l.length ≤ 100000 := by omega
        have g0 : (0 : Int) ≤ (k : Int) := by omega
        have g1 : (k : Int) < (bs.length : Int) := by omega
        have HEX := Lib.hid ex
        clear hx ex hl1 hO hnext hll hbl
        go_wp2_with (at_builtin; refine wpList_append_blk rfl _ _ rfl w.heap.size _ l rfl (HO.out.below ((Below.refl _ _).alloc (Nat.le_refl _) _) (Nat.le_refl _)) _ _ x rfl (by simp [go_sem]) (by simp [go_sem]) (by simp [go_sem]) (by omega) (by simp; omega) ?_; intro g' cap' w4 hO4 hg4)
        have hB4 : Below w.heap.size w w4 := (hB.alloc (by omega) _).grown hg4 (by simp; omega) (fun r e => HO.out.row r e)
        have HBR := Lib.hid (l01Before_any x)
        have HX := Lib.hid (show bs[k]?.getD default = x by rw [HEX.out]; rfl)
        clear hg4 x1 x2 x3
        go_loopw [5] (fun t wr2 => ∃ m : Nat, m ≤ k ∧ t = .int .i64 m ∧ Below w.heap.size w wr2 ∧ (∃ y, OwnR wr2 w.heap.size (.slice (some ⟨g', 0, none⟩) (l.length + 1) cap') (l.take m ++ y :: l.drop m)) ∧ Hid (posB x l l.length = posB x l m)) (fun t _ => (intOf t).toNat)
        case atStart => exact ⟨k, Nat.le_refl _, rfl, hB4, ⟨x, by have := hO4; rw [ins_start, HLL.out] at this; rw [HLL.out]; exact this⟩, Lib.hid (by rw [HLL.out])⟩
        case round =>
          obtain ⟨m, hm, rfl, hB2, ⟨y, hO2⟩, HP⟩ := hrel
          obtain ⟨hn0, hgb, hat⟩ := hO2.at_
          clear hn0
          have hxx := (HBL.out.below hB2 hblt) k hkl
          rw [HX.out] at hxx
          obtain ⟨x1, x2, x3⟩ := hxx
          have hglt := hat.lt
          have hz2 := hB2.size
          have hblt2 : b < wr.heap.size := by omega
          have hfree := hat.free
          have HO2 := Lib.hid hO2
          rcases m with _ | m
          · rw [show ((0 : Nat) : Int) = 0 from rfl]
            have gl1 : (0 : Int) < ((l.length + 1 : Nat) : Int) := by omega
            have gl2 : (0 : Int) < (l.length : Int) + 1 := by omega
            obtain ⟨c1, c2, c3'⟩ := hat.at_ 0 (by rw [ins_len l (Nat.zero_le _) y]; omega)
            simp only [Nat.zero_mul, Nat.zero_add] at c1 c2 c3'
            have hnew := HO2.out.set3 (i := 0) (by rw [ins_len l (Nat.zero_le _) y]; omega) x
            rw [ins_end l (Nat.zero_le _) x y] at hnew
            have hins : insB x l = l.take 0 ++ x :: l.drop 0 := by unfold insB; rw [HP.out]; rfl
            rw [← hins, ← HNX.out] at hnew
            simp only [Nat.zero_mul, Nat.zero_add] at hnew
            have HN := Lib.hid hnew
            clear hO2 hat hnew hins
            go_wp2
            go_quiet (fail)
            go_wp2
            go_roundw
            case rel => exact ⟨k + 1, by omega, by go_num, (((below_drewN hB2 _).setCell (p := ⟨g', 0, none⟩) hgb _).setCell (p := ⟨g', 1, none⟩) hgb _).setCell (p := ⟨g', 2, none⟩) hgb _, HN.out, _, _, by rw [HLL.out]⟩
            case measure => simp [intOf]; omega
          · have hml : m < l.length := by rw [HLL.out]; omega
            have hm1 : m + 1 ≤ l.length := by omega
            have gl1 : (m : Int) + 1 < ((l.length + 1 : Nat) : Int) := by omega
            have gl2 : (m : Int) + 1 < (l.length : Int) + 1 := by omega
            have gl3 : (m : Int) < ((l.length + 1 : Nat) : Int) := by omega
            have gl4 : (m : Int) < (l.length : Int) + 1 := by omega
            have gl5 : (0 : Int) < (m : Int) + 1 := by omega
            have gl6 : (0 : Int) ≤ (m : Int) := by omega
            have gl7 : (m : Int) ≤ 100000 := by omega
            have hatm := hat.at_ m (by rw [ins_len l hm1 y]; omega)
            rw [ins_at l hml y, Nat.zero_add] at hatm
            obtain ⟨c1, c2, c3'⟩ := hat.at_ (m + 1) (by rw [ins_len l hm1 y]; omega)
            rw [Nat.zero_add] at c1 c2 c3'
            obtain ⟨z, hz⟩ : ∃ z, z = l[m]?.getD default := ⟨_, rfl⟩
            have hpos : posB x l (m + 1) = if befB x (l[m]?.getD default) then posB x l m else m + 1 := rfl
            rw [← hz] at hatm hpos
            have HZ := Lib.hid hz
            have HPP := Lib.hid hpos
            obtain ⟨q1, q2, q3⟩ := hatm
            have hbr := HBR.out z
            clear hO2 hat hpos hz
            have r1 := cell_regrown x1
            have r2 := cell_regrown x2
            have r3 := cell_regrown x3
            have s1 := cell_regrown q1
            have s2 := cell_regrown q2
            have s3 := cell_regrown q3
            have t1 := cell_regrown c1
            have t2 := cell_regrown c2
            have t3 := cell_regrown c3'
            have rf : ∀ d os o, (Sort.grow (redrawn wr d) os).frozen? ⟨g', o, none⟩ = false := fun d os o => ((below_regrown wr d os).frozen (p := ⟨g', o, none⟩) hglt).trans (hfree o)
            obtain ⟨za, zb, zc⟩ := z
            obtain ⟨xa, xb, xc⟩ := x
            unfold bv at hbr
            dsimp only at hbr x1 x2 x3 q1 q2 q3 r1 r2 r3 s1 s2 s3
            cases hbe : befB ⟨xa, xb, xc⟩ ⟨za, zb, zc⟩ with
            | false =>
              rw [hbe] at hbr
              have HC := Lib.hid hbr
              have HBE := Lib.hid hbe
              clear hbr hbe
              go_wp2
              refine wp_region_quiet_below (by kernel_rfl) (by kernel_rfl) ?_
              repeat (go_big_quiet_step (exact Calls.regrown_of (HC.out _)))
              refine wpQuiet_nil ?_
              intro _ hw'
              obtain ⟨⟨dq, osq⟩, hw''⟩ := hw'
              subst hw''
              go_wp2
              have hnew := (HO2.out.below (below_regrown wr dq osq) (Nat.le_refl _)).set3 (i := m + 1) (by rw [ins_len l hm1 y]; omega) ⟨xa, xb, xc⟩
              rw [ins_end l hm1 _ y] at hnew
              have hins : insB ⟨xa, xb, xc⟩ l = l.take (m + 1) ++ ⟨xa, xb, xc⟩ :: l.drop (m + 1) := by unfold insB; rw [HP.out, HPP.out, if_neg (by rw [HBE.out]; decide)]
              rw [← hins, ← HNX.out] at hnew
              have HN := Lib.hid hnew
              clear hnew hins
              go_roundw
              case rel => exact ⟨k + 1, by omega, by go_num, (((hB2.trans ((below_regrown wr dq osq).mono hz2)).setCell (p := ⟨g', (m + 1) * 3, none⟩) hgb _).setCell (p := ⟨g', (m + 1) * 3 + 1, none⟩) hgb _).setCell (p := ⟨g', (m + 1) * 3 + 2, none⟩) hgb _, HN.out, _, _, by rw [HLL.out]⟩
              case measure => simp [intOf]; omega
            | true =>
              rw [hbe] at hbr
              have HC := Lib.hid hbr
              have HBE := Lib.hid hbe
              clear hbr hbe
              go_wp2
              refine wp_region_quiet_below (by kernel_rfl) (by kernel_rfl) ?_
              repeat (go_big_quiet_step (exact Calls.regrown_of (HC.out _)))
              refine wpQuiet_nil ?_
              intro _ hw'
              obtain ⟨⟨dq, osq⟩, hw''⟩ := hw'
              subst hw''
              go_wp2
              have hnew := (HO2.out.below (below_regrown wr dq osq) (Nat.le_refl _)).set3 (i := m + 1) (by rw [ins_len l hm1 y]; omega) ⟨za, zb, zc⟩
              have hro := ins_round l hml y
              rw [← HZ.out] at hro
              rw [hro] at hnew
              have HN := Lib.hid hnew
              clear hnew hro
              go_roundw
              case rel => exact ⟨m, by omega, rfl, (((hB2.trans ((below_regrown wr dq osq).mono hz2)).setCell (p := ⟨g', (m + 1) * 3, none⟩) hgb _).setCell (p := ⟨g', (m + 1) * 3 + 1, none⟩) hgb _).setCell (p := ⟨g', (m + 1) * 3 + 2, none⟩) hgb _, ⟨⟨za, zb, zc⟩, HN.out⟩, Lib.hid (by rw [HP.out, HPP.out, if_pos HBE.out])⟩
              case measure => simp [intOf]
    · go_wp2
      go_ret
      have e : k = bs.length := by omega
      subst e
      rw [List.take_length] at hO
      exact ⟨_, rfl, hO, hB⟩
set_option maxRecDepth 100000 in
theorem l01Made_any (v : Int) (s : Value) (bs : List Blk) (w : World) (h : SX w s bs) (hl : bs.length ≤ 100000) :
    Calls Try.prog 55 #[.int .i64 v, s] w fun e w' => ∃ u, e = .returned (.agg #[.int .i64 v, u]) ∧ ResR w' w.heap.size w'.heap.size u (sortB bs) ∧ Below w.heap.size w w' := by
  have hs : ∃ a c, s = .slice a bs.length c := by rcases h with ⟨a0, c0, rfl, rfl⟩ | ⟨b, off, cap, rfl, _⟩ <;> exact ⟨_, _, rfl⟩
  have HS := Lib.hid (l01Sort_any s bs (w.alloc (.cells #[.int .i64 0, .slice none 0 0] 31)) (h.below ((Below.refl _ _).alloc (Nat.le_refl _) _) (Nat.le_refl _)) hl)
  clear h
  obtain ⟨a0, c0, rfl⟩ := hs
  go_enter Try.func55, Try.ntmps55
  go_wp2_with fail
  refine HS.out.mono ?_
  rintro e w1 ⟨u, rfl, ho, hb1⟩
  have hlt : w.heap.size < w1.heap.size := by have := hb1.size; simp at this; omega
  have hbw : Below w.heap.size w w1 := ((Below.refl _ _).alloc (Nat.le_refl _) _).trans (hb1.mono (by simp))
  have d0 := cell_new hb1 0 rfl
  have d1 := cell_new hb1 1 rfl
  have f0 : w1.frozen? ⟨w.heap.size, 0, none⟩ = false := (hb1.frozen (p := ⟨w.heap.size, 0, none⟩) (by simp)).trans (by simp [go_sem])
  have f1 : w1.frozen? ⟨w.heap.size, 1, none⟩ = false := (hb1.frozen (p := ⟨w.heap.size, 1, none⟩) (by simp)).trans (by simp [go_sem])
  have hr := ho.res
  have hbase : (w.alloc (.cells #[.int .i64 0, .slice none 0 0] 31)).heap.size = w.heap.size + 1 := by simp
  rw [hbase] at hr
  obtain ⟨a3, n3, hs3⟩ := hr.slice
  obtain ⟨m3, hm3⟩ : ∃ m, m = (sortB bs).length := ⟨_, rfl⟩
  rw [← hm3] at hs3
  clear hm3 ho hb1 hbase
  subst hs3
  go_wp2
  exact bodyPost_ret (v := .agg #[.int .i64 v, .slice a3 m3 n3]) (by simp [results, Try.results55, go_sem, *]) rfl ⟨_, rfl, (hr.kept (gb_set2 w1 w.heap.size (.int .i64 v) (.slice a3 m3 n3)) (fun r e => by cases e; exact .inl (by omega))).wide (by omega) (by simp [World.setCell]), below_set2 hbw (by omega) _ _⟩
end Go.Proofs.Ytiomdfhhejdoiaa

namespace Go.Proofs.Ytiomdfhhejdoiaa
open Go.RowKit Go.Maps
set_option maxRecDepth 100000 in
theorem l01Block_any (a b c : Int) (w : World) (a0 : 0 ≤ a) (a1 : a ≤ 1000) (b0 : 0 ≤ b) (b1 : b ≤ 1000) (c0 : 0 ≤ c) (c1 : c ≤ 1000) : Calls Try.prog 137 #[.int .i64 a, .int .i64 b, .int .i64 c] w (RV (bv (blk3 a b c)) w) := by
  go_enter Try.func137, Try.ntmps137
  go_wp2
  all_goals
    refine bodyPost_ret (v := bv (blk3 a b c)) ?_ rfl ⟨rfl, (Below.refl _ _).alloc (Nat.le_refl _) _⟩
    simp [results, Try.results137, go_sem, bv, blk3]
    omega
end Go.Proofs.Ytiomdfhhejdoiaa

namespace Go.Proofs.Ytiomdfhhejdoiaa
open Go.RowKit Go.Maps
theorem l01Block_is {a b c p q r : Int} (W : World) (a0 : 0 ≤ a) (a1 : a ≤ 1000) (b0 : 0 ≤ b) (b1 : b ≤ 1000) (c0 : 0 ≤ c) (c1 : c ≤ 1000) (hp : p = min (min a b) c) (hr : r = max (max a b) c) (hq : q = a + b + c - p - r) :
    Calls Try.prog 137 #[.int .i64 a, .int .i64 b, .int .i64 c] W (RV (.agg #[.int .i64 p, .int .i64 q, .int .i64 r]) W) := by
  have h := l01Block_any a b c W a0 a1 b0 b1 c0 c1
  rw [blk3_of hp hr hq] at h
  exact h
end Go.Proofs.Ytiomdfhhejdoiaa

namespace Go.Proofs.Ytiomdfhhejdoiaa
open Go.RowKit Go.Maps
theorem putF_wf (v : Int) (bs : List Blk) (x : Blk) : ∀ y ∈ (putF v bs x).2.1, WFB y := by
  unfold putF
  split
  · rename_i hi
    split
    · rename_i hg
      split
      · intro y hy
        have hy : y ∈ sortB (bs ++ [x]) := hy
        rw [sortB_mem] at hy
        obtain ⟨_, hv, _⟩ := sys_size hi
        have h : goodB v y = true := by
          rcases List.mem_append.1 hy with hy | hy
          · exact sys_good hi y hy
          · simp at hy; rw [hy]; exact hg
        have h := goodB_iff.1 h
        exact ⟨wf_pl (by omega) (by omega), wf_pl (by omega) (by omega), wf_pl (by omega) (by omega)⟩
      · simp
    · simp
  · simp
theorem sx_kept1 {W W' : World} {row : Option Nat} {B c : Nat} {x : Blk} (hg : W.grownBy W' row) (h : W.cell? ⟨B, 0, none⟩ = some (.int .i64 x.a) ∧ W.cell? ⟨B, 1, none⟩ = some (.int .i64 x.b) ∧ W.cell? ⟨B, 2, none⟩ = some (.int .i64 x.c)) (hne : some B ≠ row) : SX W' (.slice (some ⟨B, 0, none⟩) 1 c) [x] :=
  .inr ⟨B, 0, c, rfl, World.block_lt_of_cell? W' ⟨B, 0, none⟩ (hg.cell h.1 hne), fun k hk => by
    have : k = 0 := by simp at hk; omega
    subst this
    exact ⟨by simpa using hg.cell h.1 hne, by simpa using hg.cell h.2.1 hne, by simpa using hg.cell h.2.2 hne⟩⟩
end Go.Proofs.Ytiomdfhhejdoiaa


/- The model's insertion sort. The model's block of three points. The model's DoubleSystem answers as dblF. The program's PairsLeft. The model's PutBlock. What a law over two systems knows of the memory between two of its steps. What a law over one system whose result is a list of integers knows of the memory between two of its steps. -/
import Derived.Test.YtikegdidffjoeaaJ6
namespace Go.Proofs.Ytikegdidffjoeaa
open Go.RowKit Go.Maps
theorem ins_start (x : Blk) (l : List Blk) : l ++ [x] = l.take l.length ++ x :: l.drop l.length := by simp
theorem ins_round (l : List Blk) {m : Nat} (hm : m < l.length) (y : Blk) : (l.take (m + 1) ++ y :: l.drop (m + 1)).set (m + 1) (l[m]?.getD default) = l.take m ++ (l[m]?.getD default) :: l.drop m := by
  have h1 : (l.take (m + 1)).length = m + 1 := by simp; omega
  rw [List.set_append_right _ _ (by omega), h1, Nat.sub_self, List.set_cons_zero]
  rw [List.getElem?_eq_getElem hm, Option.getD_some, List.take_succ_eq_append_getElem hm, List.append_assoc]
  congr 1
  rw [List.singleton_append, List.drop_eq_getElem_cons hm]
theorem ins_end (l : List Blk) {m : Nat} (hm : m ≤ l.length) (x y : Blk) : (l.take m ++ y :: l.drop m).set m x = l.take m ++ x :: l.drop m := by
  have h1 : (l.take m).length = m := by simp; omega
  rw [List.set_append_right _ _ (by omega), h1, Nat.sub_self, List.set_cons_zero]
theorem ins_len (l : List Blk) {m : Nat} (hm : m ≤ l.length) (y : Blk) : (l.take m ++ y :: l.drop m).length = l.length + 1 := by
  simp; omega
theorem ins_at (l : List Blk) {m : Nat} (hm : m < l.length) (y : Blk) : (l.take (m + 1) ++ y :: l.drop (m + 1))[m]?.getD default = l[m]?.getD default := by
  rw [List.getElem?_append_left (by simp; omega), List.getElem?_take_of_lt (by omega)]
set_option maxRecDepth 100000 in
set_option maxHeartbeats 1000000 in
theorem l01Sort_any (s : Value) (bs : List Blk) (w : World) (h : SX w s bs) (hl : bs.length ≤ 100000) :
    Calls Try.prog 172 #[s] w fun e w' => ∃ u, e = .returned u ∧ OwnR w' w.heap.size u (sortB bs) ∧ Below w.heap.size w w' := by
  have hs : ∃ a c, s = .slice a bs.length c := by rcases h with ⟨a0, c0, rfl, rfl⟩ | ⟨b, off, cap, rfl, _⟩ <;> exact ⟨_, _, rfl⟩
  have HSX := Lib.hid h
  clear h
  obtain ⟨a0, c0, rfl⟩ := hs
  go_enter Try.func172, Try.ntmps172
  go_wp2
  have ho0 := lit_own w
  obtain ⟨w0, hw0⟩ : ∃ w0, w.alloc (.cells #[] 50) = w0 := ⟨_, rfl⟩
  have hB0 : Below w.heap.size w w0 := by rw [← hw0]; exact (Below.refl _ _).alloc (Nat.le_refl _) _
  have hz0 : w.heap.size < w0.heap.size := by rw [← hw0]; simp
  rw [hw0] at ho0 ⊢
  have HO0 := Lib.hid ho0
  clear hw0 ho0
  go_loopw [3, 4] (fun o i wr => ∃ k : Nat, k ≤ bs.length ∧ i = .int .i64 k ∧ Below w.heap.size w wr ∧ OwnR wr w.heap.size o (sortB (bs.take k)) ∧ ∃ a c, o = .slice a k c) (fun _ i _ => bs.length - (intOf i).toNat)
  case atStart => exact ⟨0, Nat.zero_le _, rfl, hB0, by simpa [sortB] using HO0.out, _, _, rfl⟩
  case round =>
    obtain ⟨k, hk, rfl, hB, hO, a3, c3, rfl⟩ := hrel
    have hz := hB.size
    by_cases hkl : k < bs.length
    · rcases HSX.out with ⟨_, _, _, hnil⟩ | ⟨b, off, cap, hv, hblt, hbl⟩
      · rw [hnil] at hkl; simp at hkl
      · simp at hv
        obtain ⟨rfl, rfl⟩ := hv
        have HBL := Lib.hid hbl
        obtain ⟨x, hx, ex, x1, x2, x3⟩ := blks_at (hbl.below hB hblt) hkl
        obtain ⟨l, hl1⟩ : ∃ l, l = sortB (bs.take k) := ⟨_, rfl⟩
        have hll : l.length = k := by rw [hl1, sortB_length]; simp; omega
        have hnext : sortB (bs.take (k + 1)) = insB x l := by
          rw [List.getElem?_eq_getElem hkl] at ex
          have ex' : bs[k] = x := by simpa using ex
          rw [take_next hkl, ex', sortB_snoc, hl1]
        rw [← hl1] at hO
        have HO := Lib.hid hO
        have HNX := Lib.hid hnext
        have HLL := Lib.hid hll
        have hlen2 : l.length ≤ 100000 := by omega
        have g0 : (0 : Int) ≤ (k : Int) := by omega
        have g1 : (k : Int) < (bs.length : Int) := by omega
        have HEX := Lib.hid ex
        clear hx ex hl1 hO hnext hll hbl
        go_wp2_with (at_builtin; refine wpList_append_blk rfl _ _ rfl w.heap.size _ l rfl (HO.out.below ((Below.refl _ _).alloc (Nat.le_refl _) _) (Nat.le_refl _)) _ _ x rfl (by simp [go_sem]) (by simp [go_sem]) (by simp [go_sem]) (by omega) (by simp; omega) ?_; intro g' cap' w4 hO4 hg4)
        have hB4 : Below w.heap.size w w4 := (hB.alloc (by omega) _).grown hg4 (by simp; omega) (fun r e => HO.out.row r e)
        have HBR := Lib.hid (l01Before_any x)
        have HX := Lib.hid (show bs[k]?.getD default = x by rw [HEX.out]; rfl)
        clear hg4 x1 x2 x3
        go_loopw [5] (fun t wr2 => ∃ m : Nat, m ≤ k ∧ t = .int .i64 m ∧ Below w.heap.size w wr2 ∧ (∃ y, OwnR wr2 w.heap.size (.slice (some ⟨g', 0, none⟩) (l.length + 1) cap') (l.take m ++ y :: l.drop m)) ∧ Hid (posB x l l.length = posB x l m)) (fun t _ => (intOf t).toNat)
        case atStart => exact ⟨k, Nat.le_refl _, rfl, hB4, ⟨x, by have := hO4; rw [ins_start, HLL.out] at this; rw [HLL.out]; exact this⟩, Lib.hid (by rw [HLL.out])⟩
        case round =>
          obtain ⟨m, hm, rfl, hB2, ⟨y, hO2⟩, HP⟩ := hrel
          obtain ⟨hn0, hgb, hat⟩ := hO2.at_
          clear hn0
          have hxx := (HBL.out.below hB2 hblt) k hkl
          rw [HX.out] at hxx
          obtain ⟨x1, x2, x3⟩ := hxx
          have hglt := hat.lt
          have hz2 := hB2.size
          have hblt2 : b < wr.heap.size := by omega
          have hfree := hat.free
          have HO2 := Lib.hid hO2
          rcases m with _ | m
          · rw [show ((0 : Nat) : Int) = 0 from rfl]
            have gl1 : (0 : Int) < ((l.length + 1 : Nat) : Int) := by omega
            have gl2 : (0 : Int) < (l.length : Int) + 1 := by omega
            obtain ⟨c1, c2, c3'⟩ := hat.at_ 0 (by rw [ins_len l (Nat.zero_le _) y]; omega)
            simp only [Nat.zero_mul, Nat.zero_add] at c1 c2 c3'
            have hnew := HO2.out.set3 (i := 0) (by rw [ins_len l (Nat.zero_le _) y]; omega) x
            rw [ins_end l (Nat.zero_le _) x y] at hnew
            have hins : insB x l = l.take 0 ++ x :: l.drop 0 := by unfold insB; rw [HP.out]; rfl
            rw [← hins, ← HNX.out] at hnew
            simp only [Nat.zero_mul, Nat.zero_add] at hnew
            have HN := Lib.hid hnew
            clear hO2 hat hnew hins
            go_wp2
            go_quiet (fail)
            go_wp2
            go_roundw
            case rel => exact ⟨k + 1, by omega, by go_num, (((below_drewN hB2 _).setCell (p := ⟨g', 0, none⟩) hgb _).setCell (p := ⟨g', 1, none⟩) hgb _).setCell (p := ⟨g', 2, none⟩) hgb _, HN.out, _, _, by rw [HLL.out]⟩
            case measure => simp [intOf]; omega
          · have hml : m < l.length := by rw [HLL.out]; omega
            have hm1 : m + 1 ≤ l.length := by omega
            have gl1 : (m : Int) + 1 < ((l.length + 1 : Nat) : Int) := by omega
            have gl2 : (m : Int) + 1 < (l.length : Int) + 1 := by omega
            have gl3 : (m : Int) < ((l.length + 1 : Nat) : Int) := by omega
            have gl4 : (m : Int) < (l.length : Int) + 1 := by omega
            have gl5 : (0 : Int) < (m : Int) + 1 := by omega
            have gl6 : (0 : Int) ≤ (m : Int) := by omega
            have gl7 : (m : Int) ≤ 100000 := by omega
            have hatm := hat.at_ m (by rw [ins_len l hm1 y]; omega)
            rw [ins_at l hml y, Nat.zero_add] at hatm
            obtain ⟨c1, c2, c3'⟩ := hat.at_ (m + 1) (by rw [ins_len l hm1 y]; omega)
            rw [Nat.zero_add] at c1 c2 c3'
            obtain ⟨z, hz⟩ : ∃ z, z = l[m]?.getD default := ⟨_, rfl⟩
            have hpos : posB x l (m + 1) = if befB x (l[m]?.getD default) then posB x l m else m + 1 := rfl
            rw [← hz] at hatm hpos
            have HZ := Lib.hid hz
            have HPP := Lib.hid hpos
            obtain ⟨q1, q2, q3⟩ := hatm
            have hbr := HBR.out z
            clear hO2 hat hpos hz
            have r1 := cell_regrown x1
            have r2 := cell_regrown x2
            have r3 := cell_regrown x3
            have s1 := cell_regrown q1
            have s2 := cell_regrown q2
            have s3 := cell_regrown q3
            have t1 := cell_regrown c1
            have t2 := cell_regrown c2
            have t3 := cell_regrown c3'
            have rf : ∀ d os o, (Sort.grow (redrawn wr d) os).frozen? ⟨g', o, none⟩ = false := fun d os o => ((below_regrown wr d os).frozen (p := ⟨g', o, none⟩) hglt).trans (hfree o)
            obtain ⟨za, zb, zc⟩ := z
            obtain ⟨xa, xb, xc⟩ := x
            unfold bv at hbr
            dsimp only at hbr x1 x2 x3 q1 q2 q3 r1 r2 r3 s1 s2 s3
            cases hbe : befB ⟨xa, xb, xc⟩ ⟨za, zb, zc⟩ with
            | false =>
              rw [hbe] at hbr
              have HC := Lib.hid hbr
              have HBE := Lib.hid hbe
              clear hbr hbe
              go_wp2
              refine wp_region_quiet_below (by kernel_rfl) (by kernel_rfl) ?_
              repeat (go_big_quiet_step (exact Calls.regrown_of (HC.out _)))
              refine wpQuiet_nil ?_
              intro _ hw'
              obtain ⟨⟨dq, osq⟩, hw''⟩ := hw'
              subst hw''
              go_wp2
              have hnew := (HO2.out.below (below_regrown wr dq osq) (Nat.le_refl _)).set3 (i := m + 1) (by rw [ins_len l hm1 y]; omega) ⟨xa, xb, xc⟩
              rw [ins_end l hm1 _ y] at hnew
              have hins : insB ⟨xa, xb, xc⟩ l = l.take (m + 1) ++ ⟨xa, xb, xc⟩ :: l.drop (m + 1) := by unfold insB; rw [HP.out, HPP.out, if_neg (by rw [HBE.out]; decide)]
              rw [← hins, ← HNX.out] at hnew
              have HN := Lib.hid hnew
              clear hnew hins
              go_roundw
              case rel => exact ⟨k + 1, by omega, by go_num, (((hB2.trans ((below_regrown wr dq osq).mono hz2)).setCell (p := ⟨g', (m + 1) * 3, none⟩) hgb _).setCell (p := ⟨g', (m + 1) * 3 + 1, none⟩) hgb _).setCell (p := ⟨g', (m + 1) * 3 + 2, none⟩) hgb _, HN.out, _, _, by rw [HLL.out]⟩
              case measure => simp [intOf]; omega
            | true =>
              rw [hbe] at hbr
              have HC := Lib.hid hbr
              have HBE := Lib.hid hbe
              clear hbr hbe
              go_wp2
              refine wp_region_quiet_below (by kernel_rfl) (by kernel_rfl) ?_
              repeat (go_big_quiet_step (exact Calls.regrown_of (HC.out _)))
              refine wpQuiet_nil ?_
              intro _ hw'
              obtain ⟨⟨dq, osq⟩, hw''⟩ := hw'
              subst hw''
              go_wp2
              have hnew := (HO2.out.below (below_regrown wr dq osq) (Nat.le_refl _)).set3 (i := m + 1) (by rw [ins_len l hm1 y]; omega) ⟨za, zb, zc⟩
              have hro := ins_round l hml y
              rw [← HZ.out] at hro
              rw [hro] at hnew
              have HN := Lib.hid hnew
              clear hnew hro
              go_roundw
              case rel => exact ⟨m, by omega, rfl, (((hB2.trans ((below_regrown wr dq osq).mono hz2)).setCell (p := ⟨g', (m + 1) * 3, none⟩) hgb _).setCell (p := ⟨g', (m + 1) * 3 + 1, none⟩) hgb _).setCell (p := ⟨g', (m + 1) * 3 + 2, none⟩) hgb _, ⟨⟨za, zb, zc⟩, HN.out⟩, Lib.hid (by rw [HP.out, HPP.out, if_pos HBE.out])⟩
              case measure => simp [intOf]
    · go_wp2
      go_ret
      have e : k = bs.length := by omega
      subst e
      rw [List.take_length] at hO
      exact ⟨_, rfl, hO, hB⟩
set_option maxRecDepth 100000 in
theorem l01Made_any (v : Int) (s : Value) (bs : List Blk) (w : World) (h : SX w s bs) (hl : bs.length ≤ 100000) :
    Calls Try.prog 94 #[.int .i64 v, s] w fun e w' => ∃ u, e = .returned (.agg #[.int .i64 v, u]) ∧ ResR w' w.heap.size w'.heap.size u (sortB bs) ∧ Below w.heap.size w w' := by
  have hs : ∃ a c, s = .slice a bs.length c := by rcases h with ⟨a0, c0, rfl, rfl⟩ | ⟨b, off, cap, rfl, _⟩ <;> exact ⟨_, _, rfl⟩
  have HS := Lib.hid (l01Sort_any s bs (w.alloc (.cells #[.int .i64 0, .slice none 0 0] 26)) (h.below ((Below.refl _ _).alloc (Nat.le_refl _) _) (Nat.le_refl _)) hl)
  clear h
  obtain ⟨a0, c0, rfl⟩ := hs
  go_enter Try.func94, Try.ntmps94
  go_wp2_with fail
  refine HS.out.mono ?_
  rintro e w1 ⟨u, rfl, ho, hb1⟩
  have hlt : w.heap.size < w1.heap.size := by have := hb1.size; simp at this; omega
  have hbw : Below w.heap.size w w1 := ((Below.refl _ _).alloc (Nat.le_refl _) _).trans (hb1.mono (by simp))
  have d0 := cell_new hb1 0 rfl
  have d1 := cell_new hb1 1 rfl
  have f0 : w1.frozen? ⟨w.heap.size, 0, none⟩ = false := (hb1.frozen (p := ⟨w.heap.size, 0, none⟩) (by simp)).trans (by simp [go_sem])
  have f1 : w1.frozen? ⟨w.heap.size, 1, none⟩ = false := (hb1.frozen (p := ⟨w.heap.size, 1, none⟩) (by simp)).trans (by simp [go_sem])
  have hr := ho.res
  have hbase : (w.alloc (.cells #[.int .i64 0, .slice none 0 0] 26)).heap.size = w.heap.size + 1 := by simp
  rw [hbase] at hr
  obtain ⟨a3, n3, hs3⟩ := hr.slice
  obtain ⟨m3, hm3⟩ : ∃ m, m = (sortB bs).length := ⟨_, rfl⟩
  rw [← hm3] at hs3
  clear hm3 ho hb1 hbase
  subst hs3
  go_wp2
  exact bodyPost_ret (v := .agg #[.int .i64 v, .slice a3 m3 n3]) (by simp [results, Try.results94, go_sem, *]) rfl ⟨_, rfl, (hr.kept (gb_set2 w1 w.heap.size (.int .i64 v) (.slice a3 m3 n3)) (fun r e => by cases e; exact .inl (by omega))).wide (by omega) (by simp [World.setCell]), below_set2 hbw (by omega) _ _⟩
end Go.Proofs.Ytikegdidffjoeaa

namespace Go.Proofs.Ytikegdidffjoeaa
open Go.RowKit Go.Maps
set_option maxRecDepth 100000 in
theorem l01Block_any (a b c : Int) (w : World) (a0 : 0 ≤ a) (a1 : a ≤ 1000) (b0 : 0 ≤ b) (b1 : b ≤ 1000) (c0 : 0 ≤ c) (c1 : c ≤ 1000) : Calls Try.prog 92 #[.int .i64 a, .int .i64 b, .int .i64 c] w (RV (bv (blk3 a b c)) w) := by
  go_enter Try.func92, Try.ntmps92
  go_wp2
  all_goals
    refine bodyPost_ret (v := bv (blk3 a b c)) ?_ rfl ⟨rfl, (Below.refl _ _).alloc (Nat.le_refl _) _⟩
    simp [results, Try.results92, go_sem, bv, blk3]
    omega
end Go.Proofs.Ytikegdidffjoeaa

namespace Go.Proofs.Ytikegdidffjoeaa
open Go.RowKit Go.Maps
theorem l01Block_is {a b c p q r : Int} (W : World) (a0 : 0 ≤ a) (a1 : a ≤ 1000) (b0 : 0 ≤ b) (b1 : b ≤ 1000) (c0 : 0 ≤ c) (c1 : c ≤ 1000) (hp : p = min (min a b) c) (hr : r = max (max a b) c) (hq : q = a + b + c - p - r) :
    Calls Try.prog 92 #[.int .i64 a, .int .i64 b, .int .i64 c] W (RV (.agg #[.int .i64 p, .int .i64 q, .int .i64 r]) W) := by
  have h := l01Block_any a b c W a0 a1 b0 b1 c0 c1
  rw [blk3_of hp hr hq] at h
  exact h
end Go.Proofs.Ytikegdidffjoeaa

namespace Go.Proofs.Ytikegdidffjoeaa
open Go.RowKit Go.Maps
/-- The pairs (a, b), b among the next n, that P lets through; then those of the rows before a. -/
def rowL (P : Int → Int → Bool) (a : Nat) : Nat → List (Int × Int)
  | 0 => []
  | n + 1 => rowL P a n ++ if P a ((a : Int) + 1 + n) then [((a : Int), (a : Int) + 1 + n)] else []
def leftL (P : Int → Int → Bool) (v : Nat) : Nat → List (Int × Int)
  | 0 => []
  | a + 1 => leftL P v a ++ rowL P a (v - 1 - a)
theorem rowL_len (P : Int → Int → Bool) (a n : Nat) : (rowL P a n).length ≤ n := by
  induction n with
  | zero => simp [rowL]
  | succ n ih =>
    unfold rowL
    rw [List.length_append]
    split <;> simp <;> omega
theorem leftL_len (P : Int → Int → Bool) (v a : Nat) : (leftL P v a).length ≤ a * v := by
  induction a with
  | zero => simp [leftL]
  | succ a ih =>
    unfold leftL
    rw [List.length_append, Nat.succ_mul]
    have := rowL_len P a (v - 1 - a)
    omega
theorem rowL_congr {P Q : Int → Int → Bool} {a : Nat} : ∀ n : Nat, (∀ b : Int, (a : Int) < b → b ≤ a + n → P a b = Q a b) → rowL P a n = rowL Q a n
  | 0, _ => rfl
  | n + 1, h => by
    unfold rowL
    rw [rowL_congr n (fun b h1 h2 => h b h1 (by omega)), h ((a : Int) + 1 + n) (by omega) (by omega)]
theorem leftL_congr {P Q : Int → Int → Bool} {v : Nat} : ∀ a : Nat, a ≤ v → (∀ a' b : Int, 0 ≤ a' → a' < b → b < v → P a' b = Q a' b) → leftL P v a = leftL Q v a
  | 0, _, _ => rfl
  | a + 1, ha, h => by
    unfold leftL
    rw [leftL_congr a (by omega) h, rowL_congr _ (fun b h1 h2 => h a b (by omega) h1 (by omega))]
def fnL (L : List (Int × Int)) (k : Nat) : List Int := let p := L[k]?.getD (0, 0); [p.1, p.2]
theorem fnL_len (L : List (Int × Int)) (k : Nat) : (fnL L k).length = 2 := rfl
theorem fnL_lt {L L' : List (Int × Int)} {k : Nat} (h : k < L.length) : fnL L k = fnL (L ++ L') k := by
  unfold fnL
  rw [List.getElem?_append_left h]
theorem fnL_at (L : List (Int × Int)) (p : Int × Int) : fnL (L ++ [p]) L.length = [p.1, p.2] := by simp [fnL]
theorem AccS.congr {w : World} {base : Nat} {u : Value} {n : Nat} {gs caps : Nat → Nat} {F F' : Nat → List Int} (h : AccS w base u n gs caps F) (e : ∀ k, k < n → F k = F' k) : AccS w base u n gs caps F' := by
  refine ⟨?_, fun k hk => by rw [← e k hk]; exact h.row k hk, h.ne, h.inc, h.low⟩
  have he : (List.range n).map (rowV gs caps F') = (List.range n).map (rowV gs caps F) := map_congr' fun k hk => by
    have := e k (List.mem_range.1 hk)
    simp [rowV, this]
  rw [he]
  exact h.own
theorem AccS.base {w : World} {base base' : Nat} {u : Value} {n : Nat} {gs caps : Nat → Nat} {F : Nat → List Int} (h : AccS w base u n gs caps F) (hb : base' ≤ base) : AccS w base' u n gs caps F :=
  ⟨ownsRow_base h.own hb, h.row, h.ne, h.inc, fun k hk => Nat.le_trans hb (h.low k hk)⟩
theorem wf_pl {n : Int} (h0 : 0 ≤ n) (h1 : n ≤ 1000) : WF n := by
  have : n = wrap64 n := by unfold wrap64; omega
  unfold WF
  rw [this]
  exact wrap64_wf _
def notIn (seen : List (Int × Int)) (a b : Int) : Bool := !decide ((a, b) ∈ seen)
theorem two_own (w : World) (x y : Int) (T : TypeId) : OwnAtI (w.alloc (.cells #[.int .i64 x, .int .i64 y] T)) w.heap.size [x, y] := by
  refine ⟨by simp, fun k hk => ?_, fun o => by simp⟩
  rw [World.cell?_alloc_at _ _ _ _ rfl]
  match k, hk with
  | 0, _ => rfl
  | 1, _ => rfl
end Go.Proofs.Ytikegdidffjoeaa

namespace Go.Proofs.Ytikegdidffjoeaa
open Go.RowKit Go.Maps
theorem putF_wf (v : Int) (bs : List Blk) (x : Blk) : ∀ y ∈ (putF v bs x).2.1, WFB y := by
  unfold putF
  split
  · rename_i hi
    split
    · rename_i hg
      split
      · intro y hy
        have hy : y ∈ sortB (bs ++ [x]) := hy
        rw [sortB_mem] at hy
        obtain ⟨_, hv, _⟩ := sys_size hi
        have h : goodB v y = true := by
          rcases List.mem_append.1 hy with hy | hy
          · exact sys_good hi y hy
          · simp at hy; rw [hy]; exact hg
        have h := goodB_iff.1 h
        exact ⟨wf_pl (by omega) (by omega), wf_pl (by omega) (by omega), wf_pl (by omega) (by omega)⟩
      · simp
    · simp
  · simp
theorem sx_kept1 {W W' : World} {row : Option Nat} {B c : Nat} {x : Blk} (hg : W.grownBy W' row) (h : W.cell? ⟨B, 0, none⟩ = some (.int .i64 x.a) ∧ W.cell? ⟨B, 1, none⟩ = some (.int .i64 x.b) ∧ W.cell? ⟨B, 2, none⟩ = some (.int .i64 x.c)) (hne : some B ≠ row) : SX W' (.slice (some ⟨B, 0, none⟩) 1 c) [x] :=
  .inr ⟨B, 0, c, rfl, World.block_lt_of_cell? W' ⟨B, 0, none⟩ (hg.cell h.1 hne), fun k hk => by
    have : k = 0 := by simp at hk; omega
    subst this
    exact ⟨by simpa using hg.cell h.1 hne, by simpa using hg.cell h.2.1 hne, by simpa using hg.cell h.2.2 hne⟩⟩
set_option maxRecDepth 100000 in
set_option maxHeartbeats 4000000 in
theorem specPutBlock_any (v : Int) (s : Value) (bs : List Blk) (x : Blk) (w : World) (h : SB w s bs) :
    Calls Try.prog 44 #[.agg #[.int .i64 v, s], bv x] w (RSys (putF v bs x) w) := by
  have hs := h.slice
  have HI := Lib.hid fun W (hb : Below w.heap.size w W) => l01Is_any v s bs W (h.below hb (Nat.le_refl _))
  have HB := Lib.hid fun W => l01Good_any v x W
  have HF := Lib.hid fun W (hb : Below w.heap.size w W) => l01Free_any v s bs x W (h.below hb (Nat.le_refl _))
  have HSB := Lib.hid h
  have hlen := h.2.1
  clear h
  obtain ⟨a0, c0, rfl⟩ := hs
  have hbx := Box3.new w v (.slice a0 bs.length c0) x
  have hz0 := w3b_size w v (.slice a0 bs.length c0) x
  have hb0 := w3b_below w v (.slice a0 bs.length c0) x
  have HW3 := Lib.hid (show w3b w v (.slice a0 bs.length c0) x = ((w.alloc (.cells #[.int .i64 v, (.slice a0 bs.length c0)] 26)).alloc (.cells #[.int .i64 x.a, .int .i64 x.b, .int .i64 x.c] 50)).alloc (.cells #[.int .i64 0, .slice none 0 0] 26) from rfl)
  obtain ⟨w0, hw0⟩ : ∃ w0, w0 = w3b w v (.slice a0 bs.length c0) x := ⟨_, rfl⟩
  rw [← hw0] at hbx hz0 hb0 HW3
  have HBX := Lib.hid hbx
  have HZ0 := Lib.hid hz0
  have HB0 := Lib.hid hb0
  have HI0 := HI.out w0 hb0
  clear hw0 hbx hz0 hb0 HI
  have HXG := Lib.hid fun (hg : goodB v x = true) (hi : isSysImpl v bs = true) => okB_free (sys_good hi) hg
  obtain ⟨xa, xb, xc⟩ := x
  unfold bv at HB HF ⊢
  dsimp only at HB HF HW3 ⊢
  have hend : ∀ (c : Int) (W : World), Below w.heap.size w W → putF v bs ⟨xa, xb, xc⟩ = (0, [], c) → RSys (putF v bs ⟨xa, xb, xc⟩) w (.returned (.tuple #[.agg #[.int .i64 0, .slice none 0 0], .int .i64 c])) ((W.setCell ⟨w.heap.size + 1 + 1, 0, none⟩ (.int .i64 0)).setCell ⟨w.heap.size + 1 + 1, 1, none⟩ (.slice none 0 0)) := fun c W hW e => by
    rw [e]
    exact ⟨_, rfl, .inl ⟨rfl, _, _, rfl⟩, below_set2 hW (by omega) _ _⟩
  have HEND := Lib.hid hend
  clear hend
  cases hi : isSysImpl v bs with
  | false =>
    have HV := Lib.hid (show putF v bs ⟨xa, xb, xc⟩ = (0, [], 1) by simp [putF, hi])
    rw [hi] at HI0
    have HI1 := Lib.hid HI0
    clear hi HI0 HSB HB HF HXG
    go_enter Try.func44, Try.ntmps44
    go_wp2_with fail
    rw [← HW3.out]
    refine HI1.out.mono ?_
    rintro e w1 ⟨rfl, hb1⟩
    obtain ⟨x0, x1, y0, y1, y2, d0, d1, f0, f1⟩ := HBX.out.below hb1
    have hB1 := HB0.out.trans (hb1.mono (by have := HZ0.out; omega))
    clear hb1
    go_wp2
    exact bodyPost_ret (v := .tuple #[.agg #[.int .i64 0, .slice none 0 0], .int .i64 1]) (by simp [results, Try.results44, go_sem, *]) rfl (HEND.out 1 _ hB1 HV.out)
  | true =>
    rw [hi] at HI0
    have HI1 := Lib.hid HI0
    clear HI0
    obtain ⟨hv3, hv15, hb35⟩ := sys_size hi
    cases hg : goodB v ⟨xa, xb, xc⟩ with
    | false =>
      have HV := Lib.hid (show putF v bs ⟨xa, xb, xc⟩ = (0, [], 2) by simp [putF, hi, hg])
      rw [hg] at HB
      clear hi hg HSB HF HXG
      go_enter Try.func44, Try.ntmps44
      go_wp2_with fail
      rw [← HW3.out]
      refine HI1.out.mono ?_
      rintro e w1 ⟨rfl, hb1⟩
      have hbx1 := HBX.out.below hb1
      obtain ⟨x0, x1, y0, y1, y2, _, _, _, _⟩ := id hbx1
      dsimp only at y0 y1 y2
      have HBX1 := Lib.hid hbx1
      have HB1 := Lib.hid (HB0.out.trans (hb1.mono (by have := HZ0.out; omega)))
      clear hb1 hbx1
      go_wp2_with fail
      refine (HB.out _).mono ?_
      rintro e w2 ⟨rfl, hb2⟩
      clear x0 x1 y0 y1 y2
      obtain ⟨x0, x1, y0, y1, y2, d0, d1, f0, f1⟩ := HBX1.out.below hb2
      have hB2 := HB1.out.trans (hb2.mono HB1.out.size)
      clear hb2
      go_wp2
      exact bodyPost_ret (v := .tuple #[.agg #[.int .i64 0, .slice none 0 0], .int .i64 2]) (by simp [results, Try.results44, go_sem, *]) rfl (HEND.out 2 _ hB2 HV.out)
    | true =>
      rw [hg] at HB
      obtain ⟨β, hβ⟩ : ∃ β, β = freeB (bs.flatMap pairsL) ⟨xa, xb, xc⟩ := ⟨_, rfl⟩
      have HVV := Lib.hid (show putF v bs ⟨xa, xb, xc⟩ = if β then (v, sortB (bs ++ [⟨xa, xb, xc⟩]), 0) else (0, [], 5) by simp [putF, hi, hg, hβ])
      rw [HXG.out hg hi] at hβ
      rw [← hβ] at HF
      clear hi hg hβ HXG
      go_enter Try.func44, Try.ntmps44
      go_wp2_with fail
      rw [← HW3.out]
      refine HI1.out.mono ?_
      rintro e w1 ⟨rfl, hb1⟩
      have hbx1 := HBX.out.below hb1
      obtain ⟨x0, x1, y0, y1, y2, _, _, _, _⟩ := id hbx1
      dsimp only at y0 y1 y2
      have HBX1 := Lib.hid hbx1
      have HB1 := Lib.hid (HB0.out.trans (hb1.mono (by have := HZ0.out; omega)))
      clear hb1 hbx1
      go_wp2_with fail
      refine (HB.out _).mono ?_
      rintro e w2 ⟨rfl, hb2⟩
      have hbx2 := HBX1.out.below hb2
      clear x0 x1 y0 y1 y2
      obtain ⟨x0, x1, y0, y1, y2, _, _, _, _⟩ := id hbx2
      dsimp only at y0 y1 y2
      have HBX2 := Lib.hid hbx2
      have HB2 := Lib.hid (HB1.out.trans (hb2.mono HB1.out.size))
      clear hb2 hbx2
      go_wp2_with fail
      refine (HF.out _ HB2.out).mono ?_
      rintro e w6 ⟨rfl, hb6⟩
      have HBX6 := Lib.hid (HBX2.out.below hb6)
      have HB6 := Lib.hid (HB2.out.trans (hb6.mono HB2.out.size))
      have hlt6 : w.heap.size + 1 + 1 < w6.heap.size := World.block_lt_of_cell? w6 ⟨w.heap.size + 1 + 1, 0, none⟩ HBX6.out.d0
      clear x0 x1 y0 y1 y2 hb6 HBX2 HB2 HF HB HBX1 HB1
      cases β with
      | false =>
        have HV := HVV.out
        rw [if_neg (by decide)] at HV
        have HV1 := Lib.hid HV
        clear HV
        obtain ⟨x0, x1, y0, y1, y2, d0, d1, f0, f1⟩ := HBX6.out
        go_wp2
        exact bodyPost_ret (v := .tuple #[.agg #[.int .i64 0, .slice none 0 0], .int .i64 5]) (by simp [results, Try.results44, go_sem, *]) rfl (HEND.out 5 _ HB6.out HV1.out)
      | true =>
        have HV := HVV.out
        rw [if_pos rfl] at HV
        obtain ⟨L, hL⟩ : ∃ L, L = bs ++ [(⟨xa, xb, xc⟩ : Blk)] := ⟨_, rfl⟩
        have hLl : L.length ≤ 100000 := by rw [hL, List.length_append, List.length_singleton]; omega
        rw [← hL] at HV
        have HV1 := Lib.hid HV
        have HLL := Lib.hid hL
        have HSX6 := Lib.hid (HSB.out.below HB6.out (Nat.le_refl _)).sx
        have HO0 := Lib.hid (lit_own w6)
        have ho3 := lit_own (w6.alloc (.cells #[.int .i64 xa, .int .i64 xb, .int .i64 xc] 50))
        simp only [World.size_alloc] at ho3
        have HO3 : Hid (OwnR ((w6.alloc (.cells #[.int .i64 xa, .int .i64 xb, .int .i64 xc] 50)).alloc (.cells #[] 50)) w6.heap.size (.slice (some ⟨w6.heap.size + 1, 0, none⟩) 0 0) []) := Lib.hid (ownsRow_base ho3 (by omega))
        clear ho3
        have hz6 := HB6.out.size
        obtain ⟨x0, x1, y0, y1, y2, _, _, _, _⟩ := HBX6.out
        dsimp only at y0 y1 y2
        clear HV hL HVV HEND
        go_wp2
        go_region_held3 (fun w' => w'.cell? ⟨w.heap.size, 0, none⟩ = some (.int .i64 v) ∧ w'.cell? ⟨w.heap.size, 1, none⟩ = some (.slice a0 bs.length c0) ∧ w'.cell? ⟨w.heap.size + 1, 0, none⟩ = some (.int .i64 xa) ∧ w'.cell? ⟨w.heap.size + 1, 1, none⟩ = some (.int .i64 xb) ∧ w'.cell? ⟨w.heap.size + 1, 2, none⟩ = some (.int .i64 xc))
          (first | exact ⟨E0, E1, E2, E3, E4⟩ | exact ⟨F0, F1, F2, F3, F4⟩ | exact ⟨G0, G1, G2, G3, G4⟩ | exact ⟨K0, K1, K2, K3, K4⟩ | go_keep)
          (first
            | (refine step_append_many rfl (.tmp 26) (.tmp 28) rfl w6.heap.size (.slice (some ⟨w6.heap.size, 0, none⟩) 0 0) [] (by simp [Act.eval]) (by first | exact HO0.out.below (Below.refl _ _).drew (Nat.le_refl _) | exact HO0.out) (.slice a0 bs.length c0) bs (by simp [Act.eval]) (by first | exact HSX6.out.below (((Below.refl _ _).alloc (Nat.le_refl _) _).drew) (Nat.le_refl _) | exact HSX6.out.below ((Below.refl _ _).alloc (Nat.le_refl _) _) (Nat.le_refl _)) (by simp; omega) (by simp) ?_; intro a7 c7 w7 ho7 hg7; have hB7 : Below w6.heap.size w6 w7 := ((((Below.refl _ _).alloc (Nat.le_refl _) _).drew).grown hg7 (by simp) (fun r e => by simp [Value.ownBlock] at e; omega)); obtain ⟨E0, E1, E2, E3, E4, _, _, _, _⟩ := HBX6.out.below hB7; have HO7 := Lib.hid (show OwnR w7 w6.heap.size (.slice a7 bs.length c7) bs by simpa using ho7))
            | (refine step_append_many rfl (.tmp 26) (.tmp 28) rfl w6.heap.size (.slice (some ⟨w6.heap.size, 0, none⟩) 0 0) [] (by simp [Act.eval]) (by first | exact HO0.out.below ((Below.refl _ _).alloc (Nat.le_refl _) _) (Nat.le_refl _) | exact (HO0.out.below ((Below.refl _ _).alloc (Nat.le_refl _) _) (Nat.le_refl _)).below ((Below.refl _ _).drew) (Nat.le_refl _)) (.slice a0 bs.length c0) bs (by simp [Act.eval]) (by first | exact HSX6.out.below ((((Below.refl _ _).alloc (Nat.le_refl _) _).alloc (by simp) _).drew) (Nat.le_refl _) | exact HSX6.out.below (((Below.refl _ _).alloc (Nat.le_refl _) _).alloc (by simp) _) (Nat.le_refl _)) (by simp; omega) (by simp; omega) ?_; intro a7 c7 w7 ho7 hg7; have hB7 : Below w6.heap.size w6 w7 := (by first | exact (((((Below.refl _ _).alloc (Nat.le_refl _) _).alloc (by simp) _).drew).grown hg7 (by simp; omega) (fun r e => by simp [Value.ownBlock] at e; omega)) | exact ((((Below.refl _ _).alloc (Nat.le_refl _) _).alloc (by simp) _).grown hg7 (by simp; omega) (fun r e => by simp [Value.ownBlock] at e; omega))); obtain ⟨E0, E1, E2, E3, E4, _, _, _, _⟩ := HBX6.out.below hB7; have HO7 := Lib.hid (show OwnR w7 w6.heap.size (.slice a7 bs.length c7) bs by simpa using ho7); have HX7 : Hid (SX w7 (.slice (some ⟨w6.heap.size + 1, 0, none⟩) 1 1) [⟨xa, xb, xc⟩]) := Lib.hid (sx_kept1 (by first | exact gb_drewL hg7 | exact hg7) ⟨by simp [go_sem], by simp [go_sem], by simp [go_sem]⟩ (by simp [Value.ownBlock])))
            | (refine step_append_many rfl (.tmp 26) (.tmp 28) rfl w6.heap.size (.slice (some ⟨w6.heap.size + 1, 0, none⟩) 0 0) [] (by simp [Act.eval]) (by first | exact HO3.out | exact (HO3.out).below ((Below.refl _ _).drew) (Nat.le_refl _)) (.slice a0 bs.length c0) bs (by simp [Act.eval]) (by first | exact HSX6.out.below ((((Below.refl _ _).alloc (Nat.le_refl _) _).alloc (by simp) _).drew) (Nat.le_refl _) | exact HSX6.out.below (((Below.refl _ _).alloc (Nat.le_refl _) _).alloc (by simp) _) (Nat.le_refl _)) (by simp; omega) (by simp; omega) ?_; intro a7 c7 w7 ho7 hg7; have hB7 : Below w6.heap.size w6 w7 := (by first | exact (((((Below.refl _ _).alloc (Nat.le_refl _) _).alloc (by simp) _).drew).grown hg7 (by simp; omega) (fun r e => by simp [Value.ownBlock] at e; omega)) | exact ((((Below.refl _ _).alloc (Nat.le_refl _) _).alloc (by simp) _).grown hg7 (by simp; omega) (fun r e => by simp [Value.ownBlock] at e; omega))); obtain ⟨E0, E1, E2, E3, E4, _, _, _, _⟩ := HBX6.out.below hB7; have HO7 := Lib.hid (show OwnR w7 w6.heap.size (.slice a7 bs.length c7) bs by simpa using ho7); have HX7 : Hid (SX w7 (.slice (some ⟨w6.heap.size, 0, none⟩) 1 1) [⟨xa, xb, xc⟩]) := Lib.hid (sx_kept1 (by first | exact gb_drewL hg7 | exact hg7) ⟨by simp [go_sem], by simp [go_sem], by simp [go_sem]⟩ (by simp [Value.ownBlock])))
            | (refine step_append_many rfl (.tmp 29) (.tmp 31) rfl w6.heap.size (.slice a7 bs.length c7) bs (by simp [Act.eval]) (by first | exact HO7.out.below ((Below.refl _ _).alloc (Nat.le_refl _) _) (Nat.le_refl _) | exact HO7.out.below (((Below.refl _ _).alloc (Nat.le_refl _) _).drew) (Nat.le_refl _) | exact HO7.out) (.slice (some ⟨w7.heap.size, 0, none⟩) 1 1) [⟨xa, xb, xc⟩] (by simp [Act.eval]) (by first | exact sx_one' w7 ⟨xa, xb, xc⟩ _ | exact (sx_one' w7 ⟨xa, xb, xc⟩ _).below ((Below.refl _ _).drew) (Nat.le_refl _)) (by simp; omega) (by have := hB7.size; simp; omega) ?_; intro a9 c9 w9 ho9 hg9; have hB9 : Below w6.heap.size w6 w9 := (hB7.alloc hB7.size _).grown (by first | exact hg9 | exact gb_drewL hg9) (by have := hB7.size; simp; omega) (fun r e => HO7.out.row r e); obtain ⟨F0, F1, F2, F3, F4, _, _, _, _⟩ := HBX6.out.below hB9; have HS9 := Lib.hid ho9.sx)
            | (refine step_append_many rfl (.tmp 29) (.tmp 31) rfl w6.heap.size (.slice a7 bs.length c7) bs (by simp [Act.eval]) (by first | exact HO7.out | exact HO7.out.below ((Below.refl _ _).drew) (Nat.le_refl _)) (.slice (some ⟨w6.heap.size + 1, 0, none⟩) 1 1) [⟨xa, xb, xc⟩] (by simp [Act.eval]) (by first | exact HX7.out | exact HX7.out.below ((Below.refl _ _).drew) (Nat.le_refl _)) (by simp; omega) (by have := hB7.size; first | omega | (simp; omega)) ?_; intro a9 c9 w9 ho9 hg9; have hB9 : Below w6.heap.size w6 w9 := hB7.grown (by first | exact hg9 | exact gb_drewL hg9) (by have := hB7.size; omega) (fun r e => HO7.out.row r e); obtain ⟨F0, F1, F2, F3, F4, _, _, _, _⟩ := HBX6.out.below hB9; have HS9 := Lib.hid ho9.sx)
            | (refine step_append_many rfl (.tmp 29) (.tmp 31) rfl w6.heap.size (.slice a7 bs.length c7) bs (by simp [Act.eval]) (by first | exact HO7.out | exact HO7.out.below ((Below.refl _ _).drew) (Nat.le_refl _)) (.slice (some ⟨w6.heap.size, 0, none⟩) 1 1) [⟨xa, xb, xc⟩] (by simp [Act.eval]) (by first | exact HX7.out | exact HX7.out.below ((Below.refl _ _).drew) (Nat.le_refl _)) (by simp; omega) (by have := hB7.size; first | omega | (simp; omega)) ?_; intro a9 c9 w9 ho9 hg9; have hB9 : Below w6.heap.size w6 w9 := hB7.grown (by first | exact hg9 | exact gb_drewL hg9) (by have := hB7.size; omega) (fun r e => HO7.out.row r e); obtain ⟨F0, F1, F2, F3, F4, _, _, _, _⟩ := HBX6.out.below hB9; have HS9 := Lib.hid ho9.sx)
            | (go_at_call 94; refine (l01Made_any v _ L _ ?_ hLl).mono ?_; (rw [HLL.out]; first | exact HS9.out | exact HS9.out.below ((Below.refl _ _).drew) (Nat.le_refl _)); rintro e w10 ⟨u, rfl, hres, hb10⟩; obtain ⟨aq, cq, hu⟩ := hres.slice; (obtain ⟨nq9, hnq⟩ : ∃ n, n = (sortB L).length := ⟨_, rfl⟩); rw [← hnq] at hu; subst hu; clear hnq; have hB10 : Below w6.heap.size w6 w10 := hB9.trans ((by first | exact hb10 | exact ((Below.refl _ _).drew).trans (hb10.mono (by simp)) : Below w9.heap.size w9 w10).mono hB9.size); obtain ⟨G0, G1, G2, G3, G4, d0, d1, f0, f1⟩ := HBX6.out.below hB10; have gset := gb_set2 w10 (w.heap.size + 1 + 1) (.int .i64 v) (.slice aq nq9 cq); have K0 := gset.cell G0 (by simp; omega); have K1 := gset.cell G1 (by simp; omega); have K2 := gset.cell G2 (by simp); have K3 := gset.cell G3 (by simp); have K4 := gset.cell G4 (by simp)))
        all_goals
          have hz10 := hB10.size
          have hBw := HB6.out.trans (hB10.mono (by omega))
          have hfin := (hres.kept (gb_set2 w10 (w.heap.size + 1 + 1) (.int .i64 v) (.slice aq nq9 cq)) (fun r e => by cases e; exact .inl (by have := hB9.size; simp; omega))).wide (lo' := w.heap.size) (by have := hB9.size; simp; omega) (gb_set2 w10 (w.heap.size + 1 + 1) (.int .i64 v) (.slice aq nq9 cq)).size
          go_wp2
          exact bodyPost_ret (v := .tuple #[.agg #[.int .i64 v, .slice aq nq9 cq], .int .i64 0]) (by simp [results, Try.results44, go_sem, *]) rfl (by rw [HV1.out]; exact ⟨_, rfl, hfin, below_set2 hBw (by omega) _ _⟩)
end Go.Proofs.Ytikegdidffjoeaa

namespace Go.Proofs.Ytikegdidffjoeaa
open Go.RowKit Go.Maps
/-- The two boxes of the arguments; what was there before the call is as it was. -/
structure St2 (w : World) (v u : Int) (s t : Value) (W : World) : Prop where
  below : Below w.heap.size w W
  big : w.heap.size + 1 < W.heap.size
  x0 : W.cell? ⟨w.heap.size, 0, none⟩ = some (.int .i64 v)
  x1 : W.cell? ⟨w.heap.size, 1, none⟩ = some s
  y0 : W.cell? ⟨w.heap.size + 1, 0, none⟩ = some (.int .i64 u)
  y1 : W.cell? ⟨w.heap.size + 1, 1, none⟩ = some t
theorem St2.step {w : World} {v u : Int} {s t : Value} {W W' : World} {row : Option Nat} (h : St2 w v u s t W) (hg : W.grownBy W' row) (hr : ∀ r, row = some r → w.heap.size + 1 < r) : St2 w v u s t W' :=
  ⟨h.below.grown hg h.below.size (fun r e => by have := hr r e; omega), Nat.lt_of_lt_of_le h.big hg.size,
    hg.cell h.x0 (fun e => by have := hr _ e.symm; simp at this; omega), hg.cell h.x1 (fun e => by have := hr _ e.symm; simp at this; omega),
    hg.cell h.y0 (fun e => by have := hr _ e.symm; simp at this), hg.cell h.y1 (fun e => by have := hr _ e.symm; simp at this)⟩
theorem St2.start (w : World) (v u : Int) (s t : Value) : St2 w v u s t ((w.alloc (.cells #[.int .i64 v, s] 36)).alloc (.cells #[.int .i64 u, t] 36)) :=
  ⟨((Below.refl _ _).alloc (Nat.le_refl _) _).alloc (by simp) _, by simp, by simp [go_sem], by simp [go_sem], by simp [go_sem], by simp [go_sem]⟩
/-- A variable that holds a system. -/
structure VarB (W : World) (X : Nat) (v : Int) (s : Value) : Prop where
  lt : X < W.heap.size
  c0 : W.cell? ⟨X, 0, none⟩ = some (.int .i64 v)
  c1 : W.cell? ⟨X, 1, none⟩ = some s
theorem VarB.step {W W' : World} {X : Nat} {v : Int} {s : Value} {row : Option Nat} (h : VarB W X v s) (hg : W.grownBy W' row) (hr : row ≠ some X) : VarB W' X v s :=
  ⟨Nat.lt_of_lt_of_le h.lt hg.size, hg.cell h.c0 (fun e => hr e.symm), hg.cell h.c1 (fun e => hr e.symm)⟩
theorem VarB.new (W : World) (v : Int) (s : Value) (T : TypeId) : VarB (W.alloc (.cells #[.int .i64 v, s] T)) W.heap.size v s := ⟨by simp, by simp, by simp⟩

/-- The state of a law whose results are lists of blocks: the model's result (from i0 on, before i1), the two copies and their variables, the program's result. -/
structure CB (w : World) (v u : Int) (s t sW s8 s9 sG : Value) (X Y i0 i1 i2 i3 i4 i5 i6 : Nat) (LW L8 L9 LG : List Blk) (W : World) : Prop where
  st : St2 w v u s t W
  o0 : w.heap.size + 1 < i0
  o1 : i0 ≤ i1
  o2 : i1 ≤ i2
  oX : i2 ≤ X
  oX' : X < i3
  o4 : i3 ≤ i4
  oY : i4 ≤ Y
  oY' : Y < i5
  o6 : i5 ≤ i6
  rW : ResR W i0 i1 sW LW
  r8 : ResR W i1 i2 s8 L8
  vX : VarB W X v s8
  r9 : ResR W i3 i4 s9 L9
  vY : VarB W Y u s9
  rG : ResR W i5 i6 sG LG
section
variable {w : World} {v u : Int} {s t sW s8 s9 sG : Value} {X Y i0 i1 i2 i3 i4 i5 i6 : Nat} {LW L8 L9 LG : List Blk} {W W' : World}
theorem CB.step (h : CB w v u s t sW s8 s9 sG X Y i0 i1 i2 i3 i4 i5 i6 LW L8 L9 LG W) (hg : W.grownBy W' none) : CB w v u s t sW s8 s9 sG X Y i0 i1 i2 i3 i4 i5 i6 LW L8 L9 LG W' :=
  ⟨h.st.step hg (by simp), h.o0, h.o1, h.o2, h.oX, h.oX', h.o4, h.oY, h.oY', h.o6, h.rW.kept hg (by simp), h.r8.kept hg (by simp), h.vX.step hg (by simp), h.r9.kept hg (by simp), h.vY.step hg (by simp), h.rG.kept hg (by simp)⟩
theorem CB.mark8 (h : CB w v u s t sW s8 s9 sG X Y i0 i1 i2 i3 i4 i5 i6 LW L8 L9 LG W) {row : Option Nat} (hg : W.grownBy W' row) (hr : ∀ r, row = some r → i1 ≤ r ∧ r < i2) {L : List Blk} (hn : ResR W' i1 i2 s8 L) :
    CB w v u s t sW s8 s9 sG X Y i0 i1 i2 i3 i4 i5 i6 LW L L9 LG W' := by
  obtain ⟨st, o0, o1, o2, oX, oX', o4, oY, oY', o6, rW, r8, vX, r9, vY, rG⟩ := h
  exact ⟨st.step hg (fun r e => by have := hr r e; omega), o0, o1, o2, oX, oX', o4, oY, oY', o6, rW.kept hg (fun r e => by have := hr r e; omega), hn, vX.step hg (fun e => by have := hr _ e; omega), r9.kept hg (fun r e => by have := hr r e; omega), vY.step hg (fun e => by have := hr _ e; omega), rG.kept hg (fun r e => by have := hr r e; omega)⟩
theorem CB.mark9 (h : CB w v u s t sW s8 s9 sG X Y i0 i1 i2 i3 i4 i5 i6 LW L8 L9 LG W) {row : Option Nat} (hg : W.grownBy W' row) (hr : ∀ r, row = some r → i3 ≤ r ∧ r < i4) {L : List Blk} (hn : ResR W' i3 i4 s9 L) :
    CB w v u s t sW s8 s9 sG X Y i0 i1 i2 i3 i4 i5 i6 LW L8 L LG W' := by
  obtain ⟨st, o0, o1, o2, oX, oX', o4, oY, oY', o6, rW, r8, vX, r9, vY, rG⟩ := h
  exact ⟨st.step hg (fun r e => by have := hr r e; omega), o0, o1, o2, oX, oX', o4, oY, oY', o6, rW.kept hg (fun r e => by have := hr r e; omega), r8.kept hg (fun r e => by have := hr r e; omega), vX.step hg (fun e => by have := hr _ e; omega), hn, vY.step hg (fun e => by have := hr _ e; omega), rG.kept hg (fun r e => by have := hr r e; omega)⟩
theorem CB.markG (h : CB w v u s t sW s8 s9 sG X Y i0 i1 i2 i3 i4 i5 i6 LW L8 L9 LG W) {row : Option Nat} (hg : W.grownBy W' row) (hr : ∀ r, row = some r → i5 ≤ r ∧ r < i6) {L : List Blk} (hn : ResR W' i5 i6 sG L) :
    CB w v u s t sW s8 s9 sG X Y i0 i1 i2 i3 i4 i5 i6 LW L8 L9 L W' := by
  obtain ⟨st, o0, o1, o2, oX, oX', o4, oY, oY', o6, rW, r8, vX, r9, vY, rG⟩ := h
  exact ⟨st.step hg (fun r e => by have := hr r e; omega), o0, o1, o2, oX, oX', o4, oY, oY', o6, rW.kept hg (fun r e => by have := hr r e; omega), r8.kept hg (fun r e => by have := hr r e; omega), vX.step hg (fun e => by have := hr _ e; omega), r9.kept hg (fun r e => by have := hr r e; omega), vY.step hg (fun e => by have := hr _ e; omega), hn⟩
end
end Go.Proofs.Ytikegdidffjoeaa

namespace Go.Proofs.Ytikegdidffjoeaa
open Go.RowKit Go.Maps
theorem ResI.slice {w : World} {lo hi : Nat} {s : Value} {zs : List Int} (h : ResI w lo hi s zs) : ∃ a c, s = .slice a zs.length c := by
  rcases h with ⟨rfl, a, c, rfl⟩ | ⟨g, cap, rfl, _⟩ <;> exact ⟨_, _, rfl⟩
theorem ResI.wide {w : World} {lo hi lo' hi' : Nat} {s : Value} {zs : List Int} (h : ResI w lo hi s zs) (h1 : lo' ≤ lo) (h2 : hi ≤ hi') : ResI w lo' hi' s zs := by
  rcases h with h | ⟨g, cap, rfl, h3, h4, ho⟩
  · exact .inl h
  · exact .inr ⟨g, cap, rfl, by omega, by omega, ho⟩
structure St1 (w : World) (v : Int) (s : Value) (W : World) : Prop where
  below : Below w.heap.size w W
  big : w.heap.size < W.heap.size
  x0 : W.cell? ⟨w.heap.size, 0, none⟩ = some (.int .i64 v)
  x1 : W.cell? ⟨w.heap.size, 1, none⟩ = some s
theorem St1.step {w : World} {v : Int} {s : Value} {W W' : World} {row : Option Nat} (h : St1 w v s W) (hg : W.grownBy W' row) (hr : ∀ r, row = some r → w.heap.size < r) : St1 w v s W' :=
  ⟨h.below.grown hg h.below.size (fun r e => by have := hr r e; omega), Nat.lt_of_lt_of_le h.big hg.size,
    hg.cell h.x0 (fun e => by have := hr _ e.symm; simp at this), hg.cell h.x1 (fun e => by have := hr _ e.symm; simp at this)⟩
theorem St1.start (w : World) (v : Int) (s : Value) : St1 w v s (w.alloc (.cells #[.int .i64 v, s] 36)) :=
  ⟨(Below.refl _ _).alloc (Nat.le_refl _) _, by simp, by simp [go_sem], by simp [go_sem]⟩
structure CI (w : World) (v : Int) (s sW s8 sG : Value) (X i0 i1 i2 i5 i6 : Nat) (LW : List Int) (L8 : List Blk) (LG : List Int) (W : World) : Prop where
  st : St1 w v s W
  o0 : w.heap.size < i0
  o1 : i0 ≤ i1
  o2 : i1 ≤ i2
  oX : i2 ≤ X
  oX' : X < i5
  o6 : i5 ≤ i6
  rW : ResI W i0 i1 sW LW
  r8 : ResR W i1 i2 s8 L8
  vX : VarB W X v s8
  rG : ResI W i5 i6 sG LG
section
variable {w : World} {v : Int} {s sW s8 sG : Value} {X i0 i1 i2 i5 i6 : Nat} {LW LG : List Int} {L8 : List Blk} {W W' : World}
theorem CI.step (h : CI w v s sW s8 sG X i0 i1 i2 i5 i6 LW L8 LG W) (hg : W.grownBy W' none) : CI w v s sW s8 sG X i0 i1 i2 i5 i6 LW L8 LG W' :=
  ⟨h.st.step hg (by simp), h.o0, h.o1, h.o2, h.oX, h.oX', h.o6, h.rW.kept hg (by simp), h.r8.kept hg (by simp), h.vX.step hg (by simp), h.rG.kept hg (by simp)⟩
theorem CI.mark8 (h : CI w v s sW s8 sG X i0 i1 i2 i5 i6 LW L8 LG W) {row : Option Nat} (hg : W.grownBy W' row) (hr : ∀ r, row = some r → i1 ≤ r ∧ r < i2) {L : List Blk} (hn : ResR W' i1 i2 s8 L) :
    CI w v s sW s8 sG X i0 i1 i2 i5 i6 LW L LG W' := by
  obtain ⟨st, o0, o1, o2, oX, oX', o6, rW, r8, vX, rG⟩ := h
  exact ⟨st.step hg (fun r e => by have := hr r e; omega), o0, o1, o2, oX, oX', o6, rW.kept hg (fun r e => by have := hr r e; omega), hn, vX.step hg (fun e => by have := hr _ e; omega), rG.kept hg (fun r e => by have := hr r e; omega)⟩
theorem CI.markG (h : CI w v s sW s8 sG X i0 i1 i2 i5 i6 LW L8 LG W) {row : Option Nat} (hg : W.grownBy W' row) (hr : ∀ r, row = some r → i5 ≤ r ∧ r < i6) {L : List Int} (hn : ResI W' i5 i6 sG L) :
    CI w v s sW s8 sG X i0 i1 i2 i5 i6 LW L8 L W' := by
  obtain ⟨st, o0, o1, o2, oX, oX', o6, rW, r8, vX, rG⟩ := h
  exact ⟨st.step hg (fun r e => by have := hr r e; omega), o0, o1, o2, oX, oX', o6, rW.kept hg (fun r e => by have := hr r e; omega), r8.kept hg (fun r e => by have := hr r e; omega), vX.step hg (fun e => by have := hr _ e; omega), hn⟩
end
theorem gb_drew1 (w : World) : w.grownBy w.drew none := ⟨rfl, rfl, rfl, Nat.le_refl _, fun _ _ _ => rfl⟩
theorem gb_alloc1 (w : World) (o : Obj) : w.grownBy (w.alloc o) none := World.grownBy_alloc w o none
end Go.Proofs.Ytikegdidffjoeaa

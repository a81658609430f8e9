
/- The model's l04Same, l04Member, l04Is, IsTrade. The model's insertion sort. The model's l04Made and InverseTrade. The model's block of three points. CycleTrade of the model. CycleTrade of the model: whole. -/
import Derived.Test.YtmgpmcjbnooklaaJ11
namespace Go.Proofs.Ytmgpmcjbnooklaa
open Go.RowKit Go.Maps
theorem num_inj {v u : Int} {bs cs : List Blk} (hv : v ≤ 15) (hu : u ≤ 15) (h1 : ∀ x ∈ bs, goodB v x = true) (h2 : ∀ x ∈ cs, goodB u x = true) : samePr bs cs = true ↔ ∀ i, i < 256 → inNum (prs bs) i = inNum (prs cs) i := by
  have key : ∀ {v : Int} {bs : List Blk}, v ≤ 15 → (∀ x ∈ bs, goodB v x = true) → ∀ p ∈ prs bs, 0 ≤ p.1 ∧ p.1 ≤ 14 ∧ 0 ≤ p.2 ∧ p.2 ≤ 14 := by
    intro v bs hv h p hp
    simp only [prs, List.mem_flatMap] at hp
    obtain ⟨x, hx, hp⟩ := hp
    have hg := goodB_iff.1 (h x hx)
    simp only [pairsL, List.mem_cons, List.not_mem_nil, or_false] at hp
    rcases hp with rfl | rfl | rfl <;> simp only <;> omega
  have inj : ∀ {p q : Int × Int}, (0 ≤ p.1 ∧ p.1 ≤ 14 ∧ 0 ≤ p.2 ∧ p.2 ≤ 14) → (0 ≤ q.1 ∧ q.1 ≤ 14 ∧ 0 ≤ q.2 ∧ q.2 ≤ 14) → numP p = numP q → p = q := by
    rintro ⟨a, b⟩ ⟨c, d⟩ hp hq e
    simp only [numP] at *
    have h1 : a = c := by omega
    have h2 : b = d := by omega
    rw [h1, h2]
  rw [samePr_iff]
  constructor
  · intro h i _
    unfold inNum
    rw [decide_eq_decide, List.mem_map, List.mem_map]
    exact ⟨fun ⟨p, hp, e⟩ => ⟨p, (h p).1 hp, e⟩, fun ⟨p, hp, e⟩ => ⟨p, (h p).2 hp, e⟩⟩
  · intro h p
    have tow : ∀ {v u : Int} {bs cs : List Blk}, v ≤ 15 → u ≤ 15 → (∀ x ∈ bs, goodB v x = true) → (∀ x ∈ cs, goodB u x = true) → (∀ i, i < 256 → inNum (prs bs) i = inNum (prs cs) i) → p ∈ prs bs → p ∈ prs cs := by
      intro v u bs cs hv hu h1 h2 h hp
      have b := key hv h1 p hp
      have hi := h (numP p).toNat (by simp only [numP]; omega)
      have e : ((numP p).toNat : Int) = numP p := Int.toNat_of_nonneg (by simp only [numP]; omega)
      unfold inNum at hi
      rw [e, decide_eq_true (List.mem_map.2 ⟨p, hp, rfl⟩)] at hi
      obtain ⟨q, hq, eq⟩ := List.mem_map.1 (of_decide_eq_true hi.symm)
      rw [← inj (key hu h2 q hq) b eq]
      exact hq
    exact ⟨tow hv hu h1 h2 h, tow hu hv h2 h1 (fun i hi => (h i hi).symm)⟩
theorem Bools.drewN {W : World} {g : Nat} {f : Nat → Bool} (h : Bools W g f) (n : Nat) : Bools (W.drewN n) g f := ⟨h.lt, h.at_, h.free⟩
/-- A trade's box and those of its two systems. -/
structure Box5 (w : World) (v : Int) (so si : Value) (W : World) : Prop where
  below : Below w.heap.size w W
  lt : w.heap.size + 1 + 1 < W.heap.size
  a0 : W.cell? ⟨w.heap.size, 0, none⟩ = some (.int .i64 v)
  a1 : W.cell? ⟨w.heap.size, 1, none⟩ = some so
  a2 : W.cell? ⟨w.heap.size, 2, none⟩ = some si
  b0 : W.cell? ⟨w.heap.size + 1, 0, none⟩ = some (.int .i64 v)
  b1 : W.cell? ⟨w.heap.size + 1, 1, none⟩ = some so
  c0 : W.cell? ⟨w.heap.size + 1 + 1, 0, none⟩ = some (.int .i64 v)
  c1 : W.cell? ⟨w.heap.size + 1 + 1, 1, none⟩ = some si
theorem Box5.step {w W W' : World} {v : Int} {so si : Value} (h : Box5 w v so si W) (hb : Below W.heap.size W W') : Box5 w v so si W' := by
  have hl := h.lt
  exact ⟨h.below.trans (hb.mono h.below.size), Nat.lt_of_lt_of_le h.lt hb.size, (hb.cell (p := ⟨w.heap.size, 0, none⟩) (by show w.heap.size < _; omega)).trans h.a0, (hb.cell (p := ⟨w.heap.size, 1, none⟩) (by show w.heap.size < _; omega)).trans h.a1, (hb.cell (p := ⟨w.heap.size, 2, none⟩) (by show w.heap.size < _; omega)).trans h.a2,
    (hb.cell (p := ⟨w.heap.size + 1, 0, none⟩) (by show w.heap.size + 1 < _; omega)).trans h.b0, (hb.cell (p := ⟨w.heap.size + 1, 1, none⟩) (by show w.heap.size + 1 < _; omega)).trans h.b1,
    (hb.cell (p := ⟨w.heap.size + 1 + 1, 0, none⟩) (by show w.heap.size + 1 + 1 < _; omega)).trans h.c0, (hb.cell (p := ⟨w.heap.size + 1 + 1, 1, none⟩) (by show w.heap.size + 1 + 1 < _; omega)).trans h.c1⟩
def wTr (w : World) (v : Int) (so si : Value) : World := ((w.alloc (.cells #[.int .i64 v, so, si] 39)).alloc (.cells #[.int .i64 v, so] 31)).alloc (.cells #[.int .i64 v, si] 31)
theorem Box5.new (w : World) (v : Int) (so si : Value) : Box5 w v so si (wTr w v so si) := by
  unfold wTr
  exact ⟨(((Below.refl _ _).alloc (Nat.le_refl _) _).alloc (by simp) _).alloc (by simp; omega) _, by simp, by simp [go_sem], by simp [go_sem], by simp [go_sem], by simp [go_sem], by simp [go_sem], by simp [go_sem], by simp [go_sem]⟩
end Go.Proofs.Ytmgpmcjbnooklaa

namespace Go.Proofs.Ytmgpmcjbnooklaa
open Go.RowKit Go.Maps
theorem ins_start (x : Blk) (l : List Blk) : l ++ [x] = l.take l.length ++ x :: l.drop l.length := by simp
theorem ins_round (l : List Blk) {m : Nat} (hm : m < l.length) (y : Blk) : (l.take (m + 1) ++ y :: l.drop (m + 1)).set (m + 1) (l[m]?.getD default) = l.take m ++ (l[m]?.getD default) :: l.drop m := by
  have h1 : (l.take (m + 1)).length = m + 1 := by simp; omega
  rw [List.set_append_right _ _ (by omega), h1, Nat.sub_self, List.set_cons_zero]
  rw [List.getElem?_eq_getElem hm, Option.getD_some, List.take_succ_eq_append_getElem hm, List.append_assoc]
  congr 1
  rw [List.singleton_append, List.drop_eq_getElem_cons hm]
theorem ins_end (l : List Blk) {m : Nat} (hm : m ≤ l.length) (x y : Blk) : (l.take m ++ y :: l.drop m).set m x = l.take m ++ x :: l.drop m := by
  have h1 : (l.take m).length = m := by simp; omega
  rw [List.set_append_right _ _ (by omega), h1, Nat.sub_self, List.set_cons_zero]
theorem ins_len (l : List Blk) {m : Nat} (hm : m ≤ l.length) (y : Blk) : (l.take m ++ y :: l.drop m).length = l.length + 1 := by
  simp; omega
theorem ins_at (l : List Blk) {m : Nat} (hm : m < l.length) (y : Blk) : (l.take (m + 1) ++ y :: l.drop (m + 1))[m]?.getD default = l[m]?.getD default := by
  rw [List.getElem?_append_left (by simp; omega), List.getElem?_take_of_lt (by omega)]
set_option maxRecDepth 100000 in
set_option maxHeartbeats 1000000 in
theorem l01Sort_any (s : Value) (bs : List Blk) (w : World) (h : SX w s bs) (hl : bs.length ≤ 100000) :
    Calls Try.prog 85 #[s] w fun e w' => ∃ u, e = .returned u ∧ OwnR w' w.heap.size u (sortB bs) ∧ Below w.heap.size w w' := by
  have hs : ∃ a c, s = .slice a bs.length c := by rcases h with ⟨a0, c0, rfl, rfl⟩ | ⟨b, off, cap, rfl, _⟩ <;> exact ⟨_, _, rfl⟩
  have HSX := Lib.hid h
  clear h
  obtain ⟨a0, c0, rfl⟩ := hs
  go_enter Try.func85, Try.ntmps85
  go_wp2
  have ho0 := lit_own w
  obtain ⟨w0, hw0⟩ : ∃ w0, w.alloc (.cells #[] 68) = w0 := ⟨_, rfl⟩
  have hB0 : Below w.heap.size w w0 := by rw [← hw0]; exact (Below.refl _ _).alloc (Nat.le_refl _) _
  have hz0 : w.heap.size < w0.heap.size := by rw [← hw0]; simp
  rw [hw0] at ho0 ⊢
  have HO0 := Lib.hid ho0
  clear hw0 ho0
  go_loopw [3, 4] (fun o i wr => ∃ k : Nat, k ≤ bs.length ∧ i = .int .i64 k ∧ Below w.heap.size w wr ∧ OwnR wr w.heap.size o (sortB (bs.take k)) ∧ ∃ a c, o = .slice a k c) (fun _ i _ => bs.length - (intOf i).toNat)
  case atStart => exact ⟨0, Nat.zero_le _, rfl, hB0, by simpa [sortB] using HO0.out, _, _, rfl⟩
  case round =>
    obtain ⟨k, hk, rfl, hB, hO, a3, c3, rfl⟩ := hrel
    have hz := hB.size
    by_cases hkl : k < bs.length
    · rcases HSX.out with ⟨_, _, _, hnil⟩ | ⟨b, off, cap, hv, hblt, hbl⟩
      · rw [hnil] at hkl; simp at hkl
      · simp at hv
        obtain ⟨rfl, rfl⟩ := hv
        have HBL := Lib.hid hbl
        obtain ⟨x, hx, ex, x1, x2, x3⟩ := blks_at (hbl.below hB hblt) hkl
        obtain ⟨l, hl1⟩ : ∃ l, l = sortB (bs.take k) := ⟨_, rfl⟩
        have hll : l.length = k := by rw [hl1, sortB_length]; simp; omega
        have hnext : sortB (bs.take (k + 1)) = insB x l := by
          rw [List.getElem?_eq_getElem hkl] at ex
          have ex' : bs[k] = x := by simpa using ex
          rw [take_next hkl, ex', sortB_snoc, hl1]
        rw [← hl1] at hO
        have HO := Lib.hid hO
        have HNX := Lib.hid hnext
        have HLL := Lib.hid hll
        have hlen2 : l.length ≤ 100000 := by omega
        have g0 : (0 : Int) ≤ (k : Int) := by omega
        have g1 : (k : Int) < (bs.length : Int) := by omega
        have HEX := Lib.hid ex
        clear hx ex hl1 hO hnext hll hbl
        go_wp2_with (at_builtin; refine wpList_append_blk rfl _ _ rfl w.heap.size _ l rfl (HO.out.below ((Below.refl _ _).alloc (Nat.le_refl _) _) (Nat.le_refl _)) _ _ x rfl (by simp [go_sem]) (by simp [go_sem]) (by simp [go_sem]) (by omega) (by simp; omega) ?_; intro g' cap' w4 hO4 hg4)
        have hB4 : Below w.heap.size w w4 := (hB.alloc (by omega) _).grown hg4 (by simp; omega) (fun r e => HO.out.row r e)
        have HBR := Lib.hid (l01Before_any x)
        have HX := Lib.hid (show bs[k]?.getD default = x by rw [HEX.out]; rfl)
        clear hg4 x1 x2 x3
        go_loopw [5] (fun t wr2 => ∃ m : Nat, m ≤ k ∧ t = .int .i64 m ∧ Below w.heap.size w wr2 ∧ (∃ y, OwnR wr2 w.heap.size (.slice (some ⟨g', 0, none⟩) (l.length + 1) cap') (l.take m ++ y :: l.drop m)) ∧ Hid (posB x l l.length = posB x l m)) (fun t _ => (intOf t).toNat)
        case atStart => exact ⟨k, Nat.le_refl _, rfl, hB4, ⟨x, by have := hO4; rw [ins_start, HLL.out] at this; rw [HLL.out]; exact this⟩, Lib.hid (by rw [HLL.out])⟩
        case round =>
          obtain ⟨m, hm, rfl, hB2, ⟨y, hO2⟩, HP⟩ := hrel
          obtain ⟨hn0, hgb, hat⟩ := hO2.at_
          clear hn0
          have hxx := (HBL.out.below hB2 hblt) k hkl
          rw [HX.out] at hxx
          obtain ⟨x1, x2, x3⟩ := hxx
          have hglt := hat.lt
          have hz2 := hB2.size
          have hblt2 : b < wr.heap.size := by omega
          have hfree := hat.free
          have HO2 := Lib.hid hO2
          rcases m with _ | m
          · rw [show ((0 : Nat) : Int) = 0 from rfl]
            have gl1 : (0 : Int) < ((l.length + 1 : Nat) : Int) := by omega
            have gl2 : (0 : Int) < (l.length : Int) + 1 := by omega
            obtain ⟨c1, c2, c3'⟩ := hat.at_ 0 (by rw [ins_len l (Nat.zero_le _) y]; omega)
            simp only [Nat.zero_mul, Nat.zero_add] at c1 c2 c3'
            have hnew := HO2.out.set3 (i := 0) (by rw [ins_len l (Nat.zero_le _) y]; omega) x
            rw [ins_end l (Nat.zero_le _) x y] at hnew
            have hins : insB x l = l.take 0 ++ x :: l.drop 0 := by unfold insB; rw [HP.out]; rfl
            rw [← hins, ← HNX.out] at hnew
            simp only [Nat.zero_mul, Nat.zero_add] at hnew
            have HN := Lib.hid hnew
            clear hO2 hat hnew hins
            go_wp2
            go_quiet (fail)
            go_wp2
            go_roundw
            case rel => exact ⟨k + 1, by omega, by go_num, (((below_drewN hB2 _).setCell (p := ⟨g', 0, none⟩) hgb _).setCell (p := ⟨g', 1, none⟩) hgb _).setCell (p := ⟨g', 2, none⟩) hgb _, HN.out, _, _, by rw [HLL.out]⟩
            case measure => simp [intOf]; omega
          · have hml : m < l.length := by rw [HLL.out]; omega
            have hm1 : m + 1 ≤ l.length := by omega
            have gl1 : (m : Int) + 1 < ((l.length + 1 : Nat) : Int) := by omega
            have gl2 : (m : Int) + 1 < (l.length : Int) + 1 := by omega
            have gl3 : (m : Int) < ((l.length + 1 : Nat) : Int) := by omega
            have gl4 : (m : Int) < (l.length : Int) + 1 := by omega
            have gl5 : (0 : Int) < (m : Int) + 1 := by omega
            have gl6 : (0 : Int) ≤ (m : Int) := by omega
            have gl7 : (m : Int) ≤ 100000 := by omega
            have hatm := hat.at_ m (by rw [ins_len l hm1 y]; omega)
            rw [ins_at l hml y, Nat.zero_add] at hatm
            obtain ⟨c1, c2, c3'⟩ := hat.at_ (m + 1) (by rw [ins_len l hm1 y]; omega)
            rw [Nat.zero_add] at c1 c2 c3'
            obtain ⟨z, hz⟩ : ∃ z, z = l[m]?.getD default := ⟨_, rfl⟩
            have hpos : posB x l (m + 1) = if befB x (l[m]?.getD default) then posB x l m else m + 1 := rfl
            rw [← hz] at hatm hpos
            have HZ := Lib.hid hz
            have HPP := Lib.hid hpos
            obtain ⟨q1, q2, q3⟩ := hatm
            have hbr := HBR.out z
            clear hO2 hat hpos hz
            have r1 := cell_regrown x1
            have r2 := cell_regrown x2
            have r3 := cell_regrown x3
            have s1 := cell_regrown q1
            have s2 := cell_regrown q2
            have s3 := cell_regrown q3
            have t1 := cell_regrown c1
            have t2 := cell_regrown c2
            have t3 := cell_regrown c3'
            have rf : ∀ d os o, (Sort.grow (redrawn wr d) os).frozen? ⟨g', o, none⟩ = false := fun d os o => ((below_regrown wr d os).frozen (p := ⟨g', o, none⟩) hglt).trans (hfree o)
            obtain ⟨za, zb, zc⟩ := z
            obtain ⟨xa, xb, xc⟩ := x
            unfold bv at hbr
            dsimp only at hbr x1 x2 x3 q1 q2 q3 r1 r2 r3 s1 s2 s3
            cases hbe : befB ⟨xa, xb, xc⟩ ⟨za, zb, zc⟩ with
            | false =>
              rw [hbe] at hbr
              have HC := Lib.hid hbr
              have HBE := Lib.hid hbe
              clear hbr hbe
              go_wp2
              refine wp_region_quiet_below (by kernel_rfl) (by kernel_rfl) ?_
              repeat (go_big_quiet_step (exact Calls.regrown_of (HC.out _)))
              refine wpQuiet_nil ?_
              intro _ hw'
              obtain ⟨⟨dq, osq⟩, hw''⟩ := hw'
              subst hw''
              go_wp2
              have hnew := (HO2.out.below (below_regrown wr dq osq) (Nat.le_refl _)).set3 (i := m + 1) (by rw [ins_len l hm1 y]; omega) ⟨xa, xb, xc⟩
              rw [ins_end l hm1 _ y] at hnew
              have hins : insB ⟨xa, xb, xc⟩ l = l.take (m + 1) ++ ⟨xa, xb, xc⟩ :: l.drop (m + 1) := by unfold insB; rw [HP.out, HPP.out, if_neg (by rw [HBE.out]; decide)]
              rw [← hins, ← HNX.out] at hnew
              have HN := Lib.hid hnew
              clear hnew hins
              go_roundw
              case rel => exact ⟨k + 1, by omega, by go_num, (((hB2.trans ((below_regrown wr dq osq).mono hz2)).setCell (p := ⟨g', (m + 1) * 3, none⟩) hgb _).setCell (p := ⟨g', (m + 1) * 3 + 1, none⟩) hgb _).setCell (p := ⟨g', (m + 1) * 3 + 2, none⟩) hgb _, HN.out, _, _, by rw [HLL.out]⟩
              case measure => simp [intOf]; omega
            | true =>
              rw [hbe] at hbr
              have HC := Lib.hid hbr
              have HBE := Lib.hid hbe
              clear hbr hbe
              go_wp2
              refine wp_region_quiet_below (by kernel_rfl) (by kernel_rfl) ?_
              repeat (go_big_quiet_step (exact Calls.regrown_of (HC.out _)))
              refine wpQuiet_nil ?_
              intro _ hw'
              obtain ⟨⟨dq, osq⟩, hw''⟩ := hw'
              subst hw''
              go_wp2
              have hnew := (HO2.out.below (below_regrown wr dq osq) (Nat.le_refl _)).set3 (i := m + 1) (by rw [ins_len l hm1 y]; omega) ⟨za, zb, zc⟩
              have hro := ins_round l hml y
              rw [← HZ.out] at hro
              rw [hro] at hnew
              have HN := Lib.hid hnew
              clear hnew hro
              go_roundw
              case rel => exact ⟨m, by omega, rfl, (((hB2.trans ((below_regrown wr dq osq).mono hz2)).setCell (p := ⟨g', (m + 1) * 3, none⟩) hgb _).setCell (p := ⟨g', (m + 1) * 3 + 1, none⟩) hgb _).setCell (p := ⟨g', (m + 1) * 3 + 2, none⟩) hgb _, ⟨⟨za, zb, zc⟩, HN.out⟩, Lib.hid (by rw [HP.out, HPP.out, if_pos HBE.out])⟩
              case measure => simp [intOf]
    · go_wp2
      go_ret
      have e : k = bs.length := by omega
      subst e
      rw [List.take_length] at hO
      exact ⟨_, rfl, hO, hB⟩
set_option maxRecDepth 100000 in
theorem l01Made_any (v : Int) (s : Value) (bs : List Blk) (w : World) (h : SX w s bs) (hl : bs.length ≤ 100000) :
    Calls Try.prog 59 #[.int .i64 v, s] w fun e w' => ∃ u, e = .returned (.agg #[.int .i64 v, u]) ∧ ResR w' w.heap.size w'.heap.size u (sortB bs) ∧ Below w.heap.size w w' := by
  have hs : ∃ a c, s = .slice a bs.length c := by rcases h with ⟨a0, c0, rfl, rfl⟩ | ⟨b, off, cap, rfl, _⟩ <;> exact ⟨_, _, rfl⟩
  have HS := Lib.hid (l01Sort_any s bs (w.alloc (.cells #[.int .i64 0, .slice none 0 0] 31)) (h.below ((Below.refl _ _).alloc (Nat.le_refl _) _) (Nat.le_refl _)) hl)
  clear h
  obtain ⟨a0, c0, rfl⟩ := hs
  go_enter Try.func59, Try.ntmps59
  go_wp2_with fail
  refine HS.out.mono ?_
  rintro e w1 ⟨u, rfl, ho, hb1⟩
  have hlt : w.heap.size < w1.heap.size := by have := hb1.size; simp at this; omega
  have hbw : Below w.heap.size w w1 := ((Below.refl _ _).alloc (Nat.le_refl _) _).trans (hb1.mono (by simp))
  have d0 := cell_new hb1 0 rfl
  have d1 := cell_new hb1 1 rfl
  have f0 : w1.frozen? ⟨w.heap.size, 0, none⟩ = false := (hb1.frozen (p := ⟨w.heap.size, 0, none⟩) (by simp)).trans (by simp [go_sem])
  have f1 : w1.frozen? ⟨w.heap.size, 1, none⟩ = false := (hb1.frozen (p := ⟨w.heap.size, 1, none⟩) (by simp)).trans (by simp [go_sem])
  have hr := ho.res
  have hbase : (w.alloc (.cells #[.int .i64 0, .slice none 0 0] 31)).heap.size = w.heap.size + 1 := by simp
  rw [hbase] at hr
  obtain ⟨a3, n3, hs3⟩ := hr.slice
  obtain ⟨m3, hm3⟩ : ∃ m, m = (sortB bs).length := ⟨_, rfl⟩
  rw [← hm3] at hs3
  clear hm3 ho hb1 hbase
  subst hs3
  go_wp2
  exact bodyPost_ret (v := .agg #[.int .i64 v, .slice a3 m3 n3]) (by simp [results, Try.results59, go_sem, *]) rfl ⟨_, rfl, (hr.kept (gb_set2 w1 w.heap.size (.int .i64 v) (.slice a3 m3 n3)) (fun r e => by cases e; exact .inl (by omega))).wide (by omega) (by simp [World.setCell]), below_set2 hbw (by omega) _ _⟩
end Go.Proofs.Ytmgpmcjbnooklaa

namespace Go.Proofs.Ytmgpmcjbnooklaa
open Go.RowKit Go.Maps
set_option maxRecDepth 100000 in
set_option maxHeartbeats 1000000 in
theorem l04Made_any (v : Int) (s : Value) (bs : List Blk) (t : Value) (cs : List Blk) (w : World) (h : SX w s bs) (k : SX w t cs) (hl : bs.length ≤ 100000) (hk : cs.length ≤ 100000) :
    Calls Try.prog 49 #[.int .i64 v, s, t] w fun e w' => ∃ u u', e = .returned (.agg #[.int .i64 v, u, u']) ∧ ResT w' w.heap.size w'.heap.size u (sortB bs) u' (sortB cs) ∧ Below w.heap.size w w' := by
  have hs : ∃ a c, s = .slice a bs.length c := by rcases h with ⟨a0, c0, rfl, rfl⟩ | ⟨b, off, cap, rfl, _⟩ <;> exact ⟨_, _, rfl⟩
  have ht : ∃ a c, t = .slice a cs.length c := by rcases k with ⟨a0, c0, rfl, rfl⟩ | ⟨b, off, cap, rfl, _⟩ <;> exact ⟨_, _, rfl⟩
  have HS := Lib.hid (l01Sort_any s bs (w.alloc (.cells #[.int .i64 0, .slice none 0 0, .slice none 0 0] 39)) (h.below ((Below.refl _ _).alloc (Nat.le_refl _) _) (Nat.le_refl _)) hl)
  have HT := Lib.hid fun W (hb : Below w.heap.size w W) => l01Sort_any t cs W (k.below hb (Nat.le_refl _)) hk
  clear h k
  obtain ⟨a0, c0, rfl⟩ := hs
  obtain ⟨a1, c1, rfl⟩ := ht
  go_enter Try.func49, Try.ntmps49
  go_wp2_with fail
  refine HS.out.mono ?_
  rintro e w1 ⟨u, rfl, ho, hb1⟩
  have hlt : w.heap.size < w1.heap.size := by have := hb1.size; simp at this; omega
  have hbw : Below w.heap.size w w1 := ((Below.refl _ _).alloc (Nat.le_refl _) _).trans (hb1.mono (by simp))
  have d0 := cell_new hb1 0 rfl
  have d1 := cell_new hb1 1 rfl
  have d2 := cell_new hb1 2 rfl
  have f0 : w1.frozen? ⟨w.heap.size, 0, none⟩ = false := (hb1.frozen (p := ⟨w.heap.size, 0, none⟩) (by simp)).trans (by simp [go_sem])
  have f1 : w1.frozen? ⟨w.heap.size, 1, none⟩ = false := (hb1.frozen (p := ⟨w.heap.size, 1, none⟩) (by simp)).trans (by simp [go_sem])
  have f2 : w1.frozen? ⟨w.heap.size, 2, none⟩ = false := (hb1.frozen (p := ⟨w.heap.size, 2, none⟩) (by simp)).trans (by simp [go_sem])
  have hr := ho.res
  have hbase : (w.alloc (.cells #[.int .i64 0, .slice none 0 0, .slice none 0 0] 39)).heap.size = w.heap.size + 1 := by simp
  rw [hbase] at hr
  have HR := Lib.hid hr
  have hf := ho.formS
  clear ho hb1 hbase hr
  obtain ⟨a3, n3, rfl⟩ := hf
  go_wp2_with fail
  refine (HT.out _ hbw).mono ?_
  rintro e w2 ⟨u', rfl, ho2, hb2⟩
  have e0 := (hb2.cell (p := ⟨w.heap.size, 0, none⟩) hlt).trans d0
  have e1 := (hb2.cell (p := ⟨w.heap.size, 1, none⟩) hlt).trans d1
  have e2 := (hb2.cell (p := ⟨w.heap.size, 2, none⟩) hlt).trans d2
  have g0 := (hb2.frozen (p := ⟨w.heap.size, 0, none⟩) hlt).trans f0
  have g1 := (hb2.frozen (p := ⟨w.heap.size, 1, none⟩) hlt).trans f1
  have g2 := (hb2.frozen (p := ⟨w.heap.size, 2, none⟩) hlt).trans f2
  have HX := Lib.hid (ResT.of (lo := w.heap.size + 1) (hi := w2.heap.size) (HR.out.below hb2 (Nat.le_refl _)) ho2.res (Nat.le_refl _) hb2.size hlt (Nat.le_refl _) (.inl (Nat.le_refl _)))
  have HB := Lib.hid (hbw.trans (hb2.mono hbw.size))
  have hf2 := ho2.formS
  obtain ⟨m3, hm3⟩ : ∃ m, m = (sortB bs).length := ⟨_, rfl⟩
  obtain ⟨m4, hm4⟩ : ∃ m, m = (sortB cs).length := ⟨_, rfl⟩
  obtain ⟨a4, n4, rfl⟩ := hf2
  rw [← hm3, ← hm4] at HX
  rw [← hm3, ← hm4]
  clear d0 d1 d2 f0 f1 f2 ho2 hb2 hbw hm3 hm4
  go_wp2
  exact bodyPost_ret (v := .agg #[.int .i64 v, .slice a3 m3 n3, .slice a4 m4 n4]) (by simp [results, Try.results49, go_sem, *]) rfl ⟨_, _, rfl, (HX.out.kept (set3_gb w2 w.heap.size (.int .i64 v) (.slice a3 m3 n3) (.slice a4 m4 n4)) (fun r e => by cases e; omega)).wide (by omega) (by simp [World.setCell]), HB.out.grown (set3_gb w2 w.heap.size (.int .i64 v) (.slice a3 m3 n3) (.slice a4 m4 n4)) HB.out.size (fun r e => by cases e; omega)⟩
theorem trd_parts {v : Int} {bo bi : List Blk} (h : trdB v bo bi = true) : isSysImpl v bo = true ∧ isSysImpl v bi = true ∧ samePr bo bi = true ∧ dsj bo bi = true := by
  simp only [trdB, Bool.and_eq_true] at h
  exact ⟨h.1.1, h.1.2, h.2.1, h.2.2⟩
theorem invF_len (v : Int) (bo bi : List Blk) : (invF v bo bi).2.1.1.length + (invF v bo bi).2.1.2.length ≤ bo.length + bi.length := by
  unfold invF
  split <;> simp <;> omega
theorem invF_wfo (v : Int) {bo bi : List Blk} (h : ∀ x ∈ bi, WFB x) : ∀ x ∈ (invF v bo bi).2.1.1, WFB x := by
  unfold invF
  split
  · exact h
  · simp
theorem invF_wfi (v : Int) {bo bi : List Blk} (h : ∀ x ∈ bo, WFB x) : ∀ x ∈ (invF v bo bi).2.1.2, WFB x := by
  unfold invF
  split
  · exact h
  · simp
end Go.Proofs.Ytmgpmcjbnooklaa

namespace Go.Proofs.Ytmgpmcjbnooklaa
open Go.RowKit Go.Maps
set_option maxRecDepth 100000 in
theorem l01Block_any (a b c : Int) (w : World) (a0 : 0 ≤ a) (a1 : a ≤ 1000) (b0 : 0 ≤ b) (b1 : b ≤ 1000) (c0 : 0 ≤ c) (c1 : c ≤ 1000) : Calls Try.prog 48 #[.int .i64 a, .int .i64 b, .int .i64 c] w (RV (bv (blk3 a b c)) w) := by
  go_enter Try.func48, Try.ntmps48
  go_wp2
  all_goals
    refine bodyPost_ret (v := bv (blk3 a b c)) ?_ rfl ⟨rfl, (Below.refl _ _).alloc (Nat.le_refl _) _⟩
    simp [results, Try.results48, go_sem, bv, blk3]
    omega
end Go.Proofs.Ytmgpmcjbnooklaa

namespace Go.Proofs.Ytmgpmcjbnooklaa
open Go.RowKit Go.Maps
theorem ct_code (v : Int) (bs : List Blk) (a b p : Int) : (pointsCode v bs [a, b, p] ≠ 0 ∧ ctCode v bs a b p = pointsCode v bs [a, b, p]) ∨ (pointsCode v bs [a, b, p] = 0 ∧ isSysImpl v bs = true ∧ (0 ≤ a ∧ a < v) ∧ (0 ≤ b ∧ b < v) ∧ (0 ≤ p ∧ p < v) ∧ ctCode v bs a b p = if (a == b) || (p == a) || (p == b) || (p == third1 bs a b) then 2 else if fullB v bs then 0 else 5) := by
  unfold pointsCode ctCode offB
  cases hi : isSysImpl v bs with
  | false => exact .inl ⟨by simp, by simp⟩
  | true =>
    cases h1 : inP v a <;> cases h2 : inP v b <;> cases h3 : inP v p
    all_goals first
      | (refine .inl ⟨?_, ?_⟩ <;> simp [h1, h2, h3]; done)
      | (refine .inr ⟨by simp [h1, h2, h3], rfl, by simpa [inP] using h1, by simpa [inP] using h2, by simpa [inP] using h3, ?_⟩
         cases (a == b) <;> cases (p == a) <;> cases (p == b) <;> cases (p == third1 bs a b) <;> simp)
theorem ints3v {w : World} {b : Nat} {x y z : Int} (h0 : w.cell? ⟨b, 0, none⟩ = some (.int .i64 x)) (h1 : w.cell? ⟨b, 1, none⟩ = some (.int .i64 y)) (h2 : w.cell? ⟨b, 2, none⟩ = some (.int .i64 z)) : Ints w b 0 [x, y, z] := ints3 h0 h1 h2
theorem wk_even {bs : List Blk} {a b : Nat} {s : Int} {k : Nat} (h : k % 2 = 0) : wk bs a b s (k + 1) = third1 bs (a : Int) (wk bs a b s k) ∧ wk bs a b s (k + 1 + 1) = third1 bs (b : Int) (wk bs a b s (k + 1)) := by
  refine ⟨?_, ?_⟩
  · show (if k % 2 = 0 then _ else _) = _
    rw [if_pos h]; rfl
  · show (if (k + 1) % 2 = 0 then _ else _) = _
    rw [if_neg (by omega)]; rfl
theorem outC_two {bs : List Blk} {a b : Nat} {s : Int} {k : Nat} (h : k % 2 = 0) : outC bs a b s (k + 1 + 1) = outC bs a b s k ++ [blk3 (a : Int) (wk bs a b s k) (wk bs a b s (k + 1)), blk3 (b : Int) (wk bs a b s (k + 1)) (wk bs a b s (k + 1 + 1))] := by
  rw [outC_succ, outC_succ, if_pos h, if_neg (by omega), List.append_assoc]; rfl
theorem inC_two {bs : List Blk} {a b : Nat} {s : Int} {k : Nat} (h : k % 2 = 0) : inC bs a b s (k + 1 + 1) = inC bs a b s k ++ [blk3 (b : Int) (wk bs a b s k) (wk bs a b s (k + 1)), blk3 (a : Int) (wk bs a b s (k + 1)) (wk bs a b s (k + 1 + 1))] := by
  rw [inC_succ, inC_succ, if_pos h, if_neg (by omega), List.append_assoc]; rfl
def wCT3 (w : World) (v : Int) (s : Value) (a b p : Int) : World := (wCT w v s).alloc (.cells #[.int .i64 a, .int .i64 b, .int .i64 p] 2)
theorem wCT3_below (w : World) (v : Int) (s : Value) (a b p : Int) : Below (wCT w v s).heap.size (wCT w v s) (wCT3 w v s a b p) := (Below.refl _ _).alloc (Nat.le_refl _) _
end Go.Proofs.Ytmgpmcjbnooklaa

namespace Go.Proofs.Ytmgpmcjbnooklaa
open Go.RowKit Go.Maps
set_option maxRecDepth 100000 in
set_option maxHeartbeats 8000000 in
theorem specCycleTrade_any (v : Int) (s : Value) (bs : List Blk) (a b p : Int) (w : World) (h : SB w s bs) :
    Calls Try.prog 18 #[.agg #[.int .i64 v, s], .int .i64 a, .int .i64 b, .int .i64 p] w (RTrd (ctF v bs a b p) w) := by
  have hs := h.slice
  have hlen := h.2.1
  have HSB := Lib.hid h
  obtain ⟨a0, c0, rfl⟩ := hs
  have HBX := Lib.hid (BoxCT.new w v (.slice a0 bs.length c0))
  have HBW := Lib.hid (wCT_below w v (.slice a0 bs.length c0))
  have hl0 : (wCT w v (.slice a0 bs.length c0)).heap.size = w.heap.size + 1 + 1 := by simp [wCT]
  have hb3 : Below w.heap.size w (wCT3 w v (.slice a0 bs.length c0) a b p) := HBW.out.trans ((wCT3_below w v (.slice a0 bs.length c0) a b p).mono HBW.out.size)
  have hbx3 := HBX.out.later (wCT3_below w v (.slice a0 bs.length c0) a b p) HBX.out.lt
  have hpc := l01Points_any v (.slice a0 bs.length c0) bs (w.heap.size + 1 + 1) 0 3 [a, b, p] (wCT3 w v (.slice a0 bs.length c0) a b p) (h.below hb3 (Nat.le_refl _)) (ints3v (by simp [wCT3, wCT, go_sem]) (by simp [wCT3, wCT, go_sem]) (by simp [wCT3, wCT, go_sem])) (by simp [wCT3, wCT]) (by simp)
  have HBX3 := Lib.hid hbx3
  have HB3 := Lib.hid hb3
  clear h hb3 hbx3 hl0
  rcases ct_code v bs a b p with ⟨hc0, hct⟩ | ⟨hc0, hi, ha, hb, hp, hct⟩
  · have HV := Lib.hid (show ctF v bs a b p = (0, ([], []), pointsCode v bs [a, b, p]) by unfold ctF; rw [hct, if_neg hc0])
    obtain ⟨κ, hκ⟩ : ∃ κ, κ = pointsCode v bs [a, b, p] := ⟨_, rfl⟩
    rw [← hκ] at hpc HV hc0
    have HPC := Lib.hid hpc
    have q1 : (κ != 0) = true := by simpa using hc0
    have q2 : (κ == 0) = false := by simpa using hc0
    clear hκ hc0 hct hpc
    go_enter Try.func18, Try.ntmps18
    go_wp2_with fail
    refine HPC.out.mono ?_
    rintro e w1 ⟨rfl, hb1⟩
    have hbx1 := HBX3.out.later hb1 HBX3.out.lt
    have x0 := hbx1.x0
    have x1 := hbx1.x1
    have HBX1 := Lib.hid hbx1
    have HB1 := Lib.hid (HB3.out.trans (hb1.mono HB3.out.size))
    clear hb1 hbx1
    obtain ⟨_, _, _, z0, z1, z2, f0, f1, f2⟩ := HBX1.out
    have hBf := HB1.out
    go_wp2
    exact bodyPost_ret (v := .tuple #[.agg #[.int .i64 0, .slice none 0 0, .slice none 0 0], .int .i64 κ]) (by simp [results, Try.results18, go_sem, *]) rfl (by rw [HV.out]; exact RTrd.no' hBf (by omega) κ _ _ _)
  rw [hc0] at hpc
  have HPC := Lib.hid hpc
  obtain ⟨hv3, hv15, hb35⟩ := sys_size hi
  have HTH := Lib.hid fun (x y : Int) (x0 : 0 ≤ x) (x1 : x ≤ 15) (y0 : 0 ≤ y) (y1 : y ≤ 15) W (hb : Below w.heap.size w W) => l01Third_any v _ bs x y W (HSB.out.below hb (Nat.le_refl _)) (sys_good hi) hv15 x0 x1 y0 y1
  have HT1 := Lib.hid fun W (hb : Below w.heap.size w W) => HTH.out a b (by omega) (by omega) (by omega) (by omega) W hb
  have HFU := Lib.hid fun W => l01Full_any v (.slice a0 bs.length c0) bs W ⟨_, _, rfl⟩ hv3 hv15 hlen
  clear hpc
  cases h1 : (a == b) with
  | true =>
    have HV := Lib.hid (show ctF v bs a b p = (0, ([], []), 2) by unfold ctF; rw [hct]; simp only [h1]; simp)
    clear hct hi hc0 ha hb hp
    go_enter Try.func18, Try.ntmps18
    go_wp2_with fail
    refine HPC.out.mono ?_
    rintro e w1 ⟨rfl, hb1⟩
    have hbx1 := HBX3.out.later hb1 HBX3.out.lt
    have x0 := hbx1.x0
    have x1 := hbx1.x1
    have HBX1 := Lib.hid hbx1
    have HB1 := Lib.hid (HB3.out.trans (hb1.mono HB3.out.size))
    clear hb1 hbx1
    clear x0 x1
    obtain ⟨_, _, _, z0, z1, z2, f0, f1, f2⟩ := HBX1.out
    have hBf := HB1.out
    go_wp2
    exact bodyPost_ret (v := .tuple #[.agg #[.int .i64 0, .slice none 0 0, .slice none 0 0], .int .i64 2]) (by simp [results, Try.results18, go_sem, *]) rfl (by rw [HV.out]; exact RTrd.no' hBf (by omega) 2 _ _ _)
  | false =>
    cases h2 : (p == a) with
    | true =>
      have HV := Lib.hid (show ctF v bs a b p = (0, ([], []), 2) by unfold ctF; rw [hct]; simp only [h1, h2]; simp)
      clear hct hi hc0 ha hb hp
      go_enter Try.func18, Try.ntmps18
      go_wp2_with fail
      refine HPC.out.mono ?_
      rintro e w1 ⟨rfl, hb1⟩
      have hbx1 := HBX3.out.later hb1 HBX3.out.lt
      have x0 := hbx1.x0
      have x1 := hbx1.x1
      have HBX1 := Lib.hid hbx1
      have HB1 := Lib.hid (HB3.out.trans (hb1.mono HB3.out.size))
      clear hb1 hbx1
      clear x0 x1
      obtain ⟨_, _, _, z0, z1, z2, f0, f1, f2⟩ := HBX1.out
      have hBf := HB1.out
      go_wp2
      exact bodyPost_ret (v := .tuple #[.agg #[.int .i64 0, .slice none 0 0, .slice none 0 0], .int .i64 2]) (by simp [results, Try.results18, go_sem, *]) rfl (by rw [HV.out]; exact RTrd.no' hBf (by omega) 2 _ _ _)
    | false =>
      cases h3 : (p == b) with
      | true =>
        have HV := Lib.hid (show ctF v bs a b p = (0, ([], []), 2) by unfold ctF; rw [hct]; simp only [h1, h2, h3]; simp)
        clear hct hi hc0 ha hb hp
        go_enter Try.func18, Try.ntmps18
        go_wp2_with fail
        refine HPC.out.mono ?_
        rintro e w1 ⟨rfl, hb1⟩
        have hbx1 := HBX3.out.later hb1 HBX3.out.lt
        have x0 := hbx1.x0
        have x1 := hbx1.x1
        have HBX1 := Lib.hid hbx1
        have HB1 := Lib.hid (HB3.out.trans (hb1.mono HB3.out.size))
        clear hb1 hbx1
        clear x0 x1
        obtain ⟨_, _, _, z0, z1, z2, f0, f1, f2⟩ := HBX1.out
        have hBf := HB1.out
        go_wp2
        exact bodyPost_ret (v := .tuple #[.agg #[.int .i64 0, .slice none 0 0, .slice none 0 0], .int .i64 2]) (by simp [results, Try.results18, go_sem, *]) rfl (by rw [HV.out]; exact RTrd.no' hBf (by omega) 2 _ _ _)
      | false =>
        obtain ⟨tz, htz⟩ : ∃ z, z = third1 bs a b := ⟨_, rfl⟩
        have HTZ := Lib.hid htz
        rw [← htz] at hct HT1
        clear htz
        cases h4 : (p == tz) with
        | true =>
          have HV := Lib.hid (show ctF v bs a b p = (0, ([], []), 2) by unfold ctF; rw [hct]; simp only [h1, h2, h3, h4]; simp)
          clear hct hi hc0 ha hb hp
          go_enter Try.func18, Try.ntmps18
          go_wp2_with fail
          refine HPC.out.mono ?_
          rintro e w1 ⟨rfl, hb1⟩
          have hbx1 := HBX3.out.later hb1 HBX3.out.lt
          have x0 := hbx1.x0
          have x1 := hbx1.x1
          have HBX1 := Lib.hid hbx1
          have HB1 := Lib.hid (HB3.out.trans (hb1.mono HB3.out.size))
          clear hb1 hbx1
          go_wp2_with fail
          refine (HT1.out _ HB1.out).mono ?_
          rintro e w2 ⟨rfl, hb2⟩
          have HBX2 := Lib.hid (HBX1.out.later hb2 HBX1.out.lt)
          have HB2 := Lib.hid (HB1.out.trans (hb2.mono HB1.out.size))
          clear hb2 x0 x1
          obtain ⟨_, _, _, z0, z1, z2, f0, f1, f2⟩ := HBX2.out
          have hBf := HB2.out
          go_wp2
          exact bodyPost_ret (v := .tuple #[.agg #[.int .i64 0, .slice none 0 0, .slice none 0 0], .int .i64 2]) (by simp [results, Try.results18, go_sem, *]) rfl (by rw [HV.out]; exact RTrd.no' hBf (by omega) 2 _ _ _)
        | false =>
          cases hf : fullB v bs with
          | false =>
            have HV := Lib.hid (show ctF v bs a b p = (0, ([], []), 5) by unfold ctF; rw [hct]; simp only [h1, h2, h3, h4, hf]; simp)
            rw [hf] at HFU
            clear hct hi hc0 ha hb hp hf
            go_enter Try.func18, Try.ntmps18
            go_wp2_with fail
            refine HPC.out.mono ?_
            rintro e w1 ⟨rfl, hb1⟩
            have hbx1 := HBX3.out.later hb1 HBX3.out.lt
            have x0 := hbx1.x0
            have x1 := hbx1.x1
            have HBX1 := Lib.hid hbx1
            have HB1 := Lib.hid (HB3.out.trans (hb1.mono HB3.out.size))
            clear hb1 hbx1
            go_wp2_with fail
            refine (HT1.out _ HB1.out).mono ?_
            rintro e w2 ⟨rfl, hb2⟩
            have hbx2 := HBX1.out.later hb2 HBX1.out.lt
            have y0 := hbx2.x0
            have y1 := hbx2.x1
            have HBX2 := Lib.hid hbx2
            have HB2 := Lib.hid (HB1.out.trans (hb2.mono HB1.out.size))
            clear hb2 x0 x1 hbx2
            go_wp2_with fail
            refine (HFU.out _).mono ?_
            rintro e w3 ⟨rfl, hb3⟩
            have HBX3b := Lib.hid (HBX2.out.later hb3 HBX2.out.lt)
            have HB3b := Lib.hid (HB2.out.trans (hb3.mono HB2.out.size))
            clear hb3 y0 y1
            obtain ⟨_, _, _, z0, z1, z2, f0, f1, f2⟩ := HBX3b.out
            have hBf := HB3b.out
            go_wp2
            exact bodyPost_ret (v := .tuple #[.agg #[.int .i64 0, .slice none 0 0, .slice none 0 0], .int .i64 5]) (by simp [results, Try.results18, go_sem, *]) rfl (by rw [HV.out]; exact RTrd.no' hBf (by omega) 5 _ _ _)
          | true =>
            rw [hf] at HFU
            have hct0 : ctCode v bs a b p = 0 := by rw [hct]; simp only [h1, h2, h3, h4, hf]; simp
            obtain ⟨n, rfl⟩ : ∃ n : Nat, v = (n : Int) := ⟨v.toNat, by omega⟩
            obtain ⟨i, rfl⟩ : ∃ n : Nat, a = (n : Int) := ⟨a.toNat, by omega⟩
            obtain ⟨j, rfl⟩ : ∃ n : Nat, b = (n : Int) := ⟨b.toNat, by omega⟩
            obtain ⟨q, rfl⟩ : ∃ n : Nat, p = (n : Int) := ⟨p.toNat, by omega⟩
            obtain ⟨_, _, _, _, hab, _, hpa, hpb, hpt⟩ := ct_good hct0
            have hbey : Beyond n bs (i : Int) (j : Int) (q : Int) := ⟨hp, hpa, hpb, hpt⟩
            have hper := perN_ok hi hf (a := i) (b := j) (by omega) (by omega) (by omega) hbey
            have hv1 : ctF (n : Int) bs (i : Int) (j : Int) (q : Int) = ((n : Int), (sortB (outC bs i j (q : Int) (perN bs i j (q : Int))), sortB (inC bs i j (q : Int) (perN bs i j (q : Int)))), 0) := by unfold ctF; rw [if_pos hct0]; simp
            obtain ⟨N, hN⟩ : ∃ N, N = perN bs i j (q : Int) := ⟨_, rfl⟩
            rw [← hN] at hper hv1
            have HV := Lib.hid hv1
            obtain ⟨hN0, hN2, hN15, hfr, hNs⟩ := hper
            have HRG := Lib.hid fun k => (show (0 : Int) ≤ wk bs i j (q : Int) k ∧ wk bs i j (q : Int) k ≤ 15 from by
              have := ((two_thirds hi hf ha hb hab).mem hbey k).1
              exact ⟨this.1, by have := this.2; show stepN _ _ _ _ ≤ 15; omega⟩)
            have HFR := Lib.hid fun k (h0 : 0 < k) (hk : k < N) (e : wk bs i j (q : Int) k = (q : Int)) => hfr 0 k h0 hk e.symm
            have HNS := Lib.hid hNs
            have hi15 : (i : Int) ≤ 15 := by omega
            have hj15 : (j : Int) ≤ 15 := by omega
            have hi0 : (0 : Int) ≤ (i : Int) := by omega
            have hj0 : (0 : Int) ≤ (j : Int) := by omega
            clear hct0 hv1 hfr hNs hN hbey hct hc0 hi ha hb hp hf hab hpa hpb hpt
            go_enter Try.func18, Try.ntmps18
            go_wp2_with fail
            refine HPC.out.mono ?_
            rintro e w1 ⟨rfl, hb1⟩
            have hbx1 := HBX3.out.later hb1 HBX3.out.lt
            have x0 := hbx1.x0
            have x1 := hbx1.x1
            have HBX1 := Lib.hid hbx1
            have HB1 := Lib.hid (HB3.out.trans (hb1.mono HB3.out.size))
            clear hb1 hbx1
            go_wp2_with fail
            refine (HT1.out _ HB1.out).mono ?_
            rintro e w2 ⟨rfl, hb2⟩
            have hbx2 := HBX1.out.later hb2 HBX1.out.lt
            have y0 := hbx2.x0
            have y1 := hbx2.x1
            have HBX2 := Lib.hid hbx2
            have HB2 := Lib.hid (HB1.out.trans (hb2.mono HB1.out.size))
            clear hb2 x0 x1 hbx2
            go_wp2_with fail
            refine (HFU.out _).mono ?_
            rintro e w3 ⟨rfl, hb3⟩
            have HBX3b := Lib.hid (HBX2.out.later hb3 HBX2.out.lt)
            have HB3b := Lib.hid (HB2.out.trans (hb3.mono HB2.out.size))
            clear hb3 y0 y1
            go_wp2
            have hT0 : TwoR ((w3.alloc (.cells #[] 68)).alloc (.cells #[] 68)) w3.heap.size (.slice (some ⟨w3.heap.size, 0, none⟩) 0 0) (outC bs i j (q : Int) 0) (.slice (some ⟨w3.heap.size + 1, 0, none⟩) 0 0) (inC bs i j (q : Int) 0) := by
              have h1 := lit_own w3
              have h2 := lit_own (w3.alloc (.cells #[] 68))
              rw [World.size_alloc] at h2
              exact ⟨h1.below ((Below.refl _ _).alloc (Nat.le_refl _) _) (Nat.le_refl _), ownsRow_base h2 (by omega), fun r e1 e2 => by simp [Value.ownBlock] at e1 e2; omega⟩
            have hB0 : Below w3.heap.size w3 ((w3.alloc (.cells #[] 68)).alloc (.cells #[] 68)) := ((Below.refl _ _).alloc (Nat.le_refl _) _).alloc (by simp) _
            obtain ⟨w4, hw4⟩ : ∃ w4, (w3.alloc (.cells #[] 68)).alloc (.cells #[] 68) = w4 := ⟨_, rfl⟩
            rw [hw4] at hT0 hB0 ⊢
            have HT0 := Lib.hid hT0
            have HB0 := Lib.hid hB0
            clear hw4 hT0 hB0
            go_loopw [11, 12, 13] (fun o1 o2 at_ wr => ∃ k : Nat, k < N ∧ k % 2 = 0 ∧ at_ = .int .i64 (wk bs i j (q : Int) k) ∧ Below w3.heap.size w3 wr ∧ TwoR wr w3.heap.size o1 (outC bs i j (q : Int) k) o2 (inC bs i j (q : Int) k) ∧ (∃ a c, o1 = .slice a k c) ∧ ∃ a c, o2 = .slice a k c) (fun o1 _ _ _ => N - lenOf o1)
            case atStart => exact ⟨0, by omega, rfl, rfl, HB0.out, HT0.out, ⟨_, _, rfl⟩, _, _, rfl⟩
            case round =>
              obtain ⟨k, hk, hk2, rfl, hB, hT, ⟨a1, c1, rfl⟩, a2, c2, rfl⟩ := hrel
              have hz := hB.size
              have HT := Lib.hid hT
              have hbx4 := HBX3b.out.later hB HBX3b.out.lt
              have x0 := hbx4.x0
              have x1 := hbx4.x1
              have HBX4 := Lib.hid hbx4
              have HB4 := Lib.hid (HB3b.out.trans (hB.mono HB3b.out.size))
              have r0 := HRG.out k
              have r1 := HRG.out (k + 1)
              have r2 := HRG.out (k + 1 + 1)
              obtain ⟨hw1, hw2⟩ := wk_even (bs := bs) (a := i) (b := j) (s := (q : Int)) hk2
              have hso := outC_two (bs := bs) (a := i) (b := j) (s := (q : Int)) hk2
              have hsi := inC_two (bs := bs) (a := i) (b := j) (s := (q : Int)) hk2
              have hlo := outC_len bs i j (q : Int) k
              have hli := inC_len bs i j (q : Int) k
              have hne : k + 1 + 1 < N → wk bs i j (q : Int) (k + 1 + 1) ≠ (q : Int) := fun h => HFR.out _ (by omega) h
              have heq : k + 1 + 1 = N → wk bs i j (q : Int) (k + 1 + 1) = (q : Int) := fun h => by rw [h]; exact HNS.out
              have HNE := Lib.hid hne
              have HEQ := Lib.hid heq
              have HC1 := Lib.hid fun W (hb : Below w.heap.size w W) => HTH.out (i : Int) (wk bs i j (q : Int) k) hi0 hi15 r0.1 r0.2 W hb
              have HC2 := Lib.hid fun W (hb : Below w.heap.size w W) => HTH.out (j : Int) (wk bs i j (q : Int) (k + 1)) hj0 hj15 r1.1 r1.2 W hb
              rw [← hw1] at HC1
              rw [← hw2] at HC2
              obtain ⟨x, hx⟩ : ∃ z, z = wk bs i j (q : Int) k := ⟨_, rfl⟩
              obtain ⟨y, hy⟩ : ∃ z, z = wk bs i j (q : Int) (k + 1) := ⟨_, rfl⟩
              obtain ⟨z, hz1⟩ : ∃ z, z = wk bs i j (q : Int) (k + 1 + 1) := ⟨_, rfl⟩
              rw [← hx] at hso hsi HC1 r0 ⊢
              rw [← hy] at hso hsi HC1 HC2 r1
              rw [← hz1] at hso hsi HC2 r2 HNE HEQ
              have HZ := Lib.hid hz1
              have HL1 := Lib.hid fun W => l01Block_any (i : Int) x y W hi0 (by omega) r0.1 (by omega) r1.1 (by omega)
              have HL2 := Lib.hid fun W => l01Block_any (j : Int) y z W hj0 (by omega) r1.1 (by omega) r2.1 (by omega)
              have HL3 := Lib.hid fun W => l01Block_any (j : Int) x y W hj0 (by omega) r0.1 (by omega) r1.1 (by omega)
              have HL4 := Lib.hid fun W => l01Block_any (i : Int) y z W hi0 (by omega) r1.1 (by omega) r2.1 (by omega)
              obtain ⟨X1, hX1⟩ : ∃ X, X = blk3 (i : Int) x y := ⟨_, rfl⟩
              obtain ⟨X2, hX2⟩ : ∃ X, X = blk3 (j : Int) y z := ⟨_, rfl⟩
              obtain ⟨X3, hX3⟩ : ∃ X, X = blk3 (j : Int) x y := ⟨_, rfl⟩
              obtain ⟨X4, hX4⟩ : ∃ X, X = blk3 (i : Int) y z := ⟨_, rfl⟩
              rw [← hX1] at HL1 hso
              rw [← hX2] at HL2 hso
              rw [← hX3] at HL3 hsi
              rw [← hX4] at HL4 hsi
              have HSO := Lib.hid hso
              have HSI := Lib.hid hsi
              have hl1 : (outC bs i j (q : Int) k).length ≤ 1100000 := by omega
              have hl2 : (inC bs i j (q : Int) k).length ≤ 1100000 := by omega
              have HLO := Lib.hid hlo
              have HLI := Lib.hid hli
              clear hT hbx4 hw1 hw2 hso hsi hlo hli hne heq hx hy hz1 hX1 hX2 hX3 hX4 r0 r1 r2
              obtain ⟨X1a, X1b, X1c⟩ := X1
              obtain ⟨X2a, X2b, X2c⟩ := X2
              obtain ⟨X3a, X3b, X3c⟩ := X3
              obtain ⟨X4a, X4b, X4c⟩ := X4
              unfold bv at HL1 HL2 HL3 HL4
              dsimp only at HL1 HL2 HL3 HL4
              go_wp2_with fail
              refine (HC1.out _ HB4.out).mono ?_
              rintro e w5 ⟨rfl, hb5⟩
              have hbx5 := HBX4.out.later hb5 HBX4.out.lt
              have y0 := hbx5.x0
              have y1 := hbx5.x1
              have HBX5 := Lib.hid hbx5
              have HB5 := Lib.hid (HB4.out.trans (hb5.mono HB4.out.size))
              have HT5 := Lib.hid (HT.out.below hb5)
              have HW5 := Lib.hid (hB.trans (hb5.mono hz))
              have hz5 := hb5.size
              clear hb5 hbx5 x0 x1
              go_wp2_with fail
              refine (HC2.out _ HB5.out).mono ?_
              rintro e w6 ⟨rfl, hb6⟩
              have HBX6 := Lib.hid (HBX5.out.later hb6 HBX5.out.lt)
              have HB6 := Lib.hid (HB5.out.trans (hb6.mono HB5.out.size))
              have HT6 := Lib.hid (HT5.out.below hb6)
              have HW6 := Lib.hid (HW5.out.trans (hb6.mono (by omega)))
              have hz6 := hb6.size
              clear hb6 y0 y1
              go_wp2_with fail
              refine (HL1.out _).mono ?_
              rintro e w7 ⟨rfl, hb7⟩
              have HT7 := Lib.hid (HT6.out.below hb7)
              have HW7 := Lib.hid (HW6.out.trans (hb7.mono (by omega)))
              have hz7 := hb7.size
              clear hb7
              go_wp2_with fail
              refine (HL2.out _).mono ?_
              rintro e w8 ⟨rfl, hb8⟩
              have hz8 := hb8.size
              have HT8 := Lib.hid ((HT7.out.below hb8).below ((Below.refl _ _).alloc (Nat.le_refl _) (.cells #[.int .i64 X1a, .int .i64 X1b, .int .i64 X1c, .int .i64 X2a, .int .i64 X2b, .int .i64 X2c] 68)))
              have HW8 := Lib.hid (HW7.out.trans (hb8.mono (by omega)))
              clear hb8
              go_wp2_with (at_builtin; refine wpList_append_blk2_at rfl _ _ rfl w3.heap.size _ (outC bs i j (q : Int) k) rfl HT8.out.one _ _ ⟨X1a, X1b, X1c⟩ ⟨X2a, X2b, X2c⟩ rfl (by simp [go_sem]) (by simp [go_sem]) (by simp [go_sem]) (by simp [go_sem]) (by simp [go_sem]) (by simp [go_sem]) hl1 (by simp; omega) ?_; intro g9 cap9 w9 hO9 hg9 hat9)
              have hrow := HT8.out.one.row
              have hT9 := HT8.out.grow hO9 hg9 (own_at hat9)
              have HW9 := Lib.hid (HW8.out.grown (gb_trans (World.grownBy_alloc _ _ none) hg9) (by omega) (fun r e => hrow r e))
              have hz9 := hg9.size
              simp at hz9
              have HT9 := Lib.hid hT9
              clear hO9 hg9 hat9 hrow hT9
              refine (HL3.out _).mono ?_
              rintro e w10 ⟨rfl, hb10⟩
              have HT10 := Lib.hid (HT9.out.below hb10)
              have HW10 := Lib.hid (HW9.out.trans (hb10.mono (by omega)))
              have hz10 := hb10.size
              clear hb10
              go_wp2_with fail
              refine (HL4.out _).mono ?_
              rintro e w11 ⟨rfl, hb11⟩
              have hz11 := hb11.size
              have HT11 := Lib.hid ((HT10.out.below hb11).below ((Below.refl _ _).alloc (Nat.le_refl _) (.cells #[.int .i64 X3a, .int .i64 X3b, .int .i64 X3c, .int .i64 X4a, .int .i64 X4b, .int .i64 X4c] 68)))
              have HW11 := Lib.hid (HW10.out.trans (hb11.mono (by omega)))
              clear hb11
              by_cases hend : k + 1 + 1 = N
              · have hzq := HEQ.out hend
                have qe : (z == (q : Int)) = true := by simpa using hzq
                have HEND := Lib.hid hend
                clear hzq hend
                go_wp2_with (at_builtin; refine wpList_append_blk2_at rfl _ _ rfl w3.heap.size _ (inC bs i j (q : Int) k) rfl HT11.out.two _ _ ⟨X3a, X3b, X3c⟩ ⟨X4a, X4b, X4c⟩ rfl (by simp [go_sem]) (by simp [go_sem]) (by simp [go_sem]) (by simp [go_sem]) (by simp [go_sem]) (by simp [go_sem]) hl2 (by simp; omega) ?_; intro g12 cap12 w12 hO12 hg12 hat12; have hrow := HT11.out.two.row; have HT12 := Lib.hid (HT11.out.swap.grow hO12 hg12 (own_at hat12)).swap; have HW12 := Lib.hid (HW11.out.grown (gb_trans (World.grownBy_alloc _ _ none) hg12) (by omega) (fun r e => hrow r e)); have hbx12 := HBX3b.out.later HW12.out HBX3b.out.lt; have x0 := hbx12.x0; have HBX12 := Lib.hid hbx12; clear hO12 hg12 hat12 hrow hbx12)
                have HMD := Lib.hid (l04Made_any (n : Int) _ _ _ _ w12 HT12.out.one.sx HT12.out.two.sx (by rw [← HSO.out, outC_len]; omega) (by rw [← HSI.out, inC_len]; omega))
                rw [← HSO.out, ← HSI.out, HEND.out] at HMD
                refine HMD.out.mono ?_
                rintro e w13 ⟨u, u', rfl, hres, hb13⟩
                obtain ⟨_, _, _, z0, z1, z2, f0, f1, f2⟩ := HBX12.out.later hb13 HBX12.out.lt
                have hB13 : Below w.heap.size w w13 := (HB3b.out.trans (HW12.out.mono HB3b.out.size)).trans (hb13.mono (by have := HB3b.out.size; have := HW12.out.size; omega))
                have HRS := Lib.hid hres
                have hlt12 := HBX12.out.lt
                obtain ⟨⟨ao, no, hso⟩, ⟨ai, ni, hsi⟩⟩ := hres.slice
                subst hso
                subst hsi
                clear hb13 hres
                go_wp2
                exact bodyPost_ret (v := .tuple #[.agg #[.int .i64 (n : Int), .slice ao (sortB (outC bs i j (q : Int) N)).length no, .slice ai (sortB (inC bs i j (q : Int) N)).length ni], .int .i64 0]) (by simp [results, Try.results18, go_sem, *]) rfl (by rw [HV.out]; exact RTrd.of' hB13 HRS.out (by omega) hlt12 rfl rfl _ _ _)
              · have hlt : k + 1 + 1 < N := by omega
                have hzq := HNE.out hlt
                have qe : (z == (q : Int)) = false := by simpa using hzq
                clear hzq hend
                go_wp2_with (at_builtin; refine wpList_append_blk2_at rfl _ _ rfl w3.heap.size _ (inC bs i j (q : Int) k) rfl HT11.out.two _ _ ⟨X3a, X3b, X3c⟩ ⟨X4a, X4b, X4c⟩ rfl (by simp [go_sem]) (by simp [go_sem]) (by simp [go_sem]) (by simp [go_sem]) (by simp [go_sem]) (by simp [go_sem]) hl2 (by simp; omega) ?_; intro g12 cap12 w12 hO12 hg12 hat12; have hrow := HT11.out.two.row; have HT12 := Lib.hid (HT11.out.swap.grow hO12 hg12 (own_at hat12)).swap; have HW12 := Lib.hid (HW11.out.grown (gb_trans (World.grownBy_alloc _ _ none) hg12) (by omega) (fun r e => hrow r e)); clear hO12 hg12 hat12 hrow)
                go_roundw
                case rel => exact ⟨k + 1 + 1, hlt, by omega, by rw [← HZ.out], HW12.out, by rw [HSO.out, HSI.out]; exact HT12.out, ⟨_, _, by rw [HLO.out]⟩, _, _, by rw [HLI.out]⟩
                case measure => (have h1 := HLO.out; simp [lenOf]; omega)
end Go.Proofs.Ytmgpmcjbnooklaa

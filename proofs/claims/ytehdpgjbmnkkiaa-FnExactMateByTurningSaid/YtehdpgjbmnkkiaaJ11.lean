
/- The model's l04Same, l04Member, l04Is, IsTrade. Are two systems apart? The program's areApart, and the model's number of common blocks. MateByTurning of the program. Lists of systems: a test of all of them. Are systems of a list apart? Have they as many points? -/
import Derived.Test.YtehdpgjbmnkkiaaJ10
import Derived.Deep.RegionWith
namespace Go.Proofs.Ytehdpgjbmnkkiaa
open Go.RowKit Go.Maps
theorem num_inj {v u : Int} {bs cs : List Blk} (hv : v ≤ 15) (hu : u ≤ 15) (h1 : ∀ x ∈ bs, goodB v x = true) (h2 : ∀ x ∈ cs, goodB u x = true) : samePr bs cs = true ↔ ∀ i, i < 256 → inNum (prs bs) i = inNum (prs cs) i := by
  have key : ∀ {v : Int} {bs : List Blk}, v ≤ 15 → (∀ x ∈ bs, goodB v x = true) → ∀ p ∈ prs bs, 0 ≤ p.1 ∧ p.1 ≤ 14 ∧ 0 ≤ p.2 ∧ p.2 ≤ 14 := by
    intro v bs hv h p hp
    simp only [prs, List.mem_flatMap] at hp
    obtain ⟨x, hx, hp⟩ := hp
    have hg := goodB_iff.1 (h x hx)
    simp only [pairsL, List.mem_cons, List.not_mem_nil, or_false] at hp
    rcases hp with rfl | rfl | rfl <;> simp only <;> omega
  have inj : ∀ {p q : Int × Int}, (0 ≤ p.1 ∧ p.1 ≤ 14 ∧ 0 ≤ p.2 ∧ p.2 ≤ 14) → (0 ≤ q.1 ∧ q.1 ≤ 14 ∧ 0 ≤ q.2 ∧ q.2 ≤ 14) → numP p = numP q → p = q := by
    rintro ⟨a, b⟩ ⟨c, d⟩ hp hq e
    simp only [numP] at *
    have h1 : a = c := by omega
    have h2 : b = d := by omega
    rw [h1, h2]
  rw [samePr_iff]
  constructor
  · intro h i _
    unfold inNum
    rw [decide_eq_decide, List.mem_map, List.mem_map]
    exact ⟨fun ⟨p, hp, e⟩ => ⟨p, (h p).1 hp, e⟩, fun ⟨p, hp, e⟩ => ⟨p, (h p).2 hp, e⟩⟩
  · intro h p
    have tow : ∀ {v u : Int} {bs cs : List Blk}, v ≤ 15 → u ≤ 15 → (∀ x ∈ bs, goodB v x = true) → (∀ x ∈ cs, goodB u x = true) → (∀ i, i < 256 → inNum (prs bs) i = inNum (prs cs) i) → p ∈ prs bs → p ∈ prs cs := by
      intro v u bs cs hv hu h1 h2 h hp
      have b := key hv h1 p hp
      have hi := h (numP p).toNat (by simp only [numP]; omega)
      have e : ((numP p).toNat : Int) = numP p := Int.toNat_of_nonneg (by simp only [numP]; omega)
      unfold inNum at hi
      rw [e, decide_eq_true (List.mem_map.2 ⟨p, hp, rfl⟩)] at hi
      obtain ⟨q, hq, eq⟩ := List.mem_map.1 (of_decide_eq_true hi.symm)
      rw [← inj (key hu h2 q hq) b eq]
      exact hq
    exact ⟨tow hv hu h1 h2 h, tow hu hv h2 h1 (fun i hi => (h i hi).symm)⟩
theorem Bools.drewN {W : World} {g : Nat} {f : Nat → Bool} (h : Bools W g f) (n : Nat) : Bools (W.drewN n) g f := ⟨h.lt, h.at_, h.free⟩
set_option maxRecDepth 100000 in
theorem l04Member_any (s : Value) (bs : List Blk) (x : Blk) (w : World) (h : SB w s bs) : Calls Try.prog 101 #[s, bv x] w (RV (.bool (decide (x ∈ bs))) w) := by
  have hs := h.slice
  have H := Lib.hid h
  have hl := h.2.1
  clear h
  obtain ⟨a, c, rfl⟩ := hs
  obtain ⟨x1, x2, x3⟩ := x
  unfold bv
  dsimp only
  go_enter Try.func101, Try.ntmps101
  go_wp2
  have B0 : Below w.heap.size w (w.alloc (.cells #[.int .i64 x1, .int .i64 x2, .int .i64 x3] 93)) := (Below.refl _ _).alloc (Nat.le_refl _) _
  obtain ⟨W, hW⟩ : ∃ W, W = w.alloc (.cells #[.int .i64 x1, .int .i64 x2, .int .i64 x3] 93) := ⟨_, rfl⟩
  have y0 : W.cell? ⟨w.heap.size, 0, none⟩ = some (.int .i64 x1) := by rw [hW]; simp
  have y1 : W.cell? ⟨w.heap.size, 1, none⟩ = some (.int .i64 x2) := by rw [hW]; simp
  have y2 : W.cell? ⟨w.heap.size, 2, none⟩ = some (.int .i64 x3) := by rw [hW]; simp
  rw [← hW] at B0 ⊢
  clear hW
  have hsb := H.out.below B0 (Nat.le_refl _)
  have HS := Lib.hid hsb
  clear hsb
  go_loopw [5] (fun i wr => ∃ k : Nat, k ≤ bs.length ∧ i = .int .i64 k ∧ (∃ n, wr = W.drewN n) ∧ Hid (¬ (⟨x1, x2, x3⟩ : Blk) ∈ bs.take k)) (fun i _ => bs.length - (intOf i).toNat)
  case atStart => exact ⟨0, Nat.zero_le _, rfl, ⟨0, rfl⟩, Lib.hid (by simp)⟩
  case round =>
    obtain ⟨k, hk, rfl, ⟨n, rfl⟩, HN⟩ := hrel
    by_cases hkl : k < bs.length
    · rcases HS.out.2.2 with ⟨_, _, _, hnil⟩ | ⟨b, off, cap, hval, hblt, hbl⟩
      · rw [hnil] at hkl; simp at hkl
      · simp at hval
        obtain ⟨rfl, rfl⟩ := hval
        obtain ⟨z, hz, ez, z1, z2, z3⟩ := blks_at hbl hkl
        have g0 : (0 : Int) ≤ (k : Int) := by omega
        have g1 : (k : Int) < (bs.length : Int) := by omega
        have hnx : bs.take (k + 1) = bs.take k ++ [z] := by
          have e : bs[k] = z := by
            rw [List.getElem?_eq_getElem hkl] at ez
            simpa using ez
          rw [take_next hkl, e]
        have HNX := Lib.hid hnx
        have HZ := Lib.hid hz
        have hq := run_eql_blk z ⟨x1, x2, x3⟩
        obtain ⟨q1, q2, q3⟩ := z
        unfold bv at hq
        dsimp only at hq z1 z2 z3
        clear hnx hz ez hbl
        by_cases he : (⟨q1, q2, q3⟩ : Blk) = ⟨x1, x2, x3⟩
        · have HEQ := Lib.hid he
          rw [decide_eq_true he] at hq
          clear he
          go_wp2
          go_quiet (fail)
          go_wp2
          go_ret
          exact RV_of (bool_eq (by rw [← HEQ.out]; simp [HZ.out])) (below_drewN (below_drewN B0 _) _)
        · have HEQ := Lib.hid he
          rw [decide_eq_false he] at hq
          clear he
          go_wp2
          go_quiet (fail)
          go_wp2
          go_roundw
          case rel => exact ⟨k + 1, by omega, by go_num, ⟨_, rfl⟩, Lib.hid (by rw [HNX.out]; simp only [List.mem_append, List.mem_singleton, not_or]; exact ⟨HN.out, fun e => HEQ.out e.symm⟩)⟩
          case measure => simp [intOf]; omega
    · go_wp2
      go_ret
      have e : k = bs.length := by omega
      subst e
      refine RV_of (bool_eq ?_) (below_drewN B0 _)
      have := HN.out
      rw [List.take_length] at this
      simp [this]
/-- A trade's box and those of its two systems. -/
structure Box5 (w : World) (v : Int) (so si : Value) (W : World) : Prop where
  below : Below w.heap.size w W
  lt : w.heap.size + 1 + 1 < W.heap.size
  a0 : W.cell? ⟨w.heap.size, 0, none⟩ = some (.int .i64 v)
  a1 : W.cell? ⟨w.heap.size, 1, none⟩ = some so
  a2 : W.cell? ⟨w.heap.size, 2, none⟩ = some si
  b0 : W.cell? ⟨w.heap.size + 1, 0, none⟩ = some (.int .i64 v)
  b1 : W.cell? ⟨w.heap.size + 1, 1, none⟩ = some so
  c0 : W.cell? ⟨w.heap.size + 1 + 1, 0, none⟩ = some (.int .i64 v)
  c1 : W.cell? ⟨w.heap.size + 1 + 1, 1, none⟩ = some si
theorem Box5.step {w W W' : World} {v : Int} {so si : Value} (h : Box5 w v so si W) (hb : Below W.heap.size W W') : Box5 w v so si W' := by
  have hl := h.lt
  exact ⟨h.below.trans (hb.mono h.below.size), Nat.lt_of_lt_of_le h.lt hb.size, (hb.cell (p := ⟨w.heap.size, 0, none⟩) (by show w.heap.size < _; omega)).trans h.a0, (hb.cell (p := ⟨w.heap.size, 1, none⟩) (by show w.heap.size < _; omega)).trans h.a1, (hb.cell (p := ⟨w.heap.size, 2, none⟩) (by show w.heap.size < _; omega)).trans h.a2,
    (hb.cell (p := ⟨w.heap.size + 1, 0, none⟩) (by show w.heap.size + 1 < _; omega)).trans h.b0, (hb.cell (p := ⟨w.heap.size + 1, 1, none⟩) (by show w.heap.size + 1 < _; omega)).trans h.b1,
    (hb.cell (p := ⟨w.heap.size + 1 + 1, 0, none⟩) (by show w.heap.size + 1 + 1 < _; omega)).trans h.c0, (hb.cell (p := ⟨w.heap.size + 1 + 1, 1, none⟩) (by show w.heap.size + 1 + 1 < _; omega)).trans h.c1⟩
end Go.Proofs.Ytehdpgjbmnkkiaa

namespace Go.Proofs.Ytehdpgjbmnkkiaa
open Go.RowKit Go.Maps
/-- No block of the first list is in the second one. -/
def apartB (xs ys : List Blk) : Bool := xs.all fun b => !decide (b ∈ ys)
def commonB (xs ys : List Blk) : Nat := xs.countP fun b => decide (b ∈ ys)
theorem commonB_apart (xs ys : List Blk) : ((commonB xs ys : Int) == 0) = apartB xs ys := by
  unfold commonB apartB
  induction xs with
  | nil => rfl
  | cons x r ih =>
    rw [List.all_cons, List.countP_cons, ← ih]
    cases h : decide (x ∈ ys) with
    | true => simp; omega
    | false => simp
theorem commonB_take {xs ys : List Blk} {k : Nat} (hk : k < xs.length) : commonB (xs.take (k + 1)) ys = commonB (xs.take k) ys + if decide (xs[k] ∈ ys) then 1 else 0 := by
  unfold commonB
  rw [List.take_succ_eq_append_getElem hk, List.countP_append, List.countP_singleton]
theorem commonB_le (xs ys : List Blk) : commonB xs ys ≤ xs.length := List.countP_le_length
set_option maxRecDepth 100000 in
theorem IndexB_any (s : Value) (bs : List Blk) (x : Blk) (w : World) (h : SB w s bs) :
    Calls Try.prog 122 #[s, bv x] w fun e w' => ∃ r : Int, e = .returned (.int .i64 r) ∧ Below w.heap.size w w' ∧ decide (r ≥ 0) = decide (x ∈ bs) := by
  have hs := h.slice
  have H := Lib.hid h
  have hl := h.2.1
  clear h
  obtain ⟨a, c, rfl⟩ := hs
  obtain ⟨x1, x2, x3⟩ := x
  unfold bv
  dsimp only
  go_enter Try.func122, Try.ntmps122
  go_wp2
  have B0 : Below w.heap.size w (w.alloc (.cells #[.int .i64 x1, .int .i64 x2, .int .i64 x3] 93)) := (Below.refl _ _).alloc (Nat.le_refl _) _
  obtain ⟨W, hW⟩ : ∃ W, W = w.alloc (.cells #[.int .i64 x1, .int .i64 x2, .int .i64 x3] 93) := ⟨_, rfl⟩
  have y0 : W.cell? ⟨w.heap.size, 0, none⟩ = some (.int .i64 x1) := by rw [hW]; simp
  have y1 : W.cell? ⟨w.heap.size, 1, none⟩ = some (.int .i64 x2) := by rw [hW]; simp
  have y2 : W.cell? ⟨w.heap.size, 2, none⟩ = some (.int .i64 x3) := by rw [hW]; simp
  rw [← hW] at B0 ⊢
  clear hW
  have HS := Lib.hid (H.out.below B0 (Nat.le_refl _))
  go_loopw [8] (fun i wr => ∃ k : Nat, k ≤ bs.length ∧ i = .int .i64 k ∧ (∃ n, wr = W.drewN n) ∧ Hid (¬ (⟨x1, x2, x3⟩ : Blk) ∈ bs.take k)) (fun i _ => bs.length - (intOf i).toNat)
  case atStart => exact ⟨0, Nat.zero_le _, rfl, ⟨0, rfl⟩, Lib.hid (by simp)⟩
  case round =>
    obtain ⟨k, hk, rfl, ⟨n, rfl⟩, HN⟩ := hrel
    by_cases hkl : k < bs.length
    · rcases HS.out.2.2 with ⟨_, _, _, hnil⟩ | ⟨b, off, cap, hval, hblt, hbl⟩
      · rw [hnil] at hkl; simp at hkl
      · simp at hval
        obtain ⟨rfl, rfl⟩ := hval
        obtain ⟨z, hz, ez, z1, z2, z3⟩ := blks_at hbl hkl
        have g0 : (0 : Int) ≤ (k : Int) := by omega
        have g1 : (k : Int) < (bs.length : Int) := by omega
        have hnx : bs.take (k + 1) = bs.take k ++ [z] := by
          have e : bs[k] = z := by
            rw [List.getElem?_eq_getElem hkl] at ez
            simpa using ez
          rw [List.take_succ_eq_append_getElem hkl, e]
        have HNX := Lib.hid hnx
        have HZ := Lib.hid hz
        have hq := run_eql_blk ⟨x1, x2, x3⟩ z
        obtain ⟨q1, q2, q3⟩ := z
        unfold bv at hq
        dsimp only at hq z1 z2 z3
        clear hnx hz ez hbl
        by_cases he : (⟨x1, x2, x3⟩ : Blk) = ⟨q1, q2, q3⟩
        · have HEQ := Lib.hid he
          rw [decide_eq_true he] at hq
          clear he
          go_wp2
          go_quiet (fail)
          go_wp2
          go_ret
          exact ⟨_, rfl, below_drewN (below_drewN B0 _) _, by rw [decide_eq_true (by omega), decide_eq_true (by rw [HEQ.out]; exact HZ.out)]⟩
        · have HEQ := Lib.hid he
          rw [decide_eq_false he] at hq
          clear he
          go_wp2
          go_quiet (fail)
          go_wp2
          go_roundw
          case rel => exact ⟨k + 1, by omega, by go_num, ⟨_, rfl⟩, Lib.hid (by rw [HNX.out]; simp only [List.mem_append, List.mem_singleton, not_or]; exact ⟨HN.out, HEQ.out⟩)⟩
          case measure => simp [intOf]; omega
    · have e : k = bs.length := by omega
      subst e
      have hn := HN.out
      rw [List.take_length] at hn
      have HNN := Lib.hid hn
      clear hn HN
      go_wp2
      go_ret
      exact ⟨_, rfl, below_drewN B0 _, by rw [decide_eq_false (by omega), decide_eq_false HNN.out]⟩
set_option maxRecDepth 100000 in
theorem ContainsB_any (s : Value) (bs : List Blk) (x : Blk) (w : World) (h : SB w s bs) :
    Calls Try.prog 109 #[s, bv x] w (RV (.bool (decide (x ∈ bs))) w) := by
  have HI := Lib.hid fun W (hb : Below w.heap.size w W) => IndexB_any s bs x W (h.below hb (Nat.le_refl _))
  obtain ⟨β, hβ⟩ : ∃ β, β = decide (x ∈ bs) := ⟨_, rfl⟩
  simp only [← hβ] at HI
  rw [← hβ]
  obtain ⟨a, c, rfl⟩ := h.slice
  obtain ⟨x1, x2, x3⟩ := x
  unfold bv at HI ⊢
  dsimp only at HI ⊢
  clear h hβ
  have hb0 : Below w.heap.size w (w.alloc (.cells #[.int .i64 x1, .int .i64 x2, .int .i64 x3] 93)) := (Below.refl _ _).alloc (Nat.le_refl _) _
  have HB0 := Lib.hid hb0
  clear hb0
  go_enter Try.func109, Try.ntmps109
  go_wp2_with fail
  refine (HI.out _ HB0.out).mono ?_
  rintro e w1 ⟨r, rfl, hb1, hr⟩
  have hb2 := below_new hb1
  go_wp2
  go_ret
  exact RV_of (by rw [← hr]; rfl) hb2
set_option maxRecDepth 100000 in
/-- Is a block no one of those behind a pointer to a system? -/
theorem areApart1_any (p : Nat) (ys : List Blk) (s : Value) (x : Blk) (w : World) (hp : p < w.heap.size) (c1 : w.cell? ⟨p, 1, none⟩ = some s) (h : SB w s ys) :
    Calls Try.prog 108 #[bv x, .pointer (some ⟨p, 0, none⟩)] w (RV (.bool (!decide (x ∈ ys))) w) := by
  have HI := Lib.hid fun W (hb : Below w.heap.size w W) => ContainsB_any s ys x W (h.below hb (Nat.le_refl _))
  obtain ⟨β, hβ⟩ : ∃ β, β = decide (x ∈ ys) := ⟨_, rfl⟩
  simp only [← hβ] at HI
  rw [← hβ]
  obtain ⟨a, c, rfl⟩ := h.slice
  obtain ⟨x1, x2, x3⟩ := x
  unfold bv at HI ⊢
  dsimp only at HI ⊢
  clear h hβ
  have hb0 : Below w.heap.size w (w.alloc (.cells #[.int .i64 x1, .int .i64 x2, .int .i64 x3] 93)) := (Below.refl _ _).alloc (Nat.le_refl _) _
  have HB0 := Lib.hid hb0
  clear hb0
  go_enter Try.func108, Try.ntmps108
  go_wp2_with fail
  refine (HI.out _ HB0.out).mono ?_
  rintro e w1 ⟨rfl, hb1⟩
  have hb2 := below_new hb1
  go_wp2
  go_ret
  exact RV_of rfl hb2
set_option maxRecDepth 100000 in
theorem allApart_any (p : Nat) (ys : List Blk) (s2 : Value) (s : Value) (xs : List Blk) (w : World) (hp : p < w.heap.size) (c1 : w.cell? ⟨p, 1, none⟩ = some s2) (h2 : SB w s2 ys) (h : SB w s xs) :
    Calls Try.prog 107 #[s, .func (.func 108) #[] #[.pointer (some ⟨p, 0, none⟩)]] w (RV (.bool (apartB xs ys)) w) := by
  have HI := Lib.hid fun (x : Blk) W (hb : Below w.heap.size w W) => areApart1_any p ys s2 x W (Nat.lt_of_lt_of_le hp hb.size) ((hb.cell hp).trans c1) (h2.below hb (Nat.le_refl _))
  have hl := h.2.1
  have HS := Lib.hid h
  obtain ⟨a, c, rfl⟩ := h.slice
  clear h h2 c1 hp
  go_enter Try.func107, Try.ntmps107
  go_wp2
  go_loopw [9] (fun i wr => ∃ k : Nat, k ≤ xs.length ∧ i = .int .i64 k ∧ Below w.heap.size w wr ∧ Hid (apartB xs ys = apartB (xs.drop k) ys)) (fun i _ => xs.length - (intOf i).toNat)
  case atStart => exact ⟨0, Nat.zero_le _, rfl, Below.refl _ _, Lib.hid rfl⟩
  case round =>
    obtain ⟨k, hk, rfl, hB, HE⟩ := hrel
    have hz := hB.size
    by_cases hkl : k < xs.length
    · rcases HS.out.2.2 with ⟨_, _, _, hnil⟩ | ⟨b, off, cap, hval, hblt, hbl⟩
      · rw [hnil] at hkl; simp at hkl
      · simp at hval
        obtain ⟨rfl, rfl⟩ := hval
        obtain ⟨z, hz1, ez, z1, z2, z3⟩ := blks_at (hbl.below hB hblt) hkl
        have he := HE.out
        have hdr : xs.drop k = z :: xs.drop (k + 1) := by
          have e : xs[k] = z := by
            rw [List.getElem?_eq_getElem hkl] at ez
            simpa using ez
          rw [List.drop_eq_getElem_cons hkl, e]
        rw [hdr] at he
        obtain ⟨β, hβ⟩ : ∃ β, β = decide (z ∈ ys) := ⟨_, rfl⟩
        have HC := Lib.hid fun W (hb : Below w.heap.size w W) => HI.out z W hb
        simp only [← hβ] at HC
        have he2 : apartB xs ys = (!β && apartB (xs.drop (k + 1)) ys) := by rw [he, hβ]; rfl
        have HE2 := Lib.hid he2
        obtain ⟨q1, q2, q3⟩ := z
        unfold bv at HC
        dsimp only at HC z1 z2 z3
        have g0 : (0 : Int) ≤ (k : Int) := by omega
        have g1 : (k : Int) < (xs.length : Int) := by omega
        clear he he2 hdr hβ hz1 ez hbl HE
        cases β with
        | true =>
          go_wp2_with fail
          refine (HC.out _ (hB.alloc hz _)).mono ?_
          rintro e w1 ⟨rfl, hb1⟩
          have hb2 := hB.trans ((below_new hb1).mono hz)
          go_wp2
          go_ret
          exact RV_of (by rw [HE2.out]; rfl) hb2
        | false =>
          go_wp2_with fail
          refine (HC.out _ (hB.alloc hz _)).mono ?_
          rintro e w1 ⟨rfl, hb1⟩
          have hb2 := hB.trans ((below_new hb1).mono hz)
          go_wp2
          go_roundw
          case rel => exact ⟨k + 1, by omega, by go_num, hb2, Lib.hid (by rw [HE2.out]; rfl)⟩
          case measure => simp [intOf]; omega
    · have e : k = xs.length := by omega
      subst e
      have he := HE.out
      rw [List.drop_length] at he
      have HE2 := Lib.hid he
      clear he HE
      go_wp2
      go_ret
      exact RV_of (by rw [HE2.out]; rfl) hB
set_option maxRecDepth 100000 in
theorem areApart_any (v : Int) (s : Value) (xs : List Blk) (u : Int) (t : Value) (ys : List Blk) (w : World) (h : SB w s xs) (h2 : SB w t ys) :
    Calls Try.prog 68 #[.agg #[.int .i64 v, s], .agg #[.int .i64 u, t]] w (RV (.bool (apartB xs ys)) w) := by
  have HI := Lib.hid fun p W (hb : Below w.heap.size w W) (hp : p < W.heap.size) (c1 : W.cell? ⟨p, 1, none⟩ = some t) => allApart_any p ys t s xs W hp c1 (h2.below hb (Nat.le_refl _)) (h.below hb (Nat.le_refl _))
  obtain ⟨a, c, rfl⟩ := h.slice
  obtain ⟨a2, c2, rfl⟩ := h2.slice
  obtain ⟨β, hβ⟩ : ∃ β, β = apartB xs ys := ⟨_, rfl⟩
  rw [← hβ] at HI ⊢
  clear h h2 hβ
  have hmf : ∀ (fn : Fn) (first cap : Array Value) (w : World), (Instr.makeFunc fn first cap).run Try.prog w = .ok (.func fn first cap) w := fun _ _ _ _ => rfl
  have hB0 : Below w.heap.size w ((w.alloc (.cells #[.int .i64 v, .slice a xs.length c] 31)).alloc (.cells #[.int .i64 u, .slice a2 ys.length c2] 31)) := ((Below.refl _ _).alloc (Nat.le_refl _) _).alloc (by simp) _
  have HB0 := Lib.hid hB0
  clear hB0
  go_enter Try.func68, Try.ntmps68
  go_wp2_with fail
  refine (HI.out _ _ HB0.out (by simp) (by simp [go_sem])).mono ?_
  rintro e w1 ⟨rfl, hb1⟩
  have hb2 := HB0.out.trans (hb1.mono HB0.out.size)
  clear hb1
  go_wp2
  go_ret
  exact RV_of rfl hb2
end Go.Proofs.Ytehdpgjbmnkkiaa

namespace Go.Proofs.Ytehdpgjbmnkkiaa
open Go.RowKit Go.Maps
set_option maxRecDepth 100000 in
set_option maxHeartbeats 1000000 in
theorem mate1_any (n k Bx : Nat) (s : Value) (bs : List Blk) (w : World) (h : SB w s bs) (hi : isSysImpl (n : Int) bs = true) (hk : k < n) (hx : Bx < w.heap.size) (c0 : w.cell? ⟨Bx, 0, none⟩ = some (.int .i64 (n : Int))) (c1 : w.cell? ⟨Bx, 1, none⟩ = some s) :
    Calls Try.prog 67 #[.int .i64 (k : Int), .pointer (some ⟨Bx, 0, none⟩)] w (RV (.bool (apartB bs (turnS n k bs))) w) := by
  have hbl := h.2.1
  have HT := Lib.hid fun W (hb : Below w.heap.size w W) => turned_any n k s bs W (h.below hb (Nat.le_refl _)) hi hk
  have hgd := sys_good hi
  have HA := Lib.hid fun t W (hb : Below w.heap.size w W) (h2 : SB W t (turnS n k bs)) => areApart_any (n : Int) s bs (n : Int) t (turnS n k bs) W (h.below hb (Nat.le_refl _)) h2
  have hln := turnS_len n k bs
  have HWB := Lib.hid (turnS_wf (k := k) hi)
  obtain ⟨a0, k0, rfl⟩ := h.slice
  obtain ⟨β, hβ⟩ : ∃ β, β = apartB bs (turnS n k bs) := ⟨_, rfl⟩
  rw [← hβ] at HA ⊢
  clear h hi hβ hgd
  go_enter Try.func67, Try.ntmps67
  go_wp2
  go_region_held3 (fun w' => w'.cell? ⟨Bx, 0, none⟩ = some (.int .i64 (n : Int)) ∧ w'.cell? ⟨Bx, 1, none⟩ = some (.slice a0 bs.length k0))
    (first | exact ⟨E0, E1⟩ | exact ⟨F0, F1⟩ | go_keep)
    (first
      | (go_at_call 65; refine (HT.out _ (by first | exact Below.refl _ _ | exact (Below.refl _ _).drew)).mono ?_; rintro e w1 ⟨u, rfl, hres, hb1⟩; have hb2 : Below w.heap.size w w1 := (by first | exact ((Below.refl _ _).drew).trans (hb1.mono (by simp)) | exact hb1); have E0 := (hb2.cell (p := ⟨Bx, 0, none⟩) hx).trans c0; have E1 := (hb2.cell (p := ⟨Bx, 1, none⟩) hx).trans c1; have HSB := Lib.hid (hres.sb HWB.out (by omega)); obtain ⟨a1, k1, hu⟩ := hres.slice; rw [hln] at hu; subst hu)
      | (go_at_call 68; refine (HA.out _ _ (by first | exact hb2 | exact hb2.drew) (by first | exact HSB.out | exact HSB.out.below ((Below.refl _ _).drew) (Nat.le_refl _))).mono ?_; rintro e w2 ⟨rfl, hb3⟩; have hB3 : Below w1.heap.size w1 w2 := (by first | exact ((Below.refl _ _).drew).trans (hb3.mono (by simp)) | exact hb3); have hx1 : Bx < w1.heap.size := Nat.lt_of_lt_of_le hx hb2.size; have F0 := (hB3.cell (p := ⟨Bx, 0, none⟩) hx1).trans E0; have F1 := (hB3.cell (p := ⟨Bx, 1, none⟩) hx1).trans E1))
  all_goals
    have hb4 : Below w.heap.size w w2 := hb2.trans (hB3.mono hb2.size)
    go_wp2
    go_ret
    exact RV_of rfl hb4
end Go.Proofs.Ytehdpgjbmnkkiaa

namespace Go.Proofs.Ytehdpgjbmnkkiaa
open Go.RowKit Go.Maps
structure Sy where
  v : Int
  s : Value
  bs : List Blk
instance : Inhabited Sy := ⟨⟨0, .int .i64 0, []⟩⟩
/-- The value is a slice of these systems. -/
def SysL (W : World) (u : Value) (T : List Sy) : Prop := T.length ≤ 1100000 ∧ ((∃ a c, u = .slice a 0 c ∧ T = []) ∨ ∃ b off cap, u = .slice (some ⟨b, off, none⟩) T.length cap ∧ b < W.heap.size ∧ T.length ≤ cap ∧ ∀ k t, T[k]? = some t → W.cell? ⟨b, off + k * 2, none⟩ = some (.int .i64 t.v) ∧ W.cell? ⟨b, off + k * 2 + 1, none⟩ = some t.s ∧ SB W t.s t.bs)
theorem SysL.below {W W' : World} {u : Value} {T : List Sy} (h : SysL W u T) {B : Nat} (hb : Below B W W') (hB : W.heap.size ≤ B) : SysL W' u T := by
  obtain ⟨hl, h | ⟨b, off, cap, rfl, hlt, hcp, hc⟩⟩ := h
  · exact ⟨hl, .inl h⟩
  · refine ⟨hl, .inr ⟨b, off, cap, rfl, Nat.lt_of_lt_of_le hlt hb.size, hcp, fun k t hk => ?_⟩⟩
    obtain ⟨h0, h1, h2⟩ := hc k t hk
    exact ⟨(hb.cell (p := ⟨b, off + k * 2, none⟩) (by simp; omega)).trans h0, (hb.cell (p := ⟨b, off + k * 2 + 1, none⟩) (by simp; omega)).trans h1, h2.below hb hB⟩
theorem SysL.slice {W : World} {u : Value} {T : List Sy} (h : SysL W u T) : ∃ a c, u = .slice a T.length c := by
  obtain ⟨_, ⟨a, c, rfl, rfl⟩ | ⟨b, off, cap, rfl, _⟩⟩ := h
  · exact ⟨a, c, rfl⟩
  · exact ⟨_, _, rfl⟩
theorem all_drop {α} {T : List α} {P : α → Bool} {k : Nat} {t : α} (h : T[k]? = some t) : (T.drop k).all P = (P t && (T.drop (k + 1)).all P) := by
  obtain ⟨hk, e⟩ := List.getElem?_eq_some_iff.1 h
  rw [List.drop_eq_getElem_cons hk, e, List.all_cons]
theorem mem_of_get {α} {T : List α} {k : Nat} {t : α} (h : T[k]? = some t) : t ∈ T := by
  obtain ⟨hk, e⟩ := List.getElem?_eq_some_iff.1 h
  exact e ▸ List.getElem_mem hk
set_option maxRecDepth 100000 in
theorem allS_is (u : Value) (T : List Sy) (P : Sy → Bool) (w : World) (h : SysL w u T)
    (hc : ∀ t ∈ T, ∀ W, Below w.heap.size w W → SB W t.s t.bs → Calls Try.prog 45 #[.agg #[.int .i64 t.v, t.s]] W (RV (.bool (P t)) W)) :
    Calls Try.prog 102 #[u, .func (.func 45) #[] #[]] w (RV (.bool (T.all P)) w) := by
  have HI := Lib.hid hc
  have hl := h.1
  have HS := Lib.hid h
  obtain ⟨a, c, rfl⟩ := h.slice
  clear h hc
  go_enter Try.func102, Try.ntmps102
  go_wp2
  go_loopw [9] (fun i wr => ∃ k : Nat, k ≤ T.length ∧ i = .int .i64 k ∧ Below w.heap.size w wr ∧ Hid (T.all P = (T.drop k).all P)) (fun i _ => T.length - (intOf i).toNat)
  case atStart => exact ⟨0, Nat.zero_le _, rfl, Below.refl _ _, Lib.hid rfl⟩
  case round =>
    obtain ⟨k, hk, rfl, hB, HE⟩ := hrel
    have hz := hB.size
    by_cases hkl : k < T.length
    · rcases HS.out.2 with ⟨_, _, _, hnil⟩ | ⟨b, off, cap, hval, hblt, _, hbl⟩
      · rw [hnil] at hkl; simp at hkl
      · simp at hval
        obtain ⟨rfl, rfl⟩ := hval
        obtain ⟨t, ht⟩ : ∃ t, T[k]? = some t := ⟨_, List.getElem?_eq_getElem hkl⟩
        obtain ⟨z0, z1, z2⟩ := hbl k t ht
        have z0 := (hB.cell (p := ⟨b, off + k * 2, none⟩) hblt).trans z0
        have z1 := (hB.cell (p := ⟨b, off + k * 2 + 1, none⟩) hblt).trans z1
        have he := HE.out
        rw [all_drop ht] at he
        obtain ⟨β, hβ⟩ : ∃ β, β = P t := ⟨_, rfl⟩
        have HC := Lib.hid fun W (hb : Below w.heap.size w W) => HI.out t (mem_of_get ht) W hb (z2.below hb (Nat.le_refl _))
        simp only [← hβ] at HC he
        have HE2 := Lib.hid he
        obtain ⟨tv, ts, tbs⟩ := t
        dsimp only at HC z0 z1
        obtain ⟨a2, c2, hts⟩ := z2.slice
        dsimp only at hts
        subst hts
        have g0 : (0 : Int) ≤ (k : Int) := by omega
        have g1 : (k : Int) < (T.length : Int) := by omega
        clear he hβ ht hbl HE z2
        cases β with
        | false =>
          go_wp2_with fail
          refine (HC.out _ (hB.alloc hz _)).mono ?_
          rintro e w1 ⟨rfl, hb1⟩
          have hb2 := hB.trans ((below_new hb1).mono hz)
          go_wp2
          go_ret
          exact RV_of (by rw [HE2.out]; rfl) hb2
        | true =>
          go_wp2_with fail
          refine (HC.out _ (hB.alloc hz _)).mono ?_
          rintro e w1 ⟨rfl, hb1⟩
          have hb2 := hB.trans ((below_new hb1).mono hz)
          go_wp2
          go_roundw
          case rel => exact ⟨k + 1, by omega, by go_num, hb2, Lib.hid (by rw [HE2.out]; rfl)⟩
          case measure => simp [intOf]; omega
    · have e : k = T.length := by omega
      subst e
      have he := HE.out
      rw [List.drop_length] at he
      have HE2 := Lib.hid he
      clear he HE
      go_wp2
      go_ret
      exact RV_of (by rw [HE2.out]; rfl) hB
set_option maxRecDepth 100000 in
theorem allS_same (p : Nat) (u : Value) (T : List Sy) (P : Sy → Bool) (w : World) (h : SysL w u T)
    (hc : ∀ t ∈ T, ∀ W, Below w.heap.size w W → SB W t.s t.bs → Calls Try.prog 103 #[.agg #[.int .i64 t.v, t.s], .pointer (some ⟨p, 0, none⟩)] W (RV (.bool (P t)) W)) :
    Calls Try.prog 102 #[u, .func (.func 103) #[] #[.pointer (some ⟨p, 0, none⟩)]] w (RV (.bool (T.all P)) w) := by
  have HI := Lib.hid hc
  have hl := h.1
  have HS := Lib.hid h
  obtain ⟨a, c, rfl⟩ := h.slice
  clear h hc
  go_enter Try.func102, Try.ntmps102
  go_wp2
  go_loopw [9] (fun i wr => ∃ k : Nat, k ≤ T.length ∧ i = .int .i64 k ∧ Below w.heap.size w wr ∧ Hid (T.all P = (T.drop k).all P)) (fun i _ => T.length - (intOf i).toNat)
  case atStart => exact ⟨0, Nat.zero_le _, rfl, Below.refl _ _, Lib.hid rfl⟩
  case round =>
    obtain ⟨k, hk, rfl, hB, HE⟩ := hrel
    have hz := hB.size
    by_cases hkl : k < T.length
    · rcases HS.out.2 with ⟨_, _, _, hnil⟩ | ⟨b, off, cap, hval, hblt, _, hbl⟩
      · rw [hnil] at hkl; simp at hkl
      · simp at hval
        obtain ⟨rfl, rfl⟩ := hval
        obtain ⟨t, ht⟩ : ∃ t, T[k]? = some t := ⟨_, List.getElem?_eq_getElem hkl⟩
        obtain ⟨z0, z1, z2⟩ := hbl k t ht
        have z0 := (hB.cell (p := ⟨b, off + k * 2, none⟩) hblt).trans z0
        have z1 := (hB.cell (p := ⟨b, off + k * 2 + 1, none⟩) hblt).trans z1
        have he := HE.out
        rw [all_drop ht] at he
        obtain ⟨β, hβ⟩ : ∃ β, β = P t := ⟨_, rfl⟩
        have HC := Lib.hid fun W (hb : Below w.heap.size w W) => HI.out t (mem_of_get ht) W hb (z2.below hb (Nat.le_refl _))
        simp only [← hβ] at HC he
        have HE2 := Lib.hid he
        obtain ⟨tv, ts, tbs⟩ := t
        dsimp only at HC z0 z1
        obtain ⟨a2, c2, hts⟩ := z2.slice
        dsimp only at hts
        subst hts
        have g0 : (0 : Int) ≤ (k : Int) := by omega
        have g1 : (k : Int) < (T.length : Int) := by omega
        clear he hβ ht hbl HE z2
        cases β with
        | false =>
          go_wp2_with fail
          refine (HC.out _ (hB.alloc hz _)).mono ?_
          rintro e w1 ⟨rfl, hb1⟩
          have hb2 := hB.trans ((below_new hb1).mono hz)
          go_wp2
          go_ret
          exact RV_of (by rw [HE2.out]; rfl) hb2
        | true =>
          go_wp2_with fail
          refine (HC.out _ (hB.alloc hz _)).mono ?_
          rintro e w1 ⟨rfl, hb1⟩
          have hb2 := hB.trans ((below_new hb1).mono hz)
          go_wp2
          go_roundw
          case rel => exact ⟨k + 1, by omega, by go_num, hb2, Lib.hid (by rw [HE2.out]; rfl)⟩
          case measure => simp [intOf]; omega
    · have e : k = T.length := by omega
      subst e
      have he := HE.out
      rw [List.drop_length] at he
      have HE2 := Lib.hid he
      clear he HE
      go_wp2
      go_ret
      exact RV_of (by rw [HE2.out]; rfl) hB
set_option maxRecDepth 100000 in
theorem allS_apart (p : Nat) (u : Value) (T : List Sy) (P : Sy → Bool) (w : World) (h : SysL w u T)
    (hc : ∀ t ∈ T, ∀ W, Below w.heap.size w W → SB W t.s t.bs → Calls Try.prog 104 #[.agg #[.int .i64 t.v, t.s], .pointer (some ⟨p, 0, none⟩)] W (RV (.bool (P t)) W)) :
    Calls Try.prog 102 #[u, .func (.func 104) #[] #[.pointer (some ⟨p, 0, none⟩)]] w (RV (.bool (T.all P)) w) := by
  have HI := Lib.hid hc
  have hl := h.1
  have HS := Lib.hid h
  obtain ⟨a, c, rfl⟩ := h.slice
  clear h hc
  go_enter Try.func102, Try.ntmps102
  go_wp2
  go_loopw [9] (fun i wr => ∃ k : Nat, k ≤ T.length ∧ i = .int .i64 k ∧ Below w.heap.size w wr ∧ Hid (T.all P = (T.drop k).all P)) (fun i _ => T.length - (intOf i).toNat)
  case atStart => exact ⟨0, Nat.zero_le _, rfl, Below.refl _ _, Lib.hid rfl⟩
  case round =>
    obtain ⟨k, hk, rfl, hB, HE⟩ := hrel
    have hz := hB.size
    by_cases hkl : k < T.length
    · rcases HS.out.2 with ⟨_, _, _, hnil⟩ | ⟨b, off, cap, hval, hblt, _, hbl⟩
      · rw [hnil] at hkl; simp at hkl
      · simp at hval
        obtain ⟨rfl, rfl⟩ := hval
        obtain ⟨t, ht⟩ : ∃ t, T[k]? = some t := ⟨_, List.getElem?_eq_getElem hkl⟩
        obtain ⟨z0, z1, z2⟩ := hbl k t ht
        have z0 := (hB.cell (p := ⟨b, off + k * 2, none⟩) hblt).trans z0
        have z1 := (hB.cell (p := ⟨b, off + k * 2 + 1, none⟩) hblt).trans z1
        have he := HE.out
        rw [all_drop ht] at he
        obtain ⟨β, hβ⟩ : ∃ β, β = P t := ⟨_, rfl⟩
        have HC := Lib.hid fun W (hb : Below w.heap.size w W) => HI.out t (mem_of_get ht) W hb (z2.below hb (Nat.le_refl _))
        simp only [← hβ] at HC he
        have HE2 := Lib.hid he
        obtain ⟨tv, ts, tbs⟩ := t
        dsimp only at HC z0 z1
        obtain ⟨a2, c2, hts⟩ := z2.slice
        dsimp only at hts
        subst hts
        have g0 : (0 : Int) ≤ (k : Int) := by omega
        have g1 : (k : Int) < (T.length : Int) := by omega
        clear he hβ ht hbl HE z2
        cases β with
        | false =>
          go_wp2_with fail
          refine (HC.out _ (hB.alloc hz _)).mono ?_
          rintro e w1 ⟨rfl, hb1⟩
          have hb2 := hB.trans ((below_new hb1).mono hz)
          go_wp2
          go_ret
          exact RV_of (by rw [HE2.out]; rfl) hb2
        | true =>
          go_wp2_with fail
          refine (HC.out _ (hB.alloc hz _)).mono ?_
          rintro e w1 ⟨rfl, hb1⟩
          have hb2 := hB.trans ((below_new hb1).mono hz)
          go_wp2
          go_roundw
          case rel => exact ⟨k + 1, by omega, by go_num, hb2, Lib.hid (by rw [HE2.out]; rfl)⟩
          case measure => simp [intOf]; omega
    · have e : k = T.length := by omega
      subst e
      have he := HE.out
      rw [List.drop_length] at he
      have HE2 := Lib.hid he
      clear he HE
      go_wp2
      go_ret
      exact RV_of (by rw [HE2.out]; rfl) hB
set_option maxRecDepth 100000 in
theorem allS_nine (u : Value) (T : List Sy) (P : Sy → Bool) (w : World) (h : SysL w u T)
    (hc : ∀ t ∈ T, ∀ W, Below w.heap.size w W → SB W t.s t.bs → Calls Try.prog 143 #[.agg #[.int .i64 t.v, t.s]] W (RV (.bool (P t)) W)) :
    Calls Try.prog 102 #[u, .func (.func 143) #[] #[]] w (RV (.bool (T.all P)) w) := by
  have HI := Lib.hid hc
  have hl := h.1
  have HS := Lib.hid h
  obtain ⟨a, c, rfl⟩ := h.slice
  clear h hc
  go_enter Try.func102, Try.ntmps102
  go_wp2
  go_loopw [9] (fun i wr => ∃ k : Nat, k ≤ T.length ∧ i = .int .i64 k ∧ Below w.heap.size w wr ∧ Hid (T.all P = (T.drop k).all P)) (fun i _ => T.length - (intOf i).toNat)
  case atStart => exact ⟨0, Nat.zero_le _, rfl, Below.refl _ _, Lib.hid rfl⟩
  case round =>
    obtain ⟨k, hk, rfl, hB, HE⟩ := hrel
    have hz := hB.size
    by_cases hkl : k < T.length
    · rcases HS.out.2 with ⟨_, _, _, hnil⟩ | ⟨b, off, cap, hval, hblt, _, hbl⟩
      · rw [hnil] at hkl; simp at hkl
      · simp at hval
        obtain ⟨rfl, rfl⟩ := hval
        obtain ⟨t, ht⟩ : ∃ t, T[k]? = some t := ⟨_, List.getElem?_eq_getElem hkl⟩
        obtain ⟨z0, z1, z2⟩ := hbl k t ht
        have z0 := (hB.cell (p := ⟨b, off + k * 2, none⟩) hblt).trans z0
        have z1 := (hB.cell (p := ⟨b, off + k * 2 + 1, none⟩) hblt).trans z1
        have he := HE.out
        rw [all_drop ht] at he
        obtain ⟨β, hβ⟩ : ∃ β, β = P t := ⟨_, rfl⟩
        have HC := Lib.hid fun W (hb : Below w.heap.size w W) => HI.out t (mem_of_get ht) W hb (z2.below hb (Nat.le_refl _))
        simp only [← hβ] at HC he
        have HE2 := Lib.hid he
        obtain ⟨tv, ts, tbs⟩ := t
        dsimp only at HC z0 z1
        obtain ⟨a2, c2, hts⟩ := z2.slice
        dsimp only at hts
        subst hts
        have g0 : (0 : Int) ≤ (k : Int) := by omega
        have g1 : (k : Int) < (T.length : Int) := by omega
        clear he hβ ht hbl HE z2
        cases β with
        | false =>
          go_wp2_with fail
          refine (HC.out _ (hB.alloc hz _)).mono ?_
          rintro e w1 ⟨rfl, hb1⟩
          have hb2 := hB.trans ((below_new hb1).mono hz)
          go_wp2
          go_ret
          exact RV_of (by rw [HE2.out]; rfl) hb2
        | true =>
          go_wp2_with fail
          refine (HC.out _ (hB.alloc hz _)).mono ?_
          rintro e w1 ⟨rfl, hb1⟩
          have hb2 := hB.trans ((below_new hb1).mono hz)
          go_wp2
          go_roundw
          case rel => exact ⟨k + 1, by omega, by go_num, hb2, Lib.hid (by rw [HE2.out]; rfl)⟩
          case measure => simp [intOf]; omega
    · have e : k = T.length := by omega
      subst e
      have he := HE.out
      rw [List.drop_length] at he
      have HE2 := Lib.hid he
      clear he HE
      go_wp2
      go_ret
      exact RV_of (by rw [HE2.out]; rfl) hB
end Go.Proofs.Ytehdpgjbmnkkiaa

namespace Go.Proofs.Ytehdpgjbmnkkiaa
open Go.RowKit Go.Maps
set_option maxRecDepth 100000 in
theorem same1_any (p b off cap n : Nat) (v v0 : Int) (s : Value) (w : World) (hn : 0 < n) (c0 : w.cell? ⟨p, 0, none⟩ = some (.slice (some ⟨b, off, none⟩) n cap)) (c1 : w.cell? ⟨b, off, none⟩ = some (.int .i64 v0)) (hp : p < w.heap.size) (hb : b < w.heap.size) :
    Calls Try.prog 103 #[.agg #[.int .i64 v, s], .pointer (some ⟨p, 0, none⟩)] w (RV (.bool (decide (v = v0))) w) := by
  have g1 : (0 : Int) < (n : Int) := by omega
  have hB0 : Below w.heap.size w (w.alloc (.cells #[.int .i64 v, s] 31)) := (Below.refl _ _).alloc (Nat.le_refl _) _
  have HB0 := Lib.hid hB0
  have d0 := (hB0.cell (p := ⟨p, 0, none⟩) hp).trans c0
  have d1 := (hB0.cell (p := ⟨b, off, none⟩) hb).trans c1
  have d2 : (w.alloc (.cells #[.int .i64 v, s] 31)).cell? ⟨w.heap.size, 0, none⟩ = some (.int .i64 v) := by simp [go_sem]
  clear hB0 c0 c1
  go_enter Try.func103, Try.ntmps103
  go_wp2
  obtain ⟨W, hW⟩ : ∃ W, W = w.alloc (.cells #[.int .i64 v, s] 31) := ⟨_, rfl⟩
  rw [← hW] at HB0 d0 d1 d2 ⊢
  clear hW
  go_quiet (fail)
  go_wp2
  go_ret
  exact RV_of (bool_eq (by rw [Bool.eq_iff_iff]; simp)) (below_drewN HB0.out _)
set_option maxRecDepth 100000 in
theorem apart1_any (p : Nat) (v0 : Int) (s0 : Value) (xs : List Blk) (v : Int) (s : Value) (ys : List Blk) (w : World) (hp : p < w.heap.size) (c0 : w.cell? ⟨p, 0, none⟩ = some (.int .i64 v0)) (c1 : w.cell? ⟨p, 1, none⟩ = some s0) (h0 : SB w s0 xs) (h : SB w s ys) :
    Calls Try.prog 104 #[.agg #[.int .i64 v, s], .pointer (some ⟨p, 0, none⟩)] w (RV (.bool (apartB xs ys)) w) := by
  have hB0 : Below w.heap.size w (w.alloc (.cells #[.int .i64 v, s] 31)) := (Below.refl _ _).alloc (Nat.le_refl _) _
  have HC := Lib.hid (areApart_any v0 s0 xs v s ys _ (h0.below hB0 (Nat.le_refl _)) (h.below hB0 (Nat.le_refl _)))
  obtain ⟨a0, k0, rfl⟩ := h0.slice
  obtain ⟨a1, k1, rfl⟩ := h.slice
  have d0 := (hB0.cell (p := ⟨p, 0, none⟩) hp).trans c0
  have d1 := (hB0.cell (p := ⟨p, 1, none⟩) hp).trans c1
  obtain ⟨β, hβ⟩ : ∃ β, β = apartB xs ys := ⟨_, rfl⟩
  rw [← hβ] at HC ⊢
  clear hB0 c0 c1 hβ h0 h
  go_enter Try.func104, Try.ntmps104
  go_wp2_with fail
  refine HC.out.mono ?_
  rintro e w1 ⟨rfl, hb1⟩
  have hb2 := below_new hb1
  go_wp2
  go_ret
  exact RV_of rfl hb2
theorem run_slice_sys (b off n cap j : Nat) (h1 : j ≤ n) (h2 : n ≤ cap) : ∃ x, (∀ W : World, (Instr.slice 75 (.slice (some ⟨b, off, none⟩) n cap) (some (.int .i64 (j : Int))) none none).run Try.prog W = .ok x W) ∧ ∀ (W : World) (T : List Sy), T.length = n → SysL W (.slice (some ⟨b, off, none⟩) n cap) T → SysL W x (T.drop j) := by
  have hj0 : (0 : Int) ≤ (j : Int) := by omega
  have hj1 : (j : Int) ≤ (n : Int) := by omega
  by_cases hc : j = cap
  · refine ⟨.slice (some ⟨b, off, none⟩) 0 0, fun W => ?_, fun W T e h => ⟨by have := h.1; simp; omega, .inl ⟨_, _, rfl, List.drop_eq_nil_of_le (by omega)⟩⟩⟩
    have e1 : n = j := by omega
    subst e1
    subst hc
    simp [Instr.slice, Instr.sliceBounds, Instr.sliceBound, run_underlying Try.underlying75, go_sem, hj0]
  · refine ⟨.slice (some ⟨b, off + j * 2, none⟩) (n - j) (cap - j), fun W => ?_, fun W T e h => ⟨by have := h.1; simp; omega, ?_⟩⟩
    · have hc' : ¬ cap = j := fun e => hc e.symm
      simp [Instr.slice, Instr.sliceBounds, Instr.sliceBound, run_underlying Try.underlying75, go_sem, hj0, h1, hc', addr_at]
    · obtain ⟨_, ⟨a, c, hv, hT⟩ | ⟨b', off', cap', hv, hlt, hcp, hcl⟩⟩ := h
      · simp at hv
        exact .inl ⟨_, _, by rw [show n - j = 0 by omega], by rw [hT]; simp⟩
      · simp at hv
        obtain ⟨⟨rfl, rfl⟩, _, rfl⟩ := hv
        refine .inr ⟨b, off + j * 2, cap - j, by rw [List.length_drop, e], hlt, by rw [List.length_drop]; omega, fun k t hk => ?_⟩
        rw [List.getElem?_drop] at hk
        obtain ⟨q0, q1, q2⟩ := hcl _ _ hk
        rw [show off + j * 2 + k * 2 = off + (j + k) * 2 by omega]
        exact ⟨q0, q1, q2⟩
/-- Are any two systems of a list apart? -/
def apartL : List Sy → Bool
  | [] => true
  | t :: r => r.all (fun u => apartB t.bs u.bs) && apartL r
theorem apartL_drop {T : List Sy} {k : Nat} {t : Sy} (h : T[k]? = some t) : apartL (T.drop k) = ((T.drop (k + 1)).all (fun u => apartB t.bs u.bs) && apartL (T.drop (k + 1))) := by
  obtain ⟨hk, e⟩ := List.getElem?_eq_some_iff.1 h
  rw [List.drop_eq_getElem_cons hk, e]
  rfl
set_option maxRecDepth 100000 in
theorem listApart_any (u : Value) (T : List Sy) (w : World) (h : SysL w u T) :
    Calls Try.prog 61 #[u] w (RV (.bool (apartL T)) w) := by
  have hl := h.1
  have HS := Lib.hid h
  have hmf : ∀ (fn : Fn) (first cap : Array Value) (w : World), (Instr.makeFunc fn first cap).run Try.prog w = .ok (.func fn first cap) w := fun _ _ _ _ => rfl
  obtain ⟨a, c, rfl⟩ := h.slice
  clear h
  go_enter Try.func61, Try.ntmps61
  go_wp2
  go_loopw [7] (fun i wr => ∃ k : Nat, k ≤ T.length ∧ i = .int .i64 k ∧ Below w.heap.size w wr ∧ Hid (apartL T = apartL (T.drop k))) (fun i _ => T.length - (intOf i).toNat)
  case atStart => exact ⟨0, Nat.zero_le _, rfl, Below.refl _ _, Lib.hid rfl⟩
  case round =>
    obtain ⟨k, hk, rfl, hB, HE⟩ := hrel
    have hz := hB.size
    by_cases hkl : k < T.length
    · have HW := HS.out.below hB (Nat.le_refl _)
      have HW2 := Lib.hid HW
      rcases HW.2 with ⟨_, _, _, hnil⟩ | ⟨b, off, cap, hval, hblt, hcap, hbl⟩
      · rw [hnil] at hkl; simp at hkl
      · simp at hval
        obtain ⟨rfl, rfl⟩ := hval
        obtain ⟨t, ht⟩ : ∃ t, T[k]? = some t := ⟨_, List.getElem?_eq_getElem hkl⟩
        obtain ⟨z0, z1, z2⟩ := hbl k t ht
        obtain ⟨x, hx1, hx2⟩ := run_slice_sys b off T.length c (k + 1) hkl hcap
        rw [show ((k + 1 : Nat) : Int) = (k : Int) + 1 by omega] at hx1
        have HX2 := Lib.hid hx2
        have hwr : IntKind.i64.wrap ((k : Int) + 1) = (k : Int) + 1 := IntWalk.i64_in _ (by omega)
        have he := HE.out
        rw [apartL_drop ht] at he
        obtain ⟨β, hβ⟩ : ∃ β, β = (T.drop (k + 1)).all (fun u => apartB t.bs u.bs) := ⟨_, rfl⟩
        have HZ2 := Lib.hid z2
        have HC := Lib.hid fun p W (hb : Below wr.heap.size wr W) (hp : p < W.heap.size) (c0 : W.cell? ⟨p, 0, none⟩ = some (.int .i64 t.v)) (c1 : W.cell? ⟨p, 1, none⟩ = some t.s) => allS_apart p x (T.drop (k + 1)) (fun u => apartB t.bs u.bs) W (hx2 W T rfl (HW.below hb (Nat.le_refl _)))
          fun u hu W' hb' hsu => apart1_any p t.v t.s t.bs u.v u.s u.bs W' (Nat.lt_of_lt_of_le hp hb'.size) ((hb'.cell hp).trans c0) ((hb'.cell hp).trans c1) ((z2.below hb (Nat.le_refl _)).below hb' (Nat.le_refl _)) hsu
        simp only [← hβ] at HC he
        have HE2 := Lib.hid he
        obtain ⟨tv, ts, tbs⟩ := t
        dsimp only at HC z0 z1
        obtain ⟨a2, c2, hts⟩ := z2.slice
        dsimp only at hts
        subst hts
        have g0 : (0 : Int) ≤ (k : Int) := by omega
        have g1 : (k : Int) < (T.length : Int) := by omega
        clear he hβ ht hbl HE z2 HW
        cases β with
        | false =>
          go_wp2_with fail
          refine (HC.out _ _ ((Below.refl _ _).alloc (Nat.le_refl _) _) (by simp) (by simp [go_sem]) (by simp [go_sem])).mono ?_
          rintro e w1 ⟨rfl, hb1⟩
          have hb2 := hB.trans ((below_new hb1).mono hz)
          go_wp2
          go_ret
          exact RV_of (by rw [HE2.out]; rfl) hb2
        | true =>
          go_wp2_with fail
          refine (HC.out _ _ ((Below.refl _ _).alloc (Nat.le_refl _) _) (by simp) (by simp [go_sem]) (by simp [go_sem])).mono ?_
          rintro e w1 ⟨rfl, hb1⟩
          have hb2 := hB.trans ((below_new hb1).mono hz)
          go_wp2
          go_roundw
          case rel => exact ⟨k + 1, by omega, by go_num, hb2, Lib.hid (by rw [HE2.out]; rfl)⟩
          case measure => simp [intOf]; omega
    · have e : k = T.length := by omega
      subst e
      have he := HE.out
      rw [List.drop_length] at he
      have HE2 := Lib.hid he
      clear he HE
      go_wp2
      go_ret
      exact RV_of (by rw [HE2.out]; rfl) hB
set_option maxRecDepth 100000 in
theorem areSystems_any (u : Value) (T : List Sy) (w : World) (h : SysL w u T) :
    Calls Try.prog 72 #[u] w (RV (.bool (T.all fun t => isSysImpl t.v t.bs)) w) := by
  have HC := Lib.hid (allS_is u T (fun t => isSysImpl t.v t.bs) w h fun t _ W _ hs => IsSystem_any t.v t.s t.bs W hs)
  obtain ⟨β, hβ⟩ : ∃ β, β = T.all fun t => isSysImpl t.v t.bs := ⟨_, rfl⟩
  rw [← hβ] at HC ⊢
  obtain ⟨a, c, rfl⟩ := h.slice
  clear h hβ
  go_enter Try.func72, Try.ntmps72
  go_wp2_with fail
  refine HC.out.mono ?_
  rintro e w1 ⟨rfl, hb1⟩
  go_wp2
  go_ret
  exact RV_of rfl hb1
set_option maxRecDepth 100000 in
theorem samePoints_any (u : Value) (T : List Sy) (t0 : Sy) (w : World) (h : SysL w u T) (h0 : T[0]? = some t0) :
    Calls Try.prog 60 #[u] w (RV (.bool (T.all fun t => decide (t.v = t0.v))) w) := by
  have hmf : ∀ (fn : Fn) (first cap : Array Value) (w : World), (Instr.makeFunc fn first cap).run Try.prog w = .ok (.func fn first cap) w := fun _ _ _ _ => rfl
  have HC := Lib.hid fun p W (hb : Below w.heap.size w W) (hp : p < W.heap.size) (c0 : W.cell? ⟨p, 0, none⟩ = some u) => allS_same p u T (fun t => decide (t.v = t0.v)) W (h.below hb (Nat.le_refl _)) fun t _ W' hb' _ => by
    have h1 := (h.below hb (Nat.le_refl _)).below hb' (Nat.le_refl _)
    have d0 := (hb'.cell (p := ⟨p, 0, none⟩) hp).trans c0
    rcases h1.2 with ⟨_, _, _, hnil⟩ | ⟨b, off, cap, hval, hblt, _, hbl⟩
    · rw [hnil] at h0; simp at h0
    · rw [hval] at d0
      obtain ⟨z0, _, _⟩ := hbl 0 t0 h0
      exact same1_any p b off cap T.length t.v t0.v t.s W' (by cases T with | nil => simp at h0 | cons _ _ => simp) d0 (by simpa using z0) (Nat.lt_of_lt_of_le hp hb'.size) hblt
  obtain ⟨β, hβ⟩ : ∃ β, β = T.all fun t => decide (t.v = t0.v) := ⟨_, rfl⟩
  simp only [← hβ] at HC
  rw [← hβ]
  obtain ⟨a, c, rfl⟩ := h.slice
  clear h hβ h0
  go_enter Try.func60, Try.ntmps60
  go_wp2_with fail
  refine (HC.out _ _ ((Below.refl _ _).alloc (Nat.le_refl _) _) (by simp) (by simp [go_sem])).mono ?_
  rintro e w1 ⟨rfl, hb1⟩
  have hb2 := below_new hb1
  go_wp2
  go_ret
  exact RV_of rfl hb2
end Go.Proofs.Ytehdpgjbmnkkiaa

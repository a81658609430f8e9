
/- Sets of blocks that are closures: what they answer, and how one more block comes in. areDisjoint of the program. Plain facts on squares. Plain facts on the points of blocks. Plain facts on difference families. impl.isDifferenceTriple, differencesOf; spec.l02Triple. spec.l02Triple, the first cases. spec.l02Triple, the other cases. Masks: plain. Masks of small numbers. Squares and masks: plain. Masks of points of blocks: plain. Masks of disjoint blocks: plain. -/
import Derived.Test.YtahgialnhomefaaJ9
import Derived.Outline
import Derived.Lib.SlicesCompact
import Derived.Deep.QuietTactic
import Derived.BigQuiet
import Derived.Laws.BitsLemmas
import Derived.IntWalk
namespace Go.Proofs.Ytahgialnhomefaa
open Go.RowKit Go.Maps
/-- Have two blocks a point in common? -/
def touch (x y : Blk) : Bool := (comP x y).isSome
/-- The value is a closure over the blocks of a list, the last one that came in first. -/
inductive MeetV (W : World) : Value → List Blk → Prop
  | nil : MeetV W (.func (.func 109) #[] #[]) []
  | cons {pc pm : Nat} {m : Value} {c : Blk} {L : List Blk} (hc : pc < W.heap.size) (hm : pm < W.heap.size) (c0 : W.cell? ⟨pc, 0, none⟩ = some (.int .i64 c.a)) (c1 : W.cell? ⟨pc, 1, none⟩ = some (.int .i64 c.b)) (c2 : W.cell? ⟨pc, 2, none⟩ = some (.int .i64 c.c)) (m0 : W.cell? ⟨pm, 0, none⟩ = some m) (h : MeetV W m L) :
      MeetV W (.func (.func 126) #[] #[.pointer (some ⟨pc, 0, none⟩), .pointer (some ⟨pm, 0, none⟩)]) (c :: L)
theorem MeetV.later {W W' : World} {m : Value} {L : List Blk} (h : MeetV W m L) {B : Nat} (hb : Below B W W') (hB : W.heap.size ≤ B) : MeetV W' m L := by
  induction h with
  | nil => exact .nil
  | cons hc hm c0 c1 c2 m0 _ ih =>
    exact .cons (Nat.lt_of_lt_of_le hc hb.size) (Nat.lt_of_lt_of_le hm hb.size) ((hb.cell (Nat.lt_of_lt_of_le hc hB)).trans c0) ((hb.cell (Nat.lt_of_lt_of_le hc hB)).trans c1) ((hb.cell (Nat.lt_of_lt_of_le hc hB)).trans c2) ((hb.cell (Nat.lt_of_lt_of_le hm hB)).trans m0) ih
theorem noBlocks_any (b : Blk) (w : World) : Calls Try.prog 109 #[bv b] w (RV (.bool false) w) := by
  obtain ⟨b0, b1, b2⟩ := b
  unfold bv
  dsimp only
  go_enter Try.func109, Try.ntmps109
  go_wp2
  go_ret
  exact ⟨rfl, (Below.refl _ _).alloc (Nat.le_refl _) _⟩
set_option maxRecDepth 100000 in
theorem with1_any : ∀ (L : List Blk) (c b : Blk) (pc pm : Nat) (m : Value) (w : World) (_ : pc < w.heap.size) (_ : pm < w.heap.size) (_ : w.cell? ⟨pc, 0, none⟩ = some (.int .i64 c.a)) (_ : w.cell? ⟨pc, 1, none⟩ = some (.int .i64 c.b)) (_ : w.cell? ⟨pc, 2, none⟩ = some (.int .i64 c.c)) (_ : w.cell? ⟨pm, 0, none⟩ = some m) (_ : MeetV w m L),
    Calls Try.prog 126 #[bv b, .pointer (some ⟨pc, 0, none⟩), .pointer (some ⟨pm, 0, none⟩)] w (RV (.bool (touch b c || L.any (touch b))) w) := by
  intro L
  induction L with
  | nil =>
    intro c b pc pm m w hpc hpm c0 c1 c2 m0 hm
    cases hm
    have HP := Lib.hid fun W => commonPoint_any b c W
    have HN := Lib.hid fun W => noBlocks_any b W
    obtain ⟨β, hβ⟩ : ∃ β, β = touch b c := ⟨_, rfl⟩
    have HE := Lib.hid hβ
    rw [show (comP b c).isSome = β by rw [hβ]; rfl] at HP
    clear hβ
    obtain ⟨b0, b1, b2⟩ := b
    obtain ⟨x0, x1, x2⟩ := c
    unfold bv at HP HN ⊢
    dsimp only at HP HN c0 c1 c2 ⊢
    cases β with
    | true =>
      go_enter Try.func126, Try.ntmps126
      go_wp2_with fail
      refine (HP.out _).mono ?_
      rintro e w1 ⟨rfl, hb1⟩
      have hb2 := below_new hb1
      go_wp2
      go_ret
      exact ⟨by rw [← HE.out]; rfl, hb2⟩
    | false =>
      go_enter Try.func126, Try.ntmps126
      go_wp2_with fail
      refine (HP.out _).mono ?_
      rintro e w1 ⟨rfl, hb1⟩
      have hb2 := below_new hb1
      have d0 := (hb1.cell (p := ⟨w.heap.size, 0, none⟩) (by simp)).trans (by simp [go_sem] : _ = some (Value.int .i64 b0))
      have d1 := (hb1.cell (p := ⟨w.heap.size, 1, none⟩) (by simp)).trans (by simp [go_sem] : _ = some (Value.int .i64 b1))
      have d2 := (hb1.cell (p := ⟨w.heap.size, 2, none⟩) (by simp)).trans (by simp [go_sem] : _ = some (Value.int .i64 b2))
      have e0 := (hb2.cell (p := ⟨pm, 0, none⟩) hpm).trans m0
      clear hb1
      go_wp2_with fail
      refine (HN.out _).mono ?_
      rintro e w2 ⟨rfl, hb3⟩
      have hz := hb2.size
      go_wp2
      go_ret
      exact ⟨by rw [← HE.out]; rfl, hb2.trans (hb3.mono hz)⟩
  | cons y L ih =>
    intro c b pc pm m w hpc hpm c0 c1 c2 m0 hm
    cases hm with
    | cons hqc hqm q0 q1 q2 k0 hk =>
    have HP := Lib.hid fun W => commonPoint_any b c W
    have HN := Lib.hid fun W (hb : Below w.heap.size w W) => ih y b _ _ _ W (Nat.lt_of_lt_of_le hqc hb.size) (Nat.lt_of_lt_of_le hqm hb.size) ((hb.cell hqc).trans q0) ((hb.cell hqc).trans q1) ((hb.cell hqc).trans q2) ((hb.cell hqm).trans k0) (hk.later hb (Nat.le_refl _))
    obtain ⟨β, hβ⟩ : ∃ β, β = touch b c := ⟨_, rfl⟩
    have HE := Lib.hid hβ
    rw [show (comP b c).isSome = β by rw [hβ]; rfl] at HP
    clear hβ ih q0 q1 q2 k0 hk hqc hqm
    obtain ⟨μ, hμ⟩ : ∃ μ, μ = (touch b y || L.any (touch b)) := ⟨_, rfl⟩
    have HM := Lib.hid hμ
    rw [← hμ] at HN
    clear hμ
    obtain ⟨b0, b1, b2⟩ := b
    obtain ⟨x0, x1, x2⟩ := c
    unfold bv at HP HN ⊢
    dsimp only at HP HN c0 c1 c2 ⊢
    cases β with
    | true =>
      go_enter Try.func126, Try.ntmps126
      go_wp2_with fail
      refine (HP.out _).mono ?_
      rintro e w1 ⟨rfl, hb1⟩
      have hb2 := below_new hb1
      go_wp2
      go_ret
      exact ⟨by rw [← HE.out]; rfl, hb2⟩
    | false =>
      go_enter Try.func126, Try.ntmps126
      go_wp2_with fail
      refine (HP.out _).mono ?_
      rintro e w1 ⟨rfl, hb1⟩
      have hb2 := below_new hb1
      have d0 := (hb1.cell (p := ⟨w.heap.size, 0, none⟩) (by simp)).trans (by simp [go_sem] : _ = some (Value.int .i64 b0))
      have d1 := (hb1.cell (p := ⟨w.heap.size, 1, none⟩) (by simp)).trans (by simp [go_sem] : _ = some (Value.int .i64 b1))
      have d2 := (hb1.cell (p := ⟨w.heap.size, 2, none⟩) (by simp)).trans (by simp [go_sem] : _ = some (Value.int .i64 b2))
      have e0 := (hb2.cell (p := ⟨pm, 0, none⟩) hpm).trans m0
      clear hb1
      go_wp2_with fail
      refine (HN.out _ hb2).mono ?_
      rintro e w2 ⟨rfl, hb3⟩
      have hz := hb2.size
      go_wp2
      go_ret
      exact ⟨by rw [List.any_cons, ← HE.out, ← HM.out]; rfl, hb2.trans (hb3.mono hz)⟩
/-- A set of blocks, asked. -/
theorem MeetV.call {W : World} {m : Value} {L : List Blk} (h : MeetV W m L) : ∃ f caps, m = .func (.func f) #[] caps ∧ ∀ (b : Blk) (w : World) (_ : Below W.heap.size W w), Calls Try.prog f (#[bv b] ++ caps) w (RV (.bool (L.any (touch b))) w) := by
  cases h with
  | nil => exact ⟨_, _, rfl, fun b w _ => noBlocks_any b w⟩
  | cons hc hm c0 c1 c2 m0 h =>
    exact ⟨_, _, rfl, fun b w hb => with1_any _ _ b _ _ _ w (Nat.lt_of_lt_of_le hc hb.size) (Nat.lt_of_lt_of_le hm hb.size) ((hb.cell hc).trans c0) ((hb.cell hc).trans c1) ((hb.cell hc).trans c2) ((hb.cell hm).trans m0) (h.later hb (Nat.le_refl _))⟩
/-- A set of blocks, asked: which function it is. -/
theorem MeetV.call2 {W : World} {m : Value} {L : List Blk} (h : MeetV W m L) :
    (m = .func (.func 109) #[] #[] ∧ ∀ (b : Blk) (w : World) (_ : Below W.heap.size W w), Calls Try.prog 109 #[bv b] w (RV (.bool (L.any (touch b))) w)) ∨
    (∃ pc pm, m = .func (.func 126) #[] #[.pointer (some ⟨pc, 0, none⟩), .pointer (some ⟨pm, 0, none⟩)] ∧ ∀ (b : Blk) (w : World) (_ : Below W.heap.size W w), Calls Try.prog 126 #[bv b, .pointer (some ⟨pc, 0, none⟩), .pointer (some ⟨pm, 0, none⟩)] w (RV (.bool (L.any (touch b))) w)) := by
  cases h with
  | nil => exact .inl ⟨rfl, fun b w _ => noBlocks_any b w⟩
  | cons hc hm c0 c1 c2 m0 h =>
    exact .inr ⟨_, _, rfl, fun b w hb => with1_any _ _ b _ _ _ w (Nat.lt_of_lt_of_le hc hb.size) (Nat.lt_of_lt_of_le hm hb.size) ((hb.cell hc).trans c0) ((hb.cell hc).trans c1) ((hb.cell hc).trans c2) ((hb.cell hm).trans m0) (h.later hb (Nat.le_refl _))⟩
theorem with_any (m : Value) (L : List Blk) (c : Blk) (w : World) (h : MeetV w m L) :
    Calls Try.prog 110 #[m, bv c] w fun e w' => ∃ u, e = .returned u ∧ MeetV w' u (c :: L) ∧ Below w.heap.size w w' := by
  have hmf : ∀ (fn : Fn) (first cap : Array Value) (w : World), (Instr.makeFunc fn first cap).run Try.prog w = .ok (.func fn first cap) w := fun _ _ _ _ => rfl
  obtain ⟨f, caps, hf, _⟩ := h.call
  have HM := Lib.hid h
  clear h
  subst hf
  obtain ⟨c0, c1, c2⟩ := c
  unfold bv
  dsimp only
  go_enter Try.func110, Try.ntmps110
  go_wp2
  go_ret
  have hb : Below w.heap.size w ((w.alloc (.cells #[.func (.func f) #[] caps] 113)).alloc (.cells #[.int .i64 c0, .int .i64 c1, .int .i64 c2] 84)) := ((Below.refl _ _).alloc (Nat.le_refl _) _).alloc (by simp) _
  exact ⟨_, rfl, .cons (by simp) (by simp; omega) (by simp) (by simp) (by simp) (by simp [go_sem]) (HM.out.later hb (Nat.le_refl _)), hb⟩
end Go.Proofs.Ytahgialnhomefaa

namespace Go.Proofs.Ytahgialnhomefaa
open Go.RowKit Go.Maps
/-- Disjoint blocks, those of the first list being there already. -/
def disGo : List Blk → List Blk → Bool
  | _, [] => true
  | L, b :: r => !(L.any (touch b)) && disGo (b :: L) r
/-- The blocks with the numbers of a list. -/
def blksAt (bs : List Blk) (zs : List Int) : List Blk := zs.map fun z => bs[z.toNat]?.getD default
theorem blksAt_len (bs : List Blk) (zs : List Int) : (blksAt bs zs).length = zs.length := by simp [blksAt]
/-- The set of the first k of them, the last one first. -/
def preB (bs : List Blk) (zs : List Int) (k : Nat) : List Blk := ((blksAt bs zs).take k).reverse
theorem preB_succ {bs : List Blk} {zs : List Int} {k : Nat} (hk : k < zs.length) : preB bs zs (k + 1) = (bs[(zs[k]?.getD 0).toNat]?.getD default) :: preB bs zs k := by
  have h : k < (blksAt bs zs).length := by rw [blksAt_len]; exact hk
  rw [preB, List.take_succ_eq_append_getElem h, List.reverse_append, preB]
  simp [blksAt, hk]
theorem disGo_cons (L : List Blk) (b : Blk) (r : List Blk) : disGo L (b :: r) = (!(L.any (touch b)) && disGo (b :: L) r) := rfl
theorem disGo_nil (L : List Blk) : disGo L [] = true := rfl
theorem drop_blksAt {bs : List Blk} {zs : List Int} {k : Nat} (hk : k < zs.length) : (blksAt bs zs).drop k = (bs[(zs[k]?.getD 0).toNat]?.getD default) :: (blksAt bs zs).drop (k + 1) := by
  have h : k < (blksAt bs zs).length := by rw [blksAt_len]; exact hk
  rw [List.drop_eq_getElem_cons h]
  simp [blksAt, hk]
end Go.Proofs.Ytahgialnhomefaa

namespace Go.Proofs.Ytahgialnhomefaa
def col (n : Nat) (F : Nat → List Int) (y : Nat) : List Int := (List.range n).map fun i => (F i)[y]?.getD 0
def rowsOk (n k : Nat) (F : Nat → List Int) : Bool := (List.range k).all fun i => isRen (n : Int) (F i)
def colsOk (n k : Nat) (F : Nat → List Int) : Bool := (List.range k).all fun y => isRen (n : Int) (col n F y)
def sqB (n : Nat) (F : Nat → List Int) : Bool := decide (2 ≤ n) && decide (n ≤ 5) && rowsOk n n F && colsOk n n F
theorem col_len (n : Nat) (F : Nat → List Int) (y : Nat) : (col n F y).length = n := by simp [col]
theorem rowsOk_succ (n k : Nat) (F : Nat → List Int) : rowsOk n (k + 1) F = (rowsOk n k F && isRen (n : Int) (F k)) := by
  simp [rowsOk, List.range_succ, List.all_append]
theorem colsOk_succ (n k : Nat) (F : Nat → List Int) : colsOk n (k + 1) F = (colsOk n k F && isRen (n : Int) (col n F k)) := by
  simp [colsOk, List.range_succ, List.all_append]
theorem rowsOk_false {n m k : Nat} {F : Nat → List Int} (hk : k < m) (h : isRen (n : Int) (F k) = false) : rowsOk n m F = false := by
  unfold rowsOk
  rw [List.all_eq_false]
  exact ⟨k, List.mem_range.2 hk, by simp [h]⟩
theorem colsOk_false {n m k : Nat} {F : Nat → List Int} (hk : k < m) (h : isRen (n : Int) (col n F k) = false) : colsOk n m F = false := by
  unfold colsOk
  rw [List.all_eq_false]
  exact ⟨k, List.mem_range.2 hk, by simp [h]⟩
theorem rowsOk_at {n m k : Nat} {F : Nat → List Int} (h : rowsOk n m F = true) (hk : k < m) : isRen (n : Int) (F k) = true :=
  List.all_eq_true.1 h k (List.mem_range.2 hk)
theorem colsOk_at {n m k : Nat} {F : Nat → List Int} (h : colsOk n m F = true) (hk : k < m) : isRen (n : Int) (col n F k) = true :=
  List.all_eq_true.1 h k (List.mem_range.2 hk)
theorem isRen_len {n : Nat} {p : List Int} (h : isRen (n : Int) p = true) : p.length = n := by
  simp only [isRen, Bool.and_eq_true, decide_eq_true_eq] at h
  exact Int.ofNat_inj.1 h.1
/-- The first k numbers of a column. -/
def colK (F : Nat → List Int) (y k : Nat) : List Int := (List.range k).map fun i => (F i)[y]?.getD 0
theorem colK_succ (F : Nat → List Int) (y k : Nat) : colK F y (k + 1) = colK F y k ++ [(F k)[y]?.getD 0] := by simp [colK, List.range_succ]
theorem colK_len (F : Nat → List Int) (y k : Nat) : (colK F y k).length = k := by simp [colK]
end Go.Proofs.Ytahgialnhomefaa

namespace Go.Proofs.Ytahgialnhomefaa
open Go.Lib
/-- All points in blocks, block by block. -/
def ptsAll (bs : List Blk) : List Int := bs.flatMap fun x => [x.a, x.b, x.c]
/-- The points in blocks, ascending. -/
def ptsT (v : Int) (bs : List Blk) : List Int := ((List.range v.toNat).map fun (k : Nat) => (k : Int)).filter fun p => bs.any fun x => hasB x p
theorem asc_unique {l m : List Int} (h1 : l.Pairwise (· < ·)) (h2 : m.Pairwise (· < ·)) (h : ∀ x, x ∈ l ↔ x ∈ m) : l = m := by
  induction l generalizing m with
  | nil =>
    cases m with
    | nil => rfl
    | cons y m => exact absurd ((h y).2 (by simp)) (by simp)
  | cons x l ih =>
    cases m with
    | nil => exact absurd ((h x).1 (by simp)) (by simp)
    | cons y m =>
      rw [List.pairwise_cons] at h1 h2
      have e : x = y := by
        have a := (h x).1 (by simp)
        have b := (h y).2 (by simp)
        rcases List.mem_cons.1 a with a | a
        · exact a
        · rcases List.mem_cons.1 b with b | b
          · exact b.symm
          · have := h1.1 y b
            have := h2.1 x a
            omega
      subst e
      rw [ih h1.2 h2.2 (fun z => ?_)]
      have hz := h z
      simp only [List.mem_cons] at hz
      constructor
      · intro hm
        rcases hz.1 (.inr hm) with rfl | hq
        · have := h1.1 z hm; omega
        · exact hq
      · intro hm
        rcases hz.2 (.inr hm) with rfl | hq
        · have := h2.1 z hm; omega
        · exact hq
theorem compact_mem {zs : List Int} {x : Int} : x ∈ compact zs ↔ x ∈ zs := by
  unfold compact compactUpTo
  rw [List.mem_map]
  constructor
  · rintro ⟨j, hj, rfl⟩
    have hj := List.mem_range.1 (List.mem_filter.1 hj).1
    rw [getElem!_pos zs.toArray j (by simpa using hj)]
    simp
  · intro hx
    obtain ⟨j, hj, rfl⟩ := List.mem_iff_getElem.1 hx
    clear hx
    induction j with
    | zero => exact ⟨0, List.mem_filter.2 ⟨List.mem_range.2 hj, by simp [keeps]⟩, by rw [getElem!_pos zs.toArray 0 (by simpa using hj)]; simp⟩
    | succ j ih =>
      by_cases hk : keeps zs.toArray (j + 1) = true
      · exact ⟨j + 1, List.mem_filter.2 ⟨List.mem_range.2 hj, hk⟩, by rw [getElem!_pos zs.toArray (j + 1) (by simpa using hj)]; simp⟩
      · obtain ⟨i, h1, h2⟩ := ih (by omega)
        refine ⟨i, h1, h2.trans ?_⟩
        rw [Bool.not_eq_true] at hk
        simp only [keeps] at hk
        rw [getElem!_pos zs.toArray (j + 1) (by simpa using hj), getElem!_pos zs.toArray (j + 1 - 1) (by simp; omega)] at hk
        simp at hk
        exact hk.symm
theorem compact_asc {zs : List Int} (h : zs.Pairwise (· ≤ ·)) : (compact zs).Pairwise (· < ·) := by
  unfold compact compactUpTo
  rw [List.pairwise_map]
  have hr : (List.range zs.length).Pairwise (· < ·) := List.pairwise_lt_range
  refine ((hr.filter (keeps zs.toArray)).imp_of_mem ?_)
  intro i j hi hj hlt
  have li := List.mem_range.1 (List.mem_filter.1 hi).1
  have lj := List.mem_range.1 (List.mem_filter.1 hj).1
  have hk := (List.mem_filter.1 hj).2
  simp only [keeps] at hk
  rw [getElem!_pos zs.toArray i (by simpa using li), getElem!_pos zs.toArray j (by simpa using lj)]
  rw [getElem!_pos zs.toArray j (by simpa using lj), getElem!_pos zs.toArray (j - 1) (by simp; omega)] at hk
  simp at hk ⊢
  have e0 : j ≠ 0 := by omega
  have hp := List.pairwise_iff_getElem.1 h
  have h1 : zs[i] ≤ zs[j - 1] := by
    by_cases e : i = j - 1
    · simp [e]
    · exact hp i (j - 1) li (by omega) (by omega)
  have h2 := hp (j - 1) j (by omega) lj (by omega)
  have h3 : zs[j] ≠ zs[j - 1] := by
    rcases hk with hk | hk
    · exact absurd hk e0
    · exact hk
  omega
theorem ptsAll_mem {bs : List Blk} {p : Int} : p ∈ ptsAll bs ↔ bs.any (fun x => hasB x p) = true := by
  simp only [ptsAll, List.mem_flatMap, List.any_eq_true, hasB, List.mem_cons, List.not_mem_nil, or_false, Bool.or_eq_true, decide_eq_true_eq]
  constructor
  · rintro ⟨x, hx, h⟩
    exact ⟨x, hx, by rcases h with rfl | rfl | rfl <;> simp⟩
  · rintro ⟨x, hx, h⟩
    exact ⟨x, hx, by rcases h with (rfl | rfl) | rfl <;> simp⟩
theorem ptsT_mem {v : Int} {bs : List Blk} (h : ∀ x ∈ bs, goodB v x = true) {p : Int} : p ∈ ptsT v bs ↔ p ∈ ptsAll bs := by
  rw [ptsAll_mem, ptsT, List.mem_filter, List.mem_map]
  constructor
  · exact fun hp => hp.2
  · intro hp
    refine ⟨⟨p.toNat, List.mem_range.2 ?_, ?_⟩, hp⟩
    all_goals
      obtain ⟨x, hx, hh⟩ := List.any_eq_true.1 hp
      have hg := goodB_iff.1 (h x hx)
      simp only [hasB, Bool.or_eq_true, decide_eq_true_eq] at hh
      rcases hh with (rfl | rfl) | rfl <;> omega
theorem ptsT_asc (v : Int) (bs : List Blk) : (ptsT v bs).Pairwise (· < ·) := by
  unfold ptsT
  refine List.Pairwise.filter _ ?_
  rw [List.pairwise_map]
  exact List.pairwise_lt_range.imp fun {a b} h => by omega
theorem pts_same {v : Int} {bs : List Blk} (h : ∀ x ∈ bs, goodB v x = true) : compact ((ptsAll bs).mergeSort fun x y => decide (x ≤ y)) = ptsT v bs := by
  have hp := List.mergeSort_perm (ptsAll bs) (fun x y => decide (x ≤ y))
  have hs : ((ptsAll bs).mergeSort fun x y => decide (x ≤ y)).Pairwise (· ≤ ·) := by
    have := List.pairwise_mergeSort (le := fun (x y : Int) => decide (x ≤ y)) (by intro a b c; simp; omega) (by intro a b; simp; omega) (ptsAll bs)
    exact this.imp fun {a b} h => by simpa using h
  refine asc_unique (compact_asc hs) (ptsT_asc v bs) fun x => ?_
  rw [compact_mem, hp.mem_iff, ptsT_mem h]
theorem ptsT_len (v : Int) (bs : List Blk) (hv : v ≤ 15) : (ptsT v bs).length ≤ 15 := by
  unfold ptsT
  refine Nat.le_trans (List.length_filter_le _ _) ?_
  simp; omega
theorem ptsAll_len (bs : List Blk) : (ptsAll bs).length = 3 * bs.length := by
  induction bs with
  | nil => rfl
  | cons x r ih => simp [ptsAll] at ih ⊢; omega
def ptsF (v : Int) (bo bi : List Blk) : List Int × Int := if trdB v bo bi then (ptsT v bo, 0) else ([], 1)
end Go.Proofs.Ytahgialnhomefaa

namespace Go.Proofs.Ytahgialnhomefaa
def at3 (t : List Int) (k : Nat) : Int := t[k]?.getD 0
def triB (v : Int) (t : List Int) : Bool :=
  decide (t.length = 3) && decide (1 ≤ at3 t 0) && decide (at3 t 0 < at3 t 1) && decide (at3 t 1 < at3 t 2) && decide (at3 t 2 ≤ (v - 1) / 2) && (decide (at3 t 0 + at3 t 1 = at3 t 2) || decide (at3 t 0 + at3 t 1 + at3 t 2 = v))
def dfV (v : Int) : Bool := decide (v = 7) || decide (v = 13) || decide (v = 15)
/-- The numbers that a family has, ascending, up to the first k. -/
def diffsK (v : Int) (k : Nat) : List Int := ((List.range k).map fun (j : Nat) => (j : Int) + 1).filter fun d => decide (v ≠ 15) || decide (d ≠ 5)
def diffs (v : Int) : List Int := diffsK v ((v - 1) / 2).toNat
def catF (n : Nat) (F : Nat → List Int) : List Int := (List.range n).flatMap F
theorem catF_succ (n : Nat) (F : Nat → List Int) : catF (n + 1) F = catF n F ++ F n := by simp [catF, List.range_succ]
def baseD (v : Int) : List Int := if v = 15 then [5] else []
/-- The first i triples are good: in order, and no number twice. -/
def okD (v : Int) (i : Nat) (F : Nat → List Int) : Bool :=
  ((List.range i).all fun j => triB v (F j) && (decide (j = 0) || decide (at3 (F (j - 1)) 0 < at3 (F j) 0))) && decide ((baseD v ++ catF i F).Nodup)
def famB (v : Int) (n : Nat) (F : Nat → List Int) : Bool := okD v n F && decide (3 * n = (diffs v).length)
/-- What the program asks of the first i triples. -/
def okP (v : Int) (i : Nat) (F : Nat → List Int) : Bool := (List.range i).all fun j => triB v (F j) && (decide (j = 0) || decide (cmpL (F (j - 1)) (F j) < 0))
def sortI (l : List Int) : List Int := l.mergeSort fun x y => decide (x ≤ y)
def famP (v : Int) (n : Nat) (F : Nat → List Int) : Bool := okP v n F && decide (sortI (catF n F) = diffs v)
theorem triB_iff {v : Int} {t : List Int} : triB v t = true ↔ ∃ a b c, t = [a, b, c] ∧ 1 ≤ a ∧ a < b ∧ b < c ∧ c ≤ (v - 1) / 2 ∧ (a + b = c ∨ a + b + c = v) := by
  simp only [triB, Bool.and_eq_true, Bool.or_eq_true, decide_eq_true_eq]
  constructor
  · rintro ⟨⟨⟨⟨⟨h0, h1⟩, h2⟩, h3⟩, h4⟩, h5⟩
    match t, h0 with
    | [a, b, c], _ => exact ⟨a, b, c, rfl, by simpa [at3] using h1, by simpa [at3] using h2, by simpa [at3] using h3, by simpa [at3] using h4, by simpa [at3] using h5⟩
  · rintro ⟨a, b, c, rfl, h1, h2, h3, h4, h5⟩
    simp [at3, h1, h2, h3, h4, h5]
theorem diffs_asc (v : Int) (k : Nat) : (diffsK v k).Pairwise (· < ·) := by
  unfold diffsK
  refine List.Pairwise.filter _ ?_
  rw [List.pairwise_map]
  exact List.pairwise_lt_range.imp fun {a b} h => by omega
theorem diffs_mem {v : Int} {k : Nat} {d : Int} : d ∈ diffsK v k ↔ 1 ≤ d ∧ d ≤ k ∧ (v ≠ 15 ∨ d ≠ 5) := by
  simp only [diffsK, List.mem_filter, List.mem_map, List.mem_range, Bool.or_eq_true, decide_eq_true_eq]
  constructor
  · rintro ⟨⟨j, hj, rfl⟩, h⟩
    exact ⟨by omega, by omega, h⟩
  · rintro ⟨h1, h2, h3⟩
    exact ⟨⟨(d - 1).toNat, by omega, by omega⟩, h3⟩
theorem sortI_asc (l : List Int) : (sortI l).Pairwise (· ≤ ·) := by
  have := List.pairwise_mergeSort (le := fun (x y : Int) => decide (x ≤ y)) (by intro a b c; simp; omega) (by intro a b; simp; omega) l
  exact this.imp fun {a b} h => by simpa using h
theorem sortI_perm (l : List Int) : (sortI l).Perm l := List.mergeSort_perm l _
theorem asc_of {l : List Int} (h : l.Pairwise (· ≤ ·)) (hn : l.Nodup) : l.Pairwise (· < ·) := by
  have : l.Pairwise fun x y => x ≤ y ∧ x ≠ y := List.Pairwise.and h hn
  exact this.imp fun {a b} h => by omega
theorem asc_nodup {l : List Int} (h : l.Pairwise (· < ·)) : l.Nodup := h.imp fun {a b} h => by omega
theorem cat_len {v : Int} {F : Nat → List Int} : ∀ n, (∀ j, j < n → triB v (F j) = true) → (catF n F).length = 3 * n
  | 0, _ => rfl
  | n + 1, h => by
    obtain ⟨a, b, c, e, _⟩ := triB_iff.1 (h n (by omega))
    rw [catF_succ, List.length_append, cat_len n (fun j hj => h j (by omega)), e]
    simp; omega
theorem cat_mem {n : Nat} {F : Nat → List Int} {d : Int} : d ∈ catF n F ↔ ∃ j, j < n ∧ d ∈ F j := by
  simp [catF, List.mem_flatMap]
theorem cat_bound {v : Int} {n : Nat} {F : Nat → List Int} (h : ∀ j, j < n → triB v (F j) = true) {d : Int} (hd : d ∈ catF n F) : 1 ≤ d ∧ d ≤ (v - 1) / 2 := by
  obtain ⟨j, hj, hm⟩ := cat_mem.1 hd
  obtain ⟨a, b, c, e, h1, h2, h3, h4, _⟩ := triB_iff.1 (h j hj)
  rw [e] at hm
  simp only [List.mem_cons, List.not_mem_nil, or_false] at hm
  omega
theorem half_nat {v : Int} (hv : dfV v = true) : (((v - 1) / 2).toNat : Int) = (v - 1) / 2 := by
  simp only [dfV, Bool.or_eq_true, decide_eq_true_eq] at hv
  rcases hv with (rfl | rfl) | rfl <;> decide
theorem fam_same {v : Int} (hv : dfV v = true) (n : Nat) (F : Nat → List Int) : famP v n F = famB v n F := by
  have hh := half_nat hv
  rw [Bool.eq_iff_iff]
  simp only [famP, famB, okP, okD, Bool.and_eq_true, List.all_eq_true, List.mem_range, Bool.or_eq_true, decide_eq_true_eq]
  constructor
  · rintro ⟨h1, h2⟩
    have ht : ∀ j, j < n → triB v (F j) = true := fun j hj => (h1 j hj).1
    have hp := sortI_perm (catF n F)
    have hnd : (catF n F).Nodup := hp.nodup_iff.1 (by rw [h2]; exact asc_nodup (diffs_asc v _))
    have h5 : ∀ d ∈ catF n F, v ≠ 15 ∨ d ≠ 5 := fun d hd => by
      have : d ∈ diffs v := by rw [← h2]; exact hp.mem_iff.2 hd
      exact (diffs_mem.1 this).2.2
    refine ⟨⟨fun j hj => ⟨ht j hj, ?_⟩, ?_⟩, ?_⟩
    · rcases (h1 j hj).2 with e | hlt
      · exact .inl e
      · by_cases e : j = 0
        · exact .inl e
        · refine .inr ?_
          obtain ⟨a, b, c, ea, a1, a2, a3, _⟩ := triB_iff.1 (ht (j - 1) (by omega))
          obtain ⟨a', b', c', ea', b1, b2, b3, _⟩ := triB_iff.1 (ht j hj)
          rw [ea, ea'] at hlt ⊢
          simp only [at3]
          simp only [List.getElem?_cons_zero, Option.getD_some]
          rcases cmp1_cases a a' with ⟨hc, _⟩ | ⟨hc, _⟩ | ⟨hc, he⟩
          · exact hc
          · exfalso
            -- the same number in two triples
            have hsplit : catF n F = catF j F ++ ((List.range (n - j)).flatMap fun i => F (j + i)) := by
              unfold catF
              rw [show n = j + (n - j) by omega, List.range_add, List.flatMap_append, List.flatMap_map, Nat.add_sub_cancel_left]
            rw [hsplit, List.nodup_append] at hnd
            refine hnd.2.2 a ?_ a ?_ rfl
            · exact cat_mem.2 ⟨j - 1, by omega, by rw [ea]; simp⟩
            · refine List.mem_flatMap.2 ⟨0, List.mem_range.2 (by omega), ?_⟩
              rw [Nat.add_zero, ea', hc]
              simp
          · exfalso
            simp only [cmpL, he] at hlt
            simp at hlt
    · unfold baseD
      split
      · rename_i e
        rw [List.nodup_append]
        refine ⟨by simp, hnd, ?_⟩
        intro x hx y hy exy
        simp at hx
        rcases h5 y hy with h | h
        · exact h e
        · exact h (by omega)
      · simpa using hnd
    · rw [← cat_len n ht, ← hp.length_eq, h2]
  · rintro ⟨⟨h1, h2⟩, h3⟩
    have ht : ∀ j, j < n → triB v (F j) = true := fun j hj => (h1 j hj).1
    have hnd : (catF n F).Nodup := (List.nodup_append.1 h2).2.1
    refine ⟨fun j hj => ⟨ht j hj, ?_⟩, ?_⟩
    · rcases (h1 j hj).2 with e | hlt
      · exact .inl e
      · by_cases e : j = 0
        · exact .inl e
        · refine .inr ?_
          obtain ⟨a, b, c, ea, _⟩ := triB_iff.1 (ht (j - 1) (by omega))
          obtain ⟨a', b', c', ea', _⟩ := triB_iff.1 (ht j hj)
          rw [ea, ea'] at hlt ⊢
          simp only [at3, List.getElem?_cons_zero, Option.getD_some] at hlt
          simp [cmpL, cmp1, hlt]
    · have hasc := asc_of (sortI_asc (catF n F)) ((sortI_perm _).nodup_iff.2 hnd)
      have hsub : ∀ d ∈ catF n F, d ∈ diffs v := fun d hd => by
        have hb := cat_bound ht hd
        refine diffs_mem.2 ⟨hb.1, by omega, ?_⟩
        by_cases e : v = 15
        · refine .inr fun e5 => ?_
          have hm : (5 : Int) ∈ baseD v := by simp [baseD, e]
          exact (List.nodup_append.1 h2).2.2 5 hm d hd e5.symm
        · exact .inl e
      refine asc_unique hasc (diffs_asc v _) fun d => ?_
      rw [(sortI_perm _).mem_iff]
      refine ⟨hsub d, fun hd => ?_⟩
      exact sub_back hnd hsub (by rw [cat_len n ht]; exact Nat.le_of_eq h3.symm) d hd
end Go.Proofs.Ytahgialnhomefaa

namespace Go.Proofs.Ytahgialnhomefaa
open Go.RowKit Go.Maps
theorem dfV_half {v : Int} (h : dfV v = true) : (v - 1).tdiv 2 = (v - 1) / 2 ∧ 7 ≤ v ∧ v ≤ 15 ∧ 3 ≤ (v - 1) / 2 ∧ (v - 1) / 2 ≤ 7 := by
  simp only [dfV, Bool.or_eq_true, decide_eq_true_eq] at h
  rcases h with (rfl | rfl) | rfl <;> decide
theorem diffsK_succ (v : Int) (k : Nat) : diffsK v (k + 1) = diffsK v k ++ if decide (v ≠ 15) || decide (((k : Int) + 1) ≠ 5) then [(k : Int) + 1] else [] := by
  simp only [diffsK, List.range_succ, List.map_append, List.filter_append, List.map_cons, List.map_nil]
  congr 1
  by_cases e1 : v = 15 <;> by_cases e2 : (k : Int) + 1 = 5 <;> simp [e1, e2]
theorem diffsK_len (v : Int) (k : Nat) : (diffsK v k).length ≤ k := by
  unfold diffsK
  exact Nat.le_trans (List.length_filter_le _ _) (by simp)
end Go.Proofs.Ytahgialnhomefaa

namespace Go.Proofs.Ytahgialnhomefaa
open Go.RowKit Go.Maps
/-- Returns v; only draws. -/
def RQ (v : Value) (w : World) (e : Ending) (w' : World) : Prop := e = .returned v ∧ ∃ n, w' = w.drewN n
end Go.Proofs.Ytahgialnhomefaa

namespace Go.Proofs.Ytahgialnhomefaa
open Go.RowKit Go.Maps
end Go.Proofs.Ytahgialnhomefaa

namespace Go.Proofs.Ytahgialnhomefaa
open Go.RowKit Go.Maps
def msk (L : List Int) : Nat := L.foldl (fun m d => m ||| 2 ^ d.toNat) 0
theorem msk_snoc (L : List Int) (d : Int) : msk (L ++ [d]) = msk L ||| 2 ^ d.toNat := by simp [msk, List.foldl_append]
theorem foldM_test (t : Nat) : ∀ (L : List Int) (m : Nat), (L.foldl (fun m d => m ||| 2 ^ d.toNat) m).testBit t = (m.testBit t || L.any fun d => decide (d.toNat = t))
  | [], m => by simp
  | d :: L, m => by
    rw [List.foldl_cons, foldM_test t L, Nat.testBit_or, Nat.testBit_two_pow, List.any_cons, Bool.or_assoc]
theorem msk_test (L : List Int) (t : Nat) : (msk L).testBit t = L.any fun d => decide (d.toNat = t) := by
  rw [msk, foldM_test]; simp
end Go.Proofs.Ytahgialnhomefaa

namespace Go.Proofs.Ytahgialnhomefaa
open Go.RowKit Go.Maps
theorem foldM_lt : ∀ (L : List Int) (m : Nat), m < 256 → (∀ d ∈ L, 1 ≤ d ∧ d ≤ 7) → L.foldl (fun m d => m ||| 2 ^ d.toNat) m < 256
  | [], m, h, _ => h
  | d :: L, m, h, hd => by
    rw [List.foldl_cons]
    have hq := hd d (List.mem_cons_self)
    refine foldM_lt L _ ?_ fun e he => hd e (List.mem_cons_of_mem _ he)
    refine Nat.or_lt_two_pow (n := 8) h ?_
    exact Nat.pow_lt_pow_right (by decide) (by omega)
theorem msk_lt {L : List Int} (h : ∀ d ∈ L, 1 ≤ d ∧ d ≤ 7) : msk L < 256 := foldM_lt L 0 (by decide) h
theorem bits_small : ∀ t : Fin 8, ∀ u : Fin 256, bits .and .i64 (u.val : Int) ((2 ^ t.val : Nat) : Int) = ((u.val &&& 2 ^ t.val : Nat) : Int) ∧ bits .or .i64 (u.val : Int) ((2 ^ t.val : Nat) : Int) = ((u.val ||| 2 ^ t.val : Nat) : Int) := by
  decide +kernel
theorem and_pow_ne : ∀ t : Fin 8, ∀ u : Fin 256, decide (u.val &&& 2 ^ t.val ≠ 0) = u.val.testBit t.val := by
  decide +kernel
/-- Is d among L: the bit says it. -/
theorem bit_in {L : List Int} (h : ∀ d ∈ L, 1 ≤ d ∧ d ≤ 7) {d : Int} (h1 : 1 ≤ d) (h7 : d ≤ 7) : (bits .and .i64 (msk L : Int) ((2 ^ d.toNat : Nat) : Int) != 0) = decide (d ∈ L) ∧ bits .or .i64 (msk L : Int) ((2 ^ d.toNat : Nat) : Int) = (msk (L ++ [d]) : Int) := by
  have hb := bits_small ⟨d.toNat, by omega⟩ ⟨msk L, msk_lt h⟩
  simp only at hb
  refine ⟨?_, by rw [hb.2, msk_snoc]⟩
  rw [hb.1, Bool.eq_iff_iff]
  simp only [bne_iff_ne, ne_eq, decide_eq_true_eq]
  have e1 : (¬ ((msk L &&& 2 ^ d.toNat : Nat) : Int) = 0) ↔ (msk L &&& 2 ^ d.toNat ≠ 0) := by omega
  have e2 := and_pow_ne ⟨d.toNat, by omega⟩ ⟨msk L, msk_lt h⟩
  simp only at e2
  rw [e1, ← decide_eq_true_iff (p := msk L &&& 2 ^ d.toNat ≠ 0), e2, msk_test, List.any_eq_true]
  constructor
  · rintro ⟨e, he, hq⟩
    have := h e he
    simp at hq
    have : e = d := by omega
    exact this ▸ he
  · intro hd
    exact ⟨d, hd, by simp⟩
end Go.Proofs.Ytahgialnhomefaa

namespace Go.Proofs.Ytahgialnhomefaa
open Go.RowKit
theorem rnGo_iff {v : Int} : ∀ {l seen : List Int}, rnGo v seen l = true ↔ (∀ a ∈ l, 0 ≤ a ∧ a < v) ∧ l.Nodup ∧ ∀ a ∈ l, a ∉ seen
  | [], seen => by simp [rnGo]
  | b :: r, seen => by
    simp only [rnGo, Bool.and_eq_true, rnGo_iff (l := r), inP, decide_eq_true_eq, Bool.not_eq_true', decide_eq_false_iff_not, List.forall_mem_cons, List.nodup_cons, List.mem_append, List.mem_singleton, not_or]
    constructor
    · rintro ⟨⟨h1, h2⟩, h3, h4, h5⟩
      exact ⟨⟨h1, h3⟩, ⟨fun e => (h5 b e).2 rfl, h4⟩, h2, fun a ha => (h5 a ha).1⟩
    · rintro ⟨⟨h1, h3⟩, ⟨h6, h4⟩, h2, h5⟩
      exact ⟨⟨h1, h2⟩, h3, h4, fun a ha => ⟨h5 a ha, fun e => h6 (e ▸ ha)⟩⟩
theorem isRen_iff {n : Nat} {p : List Int} : isRen (n : Int) p = true ↔ p.length = n ∧ (∀ a ∈ p, 0 ≤ a ∧ a < (n : Int)) ∧ p.Nodup := by
  simp only [isRen, Bool.and_eq_true, decide_eq_true_eq, rnGo_iff]
  constructor
  · rintro ⟨h1, h2, h3, _⟩
    exact ⟨by omega, h2, h3⟩
  · rintro ⟨h1, h2, h3⟩
    exact ⟨by omega, h2, h3, by simp⟩
theorem nodup_of_cover {α : Type} [DecidableEq α] {l m : List α} (hn : l.Nodup) (hs : ∀ x ∈ l, x ∈ m) (hl : m.length ≤ l.length) : m.Nodup := by
  apply Classical.byContradiction
  intro hnot
  rw [List.Nodup, List.pairwise_iff_getElem] at hnot
  have ⟨i, j, hi, hj, hij, he⟩ : ∃ i j, ∃ (hi : i < m.length) (hj : j < m.length), i < j ∧ m[i] = m[j] := by
    apply Classical.byContradiction
    intro hc
    exact hnot fun i j hi hj hij he => hc ⟨i, j, hi, hj, hij, he⟩
  have h := List.Nodup.length_le_of_subset (l₂ := m.eraseIdx j) hn fun x hx => by
    obtain ⟨k, hk, rfl⟩ := List.getElem_of_mem (hs x hx)
    rw [List.mem_eraseIdx_iff_getElem]
    by_cases e : k = j
    · subst e
      exact ⟨i, hi, by omega, he⟩
    · exact ⟨k, hk, e, rfl⟩
  rw [List.length_eraseIdx, if_pos hj] at h
  omega
theorem msk_lt' {L : List Int} (h : ∀ d ∈ L, 0 ≤ d ∧ d ≤ 7) : msk L < 256 := by
  suffices ∀ (L : List Int) (m : Nat), m < 256 → (∀ d ∈ L, 0 ≤ d ∧ d ≤ 7) → L.foldl (fun m d => m ||| 2 ^ d.toNat) m < 256 from this L 0 (by decide) h
  intro L
  induction L with
  | nil => exact fun m hm _ => hm
  | cons d L ih =>
    intro m hm hd
    rw [List.foldl_cons]
    have hq := hd d (List.mem_cons_self)
    refine ih _ ?_ fun e he => hd e (List.mem_cons_of_mem _ he)
    refine Nat.or_lt_two_pow (n := 8) hm ?_
    exact Nat.pow_lt_pow_right (by decide) (by omega)
theorem bit_or {L : List Int} (h : ∀ d ∈ L, 0 ≤ d ∧ d ≤ 7) {d : Int} (h1 : 0 ≤ d) (h7 : d ≤ 7) : bits .or .i64 (msk L : Int) ((2 ^ d.toNat : Nat) : Int) = (msk (L ++ [d]) : Int) := by
  have hb := bits_small ⟨d.toNat, by omega⟩ ⟨msk L, msk_lt' h⟩
  simp only at hb
  rw [hb.2, msk_snoc]
theorem isRen_msk {n : Nat} {p : List Int} (hl : p.length = n) (hr : ∀ a ∈ p, 0 ≤ a ∧ a < (n : Int)) : isRen (n : Int) p = decide (msk p = 2 ^ n - 1) := by
  have hR : ((List.range n).map fun (k : Nat) => (k : Int)).Nodup := by
    rw [List.Nodup, List.pairwise_map]
    exact List.nodup_range.imp fun h e => h (by omega)
  rw [Bool.eq_iff_iff, isRen_iff, decide_eq_true_eq]
  have hm : msk p = 2 ^ n - 1 ↔ ∀ k : Nat, k < n → (k : Int) ∈ p := by
    constructor
    · intro h k hk
      have ht : (msk p).testBit k = true := by rw [h, Nat.testBit_two_pow_sub_one]; simpa using hk
      rw [msk_test, List.any_eq_true] at ht
      obtain ⟨d, hd, e⟩ := ht
      have := hr d hd
      simp at e
      have : d = (k : Int) := by omega
      exact this ▸ hd
    · intro h
      apply Nat.eq_of_testBit_eq
      intro k
      rw [msk_test, Nat.testBit_two_pow_sub_one, Bool.eq_iff_iff, List.any_eq_true, decide_eq_true_eq]
      constructor
      · rintro ⟨d, hd, e⟩
        have := hr d hd
        simp at e
        omega
      · intro hk
        exact ⟨_, h k hk, by simp⟩
  rw [hm]
  constructor
  · rintro ⟨_, _, hn⟩ k hk
    refine sub_back hn (m := (List.range n).map fun (k : Nat) => (k : Int)) (fun x hx => ?_) (by simp [hl]) _ (List.mem_map.2 ⟨k, List.mem_range.2 hk, rfl⟩)
    have := hr x hx
    exact List.mem_map.2 ⟨x.toNat, List.mem_range.2 (by omega), by omega⟩
  · intro h
    refine ⟨hl, hr, nodup_of_cover hR (fun x hx => ?_) (by simp [hl])⟩
    obtain ⟨k, hk, rfl⟩ := List.mem_map.1 hx
    exact h k (List.mem_range.1 hk)
end Go.Proofs.Ytahgialnhomefaa

namespace Go.Proofs.Ytahgialnhomefaa
open Go.RowKit
def ptsB (x : Blk) : List Int := [x.a, x.b, x.c]
def allP (L : List Blk) : List Int := L.flatMap ptsB
/-- Good blocks of at most 15 points. -/
def okB (x : Blk) : Prop := 0 ≤ x.a ∧ x.a < x.b ∧ x.b < x.c ∧ x.c < 15
theorem okB_small {x : Blk} (h : okB x) : ∀ z ∈ ptsB x, 0 ≤ z ∧ z < 15 := fun z hz => by
  obtain ⟨h1, h2, h3, h4⟩ := h
  simp only [ptsB, List.mem_cons, List.not_mem_nil, or_false] at hz
  omega
theorem allP_small {L : List Blk} (h : ∀ x ∈ L, okB x) : ∀ z ∈ allP L, 0 ≤ z ∧ z < 15 := fun z hz => by
  obtain ⟨x, hx, hz⟩ := List.mem_flatMap.1 hz
  exact okB_small (h x hx) z hz
def mkB (x : Blk) : Nat := 2 ^ x.a.toNat + 2 ^ x.b.toNat + 2 ^ x.c.toNat
theorem pow3 : ∀ a b c : Fin 15, a < b → b < c → 2 ^ a.val + 2 ^ b.val + 2 ^ c.val = 2 ^ a.val ||| 2 ^ b.val ||| 2 ^ c.val := by decide +kernel
theorem mkB_msk {x : Blk} (h : okB x) : mkB x = msk (ptsB x) := by
  obtain ⟨h1, h2, h3, h4⟩ := h
  have := pow3 ⟨x.a.toNat, by omega⟩ ⟨x.b.toNat, by omega⟩ ⟨x.c.toNat, by omega⟩ (by simp [Fin.lt_def]; omega) (by simp [Fin.lt_def]; omega)
  simpa [mkB, msk, ptsB] using this
theorem msk_lt15 {L : List Int} (h : ∀ d ∈ L, 0 ≤ d ∧ d < 15) : msk L < 32768 := by
  suffices ∀ (L : List Int) (m : Nat), m < 32768 → (∀ d ∈ L, 0 ≤ d ∧ d < 15) → L.foldl (fun m d => m ||| 2 ^ d.toNat) m < 32768 from this L 0 (by decide) h
  intro L
  induction L with
  | nil => exact fun m hm _ => hm
  | cons d L ih =>
    intro m hm hd
    rw [List.foldl_cons]
    have hq := hd d (List.mem_cons_self)
    refine ih _ ?_ fun e he => hd e (List.mem_cons_of_mem _ he)
    refine Nat.or_lt_two_pow (n := 15) hm ?_
    exact Nat.pow_lt_pow_right (by decide) (by omega)
theorem msk_mem {L : List Int} (h : ∀ d ∈ L, 0 ≤ d) {t : Nat} : (msk L).testBit t = true ↔ (t : Int) ∈ L := by
  rw [msk_test, List.any_eq_true]
  constructor
  · rintro ⟨e, he, hq⟩
    have := h e he
    simp at hq
    have : e = (t : Int) := by omega
    exact this ▸ he
  · intro ht
    exact ⟨_, ht, by simp⟩
theorem msk_append (L M : List Int) : msk (L ++ M) = msk L ||| msk M := by
  apply Nat.eq_of_testBit_eq
  intro t
  rw [Nat.testBit_or, msk_test, msk_test, msk_test, List.any_append]
theorem bits15 {x y : Nat} (hx : x < 32768) (hy : y < 32768) : bits .and .i64 (x : Int) (y : Int) = ((x &&& y : Nat) : Int) ∧ bits .or .i64 (x : Int) (y : Int) = ((x ||| y : Nat) : Int) := by
  have h := bits_nat .i64 63 (by decide) (fun n h0 h1 => IntWalk.i64_in _ (by omega)) x y (by omega) (by omega)
  exact h
end Go.Proofs.Ytahgialnhomefaa

namespace Go.Proofs.Ytahgialnhomefaa
open Go.RowKit
theorem touch_iff {x y : Blk} : touch x y = true ↔ ∃ z ∈ ptsB x, z ∈ ptsB y := by
  unfold touch comP ptsB hasB
  obtain ⟨a, b, c⟩ := x
  obtain ⟨d, e, f⟩ := y
  dsimp only
  constructor
  · intro h
    split at h
    · exact ⟨a, by simp, by simp_all; omega⟩
    · split at h
      · exact ⟨b, by simp, by simp_all; omega⟩
      · split at h
        · exact ⟨c, by simp, by simp_all; omega⟩
        · simp at h
  · rintro ⟨z, hz, hy⟩
    simp only [List.mem_cons, List.not_mem_nil, or_false] at hz hy
    split
    · rfl
    · split
      · rfl
      · split
        · rfl
        · simp_all
          omega
def dmk (L : List Blk) : Nat := msk (allP L)
theorem dmk_snoc (L : List Blk) (x : Blk) : dmk (L ++ [x]) = dmk L ||| msk (ptsB x) := by
  simp [dmk, allP, msk_append]
theorem dmk_and {L : List Blk} {x : Blk} (hL : ∀ y ∈ L, okB y) (hx : okB x) : (dmk L &&& mkB x ≠ 0) ↔ L.any (touch x) = true := by
  rw [mkB_msk hx, List.any_eq_true]
  have hs : ∀ d ∈ allP L, 0 ≤ d := fun d hd => (allP_small hL d hd).1
  have hsx : ∀ d ∈ ptsB x, 0 ≤ d := fun d hd => (okB_small hx d hd).1
  constructor
  · intro h
    obtain ⟨t, ht⟩ : ∃ t, (dmk L &&& msk (ptsB x)).testBit t = true := Nat.exists_testBit_of_ne_zero h
    rw [Nat.testBit_and, Bool.and_eq_true] at ht
    have h1 := (msk_mem hs).1 ht.1
    have h2 := (msk_mem hsx).1 ht.2
    obtain ⟨y, hy, hz⟩ := List.mem_flatMap.1 h1
    exact ⟨y, hy, touch_iff.2 ⟨_, h2, hz⟩⟩
  · rintro ⟨y, hy, ht⟩ e
    obtain ⟨z, hz, hzy⟩ := touch_iff.1 ht
    have hz0 := hsx z hz
    have h1 : (dmk L).testBit z.toNat = true := (msk_mem hs).2 (by rw [Int.toNat_of_nonneg hz0]; exact List.mem_flatMap.2 ⟨y, hy, hzy⟩)
    have h2 : (msk (ptsB x)).testBit z.toNat = true := (msk_mem hsx).2 (by rw [Int.toNat_of_nonneg hz0]; exact hz)
    have : (dmk L &&& msk (ptsB x)).testBit z.toNat = true := by rw [Nat.testBit_and, h1, h2]; rfl
    rw [e] at this
    simp at this
/-- What the model's loop does with one block more. -/
theorem dmk_step {L : List Blk} {x : Blk} (hL : ∀ y ∈ L, okB y) (hx : okB x) : (bits .and .i64 (dmk L : Int) (mkB x : Int) != 0) = L.any (touch x) ∧ bits .or .i64 (dmk L : Int) (mkB x : Int) = (dmk (L ++ [x]) : Int) := by
  have h1 : dmk L < 32768 := msk_lt15 (allP_small hL)
  have h2 : mkB x < 32768 := by rw [mkB_msk hx]; exact msk_lt15 (okB_small hx)
  obtain ⟨e1, e2⟩ := bits15 h1 h2
  refine ⟨?_, by rw [e2, dmk_snoc, mkB_msk hx]⟩
  rw [e1, Bool.eq_iff_iff, ← dmk_and hL hx]
  simp only [bne_iff_ne, ne_eq]
  omega
end Go.Proofs.Ytahgialnhomefaa

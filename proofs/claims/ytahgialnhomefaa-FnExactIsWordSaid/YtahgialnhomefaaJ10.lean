
/- The common point of two blocks: the program's and the model's. Sets of blocks that are closures: what they answer, and how one more block comes in. areDisjoint of the program. What DoubleSystem answers: plain. Renumbered systems, and systems of blocks in any order: plain. Plain facts on squares. Plain facts on the points of blocks. Plain facts on difference families. impl.isDifferenceTriple, differencesOf; spec.l02Triple. spec.l02Triple, the first cases. spec.l02Triple, the other cases. Masks: plain. Masks of small numbers. -/
import Derived.Test.YtahgialnhomefaaJ9
import Derived.Outline
import Derived.Lib.SlicesCompact
import Derived.Deep.QuietTactic
import Derived.BigQuiet
namespace Go.Proofs.Ytahgialnhomefaa
open Go.RowKit Go.Maps
/-- The first point of b that is in c. -/
def comP (b c : Blk) : Option Int := if hasB c b.a then some b.a else if hasB c b.b then some b.b else if hasB c b.c then some b.c else none
theorem inL_has (p : Int) (x : Blk) : inL p [x.a, x.b, x.c] = hasB x p := by
  rw [Bool.eq_iff_iff]
  simp [inL, hasB]
  omega
set_option maxRecDepth 100000 in
theorem commonPoint_any (x y : Blk) (w : World) : Calls Try.prog 127 #[bv x, bv y] w (RV (.tuple #[.int .i64 ((comP x y).getD 0), .bool (comP x y).isSome]) w) := by
  have HC := Lib.hid fun (p : Int) (B cap : Nat) (W : World) (h0 : W.cell? ⟨B, 0, none⟩ = some (.int .i64 y.a)) (h1 : W.cell? ⟨B, 1, none⟩ = some (.int .i64 y.b)) (h2 : W.cell? ⟨B, 2, none⟩ = some (.int .i64 y.c)) => Contains_any B 0 cap [y.a, y.b, y.c] p W (ints3 h0 h1 h2) (by simp)
  simp only [inL_has] at HC
  obtain ⟨β0, h0⟩ : ∃ β, β = hasB y x.a := ⟨_, rfl⟩
  obtain ⟨β1, h1⟩ : ∃ β, β = hasB y x.b := ⟨_, rfl⟩
  obtain ⟨β2, h2⟩ : ∃ β, β = hasB y x.c := ⟨_, rfl⟩
  have HCM := Lib.hid (show comP x y = if β0 then some x.a else if β1 then some x.b else if β2 then some x.c else none by unfold comP; rw [h0, h1, h2])
  have HA := Lib.hid fun (B cap : Nat) W j0 j1 j2 => HC.out x.a B cap W j0 j1 j2
  have HB := Lib.hid fun (B cap : Nat) W j0 j1 j2 => HC.out x.b B cap W j0 j1 j2
  have HD := Lib.hid fun (B cap : Nat) W j0 j1 j2 => HC.out x.c B cap W j0 j1 j2
  rw [← h0] at HA
  rw [← h1] at HB
  rw [← h2] at HD
  clear HC h0 h1 h2
  obtain ⟨xa, xb, xc⟩ := x
  obtain ⟨ya, yb, yc⟩ := y
  unfold bv
  dsimp only at HA HB HD HCM ⊢
  have ix0 : ∀ w, (Instr.index 84 (.agg #[.int .i64 xa, .int .i64 xb, .int .i64 xc]) (.int .i64 0)).run Try.prog w = .ok (.int .i64 xa) w := fun _ => by kernel_rfl
  have ix1 : ∀ w, (Instr.index 84 (.agg #[.int .i64 xa, .int .i64 xb, .int .i64 xc]) (.int .i64 1)).run Try.prog w = .ok (.int .i64 xb) w := fun _ => by kernel_rfl
  have ix2 : ∀ w, (Instr.index 84 (.agg #[.int .i64 xa, .int .i64 xb, .int .i64 xc]) (.int .i64 2)).run Try.prog w = .ok (.int .i64 xc) w := fun _ => by kernel_rfl
  cases β0 with
  | true =>
    have HV := Lib.hid (show comP ⟨xa, xb, xc⟩ ⟨ya, yb, yc⟩ = some xa by rw [HCM.out]; rfl)
    go_enter Try.func127, Try.ntmps127
    go_wp2
    refine wp_loop_rounds 1 ?_
    rw [rounds_succ]
    go_wp2_with (go_at_call 79; refine (HA.out _ _ _ (by simp [go_sem]) (by simp [go_sem]) (by simp [go_sem])).mono ?_; rintro e w0 ⟨rfl, rfl⟩)
    go_ret2
    exact ⟨by rw [HV.out]; rfl, ((Below.refl _ _).alloc (Nat.le_refl _) _).alloc (by simp) _⟩
  | false =>
    cases β1 with
    | true =>
      have HV := Lib.hid (show comP ⟨xa, xb, xc⟩ ⟨ya, yb, yc⟩ = some xb by rw [HCM.out]; rfl)
      go_enter Try.func127, Try.ntmps127
      go_wp2
      refine wp_loop_rounds 2 ?_
      rw [rounds_succ]
      go_wp2_with (go_at_call 79; refine (HA.out _ _ _ (by simp [go_sem]) (by simp [go_sem]) (by simp [go_sem])).mono ?_; rintro e w0 ⟨rfl, rfl⟩)
      rw [rounds_succ]
      go_wp2_with (go_at_call 79; refine (HB.out _ _ _ (by simp [go_sem]) (by simp [go_sem]) (by simp [go_sem])).mono ?_; rintro e w1 ⟨rfl, rfl⟩)
      go_ret2
      exact ⟨by rw [HV.out]; rfl, ((Below.refl _ _).alloc (Nat.le_refl _) _).alloc (by simp) _⟩
    | false =>
      cases β2 with
      | true =>
        have HV := Lib.hid (show comP ⟨xa, xb, xc⟩ ⟨ya, yb, yc⟩ = some xc by rw [HCM.out]; rfl)
        go_enter Try.func127, Try.ntmps127
        go_wp2
        refine wp_loop_rounds 3 ?_
        rw [rounds_succ]
        go_wp2_with (go_at_call 79; refine (HA.out _ _ _ (by simp [go_sem]) (by simp [go_sem]) (by simp [go_sem])).mono ?_; rintro e w0 ⟨rfl, rfl⟩)
        rw [rounds_succ]
        go_wp2_with (go_at_call 79; refine (HB.out _ _ _ (by simp [go_sem]) (by simp [go_sem]) (by simp [go_sem])).mono ?_; rintro e w1 ⟨rfl, rfl⟩)
        rw [rounds_succ]
        go_wp2_with (go_at_call 79; refine (HD.out _ _ _ (by simp [go_sem]) (by simp [go_sem]) (by simp [go_sem])).mono ?_; rintro e w2 ⟨rfl, rfl⟩)
        go_ret2
        exact ⟨by rw [HV.out]; rfl, ((Below.refl _ _).alloc (Nat.le_refl _) _).alloc (by simp) _⟩
      | false =>
        have HV := Lib.hid (show comP ⟨xa, xb, xc⟩ ⟨ya, yb, yc⟩ = none by rw [HCM.out]; rfl)
        go_enter Try.func127, Try.ntmps127
        go_wp2
        refine wp_loop_rounds 4 ?_
        rw [rounds_succ]
        go_wp2_with (go_at_call 79; refine (HA.out _ _ _ (by simp [go_sem]) (by simp [go_sem]) (by simp [go_sem])).mono ?_; rintro e w0 ⟨rfl, rfl⟩)
        rw [rounds_succ]
        go_wp2_with (go_at_call 79; refine (HB.out _ _ _ (by simp [go_sem]) (by simp [go_sem]) (by simp [go_sem])).mono ?_; rintro e w1 ⟨rfl, rfl⟩)
        rw [rounds_succ]
        go_wp2_with (go_at_call 79; refine (HD.out _ _ _ (by simp [go_sem]) (by simp [go_sem]) (by simp [go_sem])).mono ?_; rintro e w2 ⟨rfl, rfl⟩)
        rw [rounds_succ]
        go_wp2
        go_ret2
        exact ⟨by rw [HV.out]; rfl, ((Below.refl _ _).alloc (Nat.le_refl _) _).alloc (by simp) _⟩
end Go.Proofs.Ytahgialnhomefaa

namespace Go.Proofs.Ytahgialnhomefaa
open Go.RowKit Go.Maps
/-- Have two blocks a point in common? -/
def touch (x y : Blk) : Bool := (comP x y).isSome
/-- The value is a closure over the blocks of a list, the last one that came in first. -/
inductive MeetV (W : World) : Value → List Blk → Prop
  | nil : MeetV W (.func (.func 109) #[] #[]) []
  | cons {pc pm : Nat} {m : Value} {c : Blk} {L : List Blk} (hc : pc < W.heap.size) (hm : pm < W.heap.size) (c0 : W.cell? ⟨pc, 0, none⟩ = some (.int .i64 c.a)) (c1 : W.cell? ⟨pc, 1, none⟩ = some (.int .i64 c.b)) (c2 : W.cell? ⟨pc, 2, none⟩ = some (.int .i64 c.c)) (m0 : W.cell? ⟨pm, 0, none⟩ = some m) (h : MeetV W m L) :
      MeetV W (.func (.func 126) #[] #[.pointer (some ⟨pc, 0, none⟩), .pointer (some ⟨pm, 0, none⟩)]) (c :: L)
theorem MeetV.later {W W' : World} {m : Value} {L : List Blk} (h : MeetV W m L) {B : Nat} (hb : Below B W W') (hB : W.heap.size ≤ B) : MeetV W' m L := by
  induction h with
  | nil => exact .nil
  | cons hc hm c0 c1 c2 m0 _ ih =>
    exact .cons (Nat.lt_of_lt_of_le hc hb.size) (Nat.lt_of_lt_of_le hm hb.size) ((hb.cell (Nat.lt_of_lt_of_le hc hB)).trans c0) ((hb.cell (Nat.lt_of_lt_of_le hc hB)).trans c1) ((hb.cell (Nat.lt_of_lt_of_le hc hB)).trans c2) ((hb.cell (Nat.lt_of_lt_of_le hm hB)).trans m0) ih
theorem noBlocks_any (b : Blk) (w : World) : Calls Try.prog 109 #[bv b] w (RV (.bool false) w) := by
  obtain ⟨b0, b1, b2⟩ := b
  unfold bv
  dsimp only
  go_enter Try.func109, Try.ntmps109
  go_wp2
  go_ret
  exact ⟨rfl, (Below.refl _ _).alloc (Nat.le_refl _) _⟩
set_option maxRecDepth 100000 in
theorem with1_any : ∀ (L : List Blk) (c b : Blk) (pc pm : Nat) (m : Value) (w : World) (_ : pc < w.heap.size) (_ : pm < w.heap.size) (_ : w.cell? ⟨pc, 0, none⟩ = some (.int .i64 c.a)) (_ : w.cell? ⟨pc, 1, none⟩ = some (.int .i64 c.b)) (_ : w.cell? ⟨pc, 2, none⟩ = some (.int .i64 c.c)) (_ : w.cell? ⟨pm, 0, none⟩ = some m) (_ : MeetV w m L),
    Calls Try.prog 126 #[bv b, .pointer (some ⟨pc, 0, none⟩), .pointer (some ⟨pm, 0, none⟩)] w (RV (.bool (touch b c || L.any (touch b))) w) := by
  intro L
  induction L with
  | nil =>
    intro c b pc pm m w hpc hpm c0 c1 c2 m0 hm
    cases hm
    have HP := Lib.hid fun W => commonPoint_any b c W
    have HN := Lib.hid fun W => noBlocks_any b W
    obtain ⟨β, hβ⟩ : ∃ β, β = touch b c := ⟨_, rfl⟩
    have HE := Lib.hid hβ
    rw [show (comP b c).isSome = β by rw [hβ]; rfl] at HP
    clear hβ
    obtain ⟨b0, b1, b2⟩ := b
    obtain ⟨x0, x1, x2⟩ := c
    unfold bv at HP HN ⊢
    dsimp only at HP HN c0 c1 c2 ⊢
    cases β with
    | true =>
      go_enter Try.func126, Try.ntmps126
      go_wp2_with fail
      refine (HP.out _).mono ?_
      rintro e w1 ⟨rfl, hb1⟩
      have hb2 := below_new hb1
      go_wp2
      go_ret
      exact ⟨by rw [← HE.out]; rfl, hb2⟩
    | false =>
      go_enter Try.func126, Try.ntmps126
      go_wp2_with fail
      refine (HP.out _).mono ?_
      rintro e w1 ⟨rfl, hb1⟩
      have hb2 := below_new hb1
      have d0 := (hb1.cell (p := ⟨w.heap.size, 0, none⟩) (by simp)).trans (by simp [go_sem] : _ = some (Value.int .i64 b0))
      have d1 := (hb1.cell (p := ⟨w.heap.size, 1, none⟩) (by simp)).trans (by simp [go_sem] : _ = some (Value.int .i64 b1))
      have d2 := (hb1.cell (p := ⟨w.heap.size, 2, none⟩) (by simp)).trans (by simp [go_sem] : _ = some (Value.int .i64 b2))
      have e0 := (hb2.cell (p := ⟨pm, 0, none⟩) hpm).trans m0
      clear hb1
      go_wp2_with fail
      refine (HN.out _).mono ?_
      rintro e w2 ⟨rfl, hb3⟩
      have hz := hb2.size
      go_wp2
      go_ret
      exact ⟨by rw [← HE.out]; rfl, hb2.trans (hb3.mono hz)⟩
  | cons y L ih =>
    intro c b pc pm m w hpc hpm c0 c1 c2 m0 hm
    cases hm with
    | cons hqc hqm q0 q1 q2 k0 hk =>
    have HP := Lib.hid fun W => commonPoint_any b c W
    have HN := Lib.hid fun W (hb : Below w.heap.size w W) => ih y b _ _ _ W (Nat.lt_of_lt_of_le hqc hb.size) (Nat.lt_of_lt_of_le hqm hb.size) ((hb.cell hqc).trans q0) ((hb.cell hqc).trans q1) ((hb.cell hqc).trans q2) ((hb.cell hqm).trans k0) (hk.later hb (Nat.le_refl _))
    obtain ⟨β, hβ⟩ : ∃ β, β = touch b c := ⟨_, rfl⟩
    have HE := Lib.hid hβ
    rw [show (comP b c).isSome = β by rw [hβ]; rfl] at HP
    clear hβ ih q0 q1 q2 k0 hk hqc hqm
    obtain ⟨μ, hμ⟩ : ∃ μ, μ = (touch b y || L.any (touch b)) := ⟨_, rfl⟩
    have HM := Lib.hid hμ
    rw [← hμ] at HN
    clear hμ
    obtain ⟨b0, b1, b2⟩ := b
    obtain ⟨x0, x1, x2⟩ := c
    unfold bv at HP HN ⊢
    dsimp only at HP HN c0 c1 c2 ⊢
    cases β with
    | true =>
      go_enter Try.func126, Try.ntmps126
      go_wp2_with fail
      refine (HP.out _).mono ?_
      rintro e w1 ⟨rfl, hb1⟩
      have hb2 := below_new hb1
      go_wp2
      go_ret
      exact ⟨by rw [← HE.out]; rfl, hb2⟩
    | false =>
      go_enter Try.func126, Try.ntmps126
      go_wp2_with fail
      refine (HP.out _).mono ?_
      rintro e w1 ⟨rfl, hb1⟩
      have hb2 := below_new hb1
      have d0 := (hb1.cell (p := ⟨w.heap.size, 0, none⟩) (by simp)).trans (by simp [go_sem] : _ = some (Value.int .i64 b0))
      have d1 := (hb1.cell (p := ⟨w.heap.size, 1, none⟩) (by simp)).trans (by simp [go_sem] : _ = some (Value.int .i64 b1))
      have d2 := (hb1.cell (p := ⟨w.heap.size, 2, none⟩) (by simp)).trans (by simp [go_sem] : _ = some (Value.int .i64 b2))
      have e0 := (hb2.cell (p := ⟨pm, 0, none⟩) hpm).trans m0
      clear hb1
      go_wp2_with fail
      refine (HN.out _ hb2).mono ?_
      rintro e w2 ⟨rfl, hb3⟩
      have hz := hb2.size
      go_wp2
      go_ret
      exact ⟨by rw [List.any_cons, ← HE.out, ← HM.out]; rfl, hb2.trans (hb3.mono hz)⟩
/-- A set of blocks, asked. -/
theorem MeetV.call {W : World} {m : Value} {L : List Blk} (h : MeetV W m L) : ∃ f caps, m = .func (.func f) #[] caps ∧ ∀ (b : Blk) (w : World) (_ : Below W.heap.size W w), Calls Try.prog f (#[bv b] ++ caps) w (RV (.bool (L.any (touch b))) w) := by
  cases h with
  | nil => exact ⟨_, _, rfl, fun b w _ => noBlocks_any b w⟩
  | cons hc hm c0 c1 c2 m0 h =>
    exact ⟨_, _, rfl, fun b w hb => with1_any _ _ b _ _ _ w (Nat.lt_of_lt_of_le hc hb.size) (Nat.lt_of_lt_of_le hm hb.size) ((hb.cell hc).trans c0) ((hb.cell hc).trans c1) ((hb.cell hc).trans c2) ((hb.cell hm).trans m0) (h.later hb (Nat.le_refl _))⟩
/-- A set of blocks, asked: which function it is. -/
theorem MeetV.call2 {W : World} {m : Value} {L : List Blk} (h : MeetV W m L) :
    (m = .func (.func 109) #[] #[] ∧ ∀ (b : Blk) (w : World) (_ : Below W.heap.size W w), Calls Try.prog 109 #[bv b] w (RV (.bool (L.any (touch b))) w)) ∨
    (∃ pc pm, m = .func (.func 126) #[] #[.pointer (some ⟨pc, 0, none⟩), .pointer (some ⟨pm, 0, none⟩)] ∧ ∀ (b : Blk) (w : World) (_ : Below W.heap.size W w), Calls Try.prog 126 #[bv b, .pointer (some ⟨pc, 0, none⟩), .pointer (some ⟨pm, 0, none⟩)] w (RV (.bool (L.any (touch b))) w)) := by
  cases h with
  | nil => exact .inl ⟨rfl, fun b w _ => noBlocks_any b w⟩
  | cons hc hm c0 c1 c2 m0 h =>
    exact .inr ⟨_, _, rfl, fun b w hb => with1_any _ _ b _ _ _ w (Nat.lt_of_lt_of_le hc hb.size) (Nat.lt_of_lt_of_le hm hb.size) ((hb.cell hc).trans c0) ((hb.cell hc).trans c1) ((hb.cell hc).trans c2) ((hb.cell hm).trans m0) (h.later hb (Nat.le_refl _))⟩
theorem with_any (m : Value) (L : List Blk) (c : Blk) (w : World) (h : MeetV w m L) :
    Calls Try.prog 110 #[m, bv c] w fun e w' => ∃ u, e = .returned u ∧ MeetV w' u (c :: L) ∧ Below w.heap.size w w' := by
  have hmf : ∀ (fn : Fn) (first cap : Array Value) (w : World), (Instr.makeFunc fn first cap).run Try.prog w = .ok (.func fn first cap) w := fun _ _ _ _ => rfl
  obtain ⟨f, caps, hf, _⟩ := h.call
  have HM := Lib.hid h
  clear h
  subst hf
  obtain ⟨c0, c1, c2⟩ := c
  unfold bv
  dsimp only
  go_enter Try.func110, Try.ntmps110
  go_wp2
  go_ret
  have hb : Below w.heap.size w ((w.alloc (.cells #[.func (.func f) #[] caps] 113)).alloc (.cells #[.int .i64 c0, .int .i64 c1, .int .i64 c2] 84)) := ((Below.refl _ _).alloc (Nat.le_refl _) _).alloc (by simp) _
  exact ⟨_, rfl, .cons (by simp) (by simp; omega) (by simp) (by simp) (by simp) (by simp [go_sem]) (HM.out.later hb (Nat.le_refl _)), hb⟩
end Go.Proofs.Ytahgialnhomefaa

namespace Go.Proofs.Ytahgialnhomefaa
open Go.RowKit Go.Maps
/-- Disjoint blocks, those of the first list being there already. -/
def disGo : List Blk → List Blk → Bool
  | _, [] => true
  | L, b :: r => !(L.any (touch b)) && disGo (b :: L) r
/-- The blocks with the numbers of a list. -/
def blksAt (bs : List Blk) (zs : List Int) : List Blk := zs.map fun z => bs[z.toNat]?.getD default
theorem blksAt_len (bs : List Blk) (zs : List Int) : (blksAt bs zs).length = zs.length := by simp [blksAt]
/-- The set of the first k of them, the last one first. -/
def preB (bs : List Blk) (zs : List Int) (k : Nat) : List Blk := ((blksAt bs zs).take k).reverse
theorem preB_succ {bs : List Blk} {zs : List Int} {k : Nat} (hk : k < zs.length) : preB bs zs (k + 1) = (bs[(zs[k]?.getD 0).toNat]?.getD default) :: preB bs zs k := by
  have h : k < (blksAt bs zs).length := by rw [blksAt_len]; exact hk
  rw [preB, List.take_succ_eq_append_getElem h, List.reverse_append, preB]
  simp [blksAt, hk]
theorem disGo_cons (L : List Blk) (b : Blk) (r : List Blk) : disGo L (b :: r) = (!(L.any (touch b)) && disGo (b :: L) r) := rfl
theorem disGo_nil (L : List Blk) : disGo L [] = true := rfl
theorem drop_blksAt {bs : List Blk} {zs : List Int} {k : Nat} (hk : k < zs.length) : (blksAt bs zs).drop k = (bs[(zs[k]?.getD 0).toNat]?.getD default) :: (blksAt bs zs).drop (k + 1) := by
  have h : k < (blksAt bs zs).length := by rw [blksAt_len]; exact hk
  rw [List.drop_eq_getElem_cons h]
  simp [blksAt, hk]
end Go.Proofs.Ytahgialnhomefaa

namespace Go.Proofs.Ytahgialnhomefaa
def dblB (v : Int) (x : Blk) : List Blk := [⟨x.a, v + x.b, v + x.c⟩, ⟨x.b, v + x.a, v + x.c⟩, ⟨x.c, v + x.a, v + x.b⟩]
def dblP (v : Int) (k : Nat) : List Blk := (List.range k).map fun (a : Nat) => ⟨(a : Int), v + (a : Int), 2 * v⟩
theorem dblP_succ (v : Int) (k : Nat) : dblP v (k + 1) = dblP v k ++ [⟨(k : Int), v + (k : Int), 2 * v⟩] := by simp [dblP, List.range_succ]
theorem dblP_len (v : Int) (k : Nat) : (dblP v k).length = k := by simp [dblP]
def dblA (v : Int) (bs : List Blk) (k : Nat) : List Blk := bs ++ (bs.take k).flatMap (dblB v)
theorem dblA_succ {v : Int} {bs : List Blk} {k : Nat} (hk : k < bs.length) {x : Blk} (hx : bs[k]? = some x) : dblA v bs (k + 1) = dblA v bs k ++ dblB v x := by
  have e : bs[k] = x := by
    rw [List.getElem?_eq_getElem hk] at hx
    simpa using hx
  unfold dblA
  rw [List.take_succ_eq_append_getElem hk, e, List.flatMap_append, List.append_assoc]
  simp
theorem dblB_len (v : Int) : ∀ l : List Blk, (l.flatMap (dblB v)).length = 3 * l.length
  | [] => rfl
  | x :: r => by rw [List.flatMap_cons, List.length_append, dblB_len v r]; simp [dblB]; omega
theorem dblA_len (v : Int) (bs : List Blk) {k : Nat} (hk : k ≤ bs.length) : (dblA v bs k).length = bs.length + 3 * k := by
  unfold dblA
  rw [List.length_append, dblB_len, List.length_take, Nat.min_eq_left hk]
def dblL (v : Int) (bs : List Blk) : List Blk := dblA v bs bs.length ++ dblP v v.toNat
theorem dblL_len (v : Int) (bs : List Blk) : (dblL v bs).length = bs.length + 3 * bs.length + v.toNat := by
  unfold dblL
  rw [List.length_append, dblA_len v bs (Nat.le_refl _), dblP_len]
theorem dblL_mem {v : Int} (hv : 0 ≤ v) (hv15 : v ≤ 15) {bs : List Blk} (hg : ∀ x ∈ bs, goodB v x = true) : ∀ x ∈ dblL v bs, (0 ≤ x.a ∧ x.a ≤ 1000) ∧ (0 ≤ x.b ∧ x.b ≤ 1000) ∧ (0 ≤ x.c ∧ x.c ≤ 1000) := by
  intro x hx
  unfold dblL dblA at hx
  rw [List.take_length] at hx
  rcases List.mem_append.1 hx with hx | hx
  · rcases List.mem_append.1 hx with hx | hx
    · have := goodB_iff.1 (hg x hx); omega
    · obtain ⟨y, hy, hxy⟩ := List.mem_flatMap.1 hx
      have := goodB_iff.1 (hg y hy)
      simp only [dblB, List.mem_cons, List.not_mem_nil, or_false] at hxy
      rcases hxy with rfl | rfl | rfl <;> (dsimp only; omega)
  · obtain ⟨a, ha, rfl⟩ := List.mem_map.1 hx
    have := List.mem_range.1 ha
    dsimp only
    omega
/-- The smallest, the middle and the greatest of three. -/
def blk3 (a b c : Int) : Blk := ⟨min (min a b) c, a + b + c - min (min a b) c - max (max a b) c, max (max a b) c⟩
theorem blk3_of {a b c p q r : Int} (hp : p = min (min a b) c) (hr : r = max (max a b) c) (hq : q = a + b + c - p - r) : blk3 a b c = ⟨p, q, r⟩ := by
  unfold blk3
  rw [← hp, ← hr, ← hq]
end Go.Proofs.Ytahgialnhomefaa

namespace Go.Proofs.Ytahgialnhomefaa
/-- Each number is a point, and comes once. -/
def rnGo (v : Int) : List Int → List Int → Bool
  | _, [] => true
  | seen, a :: r => inP v a && !(decide (a ∈ seen)) && rnGo v (seen ++ [a]) r
def isRen (v : Int) (p : List Int) : Bool := decide ((p.length : Int) = v) && rnGo v [] p
theorem rnGo_in {v : Int} : ∀ {l seen : List Int}, rnGo v seen l = true → ∀ a ∈ l, inP v a = true
  | [], _, _, a, h => by cases h
  | b :: r, seen, h, a, ha => by
    simp only [rnGo, Bool.and_eq_true] at h
    rcases List.mem_cons.1 ha with rfl | ha
    · exact h.1.1
    · exact rnGo_in h.2 a ha
theorem rnGo_bad {v : Int} {a : Int} {r seen : List Int} (h : inP v a = false) : rnGo v seen (a :: r) = false := by simp [rnGo, h]
theorem rnGo_dup {v : Int} {a : Int} {r seen : List Int} (h : a ∈ seen) : rnGo v seen (a :: r) = false := by simp [rnGo, h]
theorem rnGo_next {v : Int} {a : Int} {r seen : List Int} (h : inP v a = true) (h2 : a ∉ seen) : rnGo v seen (a :: r) = rnGo v (seen ++ [a]) r := by simp [rnGo, h, h2]
def at0 (p : List Int) (a : Int) : Int := p[a.toNat]?.getD 0
def renB (p : List Int) (x : Blk) : Blk := blk3 (at0 p x.a) (at0 p x.b) (at0 p x.c)
/-- A system and a code: points, blocks, code. -/
def renF (v : Int) (bs : List Blk) (p : List Int) : Int × List Blk × Int :=
  if isSysImpl v bs then (if isRen v p then (v, sortB (bs.map (renB p)), 0) else (0, [], 2)) else (0, [], 1)
theorem renF_len (v : Int) (bs : List Blk) (p : List Int) : (renF v bs p).2.1.length ≤ bs.length := by
  unfold renF
  split
  · split
    · simp only [sortB_length, List.length_map]; exact Nat.le_refl _
    · simp
  · simp
theorem at0_in {v : Int} {p : List Int} (h : isRen v p = true) {a : Int} (h0 : 0 ≤ a) (h1 : a < v) : 0 ≤ at0 p a ∧ at0 p a < v := by
  unfold isRen at h
  simp only [Bool.and_eq_true, decide_eq_true_eq] at h
  have hl : a.toNat < p.length := by omega
  have := rnGo_in h.2 p[a.toNat] (List.getElem_mem hl)
  rw [inP] at this
  simp only [Bool.and_eq_true, decide_eq_true_eq] at this
  unfold at0
  rw [List.getElem?_eq_getElem hl]
  exact this
theorem blk3_in {v a b c : Int} (ha : 0 ≤ a ∧ a < v) (hb : 0 ≤ b ∧ b < v) (hc : 0 ≤ c ∧ c < v) : (0 ≤ (blk3 a b c).a ∧ (blk3 a b c).a < v) ∧ (0 ≤ (blk3 a b c).b ∧ (blk3 a b c).b < v) ∧ (0 ≤ (blk3 a b c).c ∧ (blk3 a b c).c < v) := by
  unfold blk3
  dsimp only
  omega
/-- The middle one. -/
theorem blk3_good {v a b c : Int} : goodB v (blk3 a b c) = true ↔ (0 ≤ a ∧ a < v) ∧ (0 ≤ b ∧ b < v) ∧ (0 ≤ c ∧ c < v) ∧ a ≠ b ∧ b ≠ c ∧ a ≠ c := by
  rw [goodB_iff]
  unfold blk3
  dsimp only
  omega
def b3 (x : Blk) : Blk := blk3 x.a x.b x.c
def sysOfF (v : Int) (bs : List Blk) : Int × List Blk × Int :=
  if decide (3 ≤ v) && decide (v ≤ 15) && decide (bs.length ≤ 35) && bs.all (fun x => goodB v (b3 x)) then
    (if shareGo [] (bs.map b3) then (0, [], 5) else (v, sortB (bs.map b3), 0))
  else (0, [], 2)
theorem sort3 (a b c : Int) : [a, b, c].mergeSort (fun x y => decide (x ≤ y)) = [(blk3 a b c).a, (blk3 a b c).b, (blk3 a b c).c] := by
  have hs : ([a, b, c].mergeSort (fun x y => decide (x ≤ y))).Pairwise (· ≤ ·) := by
    have := List.pairwise_mergeSort (le := fun x y : Int => decide (x ≤ y)) (fun x y z h1 h2 => by simp at *; omega) (fun x y => by simp; omega) [a, b, c]
    exact this.imp (by simp)
  have hp := List.mergeSort_perm [a, b, c] (fun x y : Int => decide (x ≤ y))
  have hs2 : [(blk3 a b c).a, (blk3 a b c).b, (blk3 a b c).c].Pairwise (· ≤ ·) := by
    unfold blk3
    simp
    omega
  have hp2 : [(blk3 a b c).a, (blk3 a b c).b, (blk3 a b c).c].Perm [a, b, c] := by
    unfold blk3
    dsimp only
    rw [List.perm_iff_count]
    intro x
    simp only [List.count_cons, List.count_nil, beq_iff_eq]
    by_cases h1 : a ≤ b <;> by_cases h2 : b ≤ c <;> by_cases h3 : a ≤ c <;> simp only [Int.min_def, Int.max_def, h1, h2, h3, if_true, if_false] <;> (try omega) <;> (repeat' split) <;> omega
  exact (hp.trans hp2.symm).eq_of_pairwise (fun x y _ _ h1 h2 => by omega) hs hs2
end Go.Proofs.Ytahgialnhomefaa

namespace Go.Proofs.Ytahgialnhomefaa
def col (n : Nat) (F : Nat → List Int) (y : Nat) : List Int := (List.range n).map fun i => (F i)[y]?.getD 0
def rowsOk (n k : Nat) (F : Nat → List Int) : Bool := (List.range k).all fun i => isRen (n : Int) (F i)
def colsOk (n k : Nat) (F : Nat → List Int) : Bool := (List.range k).all fun y => isRen (n : Int) (col n F y)
def sqB (n : Nat) (F : Nat → List Int) : Bool := decide (2 ≤ n) && decide (n ≤ 5) && rowsOk n n F && colsOk n n F
theorem col_len (n : Nat) (F : Nat → List Int) (y : Nat) : (col n F y).length = n := by simp [col]
theorem rowsOk_succ (n k : Nat) (F : Nat → List Int) : rowsOk n (k + 1) F = (rowsOk n k F && isRen (n : Int) (F k)) := by
  simp [rowsOk, List.range_succ, List.all_append]
theorem colsOk_succ (n k : Nat) (F : Nat → List Int) : colsOk n (k + 1) F = (colsOk n k F && isRen (n : Int) (col n F k)) := by
  simp [colsOk, List.range_succ, List.all_append]
theorem rowsOk_false {n m k : Nat} {F : Nat → List Int} (hk : k < m) (h : isRen (n : Int) (F k) = false) : rowsOk n m F = false := by
  unfold rowsOk
  rw [List.all_eq_false]
  exact ⟨k, List.mem_range.2 hk, by simp [h]⟩
theorem colsOk_false {n m k : Nat} {F : Nat → List Int} (hk : k < m) (h : isRen (n : Int) (col n F k) = false) : colsOk n m F = false := by
  unfold colsOk
  rw [List.all_eq_false]
  exact ⟨k, List.mem_range.2 hk, by simp [h]⟩
theorem rowsOk_at {n m k : Nat} {F : Nat → List Int} (h : rowsOk n m F = true) (hk : k < m) : isRen (n : Int) (F k) = true :=
  List.all_eq_true.1 h k (List.mem_range.2 hk)
theorem colsOk_at {n m k : Nat} {F : Nat → List Int} (h : colsOk n m F = true) (hk : k < m) : isRen (n : Int) (col n F k) = true :=
  List.all_eq_true.1 h k (List.mem_range.2 hk)
theorem isRen_len {n : Nat} {p : List Int} (h : isRen (n : Int) p = true) : p.length = n := by
  simp only [isRen, Bool.and_eq_true, decide_eq_true_eq] at h
  exact Int.ofNat_inj.1 h.1
/-- The first k numbers of a column. -/
def colK (F : Nat → List Int) (y k : Nat) : List Int := (List.range k).map fun i => (F i)[y]?.getD 0
theorem colK_succ (F : Nat → List Int) (y k : Nat) : colK F y (k + 1) = colK F y k ++ [(F k)[y]?.getD 0] := by simp [colK, List.range_succ]
theorem colK_len (F : Nat → List Int) (y k : Nat) : (colK F y k).length = k := by simp [colK]
end Go.Proofs.Ytahgialnhomefaa

namespace Go.Proofs.Ytahgialnhomefaa
open Go.Lib
/-- All points in blocks, block by block. -/
def ptsAll (bs : List Blk) : List Int := bs.flatMap fun x => [x.a, x.b, x.c]
/-- The points in blocks, ascending. -/
def ptsT (v : Int) (bs : List Blk) : List Int := ((List.range v.toNat).map fun (k : Nat) => (k : Int)).filter fun p => bs.any fun x => hasB x p
theorem asc_unique {l m : List Int} (h1 : l.Pairwise (· < ·)) (h2 : m.Pairwise (· < ·)) (h : ∀ x, x ∈ l ↔ x ∈ m) : l = m := by
  induction l generalizing m with
  | nil =>
    cases m with
    | nil => rfl
    | cons y m => exact absurd ((h y).2 (by simp)) (by simp)
  | cons x l ih =>
    cases m with
    | nil => exact absurd ((h x).1 (by simp)) (by simp)
    | cons y m =>
      rw [List.pairwise_cons] at h1 h2
      have e : x = y := by
        have a := (h x).1 (by simp)
        have b := (h y).2 (by simp)
        rcases List.mem_cons.1 a with a | a
        · exact a
        · rcases List.mem_cons.1 b with b | b
          · exact b.symm
          · have := h1.1 y b
            have := h2.1 x a
            omega
      subst e
      rw [ih h1.2 h2.2 (fun z => ?_)]
      have hz := h z
      simp only [List.mem_cons] at hz
      constructor
      · intro hm
        rcases hz.1 (.inr hm) with rfl | hq
        · have := h1.1 z hm; omega
        · exact hq
      · intro hm
        rcases hz.2 (.inr hm) with rfl | hq
        · have := h2.1 z hm; omega
        · exact hq
theorem compact_mem {zs : List Int} {x : Int} : x ∈ compact zs ↔ x ∈ zs := by
  unfold compact compactUpTo
  rw [List.mem_map]
  constructor
  · rintro ⟨j, hj, rfl⟩
    have hj := List.mem_range.1 (List.mem_filter.1 hj).1
    rw [getElem!_pos zs.toArray j (by simpa using hj)]
    simp
  · intro hx
    obtain ⟨j, hj, rfl⟩ := List.mem_iff_getElem.1 hx
    clear hx
    induction j with
    | zero => exact ⟨0, List.mem_filter.2 ⟨List.mem_range.2 hj, by simp [keeps]⟩, by rw [getElem!_pos zs.toArray 0 (by simpa using hj)]; simp⟩
    | succ j ih =>
      by_cases hk : keeps zs.toArray (j + 1) = true
      · exact ⟨j + 1, List.mem_filter.2 ⟨List.mem_range.2 hj, hk⟩, by rw [getElem!_pos zs.toArray (j + 1) (by simpa using hj)]; simp⟩
      · obtain ⟨i, h1, h2⟩ := ih (by omega)
        refine ⟨i, h1, h2.trans ?_⟩
        rw [Bool.not_eq_true] at hk
        simp only [keeps] at hk
        rw [getElem!_pos zs.toArray (j + 1) (by simpa using hj), getElem!_pos zs.toArray (j + 1 - 1) (by simp; omega)] at hk
        simp at hk
        exact hk.symm
theorem compact_asc {zs : List Int} (h : zs.Pairwise (· ≤ ·)) : (compact zs).Pairwise (· < ·) := by
  unfold compact compactUpTo
  rw [List.pairwise_map]
  have hr : (List.range zs.length).Pairwise (· < ·) := List.pairwise_lt_range
  refine ((hr.filter (keeps zs.toArray)).imp_of_mem ?_)
  intro i j hi hj hlt
  have li := List.mem_range.1 (List.mem_filter.1 hi).1
  have lj := List.mem_range.1 (List.mem_filter.1 hj).1
  have hk := (List.mem_filter.1 hj).2
  simp only [keeps] at hk
  rw [getElem!_pos zs.toArray i (by simpa using li), getElem!_pos zs.toArray j (by simpa using lj)]
  rw [getElem!_pos zs.toArray j (by simpa using lj), getElem!_pos zs.toArray (j - 1) (by simp; omega)] at hk
  simp at hk ⊢
  have e0 : j ≠ 0 := by omega
  have hp := List.pairwise_iff_getElem.1 h
  have h1 : zs[i] ≤ zs[j - 1] := by
    by_cases e : i = j - 1
    · simp [e]
    · exact hp i (j - 1) li (by omega) (by omega)
  have h2 := hp (j - 1) j (by omega) lj (by omega)
  have h3 : zs[j] ≠ zs[j - 1] := by
    rcases hk with hk | hk
    · exact absurd hk e0
    · exact hk
  omega
theorem ptsAll_mem {bs : List Blk} {p : Int} : p ∈ ptsAll bs ↔ bs.any (fun x => hasB x p) = true := by
  simp only [ptsAll, List.mem_flatMap, List.any_eq_true, hasB, List.mem_cons, List.not_mem_nil, or_false, Bool.or_eq_true, decide_eq_true_eq]
  constructor
  · rintro ⟨x, hx, h⟩
    exact ⟨x, hx, by rcases h with rfl | rfl | rfl <;> simp⟩
  · rintro ⟨x, hx, h⟩
    exact ⟨x, hx, by rcases h with (rfl | rfl) | rfl <;> simp⟩
theorem ptsT_mem {v : Int} {bs : List Blk} (h : ∀ x ∈ bs, goodB v x = true) {p : Int} : p ∈ ptsT v bs ↔ p ∈ ptsAll bs := by
  rw [ptsAll_mem, ptsT, List.mem_filter, List.mem_map]
  constructor
  · exact fun hp => hp.2
  · intro hp
    refine ⟨⟨p.toNat, List.mem_range.2 ?_, ?_⟩, hp⟩
    all_goals
      obtain ⟨x, hx, hh⟩ := List.any_eq_true.1 hp
      have hg := goodB_iff.1 (h x hx)
      simp only [hasB, Bool.or_eq_true, decide_eq_true_eq] at hh
      rcases hh with (rfl | rfl) | rfl <;> omega
theorem ptsT_asc (v : Int) (bs : List Blk) : (ptsT v bs).Pairwise (· < ·) := by
  unfold ptsT
  refine List.Pairwise.filter _ ?_
  rw [List.pairwise_map]
  exact List.pairwise_lt_range.imp fun {a b} h => by omega
theorem pts_same {v : Int} {bs : List Blk} (h : ∀ x ∈ bs, goodB v x = true) : compact ((ptsAll bs).mergeSort fun x y => decide (x ≤ y)) = ptsT v bs := by
  have hp := List.mergeSort_perm (ptsAll bs) (fun x y => decide (x ≤ y))
  have hs : ((ptsAll bs).mergeSort fun x y => decide (x ≤ y)).Pairwise (· ≤ ·) := by
    have := List.pairwise_mergeSort (le := fun (x y : Int) => decide (x ≤ y)) (by intro a b c; simp; omega) (by intro a b; simp; omega) (ptsAll bs)
    exact this.imp fun {a b} h => by simpa using h
  refine asc_unique (compact_asc hs) (ptsT_asc v bs) fun x => ?_
  rw [compact_mem, hp.mem_iff, ptsT_mem h]
theorem ptsT_len (v : Int) (bs : List Blk) (hv : v ≤ 15) : (ptsT v bs).length ≤ 15 := by
  unfold ptsT
  refine Nat.le_trans (List.length_filter_le _ _) ?_
  simp; omega
theorem ptsAll_len (bs : List Blk) : (ptsAll bs).length = 3 * bs.length := by
  induction bs with
  | nil => rfl
  | cons x r ih => simp [ptsAll] at ih ⊢; omega
def ptsF (v : Int) (bo bi : List Blk) : List Int × Int := if trdB v bo bi then (ptsT v bo, 0) else ([], 1)
end Go.Proofs.Ytahgialnhomefaa

namespace Go.Proofs.Ytahgialnhomefaa
def at3 (t : List Int) (k : Nat) : Int := t[k]?.getD 0
def triB (v : Int) (t : List Int) : Bool :=
  decide (t.length = 3) && decide (1 ≤ at3 t 0) && decide (at3 t 0 < at3 t 1) && decide (at3 t 1 < at3 t 2) && decide (at3 t 2 ≤ (v - 1) / 2) && (decide (at3 t 0 + at3 t 1 = at3 t 2) || decide (at3 t 0 + at3 t 1 + at3 t 2 = v))
def dfV (v : Int) : Bool := decide (v = 7) || decide (v = 13) || decide (v = 15)
/-- The numbers that a family has, ascending, up to the first k. -/
def diffsK (v : Int) (k : Nat) : List Int := ((List.range k).map fun (j : Nat) => (j : Int) + 1).filter fun d => decide (v ≠ 15) || decide (d ≠ 5)
def diffs (v : Int) : List Int := diffsK v ((v - 1) / 2).toNat
def catF (n : Nat) (F : Nat → List Int) : List Int := (List.range n).flatMap F
theorem catF_succ (n : Nat) (F : Nat → List Int) : catF (n + 1) F = catF n F ++ F n := by simp [catF, List.range_succ]
def baseD (v : Int) : List Int := if v = 15 then [5] else []
/-- The first i triples are good: in order, and no number twice. -/
def okD (v : Int) (i : Nat) (F : Nat → List Int) : Bool :=
  ((List.range i).all fun j => triB v (F j) && (decide (j = 0) || decide (at3 (F (j - 1)) 0 < at3 (F j) 0))) && decide ((baseD v ++ catF i F).Nodup)
def famB (v : Int) (n : Nat) (F : Nat → List Int) : Bool := okD v n F && decide (3 * n = (diffs v).length)
/-- What the program asks of the first i triples. -/
def okP (v : Int) (i : Nat) (F : Nat → List Int) : Bool := (List.range i).all fun j => triB v (F j) && (decide (j = 0) || decide (cmpL (F (j - 1)) (F j) < 0))
def sortI (l : List Int) : List Int := l.mergeSort fun x y => decide (x ≤ y)
def famP (v : Int) (n : Nat) (F : Nat → List Int) : Bool := okP v n F && decide (sortI (catF n F) = diffs v)
theorem triB_iff {v : Int} {t : List Int} : triB v t = true ↔ ∃ a b c, t = [a, b, c] ∧ 1 ≤ a ∧ a < b ∧ b < c ∧ c ≤ (v - 1) / 2 ∧ (a + b = c ∨ a + b + c = v) := by
  simp only [triB, Bool.and_eq_true, Bool.or_eq_true, decide_eq_true_eq]
  constructor
  · rintro ⟨⟨⟨⟨⟨h0, h1⟩, h2⟩, h3⟩, h4⟩, h5⟩
    match t, h0 with
    | [a, b, c], _ => exact ⟨a, b, c, rfl, by simpa [at3] using h1, by simpa [at3] using h2, by simpa [at3] using h3, by simpa [at3] using h4, by simpa [at3] using h5⟩
  · rintro ⟨a, b, c, rfl, h1, h2, h3, h4, h5⟩
    simp [at3, h1, h2, h3, h4, h5]
theorem diffs_asc (v : Int) (k : Nat) : (diffsK v k).Pairwise (· < ·) := by
  unfold diffsK
  refine List.Pairwise.filter _ ?_
  rw [List.pairwise_map]
  exact List.pairwise_lt_range.imp fun {a b} h => by omega
theorem diffs_mem {v : Int} {k : Nat} {d : Int} : d ∈ diffsK v k ↔ 1 ≤ d ∧ d ≤ k ∧ (v ≠ 15 ∨ d ≠ 5) := by
  simp only [diffsK, List.mem_filter, List.mem_map, List.mem_range, Bool.or_eq_true, decide_eq_true_eq]
  constructor
  · rintro ⟨⟨j, hj, rfl⟩, h⟩
    exact ⟨by omega, by omega, h⟩
  · rintro ⟨h1, h2, h3⟩
    exact ⟨⟨(d - 1).toNat, by omega, by omega⟩, h3⟩
theorem sortI_asc (l : List Int) : (sortI l).Pairwise (· ≤ ·) := by
  have := List.pairwise_mergeSort (le := fun (x y : Int) => decide (x ≤ y)) (by intro a b c; simp; omega) (by intro a b; simp; omega) l
  exact this.imp fun {a b} h => by simpa using h
theorem sortI_perm (l : List Int) : (sortI l).Perm l := List.mergeSort_perm l _
theorem asc_of {l : List Int} (h : l.Pairwise (· ≤ ·)) (hn : l.Nodup) : l.Pairwise (· < ·) := by
  have : l.Pairwise fun x y => x ≤ y ∧ x ≠ y := List.Pairwise.and h hn
  exact this.imp fun {a b} h => by omega
theorem asc_nodup {l : List Int} (h : l.Pairwise (· < ·)) : l.Nodup := h.imp fun {a b} h => by omega
theorem cat_len {v : Int} {F : Nat → List Int} : ∀ n, (∀ j, j < n → triB v (F j) = true) → (catF n F).length = 3 * n
  | 0, _ => rfl
  | n + 1, h => by
    obtain ⟨a, b, c, e, _⟩ := triB_iff.1 (h n (by omega))
    rw [catF_succ, List.length_append, cat_len n (fun j hj => h j (by omega)), e]
    simp; omega
theorem cat_mem {n : Nat} {F : Nat → List Int} {d : Int} : d ∈ catF n F ↔ ∃ j, j < n ∧ d ∈ F j := by
  simp [catF, List.mem_flatMap]
theorem cat_bound {v : Int} {n : Nat} {F : Nat → List Int} (h : ∀ j, j < n → triB v (F j) = true) {d : Int} (hd : d ∈ catF n F) : 1 ≤ d ∧ d ≤ (v - 1) / 2 := by
  obtain ⟨j, hj, hm⟩ := cat_mem.1 hd
  obtain ⟨a, b, c, e, h1, h2, h3, h4, _⟩ := triB_iff.1 (h j hj)
  rw [e] at hm
  simp only [List.mem_cons, List.not_mem_nil, or_false] at hm
  omega
theorem half_nat {v : Int} (hv : dfV v = true) : (((v - 1) / 2).toNat : Int) = (v - 1) / 2 := by
  simp only [dfV, Bool.or_eq_true, decide_eq_true_eq] at hv
  rcases hv with (rfl | rfl) | rfl <;> decide
theorem fam_same {v : Int} (hv : dfV v = true) (n : Nat) (F : Nat → List Int) : famP v n F = famB v n F := by
  have hh := half_nat hv
  rw [Bool.eq_iff_iff]
  simp only [famP, famB, okP, okD, Bool.and_eq_true, List.all_eq_true, List.mem_range, Bool.or_eq_true, decide_eq_true_eq]
  constructor
  · rintro ⟨h1, h2⟩
    have ht : ∀ j, j < n → triB v (F j) = true := fun j hj => (h1 j hj).1
    have hp := sortI_perm (catF n F)
    have hnd : (catF n F).Nodup := hp.nodup_iff.1 (by rw [h2]; exact asc_nodup (diffs_asc v _))
    have h5 : ∀ d ∈ catF n F, v ≠ 15 ∨ d ≠ 5 := fun d hd => by
      have : d ∈ diffs v := by rw [← h2]; exact hp.mem_iff.2 hd
      exact (diffs_mem.1 this).2.2
    refine ⟨⟨fun j hj => ⟨ht j hj, ?_⟩, ?_⟩, ?_⟩
    · rcases (h1 j hj).2 with e | hlt
      · exact .inl e
      · by_cases e : j = 0
        · exact .inl e
        · refine .inr ?_
          obtain ⟨a, b, c, ea, a1, a2, a3, _⟩ := triB_iff.1 (ht (j - 1) (by omega))
          obtain ⟨a', b', c', ea', b1, b2, b3, _⟩ := triB_iff.1 (ht j hj)
          rw [ea, ea'] at hlt ⊢
          simp only [at3]
          simp only [List.getElem?_cons_zero, Option.getD_some]
          rcases cmp1_cases a a' with ⟨hc, _⟩ | ⟨hc, _⟩ | ⟨hc, he⟩
          · exact hc
          · exfalso
            -- the same number in two triples
            have hsplit : catF n F = catF j F ++ ((List.range (n - j)).flatMap fun i => F (j + i)) := by
              unfold catF
              rw [show n = j + (n - j) by omega, List.range_add, List.flatMap_append, List.flatMap_map, Nat.add_sub_cancel_left]
            rw [hsplit, List.nodup_append] at hnd
            refine hnd.2.2 a ?_ a ?_ rfl
            · exact cat_mem.2 ⟨j - 1, by omega, by rw [ea]; simp⟩
            · refine List.mem_flatMap.2 ⟨0, List.mem_range.2 (by omega), ?_⟩
              rw [Nat.add_zero, ea', hc]
              simp
          · exfalso
            simp only [cmpL, he] at hlt
            simp at hlt
    · unfold baseD
      split
      · rename_i e
        rw [List.nodup_append]
        refine ⟨by simp, hnd, ?_⟩
        intro x hx y hy exy
        simp at hx
        rcases h5 y hy with h | h
        · exact h e
        · exact h (by omega)
      · simpa using hnd
    · rw [← cat_len n ht, ← hp.length_eq, h2]
  · rintro ⟨⟨h1, h2⟩, h3⟩
    have ht : ∀ j, j < n → triB v (F j) = true := fun j hj => (h1 j hj).1
    have hnd : (catF n F).Nodup := (List.nodup_append.1 h2).2.1
    refine ⟨fun j hj => ⟨ht j hj, ?_⟩, ?_⟩
    · rcases (h1 j hj).2 with e | hlt
      · exact .inl e
      · by_cases e : j = 0
        · exact .inl e
        · refine .inr ?_
          obtain ⟨a, b, c, ea, _⟩ := triB_iff.1 (ht (j - 1) (by omega))
          obtain ⟨a', b', c', ea', _⟩ := triB_iff.1 (ht j hj)
          rw [ea, ea'] at hlt ⊢
          simp only [at3, List.getElem?_cons_zero, Option.getD_some] at hlt
          simp [cmpL, cmp1, hlt]
    · have hasc := asc_of (sortI_asc (catF n F)) ((sortI_perm _).nodup_iff.2 hnd)
      have hsub : ∀ d ∈ catF n F, d ∈ diffs v := fun d hd => by
        have hb := cat_bound ht hd
        refine diffs_mem.2 ⟨hb.1, by omega, ?_⟩
        by_cases e : v = 15
        · refine .inr fun e5 => ?_
          have hm : (5 : Int) ∈ baseD v := by simp [baseD, e]
          exact (List.nodup_append.1 h2).2.2 5 hm d hd e5.symm
        · exact .inl e
      refine asc_unique hasc (diffs_asc v _) fun d => ?_
      rw [(sortI_perm _).mem_iff]
      refine ⟨hsub d, fun hd => ?_⟩
      exact sub_back hnd hsub (by rw [cat_len n ht]; exact Nat.le_of_eq h3.symm) d hd
end Go.Proofs.Ytahgialnhomefaa

namespace Go.Proofs.Ytahgialnhomefaa
open Go.RowKit Go.Maps
theorem dfV_half {v : Int} (h : dfV v = true) : (v - 1).tdiv 2 = (v - 1) / 2 ∧ 7 ≤ v ∧ v ≤ 15 ∧ 3 ≤ (v - 1) / 2 ∧ (v - 1) / 2 ≤ 7 := by
  simp only [dfV, Bool.or_eq_true, decide_eq_true_eq] at h
  rcases h with (rfl | rfl) | rfl <;> decide
theorem diffsK_succ (v : Int) (k : Nat) : diffsK v (k + 1) = diffsK v k ++ if decide (v ≠ 15) || decide (((k : Int) + 1) ≠ 5) then [(k : Int) + 1] else [] := by
  simp only [diffsK, List.range_succ, List.map_append, List.filter_append, List.map_cons, List.map_nil]
  congr 1
  by_cases e1 : v = 15 <;> by_cases e2 : (k : Int) + 1 = 5 <;> simp [e1, e2]
theorem diffsK_len (v : Int) (k : Nat) : (diffsK v k).length ≤ k := by
  unfold diffsK
  exact Nat.le_trans (List.length_filter_le _ _) (by simp)
end Go.Proofs.Ytahgialnhomefaa

namespace Go.Proofs.Ytahgialnhomefaa
open Go.RowKit Go.Maps
/-- Returns v; only draws. -/
def RQ (v : Value) (w : World) (e : Ending) (w' : World) : Prop := e = .returned v ∧ ∃ n, w' = w.drewN n
end Go.Proofs.Ytahgialnhomefaa

namespace Go.Proofs.Ytahgialnhomefaa
open Go.RowKit Go.Maps
end Go.Proofs.Ytahgialnhomefaa

namespace Go.Proofs.Ytahgialnhomefaa
open Go.RowKit Go.Maps
def msk (L : List Int) : Nat := L.foldl (fun m d => m ||| 2 ^ d.toNat) 0
theorem msk_snoc (L : List Int) (d : Int) : msk (L ++ [d]) = msk L ||| 2 ^ d.toNat := by simp [msk, List.foldl_append]
theorem foldM_test (t : Nat) : ∀ (L : List Int) (m : Nat), (L.foldl (fun m d => m ||| 2 ^ d.toNat) m).testBit t = (m.testBit t || L.any fun d => decide (d.toNat = t))
  | [], m => by simp
  | d :: L, m => by
    rw [List.foldl_cons, foldM_test t L, Nat.testBit_or, Nat.testBit_two_pow, List.any_cons, Bool.or_assoc]
theorem msk_test (L : List Int) (t : Nat) : (msk L).testBit t = L.any fun d => decide (d.toNat = t) := by
  rw [msk, foldM_test]; simp
end Go.Proofs.Ytahgialnhomefaa

namespace Go.Proofs.Ytahgialnhomefaa
open Go.RowKit Go.Maps
theorem foldM_lt : ∀ (L : List Int) (m : Nat), m < 256 → (∀ d ∈ L, 1 ≤ d ∧ d ≤ 7) → L.foldl (fun m d => m ||| 2 ^ d.toNat) m < 256
  | [], m, h, _ => h
  | d :: L, m, h, hd => by
    rw [List.foldl_cons]
    have hq := hd d (List.mem_cons_self)
    refine foldM_lt L _ ?_ fun e he => hd e (List.mem_cons_of_mem _ he)
    refine Nat.or_lt_two_pow (n := 8) h ?_
    exact Nat.pow_lt_pow_right (by decide) (by omega)
theorem msk_lt {L : List Int} (h : ∀ d ∈ L, 1 ≤ d ∧ d ≤ 7) : msk L < 256 := foldM_lt L 0 (by decide) h
theorem bits_small : ∀ t : Fin 8, ∀ u : Fin 256, bits .and .i64 (u.val : Int) ((2 ^ t.val : Nat) : Int) = ((u.val &&& 2 ^ t.val : Nat) : Int) ∧ bits .or .i64 (u.val : Int) ((2 ^ t.val : Nat) : Int) = ((u.val ||| 2 ^ t.val : Nat) : Int) := by
  decide +kernel
theorem and_pow_ne : ∀ t : Fin 8, ∀ u : Fin 256, decide (u.val &&& 2 ^ t.val ≠ 0) = u.val.testBit t.val := by
  decide +kernel
/-- Is d among L: the bit says it. -/
theorem bit_in {L : List Int} (h : ∀ d ∈ L, 1 ≤ d ∧ d ≤ 7) {d : Int} (h1 : 1 ≤ d) (h7 : d ≤ 7) : (bits .and .i64 (msk L : Int) ((2 ^ d.toNat : Nat) : Int) != 0) = decide (d ∈ L) ∧ bits .or .i64 (msk L : Int) ((2 ^ d.toNat : Nat) : Int) = (msk (L ++ [d]) : Int) := by
  have hb := bits_small ⟨d.toNat, by omega⟩ ⟨msk L, msk_lt h⟩
  simp only at hb
  refine ⟨?_, by rw [hb.2, msk_snoc]⟩
  rw [hb.1, Bool.eq_iff_iff]
  simp only [bne_iff_ne, ne_eq, decide_eq_true_eq]
  have e1 : (¬ ((msk L &&& 2 ^ d.toNat : Nat) : Int) = 0) ↔ (msk L &&& 2 ^ d.toNat ≠ 0) := by omega
  have e2 := and_pow_ne ⟨d.toNat, by omega⟩ ⟨msk L, msk_lt h⟩
  simp only at e2
  rw [e1, ← decide_eq_true_iff (p := msk L &&& 2 ^ d.toNat ≠ 0), e2, msk_test, List.any_eq_true]
  constructor
  · rintro ⟨e, he, hq⟩
    have := h e he
    simp at hq
    have : e = d := by omega
    exact this ▸ he
  · intro hd
    exact ⟨d, hd, by simp⟩
end Go.Proofs.Ytahgialnhomefaa

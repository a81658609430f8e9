
/- BlocksAt: the program and the model answer alike. impl.isDifferenceTriple, differencesOf; spec.l02Triple. spec.l02Triple, the first cases. spec.l02Triple, the other cases. Masks of small numbers. Squares and masks: plain. The common point of two blocks: the program's and the model's. Sets of blocks that are closures: what they answer, and how one more block comes in. The laws' marks in systems. Two blocks are compared point by point. What TakeBlock answers: plain. impl.TakeBlock answers as the plain function takeF. -/
import Derived.Test.YtlkjacgpjolbdaaJ4
import Derived.Deep.QuietTactic
import Derived.BigQuiet
namespace Go.Proofs.Ytlkjacgpjolbdaa
open Go.RowKit Go.Maps
/-- The indices of the blocks through p, and the code. -/
def atF (v : Int) (bs : List Blk) (p : Int) : List Int × Int := if isSysImpl v bs then (if inP v p then (idxI p bs bs.length, 0) else ([], 2)) else ([], 1)
def RJ (r : List Int × Int) (w : World) (e : Ending) (w' : World) : Prop := ∃ u, e = .returned (.tuple #[u, .int .i64 r.2]) ∧ OwnJ w' w.heap.size u r.1 ∧ Below w.heap.size w w'
theorem OwnJ.nil (w : World) (base : Nat) : OwnJ w base (.slice none 0 0) [] := ⟨rfl, .inl ⟨rfl, rfl⟩⟩
theorem idxs_eq (p : Int) (bs : List Blk) : idxs (upTo p bs bs.length) = (idxI p bs bs.length).map (Value.int .i64) := by
  unfold idxs idxI
  rw [List.map_map]
  rfl
theorem ints1 {w : World} {b : Nat} {x : Int} (h0 : w.cell? ⟨b, 0, none⟩ = some (.int .i64 x)) : Ints w b 0 [x] := by
  intro k hk
  match k, hk with
  | 0, _ => simpa using h0
end Go.Proofs.Ytlkjacgpjolbdaa

namespace Go.Proofs.Ytlkjacgpjolbdaa
open Go.RowKit Go.Maps
theorem dfV_half {v : Int} (h : dfV v = true) : (v - 1).tdiv 2 = (v - 1) / 2 ∧ 7 ≤ v ∧ v ≤ 15 ∧ 3 ≤ (v - 1) / 2 ∧ (v - 1) / 2 ≤ 7 := by
  simp only [dfV, Bool.or_eq_true, decide_eq_true_eq] at h
  rcases h with (rfl | rfl) | rfl <;> decide
theorem diffsK_succ (v : Int) (k : Nat) : diffsK v (k + 1) = diffsK v k ++ if decide (v ≠ 15) || decide (((k : Int) + 1) ≠ 5) then [(k : Int) + 1] else [] := by
  simp only [diffsK, List.range_succ, List.map_append, List.filter_append, List.map_cons, List.map_nil]
  congr 1
  by_cases e1 : v = 15 <;> by_cases e2 : (k : Int) + 1 = 5 <;> simp [e1, e2]
theorem diffsK_len (v : Int) (k : Nat) : (diffsK v k).length ≤ k := by
  unfold diffsK
  exact Nat.le_trans (List.length_filter_le _ _) (by simp)
end Go.Proofs.Ytlkjacgpjolbdaa

namespace Go.Proofs.Ytlkjacgpjolbdaa
open Go.RowKit Go.Maps
/-- Returns v; only draws. -/
def RQ (v : Value) (w : World) (e : Ending) (w' : World) : Prop := e = .returned v ∧ ∃ n, w' = w.drewN n
end Go.Proofs.Ytlkjacgpjolbdaa

namespace Go.Proofs.Ytlkjacgpjolbdaa
open Go.RowKit Go.Maps
end Go.Proofs.Ytlkjacgpjolbdaa

namespace Go.Proofs.Ytlkjacgpjolbdaa
open Go.RowKit Go.Maps
def msk (L : List Int) : Nat := L.foldl (fun m d => m ||| 2 ^ d.toNat) 0
theorem msk_snoc (L : List Int) (d : Int) : msk (L ++ [d]) = msk L ||| 2 ^ d.toNat := by simp [msk, List.foldl_append]
theorem foldM_test (t : Nat) : ∀ (L : List Int) (m : Nat), (L.foldl (fun m d => m ||| 2 ^ d.toNat) m).testBit t = (m.testBit t || L.any fun d => decide (d.toNat = t))
  | [], m => by simp
  | d :: L, m => by
    rw [List.foldl_cons, foldM_test t L, Nat.testBit_or, Nat.testBit_two_pow, List.any_cons, Bool.or_assoc]
theorem msk_test (L : List Int) (t : Nat) : (msk L).testBit t = L.any fun d => decide (d.toNat = t) := by
  rw [msk, foldM_test]; simp
theorem foldM_lt : ∀ (L : List Int) (m : Nat), m < 256 → (∀ d ∈ L, 1 ≤ d ∧ d ≤ 7) → L.foldl (fun m d => m ||| 2 ^ d.toNat) m < 256
  | [], m, h, _ => h
  | d :: L, m, h, hd => by
    rw [List.foldl_cons]
    have hq := hd d (List.mem_cons_self)
    refine foldM_lt L _ ?_ fun e he => hd e (List.mem_cons_of_mem _ he)
    refine Nat.or_lt_two_pow (n := 8) h ?_
    exact Nat.pow_lt_pow_right (by decide) (by omega)
theorem msk_lt {L : List Int} (h : ∀ d ∈ L, 1 ≤ d ∧ d ≤ 7) : msk L < 256 := foldM_lt L 0 (by decide) h
theorem bits_small : ∀ t : Fin 8, ∀ u : Fin 256, bits .and .i64 (u.val : Int) ((2 ^ t.val : Nat) : Int) = ((u.val &&& 2 ^ t.val : Nat) : Int) ∧ bits .or .i64 (u.val : Int) ((2 ^ t.val : Nat) : Int) = ((u.val ||| 2 ^ t.val : Nat) : Int) := by
  decide +kernel
theorem and_pow_ne : ∀ t : Fin 8, ∀ u : Fin 256, decide (u.val &&& 2 ^ t.val ≠ 0) = u.val.testBit t.val := by
  decide +kernel
/-- Is d among L: the bit says it. -/
theorem bit_in {L : List Int} (h : ∀ d ∈ L, 1 ≤ d ∧ d ≤ 7) {d : Int} (h1 : 1 ≤ d) (h7 : d ≤ 7) : (bits .and .i64 (msk L : Int) ((2 ^ d.toNat : Nat) : Int) != 0) = decide (d ∈ L) ∧ bits .or .i64 (msk L : Int) ((2 ^ d.toNat : Nat) : Int) = (msk (L ++ [d]) : Int) := by
  have hb := bits_small ⟨d.toNat, by omega⟩ ⟨msk L, msk_lt h⟩
  simp only at hb
  refine ⟨?_, by rw [hb.2, msk_snoc]⟩
  rw [hb.1, Bool.eq_iff_iff]
  simp only [bne_iff_ne, ne_eq, decide_eq_true_eq]
  have e1 : (¬ ((msk L &&& 2 ^ d.toNat : Nat) : Int) = 0) ↔ (msk L &&& 2 ^ d.toNat ≠ 0) := by omega
  have e2 := and_pow_ne ⟨d.toNat, by omega⟩ ⟨msk L, msk_lt h⟩
  simp only at e2
  rw [e1, ← decide_eq_true_iff (p := msk L &&& 2 ^ d.toNat ≠ 0), e2, msk_test, List.any_eq_true]
  constructor
  · rintro ⟨e, he, hq⟩
    have := h e he
    simp at hq
    have : e = d := by omega
    exact this ▸ he
  · intro hd
    exact ⟨d, hd, by simp⟩
end Go.Proofs.Ytlkjacgpjolbdaa

namespace Go.Proofs.Ytlkjacgpjolbdaa
open Go.RowKit
theorem rnGo_iff {v : Int} : ∀ {l seen : List Int}, rnGo v seen l = true ↔ (∀ a ∈ l, 0 ≤ a ∧ a < v) ∧ l.Nodup ∧ ∀ a ∈ l, a ∉ seen
  | [], seen => by simp [rnGo]
  | b :: r, seen => by
    simp only [rnGo, Bool.and_eq_true, rnGo_iff (l := r), inP, decide_eq_true_eq, Bool.not_eq_true', decide_eq_false_iff_not, List.forall_mem_cons, List.nodup_cons, List.mem_append, List.mem_singleton, not_or]
    constructor
    · rintro ⟨⟨h1, h2⟩, h3, h4, h5⟩
      exact ⟨⟨h1, h3⟩, ⟨fun e => (h5 b e).2 rfl, h4⟩, h2, fun a ha => (h5 a ha).1⟩
    · rintro ⟨⟨h1, h3⟩, ⟨h6, h4⟩, h2, h5⟩
      exact ⟨⟨h1, h2⟩, h3, h4, fun a ha => ⟨h5 a ha, fun e => h6 (e ▸ ha)⟩⟩
theorem isRen_iff {n : Nat} {p : List Int} : isRen (n : Int) p = true ↔ p.length = n ∧ (∀ a ∈ p, 0 ≤ a ∧ a < (n : Int)) ∧ p.Nodup := by
  simp only [isRen, Bool.and_eq_true, decide_eq_true_eq, rnGo_iff]
  constructor
  · rintro ⟨h1, h2, h3, _⟩
    exact ⟨by omega, h2, h3⟩
  · rintro ⟨h1, h2, h3⟩
    exact ⟨by omega, h2, h3, by simp⟩
theorem nodup_of_cover {α : Type} [DecidableEq α] {l m : List α} (hn : l.Nodup) (hs : ∀ x ∈ l, x ∈ m) (hl : m.length ≤ l.length) : m.Nodup := by
  apply Classical.byContradiction
  intro hnot
  rw [List.Nodup, List.pairwise_iff_getElem] at hnot
  have ⟨i, j, hi, hj, hij, he⟩ : ∃ i j, ∃ (hi : i < m.length) (hj : j < m.length), i < j ∧ m[i] = m[j] := by
    apply Classical.byContradiction
    intro hc
    exact hnot fun i j hi hj hij he => hc ⟨i, j, hi, hj, hij, he⟩
  have h := List.Nodup.length_le_of_subset (l₂ := m.eraseIdx j) hn fun x hx => by
    obtain ⟨k, hk, rfl⟩ := List.getElem_of_mem (hs x hx)
    rw [List.mem_eraseIdx_iff_getElem]
    by_cases e : k = j
    · subst e
      exact ⟨i, hi, by omega, he⟩
    · exact ⟨k, hk, e, rfl⟩
  rw [List.length_eraseIdx, if_pos hj] at h
  omega
theorem msk_lt' {L : List Int} (h : ∀ d ∈ L, 0 ≤ d ∧ d ≤ 7) : msk L < 256 := by
  suffices ∀ (L : List Int) (m : Nat), m < 256 → (∀ d ∈ L, 0 ≤ d ∧ d ≤ 7) → L.foldl (fun m d => m ||| 2 ^ d.toNat) m < 256 from this L 0 (by decide) h
  intro L
  induction L with
  | nil => exact fun m hm _ => hm
  | cons d L ih =>
    intro m hm hd
    rw [List.foldl_cons]
    have hq := hd d (List.mem_cons_self)
    refine ih _ ?_ fun e he => hd e (List.mem_cons_of_mem _ he)
    refine Nat.or_lt_two_pow (n := 8) hm ?_
    exact Nat.pow_lt_pow_right (by decide) (by omega)
theorem bit_or {L : List Int} (h : ∀ d ∈ L, 0 ≤ d ∧ d ≤ 7) {d : Int} (h1 : 0 ≤ d) (h7 : d ≤ 7) : bits .or .i64 (msk L : Int) ((2 ^ d.toNat : Nat) : Int) = (msk (L ++ [d]) : Int) := by
  have hb := bits_small ⟨d.toNat, by omega⟩ ⟨msk L, msk_lt' h⟩
  simp only at hb
  rw [hb.2, msk_snoc]
theorem isRen_msk {n : Nat} {p : List Int} (hl : p.length = n) (hr : ∀ a ∈ p, 0 ≤ a ∧ a < (n : Int)) : isRen (n : Int) p = decide (msk p = 2 ^ n - 1) := by
  have hR : ((List.range n).map fun (k : Nat) => (k : Int)).Nodup := by
    rw [List.Nodup, List.pairwise_map]
    exact List.nodup_range.imp fun h e => h (by omega)
  rw [Bool.eq_iff_iff, isRen_iff, decide_eq_true_eq]
  have hm : msk p = 2 ^ n - 1 ↔ ∀ k : Nat, k < n → (k : Int) ∈ p := by
    constructor
    · intro h k hk
      have ht : (msk p).testBit k = true := by rw [h, Nat.testBit_two_pow_sub_one]; simpa using hk
      rw [msk_test, List.any_eq_true] at ht
      obtain ⟨d, hd, e⟩ := ht
      have := hr d hd
      simp at e
      have : d = (k : Int) := by omega
      exact this ▸ hd
    · intro h
      apply Nat.eq_of_testBit_eq
      intro k
      rw [msk_test, Nat.testBit_two_pow_sub_one, Bool.eq_iff_iff, List.any_eq_true, decide_eq_true_eq]
      constructor
      · rintro ⟨d, hd, e⟩
        have := hr d hd
        simp at e
        omega
      · intro hk
        exact ⟨_, h k hk, by simp⟩
  rw [hm]
  constructor
  · rintro ⟨_, _, hn⟩ k hk
    refine sub_back hn (m := (List.range n).map fun (k : Nat) => (k : Int)) (fun x hx => ?_) (by simp [hl]) _ (List.mem_map.2 ⟨k, List.mem_range.2 hk, rfl⟩)
    have := hr x hx
    exact List.mem_map.2 ⟨x.toNat, List.mem_range.2 (by omega), by omega⟩
  · intro h
    refine ⟨hl, hr, nodup_of_cover hR (fun x hx => ?_) (by simp [hl])⟩
    obtain ⟨k, hk, rfl⟩ := List.mem_map.1 hx
    exact h k (List.mem_range.1 hk)
end Go.Proofs.Ytlkjacgpjolbdaa

namespace Go.Proofs.Ytlkjacgpjolbdaa
open Go.RowKit Go.Maps
/-- The first point of b that is in c. -/
def comP (b c : Blk) : Option Int := if hasB c b.a then some b.a else if hasB c b.b then some b.b else if hasB c b.c then some b.c else none
theorem inL_has (p : Int) (x : Blk) : inL p [x.a, x.b, x.c] = hasB x p := by
  rw [Bool.eq_iff_iff]
  simp [inL, hasB]
  omega
set_option maxRecDepth 100000 in
theorem commonPoint_any (x y : Blk) (w : World) : Calls Try.prog 131 #[bv x, bv y] w (RV (.tuple #[.int .i64 ((comP x y).getD 0), .bool (comP x y).isSome]) w) := by
  have HC := Lib.hid fun (p : Int) (B cap : Nat) (W : World) (h0 : W.cell? ⟨B, 0, none⟩ = some (.int .i64 y.a)) (h1 : W.cell? ⟨B, 1, none⟩ = some (.int .i64 y.b)) (h2 : W.cell? ⟨B, 2, none⟩ = some (.int .i64 y.c)) => Contains_any B 0 cap [y.a, y.b, y.c] p W (ints3 h0 h1 h2) (by simp)
  simp only [inL_has] at HC
  obtain ⟨β0, h0⟩ : ∃ β, β = hasB y x.a := ⟨_, rfl⟩
  obtain ⟨β1, h1⟩ : ∃ β, β = hasB y x.b := ⟨_, rfl⟩
  obtain ⟨β2, h2⟩ : ∃ β, β = hasB y x.c := ⟨_, rfl⟩
  have HCM := Lib.hid (show comP x y = if β0 then some x.a else if β1 then some x.b else if β2 then some x.c else none by unfold comP; rw [h0, h1, h2])
  have HA := Lib.hid fun (B cap : Nat) W j0 j1 j2 => HC.out x.a B cap W j0 j1 j2
  have HB := Lib.hid fun (B cap : Nat) W j0 j1 j2 => HC.out x.b B cap W j0 j1 j2
  have HD := Lib.hid fun (B cap : Nat) W j0 j1 j2 => HC.out x.c B cap W j0 j1 j2
  rw [← h0] at HA
  rw [← h1] at HB
  rw [← h2] at HD
  clear HC h0 h1 h2
  obtain ⟨xa, xb, xc⟩ := x
  obtain ⟨ya, yb, yc⟩ := y
  unfold bv
  dsimp only at HA HB HD HCM ⊢
  have ix0 : ∀ w, (Instr.index 70 (.agg #[.int .i64 xa, .int .i64 xb, .int .i64 xc]) (.int .i64 0)).run Try.prog w = .ok (.int .i64 xa) w := fun _ => by kernel_rfl
  have ix1 : ∀ w, (Instr.index 70 (.agg #[.int .i64 xa, .int .i64 xb, .int .i64 xc]) (.int .i64 1)).run Try.prog w = .ok (.int .i64 xb) w := fun _ => by kernel_rfl
  have ix2 : ∀ w, (Instr.index 70 (.agg #[.int .i64 xa, .int .i64 xb, .int .i64 xc]) (.int .i64 2)).run Try.prog w = .ok (.int .i64 xc) w := fun _ => by kernel_rfl
  cases β0 with
  | true =>
    have HV := Lib.hid (show comP ⟨xa, xb, xc⟩ ⟨ya, yb, yc⟩ = some xa by rw [HCM.out]; rfl)
    go_enter Try.func131, Try.ntmps131
    go_wp2
    refine wp_loop_rounds 1 ?_
    rw [rounds_succ]
    go_wp2_with (go_at_call 151; refine (HA.out _ _ _ (by simp [go_sem]) (by simp [go_sem]) (by simp [go_sem])).mono ?_; rintro e w0 ⟨rfl, rfl⟩)
    go_ret2
    exact ⟨by rw [HV.out]; rfl, ((Below.refl _ _).alloc (Nat.le_refl _) _).alloc (by simp) _⟩
  | false =>
    cases β1 with
    | true =>
      have HV := Lib.hid (show comP ⟨xa, xb, xc⟩ ⟨ya, yb, yc⟩ = some xb by rw [HCM.out]; rfl)
      go_enter Try.func131, Try.ntmps131
      go_wp2
      refine wp_loop_rounds 2 ?_
      rw [rounds_succ]
      go_wp2_with (go_at_call 151; refine (HA.out _ _ _ (by simp [go_sem]) (by simp [go_sem]) (by simp [go_sem])).mono ?_; rintro e w0 ⟨rfl, rfl⟩)
      rw [rounds_succ]
      go_wp2_with (go_at_call 151; refine (HB.out _ _ _ (by simp [go_sem]) (by simp [go_sem]) (by simp [go_sem])).mono ?_; rintro e w1 ⟨rfl, rfl⟩)
      go_ret2
      exact ⟨by rw [HV.out]; rfl, ((Below.refl _ _).alloc (Nat.le_refl _) _).alloc (by simp) _⟩
    | false =>
      cases β2 with
      | true =>
        have HV := Lib.hid (show comP ⟨xa, xb, xc⟩ ⟨ya, yb, yc⟩ = some xc by rw [HCM.out]; rfl)
        go_enter Try.func131, Try.ntmps131
        go_wp2
        refine wp_loop_rounds 3 ?_
        rw [rounds_succ]
        go_wp2_with (go_at_call 151; refine (HA.out _ _ _ (by simp [go_sem]) (by simp [go_sem]) (by simp [go_sem])).mono ?_; rintro e w0 ⟨rfl, rfl⟩)
        rw [rounds_succ]
        go_wp2_with (go_at_call 151; refine (HB.out _ _ _ (by simp [go_sem]) (by simp [go_sem]) (by simp [go_sem])).mono ?_; rintro e w1 ⟨rfl, rfl⟩)
        rw [rounds_succ]
        go_wp2_with (go_at_call 151; refine (HD.out _ _ _ (by simp [go_sem]) (by simp [go_sem]) (by simp [go_sem])).mono ?_; rintro e w2 ⟨rfl, rfl⟩)
        go_ret2
        exact ⟨by rw [HV.out]; rfl, ((Below.refl _ _).alloc (Nat.le_refl _) _).alloc (by simp) _⟩
      | false =>
        have HV := Lib.hid (show comP ⟨xa, xb, xc⟩ ⟨ya, yb, yc⟩ = none by rw [HCM.out]; rfl)
        go_enter Try.func131, Try.ntmps131
        go_wp2
        refine wp_loop_rounds 4 ?_
        rw [rounds_succ]
        go_wp2_with (go_at_call 151; refine (HA.out _ _ _ (by simp [go_sem]) (by simp [go_sem]) (by simp [go_sem])).mono ?_; rintro e w0 ⟨rfl, rfl⟩)
        rw [rounds_succ]
        go_wp2_with (go_at_call 151; refine (HB.out _ _ _ (by simp [go_sem]) (by simp [go_sem]) (by simp [go_sem])).mono ?_; rintro e w1 ⟨rfl, rfl⟩)
        rw [rounds_succ]
        go_wp2_with (go_at_call 151; refine (HD.out _ _ _ (by simp [go_sem]) (by simp [go_sem]) (by simp [go_sem])).mono ?_; rintro e w2 ⟨rfl, rfl⟩)
        rw [rounds_succ]
        go_wp2
        go_ret2
        exact ⟨by rw [HV.out]; rfl, ((Below.refl _ _).alloc (Nat.le_refl _) _).alloc (by simp) _⟩
end Go.Proofs.Ytlkjacgpjolbdaa

namespace Go.Proofs.Ytlkjacgpjolbdaa
open Go.RowKit Go.Maps
/-- Have two blocks a point in common? -/
def touch (x y : Blk) : Bool := (comP x y).isSome
/-- The value is a closure over the blocks of a list, the last one that came in first. -/
inductive MeetV (W : World) : Value → List Blk → Prop
  | nil : MeetV W (.func (.func 90) #[] #[]) []
  | cons {pc pm : Nat} {m : Value} {c : Blk} {L : List Blk} (hc : pc < W.heap.size) (hm : pm < W.heap.size) (c0 : W.cell? ⟨pc, 0, none⟩ = some (.int .i64 c.a)) (c1 : W.cell? ⟨pc, 1, none⟩ = some (.int .i64 c.b)) (c2 : W.cell? ⟨pc, 2, none⟩ = some (.int .i64 c.c)) (m0 : W.cell? ⟨pm, 0, none⟩ = some m) (h : MeetV W m L) :
      MeetV W (.func (.func 130) #[] #[.pointer (some ⟨pc, 0, none⟩), .pointer (some ⟨pm, 0, none⟩)]) (c :: L)
theorem MeetV.later {W W' : World} {m : Value} {L : List Blk} (h : MeetV W m L) {B : Nat} (hb : Below B W W') (hB : W.heap.size ≤ B) : MeetV W' m L := by
  induction h with
  | nil => exact .nil
  | cons hc hm c0 c1 c2 m0 _ ih =>
    exact .cons (Nat.lt_of_lt_of_le hc hb.size) (Nat.lt_of_lt_of_le hm hb.size) ((hb.cell (Nat.lt_of_lt_of_le hc hB)).trans c0) ((hb.cell (Nat.lt_of_lt_of_le hc hB)).trans c1) ((hb.cell (Nat.lt_of_lt_of_le hc hB)).trans c2) ((hb.cell (Nat.lt_of_lt_of_le hm hB)).trans m0) ih
theorem noBlocks_any (b : Blk) (w : World) : Calls Try.prog 90 #[bv b] w (RV (.bool false) w) := by
  obtain ⟨b0, b1, b2⟩ := b
  unfold bv
  dsimp only
  go_enter Try.func90, Try.ntmps90
  go_wp2
  go_ret
  exact ⟨rfl, (Below.refl _ _).alloc (Nat.le_refl _) _⟩
set_option maxRecDepth 100000 in
theorem with1_any : ∀ (L : List Blk) (c b : Blk) (pc pm : Nat) (m : Value) (w : World) (_ : pc < w.heap.size) (_ : pm < w.heap.size) (_ : w.cell? ⟨pc, 0, none⟩ = some (.int .i64 c.a)) (_ : w.cell? ⟨pc, 1, none⟩ = some (.int .i64 c.b)) (_ : w.cell? ⟨pc, 2, none⟩ = some (.int .i64 c.c)) (_ : w.cell? ⟨pm, 0, none⟩ = some m) (_ : MeetV w m L),
    Calls Try.prog 130 #[bv b, .pointer (some ⟨pc, 0, none⟩), .pointer (some ⟨pm, 0, none⟩)] w (RV (.bool (touch b c || L.any (touch b))) w) := by
  intro L
  induction L with
  | nil =>
    intro c b pc pm m w hpc hpm c0 c1 c2 m0 hm
    cases hm
    have HP := Lib.hid fun W => commonPoint_any b c W
    have HN := Lib.hid fun W => noBlocks_any b W
    obtain ⟨β, hβ⟩ : ∃ β, β = touch b c := ⟨_, rfl⟩
    have HE := Lib.hid hβ
    rw [show (comP b c).isSome = β by rw [hβ]; rfl] at HP
    clear hβ
    obtain ⟨b0, b1, b2⟩ := b
    obtain ⟨x0, x1, x2⟩ := c
    unfold bv at HP HN ⊢
    dsimp only at HP HN c0 c1 c2 ⊢
    cases β with
    | true =>
      go_enter Try.func130, Try.ntmps130
      go_wp2_with fail
      refine (HP.out _).mono ?_
      rintro e w1 ⟨rfl, hb1⟩
      have hb2 := below_new hb1
      go_wp2
      go_ret
      exact ⟨by rw [← HE.out]; rfl, hb2⟩
    | false =>
      go_enter Try.func130, Try.ntmps130
      go_wp2_with fail
      refine (HP.out _).mono ?_
      rintro e w1 ⟨rfl, hb1⟩
      have hb2 := below_new hb1
      have d0 := (hb1.cell (p := ⟨w.heap.size, 0, none⟩) (by simp)).trans (by simp [go_sem] : _ = some (Value.int .i64 b0))
      have d1 := (hb1.cell (p := ⟨w.heap.size, 1, none⟩) (by simp)).trans (by simp [go_sem] : _ = some (Value.int .i64 b1))
      have d2 := (hb1.cell (p := ⟨w.heap.size, 2, none⟩) (by simp)).trans (by simp [go_sem] : _ = some (Value.int .i64 b2))
      have e0 := (hb2.cell (p := ⟨pm, 0, none⟩) hpm).trans m0
      clear hb1
      go_wp2_with fail
      refine (HN.out _).mono ?_
      rintro e w2 ⟨rfl, hb3⟩
      have hz := hb2.size
      go_wp2
      go_ret
      exact ⟨by rw [← HE.out]; rfl, hb2.trans (hb3.mono hz)⟩
  | cons y L ih =>
    intro c b pc pm m w hpc hpm c0 c1 c2 m0 hm
    cases hm with
    | cons hqc hqm q0 q1 q2 k0 hk =>
    have HP := Lib.hid fun W => commonPoint_any b c W
    have HN := Lib.hid fun W (hb : Below w.heap.size w W) => ih y b _ _ _ W (Nat.lt_of_lt_of_le hqc hb.size) (Nat.lt_of_lt_of_le hqm hb.size) ((hb.cell hqc).trans q0) ((hb.cell hqc).trans q1) ((hb.cell hqc).trans q2) ((hb.cell hqm).trans k0) (hk.later hb (Nat.le_refl _))
    obtain ⟨β, hβ⟩ : ∃ β, β = touch b c := ⟨_, rfl⟩
    have HE := Lib.hid hβ
    rw [show (comP b c).isSome = β by rw [hβ]; rfl] at HP
    clear hβ ih q0 q1 q2 k0 hk hqc hqm
    obtain ⟨μ, hμ⟩ : ∃ μ, μ = (touch b y || L.any (touch b)) := ⟨_, rfl⟩
    have HM := Lib.hid hμ
    rw [← hμ] at HN
    clear hμ
    obtain ⟨b0, b1, b2⟩ := b
    obtain ⟨x0, x1, x2⟩ := c
    unfold bv at HP HN ⊢
    dsimp only at HP HN c0 c1 c2 ⊢
    cases β with
    | true =>
      go_enter Try.func130, Try.ntmps130
      go_wp2_with fail
      refine (HP.out _).mono ?_
      rintro e w1 ⟨rfl, hb1⟩
      have hb2 := below_new hb1
      go_wp2
      go_ret
      exact ⟨by rw [← HE.out]; rfl, hb2⟩
    | false =>
      go_enter Try.func130, Try.ntmps130
      go_wp2_with fail
      refine (HP.out _).mono ?_
      rintro e w1 ⟨rfl, hb1⟩
      have hb2 := below_new hb1
      have d0 := (hb1.cell (p := ⟨w.heap.size, 0, none⟩) (by simp)).trans (by simp [go_sem] : _ = some (Value.int .i64 b0))
      have d1 := (hb1.cell (p := ⟨w.heap.size, 1, none⟩) (by simp)).trans (by simp [go_sem] : _ = some (Value.int .i64 b1))
      have d2 := (hb1.cell (p := ⟨w.heap.size, 2, none⟩) (by simp)).trans (by simp [go_sem] : _ = some (Value.int .i64 b2))
      have e0 := (hb2.cell (p := ⟨pm, 0, none⟩) hpm).trans m0
      clear hb1
      go_wp2_with fail
      refine (HN.out _ hb2).mono ?_
      rintro e w2 ⟨rfl, hb3⟩
      have hz := hb2.size
      go_wp2
      go_ret
      exact ⟨by rw [List.any_cons, ← HE.out, ← HM.out]; rfl, hb2.trans (hb3.mono hz)⟩
/-- A set of blocks, asked. -/
theorem MeetV.call {W : World} {m : Value} {L : List Blk} (h : MeetV W m L) : ∃ f caps, m = .func (.func f) #[] caps ∧ ∀ (b : Blk) (w : World) (_ : Below W.heap.size W w), Calls Try.prog f (#[bv b] ++ caps) w (RV (.bool (L.any (touch b))) w) := by
  cases h with
  | nil => exact ⟨_, _, rfl, fun b w _ => noBlocks_any b w⟩
  | cons hc hm c0 c1 c2 m0 h =>
    exact ⟨_, _, rfl, fun b w hb => with1_any _ _ b _ _ _ w (Nat.lt_of_lt_of_le hc hb.size) (Nat.lt_of_lt_of_le hm hb.size) ((hb.cell hc).trans c0) ((hb.cell hc).trans c1) ((hb.cell hc).trans c2) ((hb.cell hm).trans m0) (h.later hb (Nat.le_refl _))⟩
/-- A set of blocks, asked: which function it is. -/
theorem MeetV.call2 {W : World} {m : Value} {L : List Blk} (h : MeetV W m L) :
    (m = .func (.func 90) #[] #[] ∧ ∀ (b : Blk) (w : World) (_ : Below W.heap.size W w), Calls Try.prog 90 #[bv b] w (RV (.bool (L.any (touch b))) w)) ∨
    (∃ pc pm, m = .func (.func 130) #[] #[.pointer (some ⟨pc, 0, none⟩), .pointer (some ⟨pm, 0, none⟩)] ∧ ∀ (b : Blk) (w : World) (_ : Below W.heap.size W w), Calls Try.prog 130 #[bv b, .pointer (some ⟨pc, 0, none⟩), .pointer (some ⟨pm, 0, none⟩)] w (RV (.bool (L.any (touch b))) w)) := by
  cases h with
  | nil => exact .inl ⟨rfl, fun b w _ => noBlocks_any b w⟩
  | cons hc hm c0 c1 c2 m0 h =>
    exact .inr ⟨_, _, rfl, fun b w hb => with1_any _ _ b _ _ _ w (Nat.lt_of_lt_of_le hc hb.size) (Nat.lt_of_lt_of_le hm hb.size) ((hb.cell hc).trans c0) ((hb.cell hc).trans c1) ((hb.cell hc).trans c2) ((hb.cell hm).trans m0) (h.later hb (Nat.le_refl _))⟩
theorem with_any (m : Value) (L : List Blk) (c : Blk) (w : World) (h : MeetV w m L) :
    Calls Try.prog 91 #[m, bv c] w fun e w' => ∃ u, e = .returned u ∧ MeetV w' u (c :: L) ∧ Below w.heap.size w w' := by
  have hmf : ∀ (fn : Fn) (first cap : Array Value) (w : World), (Instr.makeFunc fn first cap).run Try.prog w = .ok (.func fn first cap) w := fun _ _ _ _ => rfl
  obtain ⟨f, caps, hf, _⟩ := h.call
  have HM := Lib.hid h
  clear h
  subst hf
  obtain ⟨c0, c1, c2⟩ := c
  unfold bv
  dsimp only
  go_enter Try.func91, Try.ntmps91
  go_wp2
  go_ret
  have hb : Below w.heap.size w ((w.alloc (.cells #[.func (.func f) #[] caps] 84)).alloc (.cells #[.int .i64 c0, .int .i64 c1, .int .i64 c2] 70)) := ((Below.refl _ _).alloc (Nat.le_refl _) _).alloc (by simp) _
  exact ⟨_, rfl, .cons (by simp) (by simp; omega) (by simp) (by simp) (by simp) (by simp [go_sem]) (HM.out.later hb (Nat.le_refl _)), hb⟩
end Go.Proofs.Ytlkjacgpjolbdaa

namespace Go.Proofs.Ytlkjacgpjolbdaa
open Go.RowKit Go.Maps
theorem gb_trans {a b c : World} {row : Option Nat} (h : a.grownBy b none) (k : b.grownBy c row) : a.grownBy c row :=
  ⟨k.os.trans h.os, k.tape.trans h.tape, k.output.trans h.output, Nat.le_trans h.size k.size, fun i hi hne => (k.block i (Nat.lt_of_lt_of_le hi h.size) hne).trans (h.block i hi (by simp))⟩
theorem gb_below {a b : World} (h : Below a.heap.size a b) : a.grownBy b none := only_of_below h none
theorem ResR.slice {w : World} {lo hi : Nat} {s : Value} {bs : List Blk} (h : ResR w lo hi s bs) : ∃ a c, s = .slice a bs.length c := by
  rcases h with ⟨rfl, a, c, rfl⟩ | ⟨g, cap, rfl, _⟩ <;> exact ⟨_, _, rfl⟩
set_option maxRecDepth 100000 in
theorem markSystem_any (lo hi : Nat) (v : Int) (s : Value) (bs : List Blk) (k : Int) (w : World) (h : ResR w lo hi s bs) (hl : bs.length ≤ 1100000) (h0 : 0 ≤ k) (h1 : k ≤ 9000000) :
    Calls Try.prog 24 #[.agg #[.int .i64 v, s], .int .i64 k] w (fun e w' => e = .returned (.int .i64 (k + 3 * bs.length)) ∧ (∃ row, w.grownBy w' row ∧ ∀ r, row = some r → lo ≤ r ∧ r < hi) ∧ ResR w' lo hi s (markL k bs.length)) := by
  have hc := markR lo hi s bs k (w.alloc (.cells #[.int .i64 v, s] 28)) (h.below ((Below.refl _ _).alloc (Nat.le_refl _) _) (Nat.le_refl _)) hl h0 h1
  have hs := h.slice
  have HC := Lib.hid hc
  clear hc h
  obtain ⟨a, c, rfl⟩ := hs
  go_enter Try.func24, Try.ntmps24
  go_wp2_with (go_at_call 73; refine HC.out.mono ?_; rintro e w1 ⟨rfl, hg, hr⟩)
  go_ret
  obtain ⟨row, hg, hrow⟩ := hg
  exact ⟨rfl, ⟨row, gb_trans (World.grownBy_alloc _ _ none) hg, hrow⟩, hr⟩
set_option maxRecDepth 100000 in
theorem heldSystem_any (lo hi : Nat) (v : Int) (s : Value) (n : Nat) (k : Int) (w : World) (h : ResR w lo hi s (markL k n)) (hl : n ≤ 1100000) (h0 : 0 ≤ k) (h1 : k ≤ 9000000) :
    Calls Try.prog 25 #[.agg #[.int .i64 v, s], .int .i64 k] w (RV (.int .i64 (k + 3 * n)) w) := by
  have hc := heldR lo hi s n k (w.alloc (.cells #[.int .i64 v, s] 28)) (h.below ((Below.refl _ _).alloc (Nat.le_refl _) _) (Nat.le_refl _)) hl h0 h1
  have hs := h.slice
  obtain ⟨m, hm⟩ : ∃ m, m = k + 3 * (n : Int) := ⟨_, rfl⟩
  rw [← hm] at hc ⊢
  have m0 : 0 ≤ m := by omega
  have HC := Lib.hid hc
  clear hc h hm
  obtain ⟨a, c, rfl⟩ := hs
  go_enter Try.func25, Try.ntmps25
  go_wp2_with (go_at_call 74; refine HC.out.mono ?_; rintro e w1 ⟨rfl, rfl⟩)
  go_ret
  exact RV_of rfl ((Below.refl _ _).alloc (Nat.le_refl _) _)
end Go.Proofs.Ytlkjacgpjolbdaa

namespace Go.Proofs.Ytlkjacgpjolbdaa
open Go.RowKit Go.Maps
theorem sizeInt64 (w : World) : (sizeOf 2).run Try.prog w = .ok 1 w := by kernel_rfl
theorem partInt64 (x y z : Value) (w : World) : (part 2 #[x, y, z] 0).run Try.prog w = .ok x w ∧ (part 2 #[x, y, z] 1).run Try.prog w = .ok y w ∧ (part 2 #[x, y, z] 2).run Try.prog w = .ok z w := by
  refine ⟨?_, ?_, ?_⟩ <;> kernel_rfl
theorem eqIn64 (d : Nat) (a b : Int) (w : World) : (Op.equalIn (d + 1) 2 (.int .i64 a) (.int .i64 b)).run Try.prog w = .ok (a == b) w := by
  simp [Op.equalIn, run_underlying Try.underlying2]
theorem eqInBlk (n : Nat) (a b c d e f : Int) (w : World) : (Op.equalIn (n + 1 + 1) 70 (.agg #[.int .i64 a, .int .i64 b, .int .i64 c]) (.agg #[.int .i64 d, .int .i64 e, .int .i64 f])).run Try.prog w = .ok (a == d && b == e && c == f) w := by
  rw [Op.equalIn]
  simp only [Sem.run_bind, run_underlying Try.underlying70, Result.andThen_ok, sizeInt64]
  simp [Std.Legacy.Range.forIn_eq_forIn_range', Std.Legacy.Range.size, List.range', partInt64, eqIn64, Sem.run_ite]
  by_cases h1 : a = d <;> by_cases h2 : b = e <;> by_cases h3 : c = f <;> simp [h1, h2, h3]
theorem run_eql_blk (x y : Blk) (w : World) : (binOp .eql 70 (bv x) (bv y)).run Try.prog w = .ok (.bool (decide (x = y))) w := by
  obtain ⟨a, b, c⟩ := x
  obtain ⟨d, e, f⟩ := y
  simp only [bv, binOp]
  simp [Op.equal, Op.maxDepth, eqInBlk 9998]
  by_cases h1 : a = d <;> by_cases h2 : b = e <;> by_cases h3 : c = f <;> simp [h1, h2, h3]
theorem run_neq_blk (x y : Blk) (w : World) : (binOp .neq 70 (bv x) (bv y)).run Try.prog w = .ok (.bool (!decide (x = y))) w := by
  obtain ⟨a, b, c⟩ := x
  obtain ⟨d, e, f⟩ := y
  simp only [bv, binOp]
  simp [Op.equal, Op.maxDepth, eqInBlk 9998]
  by_cases h1 : a = d <;> by_cases h2 : b = e <;> by_cases h3 : c = f <;> simp [h1, h2, h3]
end Go.Proofs.Ytlkjacgpjolbdaa

namespace Go.Proofs.Ytlkjacgpjolbdaa
/-- A system and a code: points, blocks, code. -/
def takeF (v : Int) (bs : List Blk) (i : Int) : Int × List Blk × Int :=
  if isSysImpl v bs then (if decide (0 ≤ i) && decide (i < (bs.length : Int)) then (v, bs.take i.toNat ++ bs.drop (i.toNat + 1), 0) else (0, [], 2)) else (0, [], 1)
theorem filter_all {p : Blk → Bool} : ∀ {l : List Blk}, (∀ x ∈ l, p x = true) → l.filter p = l
  | [], _ => rfl
  | x :: r, h => by rw [List.filter_cons, if_pos (h x (by simp)), filter_all (fun y hy => h y (by simp [hy]))]
/-- The blocks that are not the i-th. -/
theorem filter_other {bs : List Blk} (h : bs.Nodup) {i : Nat} (hi : i < bs.length) : bs.filter (fun x => !decide (x = bs[i])) = bs.take i ++ bs.drop (i + 1) := by
  have e : bs = bs.take i ++ bs[i] :: bs.drop (i + 1) := by rw [← List.drop_eq_getElem_cons hi, List.take_append_drop]
  obtain ⟨y, hy⟩ : ∃ y, y = bs[i] := ⟨_, rfl⟩
  rw [← hy] at e ⊢
  clear hy
  obtain ⟨p, hp⟩ : ∃ p, p = bs.take i := ⟨_, rfl⟩
  obtain ⟨q, hq⟩ : ∃ q, q = bs.drop (i + 1) := ⟨_, rfl⟩
  rw [← hp, ← hq] at e ⊢
  clear hp hq hi
  subst e
  obtain ⟨h1, h2, h3⟩ := List.nodup_append.1 h
  rw [List.nodup_cons] at h2
  rw [List.filter_append, List.filter_cons, if_neg (by simp)]
  rw [filter_all (fun x hx => by have := h3 x hx y (by simp); simpa using this), filter_all (fun x hx => by
    have : x ≠ y := fun e => h2.1 (e ▸ hx)
    simpa using this)]
theorem takeF_sub (v : Int) (bs : List Blk) (i : Int) : ∀ x ∈ (takeF v bs i).2.1, x ∈ bs := by
  unfold takeF
  split
  · split
    · intro x hx
      rcases List.mem_append.1 hx with h | h
      · exact List.mem_of_mem_take h
      · exact List.mem_of_mem_drop h
    · simp
  · simp
theorem takeF_len (v : Int) (bs : List Blk) (i : Int) : (takeF v bs i).2.1.length ≤ bs.length := by
  unfold takeF
  split
  · split
    · simp
      omega
    · simp
  · simp
end Go.Proofs.Ytlkjacgpjolbdaa

namespace Go.Proofs.Ytlkjacgpjolbdaa
open Go.RowKit Go.Maps
/-- Two results: a system in new memory, and a code. -/
def RSys (r : Int × List Blk × Int) (w : World) (e : Ending) (w' : World) : Prop := ∃ s, e = .returned (.tuple #[.agg #[.int .i64 r.1, s], .int .i64 r.2.2]) ∧ ResR w' w.heap.size w'.heap.size s r.2.1 ∧ Below w.heap.size w w'
theorem boxes2 {w w1 : World} {v : Int} {s : Value} {T : TypeId} (hb : Below ((w.alloc (.cells #[.int .i64 v, s] T)).alloc (.cells #[.int .i64 0, .slice none 0 0] T)).heap.size ((w.alloc (.cells #[.int .i64 v, s] T)).alloc (.cells #[.int .i64 0, .slice none 0 0] T)) w1) :
    w1.cell? ⟨w.heap.size, 0, none⟩ = some (.int .i64 v) ∧ w1.cell? ⟨w.heap.size, 1, none⟩ = some s ∧ w1.cell? ⟨w.heap.size + 1, 0, none⟩ = some (.int .i64 0) ∧ w1.cell? ⟨w.heap.size + 1, 1, none⟩ = some (.slice none 0 0) ∧
    w1.frozen? ⟨w.heap.size + 1, 0, none⟩ = false ∧ w1.frozen? ⟨w.heap.size + 1, 1, none⟩ = false ∧ Below w.heap.size w w1 ∧ w.heap.size + 1 < w1.heap.size := by
  have hz := hb.size
  simp at hz
  refine ⟨?_, ?_, ?_, ?_, ?_, ?_, (((Below.refl _ _).alloc (Nat.le_refl _) _).alloc (by simp) _).trans (hb.mono (by simp; omega)), by omega⟩
  · exact (hb.cell (p := ⟨w.heap.size, 0, none⟩) (by simp; omega)).trans (by simp [go_sem])
  · exact (hb.cell (p := ⟨w.heap.size, 1, none⟩) (by simp; omega)).trans (by simp [go_sem])
  · exact (hb.cell (p := ⟨w.heap.size + 1, 0, none⟩) (by simp)).trans (by simp [go_sem])
  · exact (hb.cell (p := ⟨w.heap.size + 1, 1, none⟩) (by simp)).trans (by simp [go_sem])
  · exact (hb.frozen (p := ⟨w.heap.size + 1, 0, none⟩) (by simp)).trans (by simp [go_sem])
  · exact (hb.frozen (p := ⟨w.heap.size + 1, 1, none⟩) (by simp)).trans (by simp [go_sem])
theorem below2 (w : World) (v : Int) (s : Value) (T : TypeId) : Below w.heap.size w ((w.alloc (.cells #[.int .i64 v, s] T)).alloc (.cells #[.int .i64 0, .slice none 0 0] T)) := ((Below.refl _ _).alloc (Nat.le_refl _) _).alloc (by simp) _
theorem below_set2 {B : Nat} {a w : World} (h : Below B a w) {b : Nat} (hb : B ≤ b) (u v : Value) : Below B a ((w.setCell ⟨b, 0, none⟩ u).setCell ⟨b, 1, none⟩ v) := (h.setCell (p := ⟨b, 0, none⟩) hb u).setCell (p := ⟨b, 1, none⟩) hb v
theorem gb_set2 (w : World) (b : Nat) (u v : Value) : w.grownBy ((w.setCell ⟨b, 0, none⟩ u).setCell ⟨b, 1, none⟩ v) (some b) := only_setCell (only_setCell (only_refl w (some b)) rfl u) rfl v
theorem isBlockNumber_any (v : Int) (a0 : Option Addr) (n c0 : Nat) (i : Int) (w : World) : Calls Try.prog 71 #[.agg #[.int .i64 v, .slice a0 n c0], .int .i64 i] w (RV (.bool (inP (n : Int) i)) w) := by
  have hb : Below w.heap.size w (w.alloc (.cells #[.int .i64 v, .slice a0 n c0] 28)) := (Below.refl _ _).alloc (Nat.le_refl _) _
  have HV := Lib.hid (show inP (n : Int) i = (decide (0 ≤ i) && decide (i < (n : Int))) by simp [inP])
  by_cases h0 : 0 ≤ i
  · have q0 : decide (0 ≤ i) = true := decide_eq_true h0
    go_enter Try.func71, Try.ntmps71
    go_wp2
    go_ret
    exact RV_of (bool_eq (by rw [HV.out, q0]; simp)) hb
  · have q0 : decide (0 ≤ i) = false := decide_eq_false h0
    go_enter Try.func71, Try.ntmps71
    go_wp2
    go_ret
    exact RV_of (bool_eq (by rw [HV.out, q0]; simp)) hb
theorem boxes2_later {w w1 w2 : World} {v : Int} {s : Value} (hb : Below w1.heap.size w1 w2) (hlt : w.heap.size + 1 < w1.heap.size) (hbw : Below w.heap.size w w1)
    (p0 : w1.cell? ⟨w.heap.size, 0, none⟩ = some (.int .i64 v)) (p1 : w1.cell? ⟨w.heap.size, 1, none⟩ = some s) (d0 : w1.cell? ⟨w.heap.size + 1, 0, none⟩ = some (.int .i64 0)) (d1 : w1.cell? ⟨w.heap.size + 1, 1, none⟩ = some (.slice none 0 0))
    (f0 : w1.frozen? ⟨w.heap.size + 1, 0, none⟩ = false) (f1 : w1.frozen? ⟨w.heap.size + 1, 1, none⟩ = false) :
    w2.cell? ⟨w.heap.size, 0, none⟩ = some (.int .i64 v) ∧ w2.cell? ⟨w.heap.size, 1, none⟩ = some s ∧ w2.cell? ⟨w.heap.size + 1, 0, none⟩ = some (.int .i64 0) ∧ w2.cell? ⟨w.heap.size + 1, 1, none⟩ = some (.slice none 0 0) ∧
    w2.frozen? ⟨w.heap.size + 1, 0, none⟩ = false ∧ w2.frozen? ⟨w.heap.size + 1, 1, none⟩ = false ∧ Below w.heap.size w w2 ∧ w.heap.size + 1 < w2.heap.size := by
  have hz := hb.size
  have l0 : w.heap.size < w1.heap.size := by omega
  exact ⟨(hb.cell (p := ⟨w.heap.size, 0, none⟩) l0).trans p0, (hb.cell (p := ⟨w.heap.size, 1, none⟩) l0).trans p1, (hb.cell (p := ⟨w.heap.size + 1, 0, none⟩) hlt).trans d0, (hb.cell (p := ⟨w.heap.size + 1, 1, none⟩) hlt).trans d1, (hb.frozen (p := ⟨w.heap.size + 1, 0, none⟩) hlt).trans f0, (hb.frozen (p := ⟨w.heap.size + 1, 1, none⟩) hlt).trans f1, hbw.trans (hb.mono hbw.size), by omega⟩
set_option maxRecDepth 100000 in
theorem TakeBlock_any (v : Int) (s : Value) (bs : List Blk) (i : Int) (w : World) (h : SB w s bs) :
    Calls Try.prog 22 #[.agg #[.int .i64 v, s], .int .i64 i] w (RSys (takeF v bs i) w) := by
  have hs := h.slice
  have HI := Lib.hid fun W (hb : Below w.heap.size w W) => IsSystem_any v s bs W (h.below hb (Nat.le_refl _))
  have HSB := Lib.hid h
  have hlen := h.2.1
  clear h
  obtain ⟨a0, c0, rfl⟩ := hs
  cases hi : isSysImpl v bs with
  | false =>
    have hval : takeF v bs i = (0, [], 1) := by simp [takeF, hi]
    rw [hval]
    rw [hi] at HI
    clear hval hi HSB
    go_enter Try.func22, Try.ntmps22
    go_wp2_with (go_at_call 70; refine (HI.out _ (below2 _ _ _ _)).mono ?_; rintro e w1 ⟨rfl, hb1⟩; obtain ⟨_, _, d0, d1, f0, f1, hbw, hlt⟩ := boxes2 hb1)
    exact bodyPost_ret (v := .tuple #[.agg #[.int .i64 0, .slice none 0 0], .int .i64 1]) (by simp [results, Try.results22, go_sem, *]) rfl ⟨_, rfl, .inl ⟨rfl, _, _, rfl⟩, below_set2 hbw (by omega) _ _⟩
  | true =>
    by_cases hr : 0 ≤ i ∧ i < (bs.length : Int)
    · have hval : takeF v bs i = (v, bs.take i.toNat ++ bs.drop (i.toNat + 1), 0) := by simp [takeF, hi, hr]
      rw [hval]
      obtain ⟨j, rfl⟩ : ∃ j : Nat, i = (j : Int) := ⟨i.toNat, by omega⟩
      have hj : j < bs.length := by omega
      have hfo := filter_other (strict_nodup (sys_strict hi)) hj
      rw [Int.toNat_natCast]
      rw [← hfo]
      rw [hi] at HI
      have HN := Lib.hid fun a0 c0 W => isBlockNumber_any v a0 bs.length c0 (j : Int) W
      rw [show inP (bs.length : Int) (j : Int) = true by simp [inP]; omega] at HN
      have g0 : (0 : Int) ≤ (j : Int) := by omega
      have g1 : (j : Int) < (bs.length : Int) := by omega
      have gd : decide ((j : Int) < 0) = false := by simp
      have gd2 : decide (bs.length ≤ j) = false := by simp; omega
      clear hval hi hr hfo
      go_enter Try.func22, Try.ntmps22
      go_wp2_with fail
      refine (HI.out _ (below2 _ _ _ _)).mono ?_
      rintro e wq ⟨rfl, hbq⟩
      obtain ⟨p0, p1, d0, d1, f0, f1, hbw, hlt⟩ := boxes2 hbq
      clear hbq
      go_wp2_with fail
      refine (HN.out _ _ _).mono ?_
      rintro e w1 ⟨rfl, hb1⟩
      obtain ⟨p0, p1, d0, d1, f0, f1, hbw, hlt⟩ := boxes2_later hb1 hlt hbw p0 p1 d0 d1 f0 f1
      have hsb := HSB.out.below hbw (Nat.le_refl _)
      have HSB1 := Lib.hid hsb
      clear hb1 hsb
      go_wp2_with fail
      go_loopw [6, 21] (fun o t wr => ∃ k : Nat, k ≤ bs.length ∧ t = .int .i64 k ∧ Below w1.heap.size w1 wr ∧ OwnR wr w1.heap.size o ((bs.take k).filter fun x => !decide (x = bs[j])) ∧ ∃ a n c, o = .slice a n c) (fun _ t _ => bs.length - (intOf t).toNat)
      case atStart => exact ⟨0, Nat.zero_le _, rfl, Below.refl _ _, OwnR.nil _ _, _, _, _, rfl⟩
      case round =>
        obtain ⟨k, hk, rfl, hB, hO, hform⟩ := hrel
        have hz := hB.size
        have hz1 : w.heap.size < wr.heap.size := by omega
        have hz2 : w.heap.size + 1 < wr.heap.size := by omega
        have r0 := (hB.cell (p := ⟨w.heap.size, 0, none⟩) (by show w.heap.size < _; omega)).trans p0
        have r1 := (hB.cell (p := ⟨w.heap.size, 1, none⟩) (by show w.heap.size < _; omega)).trans p1
        have e0 := (hB.cell (p := ⟨w.heap.size + 1, 0, none⟩) (by show w.heap.size + 1 < _; omega)).trans d0
        have e1 := (hB.cell (p := ⟨w.heap.size + 1, 1, none⟩) (by show w.heap.size + 1 < _; omega)).trans d1
        have k0 := (hB.frozen (p := ⟨w.heap.size + 1, 0, none⟩) (by show w.heap.size + 1 < _; omega)).trans f0
        have k1 := (hB.frozen (p := ⟨w.heap.size + 1, 1, none⟩) (by show w.heap.size + 1 < _; omega)).trans f1
        obtain ⟨a3, n3, c3, rfl⟩ := hform
        have HO := Lib.hid hO
        clear hO
        by_cases hkl : k < bs.length
        · rcases HSB1.out.2.2 with ⟨_, _, _, hnil⟩ | ⟨b, off, cap, hv, hblt, hbl⟩
          · rw [hnil] at hkl; simp at hkl
          · simp at hv
            obtain ⟨rfl, rfl⟩ := hv
            have hz3 : b < wr.heap.size := by omega
            obtain ⟨x, hx, ex, x1, x2, x3⟩ := blks_at (hbl.below hB hblt) hkl
            obtain ⟨y, hy, ey, y1, y2, y3⟩ := blks_at (hbl.below hB hblt) hj
            have ejy : bs[j] = y := by rw [List.getElem?_eq_getElem hj] at ey; simpa using ey
            have hnx := filter_take_next (p := fun x => !decide (x = bs[j])) hkl ex
            have hq := run_neq_blk x y
            have hfl : ((bs.take k).filter fun x => !decide (x = bs[j])).length ≤ bs.length := Nat.le_trans (List.length_filter_le _ _) (by simp; omega)
            rw [ejy] at hnx hfl
            rw [ejy] at HO ⊢
            have EJ := Lib.hid ejy
            clear ejy hx hy ex ey hbl
            obtain ⟨xa, xb, xc⟩ := x
            obtain ⟨ya, yb, yc⟩ := y
            unfold bv at hq
            dsimp only at hq x1 x2 x3 y1 y2 y3 hnx
            have HNX := Lib.hid hnx
            clear hnx
            cases hd : decide ((⟨xa, xb, xc⟩ : Blk) = ⟨ya, yb, yc⟩) with
            | true =>
              rw [hd] at HNX hq
              have HN2 := Lib.hid (show (bs.take (k + 1)).filter (fun x => !decide (x = ⟨ya, yb, yc⟩)) = (bs.take k).filter (fun x => !decide (x = ⟨ya, yb, yc⟩)) by rw [HNX.out]; simp)
              simp only [Bool.not_true] at hq
              clear hd HNX
              go_wp2
              go_quiet (fail)
              go_wp2
              go_roundw
              case rel => exact ⟨k + 1, by omega, by go_num, below_drewN (hB.alloc (by omega) _) _, by rw [HN2.out]; exact HO.out.below (below_drewN ((Below.refl _ _).alloc (Nat.le_refl _) _) _) (Nat.le_refl _), _, _, _, rfl⟩
              case measure => simp [intOf]; omega
            | false =>
              rw [hd] at HNX hq
              have HN2 := Lib.hid (show (bs.take (k + 1)).filter (fun x => !decide (x = ⟨ya, yb, yc⟩)) = (bs.take k).filter (fun x => !decide (x = ⟨ya, yb, yc⟩)) ++ [⟨xa, xb, xc⟩] by rw [HNX.out]; simp)
              simp only [Bool.not_false] at hq
              clear hd HNX
              go_wp2
              go_quiet (fail)
              go_wp2_with (at_builtin; refine wpList_append_blk rfl _ _ rfl w1.heap.size _ ((bs.take k).filter fun x => !decide (x = ⟨ya, yb, yc⟩)) rfl ((HO.out.below (below_drewN ((Below.refl _ _).alloc (Nat.le_refl _) _) _) (Nat.le_refl _)).below ((Below.refl _ _).alloc (Nat.le_refl _) _) (Nat.le_refl _)) _ _ ⟨xa, xb, xc⟩ rfl (by simp [go_sem]) (by simp [go_sem]) (by simp [go_sem]) (by omega) (by simp; omega) ?_; intro g' cap' w4 hO4 hg4)
              have hrow := HO.out.row
              have hgo : wr.grownBy w4 (Value.slice a3 n3 c3).ownBlock := gb_trans (gb_below (below_drewN ((Below.refl _ _).alloc (Nat.le_refl _) _) _)) (gb_trans (World.grownBy_alloc _ _ none) hg4)
              clear hg4
              go_roundw
              case rel => exact ⟨k + 1, by omega, by go_num, hB.grown hgo hB.size (fun j e => hrow j e), by rw [HN2.out]; exact hO4, _, _, _, rfl⟩
              case measure => simp [intOf]; omega
        · have e : k = bs.length := by omega
          subst e
          rw [List.take_length] at HO
          go_wp2
          have hres := HO.out.res
          exact bodyPost_ret (v := .tuple #[.agg #[.int .i64 v, .slice a3 n3 c3], .int .i64 0]) (by simp [results, Try.results22, go_sem, *]) rfl ⟨_, rfl, (hres.kept (gb_set2 wr (w.heap.size + 1) (.int .i64 v) (.slice a3 n3 c3)) (fun r e => by cases e; exact .inl (by omega))).wide (by omega) (by simp [World.setCell]), below_set2 (hbw.trans (hB.mono (by omega))) (by omega) _ _⟩
    · have hval : takeF v bs i = (0, [], 2) := by
        simp only [takeF, hi, if_true]
        rw [if_neg (by simpa using hr)]
      rw [hval]
      rw [hi] at HI
      clear hval hi HSB
      have HN := Lib.hid fun a0 c0 W => isBlockNumber_any v a0 bs.length c0 i W
      rw [show inP (bs.length : Int) i = false by simp [inP]; omega] at HN
      clear hr
      go_enter Try.func22, Try.ntmps22
      go_wp2_with fail
      refine (HI.out _ (below2 _ _ _ _)).mono ?_
      rintro e w1 ⟨rfl, hb1⟩
      obtain ⟨p0, p1, d0, d1, f0, f1, hbw, hlt⟩ := boxes2 hb1
      clear hb1
      go_wp2_with fail
      refine (HN.out _ _ _).mono ?_
      rintro e w2 ⟨rfl, hb2⟩
      obtain ⟨p0, p1, d0, d1, f0, f1, hbw, hlt⟩ := boxes2_later hb2 hlt hbw p0 p1 d0 d1 f0 f1
      clear hb2
      go_wp2
      exact bodyPost_ret (v := .tuple #[.agg #[.int .i64 0, .slice none 0 0], .int .i64 2]) (by simp [results, Try.results22, go_sem, *]) rfl ⟨_, rfl, .inl ⟨rfl, _, _, rfl⟩, below_set2 hbw (by omega) _ _⟩
end Go.Proofs.Ytlkjacgpjolbdaa

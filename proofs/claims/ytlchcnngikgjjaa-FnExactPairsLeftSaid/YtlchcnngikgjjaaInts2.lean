
/- The model's list of the blocks through a point. -/
import Derived.Test.YtlchcnngikgjjaaInts1
import Derived.Test.YtlchcnngikgjjaaRowb
import Derived.Test.YtlchcnngikgjjaaSpecThird
namespace Go.Proofs.Ytlchcnngikgjjaa
open Go.RowKit Go.Maps
/-- The value owns a row of just these integers, beyond base. -/
def OwnJ (W : World) (base : Nat) (u : Value) (zs : List Int) : Prop := W.ownsRow base 2 1 u zs.length (zs.map (Value.int .i64))
theorem OwnJ.kept {w w' : World} {base : Nat} {v : Value} {bs : List Int} {row : Option Nat} (h : OwnJ w base v bs) (hg : w.grownBy w' row) (hr : ∀ r, row = some r → r < base) : OwnJ w' base v bs := by
  obtain ⟨hl, h | ⟨g, cap, cur, rfl, hb, hcur, hrest⟩⟩ := h
  · exact ⟨hl, .inl h⟩
  · exact ⟨hl, .inr ⟨g, cap, cur, rfl, hb, (hg.block g (Array.getElem?_eq_some_iff.1 hcur).1 (fun e => by have := hr g e.symm; omega)).trans hcur, hrest⟩⟩
theorem OwnJ.below {w w' : World} {base : Nat} {v : Value} {bs : List Int} (h : OwnJ w base v bs) {B : Nat} (hb : Below B w w') (hB : w.heap.size ≤ B) : OwnJ w' base v bs :=
  h.kept (only_of_below (hb.mono hB) none) (by simp)
theorem OwnJ.row {w : World} {base : Nat} {v : Value} {bs : List Int} (h : OwnJ w base v bs) : ∀ r, v.ownBlock = some r → base ≤ r := fun r hr => by
  rcases h.2 with ⟨rfl, _⟩ | ⟨g, cap, cur, rfl, hb, _⟩
  · simp [Value.ownBlock] at hr
  · obtain rfl : g = r := by simpa [Value.ownBlock] using hr
    exact hb
theorem OwnJ.ib {W : World} {base : Nat} {u : Value} {zs : List Int} (h : OwnJ W base u zs) (hl : zs.length ≤ 1100000) : IB W u zs := by
  obtain ⟨_, h | ⟨g, cap, cur, rfl, hb, hcur, hn, hc, hsz, hx⟩⟩ := h
  · obtain ⟨rfl, h0⟩ := h
    exact ⟨hl, .inl ⟨_, _, rfl, List.length_eq_zero_iff.1 h0⟩⟩
  · refine ⟨hl, .inr ⟨g, 0, cap, rfl, (Array.getElem?_eq_some_iff.1 hcur).1, fun k hk => ?_⟩⟩
    have e : (zs.map (Value.int .i64))[k]? = some (.int .i64 (zs[k]?.getD 0)) := by simp [hk]
    rw [← hx, List.getElem?_take_of_lt (by omega)] at e
    rw [Nat.zero_add]
    simp [World.cell?, hcur]
    simpa using e
theorem wpList_append_int {w : World} {ops : Array Oper} {rest : List Oper} {o : Oper} {a : Act} {Q : Exit → Act → World → Prop} (hgd : o.guard = none) (s x : Operand)
    (ho : o.op = .call { callee := .builtin .append, args := #[s, x], argTypes := #[36, 36] })
    (base : Nat) (v : Value) (zs : List Int) (hs : a.eval s = v) (hown : OwnJ w base v zs) (b0 c : Nat) (y : Int) (hx : a.eval x = .slice (some ⟨b0, 0, none⟩) 1 c)
    (c1 : w.cell? ⟨b0, 0, none⟩ = some (.int .i64 y)) (hl : zs.length ≤ 1100000) (hbase : base ≤ w.heap.size)
    (h : ∀ (g cap : Nat) (w' : World), OwnJ w' base (.slice (some ⟨g, 0, none⟩) (zs.length + 1) cap) (zs ++ [y]) → w.grownBy w' v.ownBlock → wpList Try.prog ops Q rest (a.put o.dst (.slice (some ⟨g, 0, none⟩) (zs.length + 1) cap)) w') : wpList Try.prog ops Q (o :: rest) a w := by
  obtain ⟨i0, hi, hz0, hz1, hz2⟩ := info_parts infoInt64
  refine wpList_append_own w hgd s x 36 ho base 2 i0 _ 1 8 Try.underlying36 hi hz0 hz1 hz2 rfl (by decide) v zs.length (zs.map (Value.int .i64)) hs hown ⟨b0, 0, none⟩ 1 c [.int .i64 y] hx rfl ?_ ?_ (by unfold maxLen; omega) (by omega) hbase ?_
  · intro j u hj
    rw [addr_at, Nat.zero_add]
    match j, hj with
    | 0, hj => simp at hj; rw [← hj]; exact c1
    | j + 1, hj => simp at hj
  · intro u hu
    simp at hu
    rw [hu]
    rfl
  · intro v' w' hown' hg _
    obtain ⟨g, cap, rfl⟩ := row_some hown'
    refine h g cap w' ?_ hg
    unfold OwnJ
    rw [List.length_append, List.length_singleton, List.map_append, List.map_singleton]
    exact hown'
theorem OwnJ.new0 (W : World) {base : Nat} (hb : base ≤ W.heap.size) : OwnJ (W.alloc (.cells #[] 2)) base (.slice (some ⟨W.heap.size, 0, none⟩) 0 0) [] :=
  ⟨rfl, .inr ⟨W.heap.size, 0, #[], rfl, hb, World.alloc_heap_new W _, Nat.le_refl _, Nat.zero_le _, rfl, rfl⟩⟩
/-- The indices of the blocks through p among the first k. -/
def idxI (p : Int) (bs : List Blk) (k : Nat) : List Int := (upTo p bs k).map fun q => (q.1 : Int)
theorem idxI_succ (p : Int) (bs : List Blk) (k : Nat) : idxI p bs (k + 1) = idxI p bs k ++ if hasB (bs[k]?.getD default) p then [(k : Int)] else [] := by
  unfold idxI
  rw [upTo_succ, List.map_append]
  congr 1
  split <;> rfl
theorem idxI_len (p : Int) (bs : List Blk) (k : Nat) : (idxI p bs k).length ≤ k := by
  unfold idxI
  rw [List.length_map]
  exact upTo_len p bs k
set_option maxRecDepth 100000 in
theorem l01At_any (v : Int) (s : Value) (bs : List Blk) (p : Int) (w : World) (h : SB w s bs) :
    Calls Try.prog 110 #[.agg #[.int .i64 v, s], .int .i64 p] w fun e w' => ∃ u, e = .returned u ∧ OwnJ w' w.heap.size u (idxI p bs bs.length) ∧ Below w.heap.size w w' := by
  have hs := h.slice
  have H := Lib.hid h
  have hl := h.2.1
  clear h
  obtain ⟨a0, c0, rfl⟩ := hs
  go_enter Try.func110, Try.ntmps110
  go_wp2
  have ho0 := OwnJ.new0 (w.alloc (.cells #[.int .i64 v, .slice a0 bs.length c0] 26)) (base := w.heap.size + 1) (by simp)
  rw [World.size_alloc] at ho0
  obtain ⟨w2, hw2⟩ : ∃ w2, (w.alloc (.cells #[.int .i64 v, .slice a0 bs.length c0] 26)).alloc (.cells #[] 2) = w2 := ⟨_, rfl⟩
  have hB0 : Below w.heap.size w w2 := by rw [← hw2]; exact ((Below.refl _ _).alloc (Nat.le_refl _) _).alloc (by simp) _
  have hz2 : w2.heap.size = w.heap.size + 1 + 1 := by rw [← hw2]; simp
  have hc2 : w2.cell? ⟨w.heap.size, 1, none⟩ = some (.slice a0 bs.length c0) := by rw [← hw2]; exact cell_past (new_at 1 rfl) (by simp)
  rw [hw2] at ho0 ⊢
  have HO0 := Lib.hid ho0
  clear hw2 ho0
  go_loopw [5, 6] (fun o i wr => ∃ k : Nat, k ≤ bs.length ∧ i = .int .i64 k ∧ Below (w.heap.size + 1) w2 wr ∧ OwnJ wr (w.heap.size + 1) o (idxI p bs k) ∧ ∃ a n c, o = .slice a n c) (fun _ i _ => bs.length - (intOf i).toNat)
  case atStart => exact ⟨0, Nat.zero_le _, rfl, Below.refl _ _, HO0.out, _, _, _, rfl⟩
  case round =>
    obtain ⟨k, hk, rfl, hB, hO, hform⟩ := hrel
    have hz := hB.size
    have p1 : wr.cell? ⟨w.heap.size, 1, none⟩ = some (.slice a0 bs.length c0) := by rw [hB.cell (by simp)]; exact hc2
    have hBw : Below w.heap.size w wr := hB0.trans (hB.mono (by omega))
    obtain ⟨a3, n3, c3, rfl⟩ := hform
    have HO := Lib.hid hO
    clear hO
    by_cases hkl : k < bs.length
    · rcases H.out.2.2 with ⟨_, _, _, hnil⟩ | ⟨bb, off, cap, hval, hblt, hbl⟩
      · rw [hnil] at hkl; simp at hkl
      · simp at hval
        obtain ⟨rfl, rfl⟩ := hval
        obtain ⟨x1, x2, x3⟩ := (hbl.below hBw hblt) k hkl
        obtain ⟨x, hx⟩ : ∃ x, x = bs[k]?.getD default := ⟨_, rfl⟩
        have hsucc := idxI_succ p bs k
        rw [← hx] at x1 x2 x3 hsucc
        have hlen := idxI_len p bs k
        have hw1 := l01With_any x p
        clear hbl hx
        obtain ⟨y1, y2, y3⟩ := x
        dsimp only [bv] at x1 x2 x3 hw1
        have g0 : (0 : Int) ≤ (k : Int) := by omega
        have g1 : (k : Int) < (bs.length : Int) := by omega
        cases h1 : hasB ⟨y1, y2, y3⟩ p with
        | false =>
          rw [h1] at hw1 hsucc
          have HW1 := Lib.hid hw1
          have HS := Lib.hid hsucc
          clear hw1 h1 hsucc
          go_wp2_with (go_at_call 175; refine (HW1.out _).mono ?_; rintro e w1 ⟨rfl, hb1⟩)
          go_roundw
          case rel => exact ⟨k + 1, by omega, by go_num, hB.trans (hb1.mono (by omega)), by rw [HS.out, if_neg (by decide), List.append_nil]; exact HO.out.below hb1 (Nat.le_refl _), _, _, _, rfl⟩
          case measure => simp [intOf]; omega
        | true =>
          rw [h1, if_pos rfl] at hsucc
          rw [h1] at hw1
          have HW1 := Lib.hid hw1
          have HS := Lib.hid hsucc
          clear hw1 h1 hsucc
          go_wp2_with fail
          refine (HW1.out _).mono ?_
          rintro e w1 ⟨rfl, hb1⟩
          have hz1 := hb1.size
          have HO1 := Lib.hid (HO.out.below hb1 (Nat.le_refl _))
          go_wp2_with (at_builtin; refine wpList_append_int rfl _ _ rfl (w.heap.size + 1) _ (idxI p bs k) rfl (HO1.out.below ((Below.refl _ _).alloc (Nat.le_refl _) _) (Nat.le_refl _)) _ _ (k : Int) rfl (by simp [go_sem]) (by omega) (by simp; omega) ?_; intro g' cap' w4 hO4 hg4)
          have hrow := HO1.out.row
          have hgo : w1.grownBy w4 (Value.slice a3 n3 c3).ownBlock := ⟨hg4.os, hg4.tape, hg4.output, by have := hg4.size; simp at this; omega, fun i hi hne => by
            rw [hg4.block i (by simp; omega) hne, Below.heap_alloc _ _ _ hi]⟩
          clear hg4
          have hB1 := hB.trans (hb1.mono (by omega))
          go_roundw
          case rel => exact ⟨k + 1, by omega, by go_num, hB1.grown hgo (by omega) (fun j e => hrow j e), by rw [HS.out]; exact hO4, _, _, _, rfl⟩
          case measure => simp [intOf]; omega
    · go_wp2
      go_ret
      have e : k = bs.length := by omega
      subst e
      exact ⟨_, rfl, ownsRow_base HO.out (by omega), hBw⟩
end Go.Proofs.Ytlchcnngikgjjaa

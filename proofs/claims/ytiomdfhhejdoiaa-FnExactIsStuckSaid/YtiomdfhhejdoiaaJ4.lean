
/- The program's FreeBlocks. The model's test whether a block can be put in. The model's list of the blocks that can be put in. FreeBlocks: the program and the model answer alike. IsStuck: the program and the model. The model's ThirdPoint answers as the plain function thirdV. The model's ThirdPoint answers as the plain function thirdV. Slices of integers: equality of two that hold the same. -/
import Derived.Test.YtiomdfhhejdoiaaJ3
namespace Go.Proofs.Ytiomdfhhejdoiaa
open Go.RowKit Go.Maps Go.Shelf
attribute [local go_sem] Oper.semAt_some
/-- The blocks that are free of the pairs of bs. -/
def frL (bs : List Blk) (pre : List WB) : List Blk := (pre.map (·.1)).filter (freeB (bs.flatMap pairsL))
theorem frL_snoc (bs : List Blk) (pre : List WB) (x : WB) : frL bs (pre ++ [x]) = frL bs pre ++ if freeB (bs.flatMap pairsL) x.1 then [x.1] else [] := by
  unfold frL
  rw [List.map_append, List.filter_append]
  congr 1
  simp [List.filter_cons]
theorem frL_len (bs : List Blk) (pre : List WB) : (frL bs pre).length ≤ pre.length := by
  unfold frL
  refine Nat.le_trans (List.length_filter_le _ _) ?_
  simp
theorem own_ne {W : World} {n₁ : Nat} {e : TypeId} {size : Nat} {v : Value} {k : Nat} {xs : List Value} (hrow : W.ownsRow n₁ e size v k xs) {j : Nat} (hj : j < n₁) : some j ≠ v.ownBlock := fun ej => by
  rcases hrow.2 with ⟨rfl, _⟩ | ⟨g, cap, cur, rfl, hb, _, _⟩
  · simp [Value.ownBlock] at ej
  · obtain rfl : j = g := by simpa [Value.ownBlock] using ej
    omega
theorem cell_three_new (W : World) (y : Blk) (T : TypeId) : ∀ j u, (cells3 y)[j]? = some u → (W.alloc (.cells #[.int .i64 y.a, .int .i64 y.b, .int .i64 y.c] T)).cell? ((⟨W.heap.size, 0, none⟩ : Addr).add j) = some u := by
  intro j u hj
  rw [addr_at, Nat.zero_add]
  match j, hj with
  | 0, hj => simp [cells3] at hj; rw [← hj]; exact new_at 0 rfl
  | 1, hj => simp [cells3] at hj; rw [← hj]; exact new_at 1 rfl
  | 2, hj => simp [cells3] at hj; rw [← hj]; exact new_at 2 rfl
  | j + 3, hj => simp [cells3] at hj
set_option maxRecDepth 100000 in
set_option maxHeartbeats 2000000 in
theorem FreeBlocks_main (v : Int) (s : Value) (bs : List Blk) (w : World) (h : SB w s bs) (hi : isSysImpl v bs = true) :
    Calls Try.prog 52 #[.agg #[.int .i64 v, s]] w fun e w' => ∃ u, e = .returned (.tuple #[u, .int .i64 0]) ∧ OwnR w' w.heap.size u ((rowA v.toNat v.toNat).filter (freeB (bs.flatMap pairsL))) ∧ Below w.heap.size w w' := by
  have hs := h.slice
  have HI := Lib.hid fun W (hb : Below w.heap.size w W) => IsSystem_any v s bs W (h.below hb (Nat.le_refl _))
  rw [hi] at HI
  obtain ⟨hv3, hv15, hb35⟩ := sys_size hi
  obtain ⟨vn, hvn⟩ : ∃ vn : Nat, (vn : Int) = v := ⟨v.toNat, by omega⟩
  have hvt : v.toNat = vn := by omega
  rw [hvt]
  clear hvt
  have HP := Lib.hid fun W (hb : Below w.heap.size w W) => pairsIn_any s bs W (h.below hb (Nat.le_refl _)) (by omega)
  have HL := Lib.hid h.2.1
  clear h hi
  obtain ⟨a0, c0, rfl⟩ := hs
  obtain ⟨i0, hinf, hz0, hz1, hz2⟩ := info_parts infoBlock
  have HIF := Lib.hid hinf
  have hro : Fence.wide.round = none := rfl
  refine (callsIn_wide (n := 9)).1 ?_
  refine callsIn_of_wp_marks Try.func52 rfl trivial ?_ hro
  simp only [Try.ntmps52, List.size_toArray, List.length_cons, List.length_nil, Nat.reduceAdd, Nat.reduceSub, Array.replicate_succ, Array.replicate_zero, List.push_toArray, List.append_toArray, List.nil_append, List.cons_append]
  gi_wp2_with (first
    | (refine ⟨trivial, ?_⟩; gi_at_call 63; refine (callsIn_wide.2 (HI.out _ ((Below.refl _ _).alloc (Nat.le_refl _) _))).mono ?_; rintro e w1 ⟨rfl, hb1⟩; have q0 := cell_new hb1 0 rfl; have q1 := cell_new hb1 1 rfl; have hlt1 := lt_new hb1; have hbw := below_new hb1)
    | (refine ⟨trivial, ?_⟩; gi_at_call 57; refine (callsIn_wide.2 (HP.out _ hbw)).mono ?_; rintro e w2 ⟨rfl, hS, hb2⟩; have q0' := (hb2.cell (p := ⟨w.heap.size, 0, none⟩) hlt1).trans q0; have hlt2 := hS.lt; have hlt3 : w.heap.size < w2.heap.size := Nat.lt_trans hlt1 hlt2; have hbw2 := hbw.trans (hb2.mono hbw.size))
    | (refine ⟨trivial, ?_⟩; gi_at_call 85; refine (callsIn_wide.2 (allBlocks_any _ _)).mono ?_; rintro e w3 ⟨rfl, rfl⟩))
  have hsW := hbw2.size
  have b4 := ((Boxed.new w2 71 (.map (some w1.heap.size))).alloc (.cells #[.slice none 0 0] 29)).alloc (.cells #[.int .i64 v] 2)
  have b5 := (Boxed.new (w2.alloc (.cells #[.map (some w1.heap.size)] 71)) 29 (.slice none 0 0)).alloc (.cells #[.int .i64 v] 2)
  rw [World.size_alloc] at b5
  have hB0 : Below w.heap.size w (((w2.alloc (.cells #[.map (some w1.heap.size)] 71)).alloc (.cells #[.slice none 0 0] 29)).alloc (.cells #[.int .i64 v] 2)) := ((hbw2.alloc hsW _).alloc (by simp; omega) _).alloc (by simp; omega) _
  have hS0 := ((hS.alloc (.cells #[.map (some w1.heap.size)] 71)).alloc (.cells #[.slice none 0 0] 29)).alloc (.cells #[.int .i64 v] 2)
  have hp : (((w2.alloc (.cells #[.map (some w1.heap.size)] 71)).alloc (.cells #[.slice none 0 0] 29)).alloc (.cells #[.int .i64 v] 2)).cell? ⟨w2.heap.size + 1 + 1, 0, none⟩ = some (.int .i64 (vn : Int)) := by
    have := new_at (w := (w2.alloc (.cells #[.map (some w1.heap.size)] 71)).alloc (.cells #[.slice none 0 0] 29)) (cs := #[.int .i64 v]) (T := 2) 0 rfl
    simp only [World.size_alloc] at this
    rw [hvn]
    exact this
  have hsz0 : (((w2.alloc (.cells #[.map (some w1.heap.size)] 71)).alloc (.cells #[.slice none 0 0] 29)).alloc (.cells #[.int .i64 v] 2)).heap.size = w2.heap.size + 1 + 1 + 1 := by simp
  obtain ⟨W0, hW0⟩ : ∃ W0, (((w2.alloc (.cells #[.map (some w1.heap.size)] 71)).alloc (.cells #[.slice none 0 0] 29)).alloc (.cells #[.int .i64 v] 2)) = W0 := ⟨_, rfl⟩
  rw [hW0] at b4 b5 hB0 hS0 hp hsz0 ⊢
  clear hW0 q0 q0' q1 HI HP hS hb2 hbw
  refine wpIn_rangeFunc_ownH hro (by omega) (gf := 118) (lb := #[.pointer (some ⟨w2.heap.size + 1 + 1, 0, none⟩)]) rfl trivial (enters_of Try.func118 (by kernel_rfl) rfl)
    (all_stops (9 - 1) (by omega) (w2.heap.size + 1 + 1) vn (by omega) w.heap.size W0 hp (by omega)) KpB.trans (KpB.put (by omega)) (Below.refl _ _) (fun _ => rfl)
    (fun pre W => ((∃ u, Boxed W (w2.heap.size + 1) 29 u ∧ W.ownsRow W0.heap.size 68 3 u (frL bs pre).length ((frL bs pre).flatMap cells3) ∧ True) ∧ Boxed W w2.heap.size 71 (.map (some w1.heap.size)) ∧ BoolSet W Try.prog 75 4 w1.heap.size (3 * bs.length) ((bs.flatMap pairsL).map pv)) ∧ Below w.heap.size W0 W)
    (fun _ _ _ => False)
    (OwnFrom.and (OwnFrom.and (Own.from (holdsRow_own W0.heap.size (w2.heap.size + 1) 29 68 3 (fun pre => (frL bs pre).length) (fun pre => (frL bs pre).flatMap cells3) (fun _ _ => True)) _) (OwnFrom.and (Own.from (boxed_own _ _ _) _) (fun s A B row hs hg hr => hs.kept hg (fun e => by have := (hr _ e.symm).1; omega)))) (ownFrom_below (by omega) (by omega)))
    (fun _ _ _ _ _ hs _ _ => hs)
    ⟨⟨⟨_, b5, World.ownsRow_nil _ _ _ _, trivial⟩, b4, hS0⟩, Below.refl _ _⟩
    (fun x a' W => ∃ Bx, B3 W Bx x.1 ∧ a' = { tmps := #[.agg #[.int .i64 v, .slice a0 bs.length c0], .pointer (some ⟨w.heap.size, 0, none⟩), .slice none 0 0, .int .i64 0, .pointer (some ⟨w2.heap.size, 0, none⟩), .pointer (some ⟨w2.heap.size + 1, 0, none⟩), .pointer (some ⟨Bx, 0, none⟩), .agg #[.int .i64 v, .slice a0 bs.length c0], .bool true, .bool false, .pointer (some ⟨w.heap.size, 1, none⟩), .slice a0 bs.length c0, .map (some w1.heap.size), .pointer (some ⟨w.heap.size, 0, none⟩), .int .i64 v, .func (.func 118) #[] #[.pointer (some ⟨w2.heap.size + 1 + 1, 0, none⟩)], bv x.1, undef, undef, undef, undef, undef, undef, undef, undef], defers := [] })
    (fun x a' _ X Y row hs hg hr => by obtain ⟨Bx, h1, h2⟩ := hs; exact ⟨Bx, B3.own Bx x.1 () X Y row h1 hg (fun r e => (hr r e).2), h2⟩)
    ?assign ?body ?done ?stop
  case assign =>
    rintro l pre x W K ⟨⟨⟨u, hv, hrow, _⟩, d4, hS⟩, hB⟩ hK
    have hsW2 := hB.size
    dsimp only [bv]
    gi_wp2
    exact hK _ _ ((KeepsOthers.alloc _ _).from _) (KpB.alloc (by omega) _) ⟨⟨⟨u, hv.alloc _, hrow.alloc _, trivial⟩, d4.alloc _, hS.alloc _⟩, hB.alloc (by omega) _⟩ ⟨W.heap.size, World.alloc_heap_new W _, rfl⟩
  case body =>
    rintro l pre x a' W hl ⟨r, hr⟩ ⟨⟨⟨u, hv, hrow, _⟩, d4, hS⟩, hB⟩ ⟨Bx, bX, rfl⟩ hlt
    have hc4 := d4.cell
    have hpl : (frL bs pre).length + 1 ≤ 5000 := by have := frL_len bs pre; omega
    have hml : 1100000 ≤ maxLen := by decide
    have hinf := HIF.out
    have hsB := hB.size
    have hd : 1 ≤ 9 - 1 - 1 := by omega
    have hsn := frL_snoc bs pre x
    have hfb := isBlockFree_any w1.heap.size (3 * bs.length) (bs.flatMap pairsL) x.1 x.2 W hS
    have hin : (Below W.heap.size W W → True) := fun _ => trivial
    clear hin
    obtain ⟨⟨y1, y2, y3⟩, hwf⟩ := x
    obtain ⟨x1, x2, x3⟩ := bX.cells
    have hBx := bX.lt
    dsimp only [bv] at hfb x1 x2 x3
    have HSN := Lib.hid hsn
    clear hsn
    cases hfr : freeB (bs.flatMap pairsL) ⟨y1, y2, y3⟩ with
    | false =>
      rw [hfr] at hfb HSN
      have HFB := Lib.hid hfb
      clear hfb
      gi_wp2_with (refine ⟨trivial, ?_⟩; gi_at_call 58; refine (CallsIn.inRound l (callsIn_wide.2 HFB.out)).mono ?_; rintro e W3 ⟨rfl, hb3⟩)
      have hg := gb_below hb3
      have hown : u.ownBlock = none ∨ u.ownBlock ≠ none := Classical.em _
      exact ⟨KeepsFrom.of_grownBy hg (by simp), ⟨hb3.mono (by omega), fun z hz => (hb3.cell (p := ⟨_, 0, none⟩) (by obtain ⟨ob, ho, _⟩ := cells_of_cell hz; exact (Array.getElem?_eq_some_iff.1 ho).1)).trans hz⟩, ⟨⟨u, hv.kept hg (by simp), by rw [HSN.out, if_neg (by decide), List.append_nil]; exact hrow.kept hg hown, trivial⟩, d4.kept hg (by simp), hS.kept hg (by simp)⟩, hB.trans (hb3.mono (by omega))⟩
    | true =>
      rw [hfr, if_pos rfl] at HSN
      rw [hfr] at hfb
      have HFB := Lib.hid hfb
      clear hfb
      gi_wp2_with (first
        | (refine ⟨trivial, ?_⟩; gi_at_call 58; refine (CallsIn.inRound l (callsIn_wide.2 HFB.out)).mono ?_; rintro e W3 ⟨rfl, hb3⟩; have hg := gb_below hb3; have hv3 := hv.kept hg (by simp); have hc5 := hv3.cell; have hrow3 := hrow.kept hg (Classical.em _); have z1 := (hb3.cell (p := ⟨Bx, 0, none⟩) hBx).trans x1; have z2 := (hb3.cell (p := ⟨Bx, 1, none⟩) hBx).trans x2; have z3 := (hb3.cell (p := ⟨Bx, 2, none⟩) hBx).trans x3; have hz3 := hb3.size)
        | (gi_at_builtin; refine wpListIn_append_own _ rfl _ _ 29 rfl W0.heap.size 68 i0 _ 3 24 Try.underlying29 hinf hz0 hz1 hz2 rfl (by decide) _ _ _ rfl (hrow3.alloc _) ⟨W3.heap.size, 0, none⟩ 1 1 (cells3 ⟨y1, y2, y3⟩) rfl rfl (cell_three_new W3 ⟨y1, y2, y3⟩ _) (by intro u hu; simp [cells3] at hu; rcases hu with rfl | rfl | rfl <;> rfl) (by omega) (by omega) (by simp; omega) ?_; intro v' w4 hown' hgrow _; obtain ⟨g', cap', rfl⟩ := ownsRow_succ hown'; obtain ⟨hv1, hv2, hr2, hk2, hb2⟩ := appended2 (n := w.heap.size) (Bp := w2.heap.size + 1 + 1) hv3 (by decide) hrow3 (by omega) (by omega) (by omega) (by omega) (by omega) hown' hgrow; have hc1 := hv1.cell; have hf1 := hv1.frozen))
      have n4 := own_ne hrow3 (show w2.heap.size < W0.heap.size by omega)
      have n1 := own_ne hrow3 (show w1.heap.size < W0.heap.size by omega)
      have d4' := (((d4.kept hg (by simp)).alloc (.cells #[.int .i64 y1, .int .i64 y2, .int .i64 y3] 68)).kept hgrow n4).other (B' := w2.heap.size + 1) (by omega) (.slice (some ⟨g', 0, none⟩) ((frL bs pre).length + 1) cap')
      have hS' := (((hS.kept hg (by simp)).alloc (.cells #[.int .i64 y1, .int .i64 y2, .int .i64 y3] 68)).kept hgrow n1).setCell (a := ⟨w2.heap.size + 1, 0, none⟩) (by simp; omega) (.slice (some ⟨g', 0, none⟩) ((frL bs pre).length + 1) cap')
      refine ⟨(KeepsFrom.of_grownBy hg (by simp)).trans (hk2.from _), KpB.trans ⟨hb3.mono (by omega), fun z hz => (hb3.cell (p := ⟨_, 0, none⟩) (by obtain ⟨ob, ho, _⟩ := cells_of_cell hz; exact (Array.getElem?_eq_some_iff.1 ho).1)).trans hz⟩ hb2, ⟨⟨_, hv2, ?_, trivial⟩, d4', hS'⟩, (hB.trans (hb3.mono (by omega))).trans hb2.1⟩
      rw [HSN.out, List.length_append, List.flatMap_append]
      simpa using hr2
  case done =>
    rintro D ys W hD hys ⟨⟨⟨u, hv, hrow, _⟩, d4, hS⟩, hB⟩ hK
    have hc := hv.cell
    have he : frL bs ys = (rowA vn vn).filter (freeB (bs.flatMap pairsL)) := by unfold frL; rw [hys]
    rw [he] at hrow
    gi_wp2
    refine ⟨by simp, .inl ⟨_, _, rfl, run_takeDeferred hK, ?_⟩⟩
    exact ⟨_, by simp [results, Try.f52, go_sem], u, rfl, ownsRow_base (ownsRow_putObj hrow _ hK rfl) (by omega), (hB0.trans hB).trans (belowK_b (w := w) (Nat.le_refl _) W D _ _ (by omega) hK rfl rfl)⟩
  case stop =>
    rintro D c pre W _ _ h _
    exact h.elim
end Go.Proofs.Ytiomdfhhejdoiaa

namespace Go.Proofs.Ytiomdfhhejdoiaa
open Go.RowKit Go.Maps
def okB (bs : List Blk) (x : Blk) : Bool := bs.all fun y => decide (commonN y x ≤ 1)
theorem okB_free {v : Int} {bs : List Blk} {x : Blk} (hb : ∀ y ∈ bs, goodB v y = true) (hx : goodB v x = true) : freeB (bs.flatMap pairsL) x = okB bs x := by
  rw [Bool.eq_iff_iff, freeB_iff]
  unfold okB
  rw [List.all_eq_true]
  constructor
  · intro h y hy
    rw [decide_eq_true_iff, common_pairs (hb y hy) hx]
    intro p hp hq
    exact h p hq (List.mem_flatMap.2 ⟨y, hy, hp⟩)
  · intro h p hp hq
    obtain ⟨y, hy, hpy⟩ := List.mem_flatMap.1 hq
    have := h y hy
    rw [decide_eq_true_iff, common_pairs (hb y hy) hx] at this
    exact this p hpy hp
set_option maxRecDepth 100000 in
theorem l01Free_any (v : Int) (s : Value) (bs : List Blk) (x : Blk) (w : World) (h : SB w s bs) :
    Calls Try.prog 54 #[.agg #[.int .i64 v, s], bv x] w (RV (.bool (okB bs x)) w) := by
  have hs := h.slice
  have H := Lib.hid h
  have hl := h.2.1
  clear h
  obtain ⟨a0, c0, rfl⟩ := hs
  obtain ⟨x1, x2, x3⟩ := x
  dsimp only [bv]
  go_enter Try.func54, Try.ntmps54
  go_wp2
  have hB0 : Below w.heap.size w ((w.alloc (.cells #[.int .i64 v, .slice a0 bs.length c0] 31)).alloc (.cells #[.int .i64 x1, .int .i64 x2, .int .i64 x3] 68)) := ((Below.refl _ _).alloc (Nat.le_refl _) _).alloc (by simp) _
  have p1 : ((w.alloc (.cells #[.int .i64 v, .slice a0 bs.length c0] 31)).alloc (.cells #[.int .i64 x1, .int .i64 x2, .int .i64 x3] 68)).cell? ⟨w.heap.size, 1, none⟩ = some (.slice a0 bs.length c0) := cell_past (new_at 1 rfl) (by simp)
  have n0 := new_at (w := w.alloc (.cells #[.int .i64 v, .slice a0 bs.length c0] 31)) (cs := #[.int .i64 x1, .int .i64 x2, .int .i64 x3]) (T := 68) 0 rfl
  have n1 := new_at (w := w.alloc (.cells #[.int .i64 v, .slice a0 bs.length c0] 31)) (cs := #[.int .i64 x1, .int .i64 x2, .int .i64 x3]) (T := 68) 1 rfl
  have n2 := new_at (w := w.alloc (.cells #[.int .i64 v, .slice a0 bs.length c0] 31)) (cs := #[.int .i64 x1, .int .i64 x2, .int .i64 x3]) (T := 68) 2 rfl
  rw [World.size_alloc] at n0 n1 n2
  obtain ⟨w2, hw2⟩ : ∃ w2, (w.alloc (.cells #[.int .i64 v, .slice a0 bs.length c0] 31)).alloc (.cells #[.int .i64 x1, .int .i64 x2, .int .i64 x3] 68) = w2 := ⟨_, rfl⟩
  have hz2 : w2.heap.size = w.heap.size + 1 + 1 := by rw [← hw2]; simp
  rw [hw2] at hB0 p1 n0 n1 n2 ⊢
  clear hw2
  go_loopw [5] (fun i wr => ∃ k : Nat, k ≤ bs.length ∧ i = .int .i64 k ∧ Below w2.heap.size w2 wr ∧ Hid ((bs.take k).all (fun y => decide (commonN y ⟨x1, x2, x3⟩ ≤ 1)) = true)) (fun i _ => bs.length - (intOf i).toNat)
  case atStart => exact ⟨0, Nat.zero_le _, rfl, Below.refl _ _, Lib.hid (by simp)⟩
  case round =>
    obtain ⟨k, hk, rfl, hB, HF⟩ := hrel
    have hz := hB.size
    have r1 : wr.cell? ⟨w.heap.size, 1, none⟩ = some (.slice a0 bs.length c0) := (hB.cell (p := ⟨w.heap.size, 1, none⟩) (by show w.heap.size < _; omega)).trans p1
    have m0 := (hB.cell (p := ⟨w.heap.size + 1, 0, none⟩) (by show w.heap.size + 1 < _; omega)).trans n0
    have m1 := (hB.cell (p := ⟨w.heap.size + 1, 1, none⟩) (by show w.heap.size + 1 < _; omega)).trans n1
    have m2 := (hB.cell (p := ⟨w.heap.size + 1, 2, none⟩) (by show w.heap.size + 1 < _; omega)).trans n2
    have hBw := hB0.trans (hB.mono (by omega))
    by_cases hkl : k < bs.length
    · rcases H.out.2.2 with ⟨_, _, _, hnil⟩ | ⟨bb, off, cap, hval, hblt, hbl⟩
      · rw [hnil] at hkl; simp at hkl
      · simp at hval
        obtain ⟨rfl, rfl⟩ := hval
        obtain ⟨y, hy, ey, d1, d2, d3⟩ := blks_at (hbl.below hBw hblt) hkl
        have ey' : bs[k] = y := by
          rw [List.getElem?_eq_getElem hkl] at ey
          simpa using ey
        have E3 := Lib.hid (show bs.take (k + 1) = bs.take k ++ [y] by rw [take_next hkl, ey'])
        have HY := Lib.hid hy
        have hc := l01Common_any y ⟨x1, x2, x3⟩
        have hb0 : 0 ≤ (commonN y ⟨x1, x2, x3⟩ : Int) ∧ (commonN y ⟨x1, x2, x3⟩ : Int) ≤ 9 := by
          refine ⟨by omega, ?_⟩
          have := cntLL_le [(⟨x1, x2, x3⟩ : Blk).a, (⟨x1, x2, x3⟩ : Blk).b, (⟨x1, x2, x3⟩ : Blk).c] [y.a, y.b, y.c]
          rw [cntLL_common] at this
          simpa using this.2
        obtain ⟨n, hn⟩ : ∃ n : Int, n = commonN y ⟨x1, x2, x3⟩ := ⟨_, rfl⟩
        rw [← hn] at hc hb0
        have HN := Lib.hid hn
        obtain ⟨hb0, hb9⟩ := hb0
        clear hn ey ey' hy hbl
        obtain ⟨y1, y2, y3⟩ := y
        have HC := Lib.hid hc
        dsimp only at d1 d2 d3
        have s1 := cell_regrown r1
        have q1 := cell_regrown d1
        have q2 := cell_regrown d2
        have q3 := cell_regrown d3
        have u1 := cell_regrown m0
        have u2 := cell_regrown m1
        have u3 := cell_regrown m2
        clear hc d1 d2 d3
        have g0 : (0 : Int) ≤ (k : Int) := by omega
        have g1 : (k : Int) < (bs.length : Int) := by omega
        go_wp2
        refine wp_region_quiet_below (by kernel_rfl) (by kernel_rfl) ?_
        repeat (go_big_quiet_step (exact Calls.regrown_of (HC.out _)))
        refine wpQuiet_nil ?_
        intro _ hw'
        obtain ⟨⟨dq, osq⟩, hw''⟩ := hw'
        subst hw''
        go_wp2
        · have h1 : 1 < n := by assumption
          go_ret
          refine RV_of (bool_eq ?_) (hBw.trans ((below_regrown _ dq osq).mono hBw.size))
          symm
          rw [Bool.eq_false_iff]
          intro ht
          have := List.all_eq_true.1 ht _ HY.out
          have h2 := HN.out
          simp at this
          omega
        · have h1 : n ≤ 1 := by assumption
          go_roundw
          case rel => exact ⟨k + 1, by omega, by go_num, hB.trans ((below_regrown _ dq osq).mono hB.size), Lib.hid (by rw [E3.out, List.all_append, HF.out]; have := HN.out; simp; omega)⟩
          case measure => simp [intOf]; omega
    · go_wp2
      go_ret
      have e : k = bs.length := by omega
      subst e
      have := HF.out
      rw [List.take_length] at this
      exact RV_of (bool_eq this.symm) hBw
end Go.Proofs.Ytiomdfhhejdoiaa

namespace Go.Proofs.Ytiomdfhhejdoiaa
open Go.RowKit Go.Maps
theorem OwnR.new0 (W : World) {base : Nat} (hb : base ≤ W.heap.size) : OwnR (W.alloc (.cells #[] 68)) base (.slice (some ⟨W.heap.size, 0, none⟩) 0 0) [] :=
  ⟨rfl, .inr ⟨W.heap.size, 0, #[], rfl, hb, World.alloc_heap_new W _, Nat.le_refl _, Nat.zero_le _, rfl, rfl⟩⟩
def restA (bs : List Blk) (v a : Nat) : List Blk := (rowA v a).filter (okB bs)
def restB (bs : List Blk) (v a n : Nat) : List Blk := restA bs v a ++ (rowB v a n).filter (okB bs)
def restC (bs : List Blk) (v a b n : Nat) : List Blk := restB bs v a (b - (a + 1)) ++ (rowC a b n).filter (okB bs)
theorem restA_succ (bs : List Blk) (v a : Nat) : restA bs v (a + 1) = restB bs v a (v - (a + 1)) := by unfold restB restA; rw [rowA_succ, List.filter_append]
theorem restB_succ (bs : List Blk) (v a b : Nat) (h : a + 1 ≤ b) : restB bs v a (b + 1 - (a + 1)) = restC bs v a b (v - (b + 1)) := by
  unfold restC restB
  rw [show b + 1 - (a + 1) = (b - (a + 1)) + 1 by omega, rowB_succ, List.filter_append, ← List.append_assoc, show a + 1 + (b - (a + 1)) = b by omega]
theorem restC_succ (bs : List Blk) (v a b c : Nat) (h : b + 1 ≤ c) : restC bs v a b (c + 1 - (b + 1)) = restC bs v a b (c - (b + 1)) ++ if okB bs ⟨(a : Int), (b : Int), (c : Int)⟩ then [⟨(a : Int), (b : Int), (c : Int)⟩] else [] := by
  unfold restC
  rw [show c + 1 - (b + 1) = (c - (b + 1)) + 1 by omega, rowC_succ, List.filter_append, ← List.append_assoc, show b + 1 + (c - (b + 1)) = c by omega]
  congr 1
  simp [List.filter_cons]
theorem restB_start (bs : List Blk) (v a : Nat) : restB bs v a (a + 1 - (a + 1)) = restA bs v a := by simp [restB, rowB]
theorem restC_start (bs : List Blk) (v a b : Nat) : restC bs v a b (b + 1 - (b + 1)) = restB bs v a (b - (a + 1)) := by simp [restC, rowC]
theorem restC_len {bs : List Blk} {v a b n : Nat} (hv : v ≤ 15) (ha : a ≤ 15) (hb : b ≤ 15) (hn : n ≤ 15) : (restC bs v a b n).length ≤ 4000 := by
  have h1 := rowA_len (v := v) (n := a) hv
  have h2 := rowB_len (v := v) (a := a) (n := b - (a + 1)) hv
  have h3 := rowC_len a b n
  have f1 := List.length_filter_le (okB bs) (rowA v a)
  have f2 := List.length_filter_le (okB bs) (rowB v a (b - (a + 1)))
  have f3 := List.length_filter_le (okB bs) (rowC a b n)
  unfold restC restB restA
  simp only [List.length_append]
  omega
set_option maxRecDepth 100000 in
set_option maxHeartbeats 1000000 in
theorem l01Rest_any (v : Nat) (hv : v ≤ 15) (s : Value) (bs : List Blk) (w : World) (h : SB w s bs) :
    Calls Try.prog 51 #[.agg #[.int .i64 (v : Int), s]] w fun e w' => ∃ u, e = .returned u ∧ OwnR w' w.heap.size u (restA bs v v) ∧ Below w.heap.size w w' := by
  have hs := h.slice
  have HF := Lib.hid fun (x : Blk) W (hb : Below w.heap.size w W) => l01Free_any (v : Int) s bs x W (h.below hb (Nat.le_refl _))
  clear h
  obtain ⟨a0, c0, rfl⟩ := hs
  go_enter Try.func51, Try.ntmps51
  go_wp2
  have ho0 := OwnR.new0 (w.alloc (.cells #[.int .i64 (v : Int), .slice a0 bs.length c0] 31)) (base := w.heap.size + 1) (by simp)
  rw [World.size_alloc] at ho0
  obtain ⟨w2, hw2⟩ : ∃ w2, (w.alloc (.cells #[.int .i64 (v : Int), .slice a0 bs.length c0] 31)).alloc (.cells #[] 68) = w2 := ⟨_, rfl⟩
  have hB0 : Below w.heap.size w w2 := by rw [← hw2]; exact ((Below.refl _ _).alloc (Nat.le_refl _) _).alloc (by simp) _
  have hz2 : w2.heap.size = w.heap.size + 1 + 1 := by rw [← hw2]; simp
  have k0 : w2.cell? ⟨w.heap.size, 0, none⟩ = some (.int .i64 (v : Int)) := by rw [← hw2]; exact cell_past (new_at 0 rfl) (by simp)
  have k1 : w2.cell? ⟨w.heap.size, 1, none⟩ = some (.slice a0 bs.length c0) := by rw [← hw2]; exact cell_past (new_at 1 rfl) (by simp)
  rw [hw2] at ho0 ⊢
  have HO0 := Lib.hid ho0
  clear hw2 ho0
  go_loopw [3, 4] (fun o i wr => ∃ a : Nat, a ≤ v ∧ i = .int .i64 a ∧ Below (w.heap.size + 1) w2 wr ∧ OwnR wr (w.heap.size + 1) o (restA bs v a) ∧ ∃ p n c, o = .slice p n c) (fun _ i _ => v - (intOf i).toNat)
  case atStart => exact ⟨0, Nat.zero_le _, rfl, Below.refl _ _, HO0.out, _, _, _, rfl⟩
  case round =>
    obtain ⟨a, ha, rfl, hB, hO, hform⟩ := hrel
    have r0 : wr.cell? ⟨w.heap.size, 0, none⟩ = some (.int .i64 (v : Int)) := by rw [hB.cell (by simp)]; exact k0
    obtain ⟨a3, n3, c3, rfl⟩ := hform
    have HO := Lib.hid hO
    clear hO
    by_cases hav : a < v
    · go_wp2
      obtain ⟨wo, hwo⟩ : ∃ wo : World, wo = wr := ⟨_, rfl⟩
      rw [← hwo] at hB HO r0 ⊢
      clear hwo
      go_loopw [3, 5] (fun o i wr => ∃ b : Nat, a + 1 ≤ b ∧ b ≤ v ∧ i = .int .i64 b ∧ Below (w.heap.size + 1) w2 wr ∧ OwnR wr (w.heap.size + 1) o (restB bs v a (b - (a + 1))) ∧ ∃ p n c, o = .slice p n c) (fun _ i _ => v - (intOf i).toNat)
      case atStart => exact ⟨a + 1, Nat.le_refl _, by omega, int_eq (by omega), hB, by rw [restB_start]; exact HO.out, _, _, _, rfl⟩
      case round =>
        obtain ⟨b, hab, hb, rfl, hB1, hO, hform⟩ := hrel
        have r1 : wr.cell? ⟨w.heap.size, 0, none⟩ = some (.int .i64 (v : Int)) := by rw [hB1.cell (by simp)]; exact k0
        obtain ⟨a4, n4, c4, rfl⟩ := hform
        have HO1 := Lib.hid hO
        clear hO
        by_cases hbv : b < v
        · go_wp2
          obtain ⟨wo1, hwo⟩ : ∃ wo : World, wo = wr := ⟨_, rfl⟩
          rw [← hwo] at hB1 HO1 r1 ⊢
          clear hwo
          go_loopw [3, 6] (fun o i wr => ∃ c : Nat, b + 1 ≤ c ∧ c ≤ v ∧ i = .int .i64 c ∧ Below (w.heap.size + 1) w2 wr ∧ OwnR wr (w.heap.size + 1) o (restC bs v a b (c - (b + 1))) ∧ ∃ p n c, o = .slice p n c) (fun _ i _ => v - (intOf i).toNat)
          case atStart => exact ⟨b + 1, Nat.le_refl _, by omega, int_eq (by omega), hB1, by rw [restC_start]; exact HO1.out, _, _, _, rfl⟩
          case round =>
            obtain ⟨c, hbc, hc, rfl, hB2, hO, hform⟩ := hrel
            have t0 : wr.cell? ⟨w.heap.size, 0, none⟩ = some (.int .i64 (v : Int)) := by rw [hB2.cell (by simp)]; exact k0
            have t1 : wr.cell? ⟨w.heap.size, 1, none⟩ = some (.slice a0 bs.length c0) := by rw [hB2.cell (by simp)]; exact k1
            obtain ⟨a5, n5, c5, rfl⟩ := hform
            have HO2 := Lib.hid hO
            clear hO
            have hz := hB2.size
            have hBw : Below w.heap.size w wr := hB0.trans (hB2.mono (by omega))
            by_cases hcv : c < v
            · have hs := restC_succ bs v a b c hbc
              have hf := HF.out ⟨(a : Int), (b : Int), (c : Int)⟩ wr hBw
              dsimp only [bv] at hf
              have hlen : (restC bs v a b (c - (b + 1))).length ≤ 4000 := restC_len hv (by omega) (by omega) (by omega)
              have HLEN := Lib.hid hlen
              clear hlen
              cases hok : okB bs ⟨(a : Int), (b : Int), (c : Int)⟩ with
              | false =>
                rw [hok] at hf hs
                rw [if_neg (by decide), List.append_nil] at hs
                have HS := Lib.hid hs
                have HFF := Lib.hid hf
                clear hf hs hok
                go_wp2_with (go_at_call 54; refine HFF.out.mono ?_; rintro e w3 ⟨rfl, hb3⟩)
                go_roundw
                case rel => exact ⟨c + 1, by omega, by omega, by go_num, hB2.trans (hb3.mono (by omega)), by rw [HS.out]; exact HO2.out.below hb3 (Nat.le_refl _), _, _, _, rfl⟩
                case measure => simp [intOf]; omega
              | true =>
                rw [hok] at hf hs
                rw [if_pos rfl] at hs
                have HS := Lib.hid hs
                have HFF := Lib.hid hf
                clear hf hs hok
                go_wp2_with fail
                refine HFF.out.mono ?_
                rintro e w3 ⟨rfl, hb3⟩
                have hz3 := hb3.size
                have HO3 := Lib.hid (HO2.out.below hb3 (Nat.le_refl _))
                go_wp2_with (at_builtin; refine wpList_append_blk rfl _ _ rfl (w.heap.size + 1) _ (restC bs v a b (c - (b + 1))) rfl (HO3.out.below ((Below.refl _ _).alloc (Nat.le_refl _) _) (Nat.le_refl _)) _ _ ⟨(a : Int), (b : Int), (c : Int)⟩ rfl (by simp [go_sem]) (by simp [go_sem]) (by simp [go_sem]) (by have := HLEN.out; omega) (by simp; omega) ?_; intro g' cap' w4 hO4 hg4)
                have hrow := HO3.out.row
                have hgo : w3.grownBy w4 (Value.slice a5 n5 c5).ownBlock := ⟨hg4.os, hg4.tape, hg4.output, by have := hg4.size; simp at this; omega, fun i hi hne => by
                  rw [hg4.block i (by simp; omega) hne, Below.heap_alloc _ _ _ hi]⟩
                clear hg4
                have hB3 := hB2.trans (hb3.mono (by omega))
                go_roundw
                case rel => exact ⟨c + 1, by omega, by omega, by go_num, hB3.grown hgo (by omega) (fun j e => hrow j e), by rw [HS.out]; exact hO4, _, _, _, rfl⟩
                case measure => simp [intOf]; omega
            · have e : c = v := by omega
              subst e
              go_wp2
              go_roundw
              case rel => exact ⟨b + 1, by omega, by omega, by go_num, hB2, by rw [restB_succ _ _ _ _ hab]; exact HO2.out, _, _, _, rfl⟩
              case measure => simp [intOf]; omega
        · have e : b = v := by omega
          subst e
          go_wp2
          go_roundw
          case rel => exact ⟨a + 1, by omega, by go_num, hB1, by rw [restA_succ]; exact HO1.out, _, _, _, rfl⟩
          case measure => simp [intOf]; omega
    · have e : a = v := by omega
      subst e
      go_wp2
      go_ret
      exact ⟨_, rfl, ownsRow_base HO.out (by omega), hB0.trans (hB.mono (by omega))⟩
end Go.Proofs.Ytiomdfhhejdoiaa

namespace Go.Proofs.Ytiomdfhhejdoiaa
open Go.RowKit Go.Maps
theorem rowA_good {v : Nat} {x : Blk} (h : x ∈ rowA v v) : goodB (v : Int) x = true := by
  unfold rowA at h
  obtain ⟨t, ht, h⟩ := List.mem_flatMap.1 h
  unfold rowB at h
  obtain ⟨t', ht', h⟩ := List.mem_flatMap.1 h
  unfold rowC at h
  obtain ⟨t'', ht'', rfl⟩ := List.mem_map.1 h
  rw [List.mem_range] at ht ht' ht''
  rw [goodB_iff]
  dsimp only
  omega
theorem free_rest {v : Nat} {bs : List Blk} (hb : ∀ y ∈ bs, goodB (v : Int) y = true) : (rowA v v).filter (freeB (bs.flatMap pairsL)) = restA bs v v :=
  List.filter_congr fun _ hx => okB_free hb (rowA_good hx)
def freeF (v : Int) (bs : List Blk) : List Blk × Int := if isSysImpl v bs then (restA bs v.toNat v.toNat, 0) else ([], 1)
def RK (r : List Blk × Int) (w : World) (e : Ending) (w' : World) : Prop := ∃ u, e = .returned (.tuple #[u, .int .i64 r.2]) ∧ OwnR w' w.heap.size u r.1 ∧ Below w.heap.size w w'
set_option maxRecDepth 100000 in
theorem FreeBlocks_any (v : Int) (s : Value) (bs : List Blk) (w : World) (h : SB w s bs) :
    Calls Try.prog 52 #[.agg #[.int .i64 v, s]] w (RK (freeF v bs) w) := by
  cases hi : isSysImpl v bs with
  | false =>
    have hval : freeF v bs = ([], 1) := by simp [freeF, hi]
    rw [hval]
    have hs := h.slice
    have HI := Lib.hid fun W (hb : Below w.heap.size w W) => IsSystem_any v s bs W (h.below hb (Nat.le_refl _))
    rw [hi] at HI
    clear h hval hi
    obtain ⟨a0, c0, rfl⟩ := hs
    go_enter Try.func52, Try.ntmps52
    go_wp2_with (go_at_call 63; refine (HI.out _ ((Below.refl _ _).alloc (Nat.le_refl _) _)).mono ?_; rintro e w1 ⟨rfl, hb1⟩)
    go_ret2
    exact ⟨_, rfl, OwnR.nil _ _, below_new hb1⟩
  | true =>
    have hval : freeF v bs = (restA bs v.toNat v.toNat, 0) := by simp [freeF, hi]
    rw [hval]
    have hv := sys_size hi
    have hg : ∀ y ∈ bs, goodB ((v.toNat : Nat) : Int) y = true := fun y hy => by
      rw [show ((v.toNat : Nat) : Int) = v by omega]
      exact sys_good hi y hy
    refine (FreeBlocks_main v s bs w h hi).mono ?_
    rintro e w' ⟨u, rfl, ho, hb⟩
    rw [free_rest hg] at ho
    exact ⟨u, rfl, ho, hb⟩
end Go.Proofs.Ytiomdfhhejdoiaa

namespace Go.Proofs.Ytiomdfhhejdoiaa
open Go.RowKit Go.Maps
def stkF (v : Int) (bs : List Blk) : Bool × Int := if isSysImpl v bs then (decide ((restA bs v.toNat v.toNat).length = 0), 0) else (false, 1)
theorem beq_zero (n : Nat) : ((n : Int) == 0) = decide (n = 0) := by
  by_cases h : n = 0
  · subst h; rfl
  · rw [decide_eq_false h]; simp; omega
theorem OwnR.formU {W : World} {base : Nat} {u : Value} {bs : List Blk} (h : OwnR W base u bs) : ∃ a c, u = .slice a bs.length c := by
  rcases h.2 with ⟨rfl, h0⟩ | ⟨g, cap, cur, rfl, _⟩
  · rw [h0]; exact ⟨_, _, rfl⟩
  · exact ⟨_, _, rfl⟩
set_option maxRecDepth 100000 in
theorem IsStuck_any (v : Int) (s : Value) (bs : List Blk) (w : World) (h : SB w s bs) :
    Calls Try.prog 22 #[.agg #[.int .i64 v, s]] w (RV (boolCode (stkF v bs).1 (stkF v bs).2) w) := by
  have hs := h.slice
  have HF := Lib.hid fun W (hb : Below w.heap.size w W) => FreeBlocks_any v s bs W (h.below hb (Nat.le_refl _))
  have hb0 : Below w.heap.size w (w.alloc (.cells #[.int .i64 v, s] 31)) := (Below.refl _ _).alloc (Nat.le_refl _) _
  clear h
  obtain ⟨a0, c0, rfl⟩ := hs
  cases hi : isSysImpl v bs with
  | false =>
    have HC := Lib.hid (show boolCode (stkF v bs).1 (stkF v bs).2 = boolCode false 1 by simp [stkF, hi])
    have e : freeF v bs = ([], 1) := by simp [freeF, hi]
    rw [e] at HF
    rw [HC.out]
    clear hi e
    go_enter Try.func22, Try.ntmps22
    go_wp2_with fail
    refine (HF.out _ hb0).mono ?_
    rintro e w1 ⟨u, rfl, ho, hb1⟩
    obtain ⟨a1, c1, rfl⟩ := ho.formU
    have hbw := below_new hb1
    clear hb1 ho
    go_wp2
    go_ret2
    exact RV_of rfl hbw
  | true =>
    have HC := Lib.hid (show boolCode (stkF v bs).1 (stkF v bs).2 = boolCode (decide ((restA bs v.toNat v.toNat).length = 0)) 0 by simp [stkF, hi])
    have e : freeF v bs = (restA bs v.toNat v.toNat, 0) := by simp [freeF, hi]
    rw [e] at HF
    rw [HC.out]
    clear hi e HC
    obtain ⟨R, hR⟩ : ∃ R, R = restA bs v.toNat v.toNat := ⟨_, rfl⟩
    rw [← hR] at HF ⊢
    clear hR
    obtain ⟨m, hm⟩ : ∃ m, m = R.length := ⟨_, rfl⟩
    rw [← hm]
    have HM := Lib.hid hm
    clear hm
    go_enter Try.func22, Try.ntmps22
    go_wp2_with fail
    refine (HF.out _ hb0).mono ?_
    rintro e w1 ⟨u, rfl, ho, hb1⟩
    obtain ⟨a1, c1, hu⟩ := ho.formU
    rw [← HM.out] at hu
    subst hu
    have hbw := below_new hb1
    clear hb1 ho
    go_wp2
    go_ret2
    exact RV_of (show _ = boolCode (decide (m = 0)) 0 by rw [← beq_zero m]; rfl) hbw
set_option maxRecDepth 100000 in
theorem specIsStuck_any (v : Int) (s : Value) (bs : List Blk) (w : World) (h : SB w s bs) :
    Calls Try.prog 21 #[.agg #[.int .i64 v, s]] w (RV (boolCode (stkF v bs).1 (stkF v bs).2) w) := by
  have hs := h.slice
  have HI := Lib.hid fun W (hb : Below w.heap.size w W) => l01Is_any v s bs W (h.below hb (Nat.le_refl _))
  have hb0 : Below w.heap.size w (w.alloc (.cells #[.int .i64 v, s] 31)) := (Below.refl _ _).alloc (Nat.le_refl _) _
  cases hi : isSysImpl v bs with
  | false =>
    have HC := Lib.hid (show boolCode (stkF v bs).1 (stkF v bs).2 = boolCode false 1 by simp [stkF, hi])
    rw [hi] at HI
    rw [HC.out]
    clear hi h
    obtain ⟨a0, c0, rfl⟩ := hs
    go_enter Try.func21, Try.ntmps21
    go_wp2_with fail
    refine (HI.out _ hb0).mono ?_
    rintro e w1 ⟨rfl, hb1⟩
    have hbw := below_new hb1
    clear hb1
    go_wp2
    go_ret2
    exact RV_of rfl hbw
  | true =>
    have HC := Lib.hid (show boolCode (stkF v bs).1 (stkF v bs).2 = boolCode (decide ((restA bs v.toNat v.toNat).length = 0)) 0 by simp [stkF, hi])
    rw [hi] at HI
    rw [HC.out]
    obtain ⟨hv3, hv15, _⟩ := sys_size hi
    obtain ⟨vn, rfl⟩ : ∃ vn : Nat, v = (vn : Int) := ⟨v.toNat, by omega⟩
    rw [show ((vn : Int)).toNat = vn by omega]
    have HR := Lib.hid fun W (hb : Below w.heap.size w W) => l01Rest_any vn (by omega) s bs W (h.below hb (Nat.le_refl _))
    clear hi HC h hv3 hv15
    obtain ⟨a0, c0, rfl⟩ := hs
    obtain ⟨R, hR⟩ : ∃ R, R = restA bs vn vn := ⟨_, rfl⟩
    rw [← hR] at HR ⊢
    clear hR
    obtain ⟨m, hm⟩ : ∃ m, m = R.length := ⟨_, rfl⟩
    rw [← hm]
    have HM := Lib.hid hm
    clear hm
    go_enter Try.func21, Try.ntmps21
    go_wp2_with fail
    refine (HI.out _ hb0).mono ?_
    rintro e w1 ⟨rfl, hb1⟩
    have q0 := cell_new hb1 0 rfl
    have q1 := cell_new hb1 1 rfl
    have hbw := below_new hb1
    clear hb1
    go_wp2_with fail
    refine (HR.out _ hbw).mono ?_
    rintro e w2 ⟨u, rfl, ho, hb2⟩
    obtain ⟨a1, c1, hu⟩ := ho.formU
    rw [← HM.out] at hu
    subst hu
    clear ho
    go_wp2
    go_ret2
    exact RV_of (show _ = boolCode (decide (m = 0)) 0 by rw [← beq_zero m]; rfl) (hbw.trans (hb2.mono hbw.size))
end Go.Proofs.Ytiomdfhhejdoiaa

namespace Go.Proofs.Ytiomdfhhejdoiaa
open Go.RowKit Go.Maps
set_option maxRecDepth 100000 in
theorem l01With_any (x : Blk) (p : Int) (w : World) : Calls Try.prog 74 #[bv x, .int .i64 p] w (RV (.bool (hasB x p)) w) := by
  obtain ⟨a, b, c⟩ := x
  unfold bv
  dsimp only
  by_cases h1 : a = p
  · have e1 : (a == p) = true := by simp [h1]
    have H1 := Lib.hid h1
    clear h1
    go_enter Try.func74, Try.ntmps74
    go_wp2
    go_ret
    exact RV_of (bool_eq (by simp [hasB, H1.out])) ((Below.refl _ _).alloc (Nat.le_refl _) _)
  · have e1 : (a == p) = false := by simp [h1]
    have H1 := Lib.hid h1
    clear h1
    by_cases h2 : b = p
    · have e2 : (b == p) = true := by simp [h2]
      have H2 := Lib.hid h2
      clear h2
      go_enter Try.func74, Try.ntmps74
      go_wp2
      go_ret
      exact RV_of (bool_eq (by simp [hasB, H2.out])) ((Below.refl _ _).alloc (Nat.le_refl _) _)
    · have e2 : (b == p) = false := by simp [h2]
      have H2 := Lib.hid h2
      clear h2
      go_enter Try.func74, Try.ntmps74
      go_wp2
      go_ret
      exact RV_of (bool_eq (by rw [Bool.eq_iff_iff]; simp [hasB, H1.out, H2.out])) ((Below.refl _ _).alloc (Nat.le_refl _) _)

set_option maxRecDepth 100000 in
theorem l01Third_any (v : Int) (s : Value) (bs : List Blk) (a b : Int) (w : World) (h : SB w s bs) (hg : ∀ x ∈ bs, goodB v x = true) (hv : v ≤ 15) (ha : 0 ≤ a) (ha' : a ≤ 15) (hb : 0 ≤ b) (hb' : b ≤ 15) :
    Calls Try.prog 105 #[.agg #[.int .i64 v, s], .int .i64 a, .int .i64 b] w (RV (.int .i64 (third1 bs a b)) w) := by
  have hs := h.slice
  have H := Lib.hid h
  have HG := Lib.hid hg
  have hl := h.2.1
  clear h hg
  obtain ⟨a0, c0, rfl⟩ := hs
  go_enter Try.func105, Try.ntmps105
  go_wp2
  go_loopw [7] (fun i wr => ∃ k : Nat, k ≤ bs.length ∧ i = .int .i64 k ∧ Below (w.heap.size + 1) (w.alloc (.cells #[.int .i64 v, .slice a0 bs.length c0] 31)) wr ∧ Hid ((bs.take k).find? (bothB a b) = none)) (fun i _ => bs.length - (intOf i).toNat)
  case atStart => exact ⟨0, Nat.zero_le _, rfl, Below.refl _ _, Lib.hid (by simp)⟩
  case round =>
    obtain ⟨k, hk, rfl, hB, HN⟩ := hrel
    have hz := hB.size
    simp at hz
    have p1 : wr.cell? ⟨w.heap.size, 1, none⟩ = some (.slice a0 bs.length c0) := by rw [hB.cell (by simp)]; simp
    have hBw : Below w.heap.size w wr := ((Below.refl _ _).alloc (Nat.le_refl _) _).trans (hB.mono (by omega))
    by_cases hkl : k < bs.length
    · rcases H.out.2.2 with ⟨_, _, _, hnil⟩ | ⟨bb, off, cap, hval, hblt, hbl⟩
      · rw [hnil] at hkl; simp at hkl
      · simp at hval
        obtain ⟨rfl, rfl⟩ := hval
        obtain ⟨x, hx, ex, x1, x2, x3⟩ := blks_at (hbl.below hBw hblt) hkl
        have hgx := HG.out x hx
        rw [goodB_iff] at hgx
        obtain ⟨b1, b2, b3, b4⟩ := hgx
        have hn := find_next hkl ex HN.out
        have hw1 := l01With_any x a
        have hw2 := l01With_any x b
        have hth : third1 bs a b = (match bs.find? (bothB a b) with | some x => thirdOf x a b | none => -1) := rfl
        have hbo : bothB a b x = (hasB x a && hasB x b) := rfl
        have htx : thirdOf x a b = x.a + x.b + x.c - a - b := rfl
        obtain ⟨p, q, r⟩ := x
        dsimp only at x1 x2 x3 b1 b2 b3 b4 htx
        have g0 : (0 : Int) ≤ (k : Int) := by omega
        have g1 : (k : Int) < (bs.length : Int) := by omega
        have HNX := Lib.hid hn
        have HTH := Lib.hid hth
        have HTX := Lib.hid htx
        clear hbl hx ex hn hth htx
        cases h1 : hasB ⟨p, q, r⟩ a with
        | false =>
          rw [h1] at hw1 hbo
          have HW1 := Lib.hid hw1
          have HBO := Lib.hid hbo
          clear hw1 hw2 h1 hbo
          go_wp2_with (go_at_call 74; refine (HW1.out _).mono ?_; rintro e w1 ⟨rfl, hb1⟩)
          go_roundw
          case rel => exact ⟨k + 1, by omega, by go_num, (hB.alloc (by omega) _).trans (hb1.mono (by simp; omega)), Lib.hid (HNX.out.2 (by rw [HBO.out]; rfl))⟩
          case measure => simp [intOf]; omega
        | true =>
          rw [h1] at hw1 hbo
          have HW1 := Lib.hid hw1
          clear hw1 h1
          cases h2 : hasB ⟨p, q, r⟩ b with
          | false =>
            rw [h2] at hw2 hbo
            have HW2 := Lib.hid hw2
            have HBO := Lib.hid hbo
            clear hw2 h2 hbo
            go_wp2_with fail
            refine (HW1.out _).mono ?_
            rintro e w1 ⟨rfl, hb1⟩
            have d1 := cell_new hb1 0 rfl
            have d2 := cell_new hb1 1 rfl
            have d3 := cell_new hb1 2 rfl
            have z1 := hb1.size
            simp at z1
            go_wp2_with (go_at_call 74; refine (HW2.out _).mono ?_; rintro e w2 ⟨rfl, hb2⟩)
            go_roundw
            case rel => exact ⟨k + 1, by omega, by go_num, ((hB.alloc (by omega) _).trans (hb1.mono (by simp; omega))).trans (hb2.mono (by omega)), Lib.hid (HNX.out.2 (by rw [HBO.out]; rfl))⟩
            case measure => simp [intOf]; omega
          | true =>
            rw [h2] at hw2 hbo
            have HW2 := Lib.hid hw2
            have HBO := Lib.hid hbo
            clear hw2 h2 hbo
            go_wp2_with fail
            refine (HW1.out _).mono ?_
            rintro e w1 ⟨rfl, hb1⟩
            have d1 := cell_new hb1 0 rfl
            have d2 := cell_new hb1 1 rfl
            have d3 := cell_new hb1 2 rfl
            have z1 := hb1.size
            simp at z1
            go_wp2_with (go_at_call 74; refine (HW2.out _).mono ?_; rintro e w2 ⟨rfl, hb2⟩; have e1 := (hb2.cell (p := ⟨wr.heap.size, 0, none⟩) (by show wr.heap.size < _; omega)).trans d1; have e2 := (hb2.cell (p := ⟨wr.heap.size, 1, none⟩) (by show wr.heap.size < _; omega)).trans d2; have e3 := (hb2.cell (p := ⟨wr.heap.size, 2, none⟩) (by show wr.heap.size < _; omega)).trans d3)
            go_ret
            refine RV_of (int_eq ?_) (((hBw.alloc (by omega) _).trans (hb1.mono (by simp; omega))).trans (hb2.mono (by omega)))
            rw [HTH.out, HNX.out.1 (by rw [HBO.out]; rfl)]
            exact HTX.out.symm
    · go_wp2
      go_ret
      have e : k = bs.length := by omega
      subst e
      refine RV_of (int_eq ?_) hBw
      have := HN.out
      rw [List.take_length] at this
      unfold third1
      rw [this]
end Go.Proofs.Ytiomdfhhejdoiaa

namespace Go.Proofs.Ytiomdfhhejdoiaa
open Go.RowKit Go.Maps
def pointsCode (v : Int) (bs : List Blk) (ps : List Int) : Int := if isSysImpl v bs then (if ps.all (inP v) then 0 else 2) else 1
theorem RS.quiet2 {P : Program} {f : FuncId} {args : Array Value} {w : World} {a n : Nat} {v : Value} (h : Calls P f args (w.drewN (a + n)) (RS v (w.drewN (a + n)))) :
    Calls P f args (w.drewN (a + n)) fun e w'' => e = .returned v ∧ ∃ m, w'' = w.drewN (a + m) :=
  h.mono fun _ _ ⟨he, hm⟩ => ⟨he, n, hm.symm⟩
theorem Ints.below {w w' : World} {b off B : Nat} {zs : List Int} (h : Ints w b off zs) (hb : Below B w w') (hl : b < B) : Ints w' b off zs := fun k hk => (hb.cell (p := ⟨b, off + k, none⟩) hl).trans (h k hk)
theorem ints2 {w : World} {b : Nat} {x y : Int} (h0 : w.cell? ⟨b, 0, none⟩ = some (.int .i64 x)) (h1 : w.cell? ⟨b, 1, none⟩ = some (.int .i64 y)) : Ints w b 0 [x, y] := by
  intro k hk
  match k, hk with
  | 0, _ => simpa using h0
  | 1, _ => simpa using h1
end Go.Proofs.Ytiomdfhhejdoiaa

namespace Go.Proofs.Ytiomdfhhejdoiaa
open Go.RowKit Go.Maps
/-- The value is a slice of just these integers. -/
def IB (w : World) (s : Value) (zs : List Int) : Prop :=
  zs.length ≤ 1100000 ∧ ((∃ a c, s = .slice a 0 c ∧ zs = []) ∨ ∃ b off cap, s = .slice (some ⟨b, off, none⟩) zs.length cap ∧ b < w.heap.size ∧ Ints w b off zs)
theorem IB.below {w w' : World} {s : Value} {zs : List Int} (h : IB w s zs) {B : Nat} (hb : Below B w w') (hB : w.heap.size ≤ B) : IB w' s zs := by
  obtain ⟨h1, h2⟩ := h
  refine ⟨h1, ?_⟩
  rcases h2 with h2 | ⟨b, off, cap, rfl, hl, hr⟩
  · exact .inl h2
  · exact .inr ⟨b, off, cap, rfl, by have := hb.size; omega, hr.below hb (by omega)⟩
theorem OwnI.ib {W : World} {base : Nat} {u : Value} {zs : List Int} (h : OwnI W base u (zs.map (Value.int .i64))) (hl : zs.length ≤ 1100000) : IB W u zs := by
  obtain ⟨⟨_, h | ⟨g, cap, cur, rfl, hb, hcur, hn, hc, hsz, hx⟩⟩, _⟩ := h
  · obtain ⟨rfl, h0⟩ := h
    refine ⟨hl, .inl ⟨_, _, rfl, ?_⟩⟩
    rw [List.length_map] at h0
    exact List.length_eq_zero_iff.1 h0
  · refine ⟨hl, .inr ⟨g, 0, cap, by rw [List.length_map], (Array.getElem?_eq_some_iff.1 hcur).1, fun k hk => ?_⟩⟩
    have e : (zs.map (Value.int .i64))[k]? = some (.int .i64 (zs[k]?.getD 0)) := by simp [hk]
    rw [← hx, List.getElem?_take_of_lt (by rw [List.length_map]; omega)] at e
    rw [Nat.zero_add]
    simp [World.cell?, hcur]
    simpa using e
set_option maxRecDepth 100000 in
theorem eqInt64S_same (s t : Value) (zs : List Int) (w : World) (h : IB w s zs) (k : IB w t zs) : Calls Try.prog 16 #[s, t] w (RV (.bool true) w) := by
  have hlen := h.1
  rcases h.2 with ⟨a0, c0, rfl, rfl⟩ | ⟨b, off, cap, rfl, hb, hB⟩
  · rcases k.2 with ⟨a1, c1, rfl, _⟩ | ⟨b', off', cap', rfl, hb', hB'⟩
    all_goals
      clear hlen h k
      go_enter Try.func16, Try.ntmps16
      go_wp2
      refine wp_loop_rounds 1 ?_
      rw [rounds_succ]
      go_wp2
      go_ret
      exact RV_of rfl (Below.refl _ _)
  · by_cases h0 : zs.length = 0
    · rcases k.2 with ⟨a1, c1, rfl, rfl⟩ | ⟨b', off', cap', rfl, hb', hB'⟩
      all_goals
        try rw [h0]
        clear hlen h k
        go_enter Try.func16, Try.ntmps16
        go_wp2
        refine wp_loop_rounds 1 ?_
        rw [rounds_succ]
        go_wp2
        go_ret
        exact RV_of rfl (Below.refl _ _)
    · rcases k.2 with ⟨a1, c1, rfl, rfl⟩ | ⟨b', off', cap', rfl, hb', hB'⟩
      · exact absurd rfl h0
      · have HB := Lib.hid hB
        have HB' := Lib.hid hB'
        clear hB hB' h k h0
        have hne : (((zs.length : Nat) : Int) != (zs.length : Nat)) = false := by simp
        go_enter Try.func16, Try.ntmps16
        go_wp2
        go_loopw [5] (fun i wr => ∃ k : Nat, k ≤ zs.length ∧ i = .int .i64 k ∧ Below w.heap.size w wr) (fun i _ => zs.length - (intOf i).toNat)
        case atStart => exact ⟨0, Nat.zero_le _, rfl, Below.refl _ _⟩
        case round =>
          obtain ⟨k, hk, rfl, hBw⟩ := hrel
          by_cases hkl : k < zs.length
          · have q1 := (hBw.cell (p := ⟨b, off + k, none⟩) hb).trans (HB.out k hkl)
            have q2 := (hBw.cell (p := ⟨b', off' + k, none⟩) hb').trans (HB'.out k hkl)
            obtain ⟨z, hz⟩ : ∃ z, z = zs[k]?.getD 0 := ⟨_, rfl⟩
            rw [← hz] at q1 q2
            clear hz
            have r1 := cell_regrown q1
            have r2 := cell_regrown q2
            clear q1 q2
            have g0 : (0 : Int) ≤ (k : Int) := by omega
            have g1 : (k : Int) < (zs.length : Int) := by omega
            have hzz : (z != z) = false := by simp
            go_wp2
            refine wp_region_quiet_below (by kernel_rfl) (by kernel_rfl) ?_
            repeat (go_big_quiet_step (fail))
            refine wpQuiet_nil ?_
            intro _ hw'
            obtain ⟨⟨dq, osq⟩, hw''⟩ := hw'
            subst hw''
            go_wp2
            go_roundw
            case rel => exact ⟨k + 1, by omega, by go_num, hBw.trans ((below_regrown _ dq osq).mono hBw.size)⟩
            case measure => simp [intOf]; omega
          · go_wp2
            go_ret
            exact RV_of rfl hBw
end Go.Proofs.Ytiomdfhhejdoiaa

/- The program's FreeBlocks. -/
import Derived.Test.YtomcjifklggcnaaSeq5
import Derived.Test.YtomcjifklggcnaaAll1
import Derived.Test.YtomcjifklggcnaaPairsIn
import Derived.Test.YtomcjifklggcnaaRowb
import Derived.Test.YtomcjifklggcnaaMarkSys
namespace Go.Proofs.Ytomcjifklggcnaa
open Go.RowKit Go.Maps Go.Shelf
attribute [local go_sem] Oper.semAt_some
/-- The blocks that are free of the pairs of bs. -/
def frL (bs : List Blk) (pre : List WB) : List Blk := (pre.map (·.1)).filter (freeB (bs.flatMap pairsL))
theorem frL_snoc (bs : List Blk) (pre : List WB) (x : WB) : frL bs (pre ++ [x]) = frL bs pre ++ if freeB (bs.flatMap pairsL) x.1 then [x.1] else [] := by
  unfold frL
  rw [List.map_append, List.filter_append]
  congr 1
  simp [List.filter_cons]
theorem frL_len (bs : List Blk) (pre : List WB) : (frL bs pre).length ≤ pre.length := by
  unfold frL
  refine Nat.le_trans (List.length_filter_le _ _) ?_
  simp
theorem own_ne {W : World} {n₁ : Nat} {e : TypeId} {size : Nat} {v : Value} {k : Nat} {xs : List Value} (hrow : W.ownsRow n₁ e size v k xs) {j : Nat} (hj : j < n₁) : some j ≠ v.ownBlock := fun ej => by
  rcases hrow.2 with ⟨rfl, _⟩ | ⟨g, cap, cur, rfl, hb, _, _⟩
  · simp [Value.ownBlock] at ej
  · obtain rfl : j = g := by simpa [Value.ownBlock] using ej
    omega
theorem cell_three_new (W : World) (y : Blk) (T : TypeId) : ∀ j u, (cells3 y)[j]? = some u → (W.alloc (.cells #[.int .i64 y.a, .int .i64 y.b, .int .i64 y.c] T)).cell? ((⟨W.heap.size, 0, none⟩ : Addr).add j) = some u := by
  intro j u hj
  rw [addr_at, Nat.zero_add]
  match j, hj with
  | 0, hj => simp [cells3] at hj; rw [← hj]; exact new_at 0 rfl
  | 1, hj => simp [cells3] at hj; rw [← hj]; exact new_at 1 rfl
  | 2, hj => simp [cells3] at hj; rw [← hj]; exact new_at 2 rfl
  | j + 3, hj => simp [cells3] at hj
set_option maxRecDepth 100000 in
set_option maxHeartbeats 2000000 in
theorem FreeBlocks_main (v : Int) (s : Value) (bs : List Blk) (w : World) (h : SB w s bs) (hi : isSysImpl v bs = true) :
    Calls Try.prog 60 #[.agg #[.int .i64 v, s]] w fun e w' => ∃ u, e = .returned (.tuple #[u, .int .i64 0]) ∧ OwnR w' w.heap.size u ((rowA v.toNat v.toNat).filter (freeB (bs.flatMap pairsL))) ∧ Below w.heap.size w w' := by
  have hs := h.slice
  have HI := Lib.hid fun W (hb : Below w.heap.size w W) => IsSystem_any v s bs W (h.below hb (Nat.le_refl _))
  rw [hi] at HI
  obtain ⟨hv3, hv15, hb35⟩ := sys_size hi
  obtain ⟨vn, hvn⟩ : ∃ vn : Nat, (vn : Int) = v := ⟨v.toNat, by omega⟩
  have hvt : v.toNat = vn := by omega
  rw [hvt]
  clear hvt
  have HP := Lib.hid fun W (hb : Below w.heap.size w W) => pairsIn_any s bs W (h.below hb (Nat.le_refl _)) (by omega)
  have HL := Lib.hid h.2.1
  clear h hi
  obtain ⟨a0, c0, rfl⟩ := hs
  obtain ⟨i0, hinf, hz0, hz1, hz2⟩ := info_parts infoBlock
  have HIF := Lib.hid hinf
  have hro : Fence.wide.round = none := rfl
  refine (callsIn_wide (n := 9)).1 ?_
  refine callsIn_of_wp_marks Try.func60 rfl trivial ?_ hro
  simp only [Try.ntmps60, List.size_toArray, List.length_cons, List.length_nil, Nat.reduceAdd, Nat.reduceSub, Array.replicate_succ, Array.replicate_zero, List.push_toArray, List.append_toArray, List.nil_append, List.cons_append]
  gi_wp2_with (first
    | (refine ⟨trivial, ?_⟩; gi_at_call 20; refine (callsIn_wide.2 (HI.out _ ((Below.refl _ _).alloc (Nat.le_refl _) _))).mono ?_; rintro e w1 ⟨rfl, hb1⟩; have q0 := cell_new hb1 0 rfl; have q1 := cell_new hb1 1 rfl; have hlt1 := lt_new hb1; have hbw := below_new hb1)
    | (refine ⟨trivial, ?_⟩; gi_at_call 83; refine (callsIn_wide.2 (HP.out _ hbw)).mono ?_; rintro e w2 ⟨rfl, hS, hb2⟩; have q0' := (hb2.cell (p := ⟨w.heap.size, 0, none⟩) hlt1).trans q0; have hlt2 := hS.lt; have hlt3 : w.heap.size < w2.heap.size := Nat.lt_trans hlt1 hlt2; have hbw2 := hbw.trans (hb2.mono hbw.size))
    | (refine ⟨trivial, ?_⟩; gi_at_call 98; refine (callsIn_wide.2 (allBlocks_any _ _)).mono ?_; rintro e w3 ⟨rfl, rfl⟩))
  have hsW := hbw2.size
  have b4 := ((Boxed.new w2 91 (.map (some w1.heap.size))).alloc (.cells #[.slice none 0 0] 27)).alloc (.cells #[.int .i64 v] 2)
  have b5 := (Boxed.new (w2.alloc (.cells #[.map (some w1.heap.size)] 91)) 27 (.slice none 0 0)).alloc (.cells #[.int .i64 v] 2)
  rw [World.size_alloc] at b5
  have hB0 : Below w.heap.size w (((w2.alloc (.cells #[.map (some w1.heap.size)] 91)).alloc (.cells #[.slice none 0 0] 27)).alloc (.cells #[.int .i64 v] 2)) := ((hbw2.alloc hsW _).alloc (by simp; omega) _).alloc (by simp; omega) _
  have hS0 := ((hS.alloc (.cells #[.map (some w1.heap.size)] 91)).alloc (.cells #[.slice none 0 0] 27)).alloc (.cells #[.int .i64 v] 2)
  have hp : (((w2.alloc (.cells #[.map (some w1.heap.size)] 91)).alloc (.cells #[.slice none 0 0] 27)).alloc (.cells #[.int .i64 v] 2)).cell? ⟨w2.heap.size + 1 + 1, 0, none⟩ = some (.int .i64 (vn : Int)) := by
    have := new_at (w := (w2.alloc (.cells #[.map (some w1.heap.size)] 91)).alloc (.cells #[.slice none 0 0] 27)) (cs := #[.int .i64 v]) (T := 2) 0 rfl
    simp only [World.size_alloc] at this
    rw [hvn]
    exact this
  have hsz0 : (((w2.alloc (.cells #[.map (some w1.heap.size)] 91)).alloc (.cells #[.slice none 0 0] 27)).alloc (.cells #[.int .i64 v] 2)).heap.size = w2.heap.size + 1 + 1 + 1 := by simp
  obtain ⟨W0, hW0⟩ : ∃ W0, (((w2.alloc (.cells #[.map (some w1.heap.size)] 91)).alloc (.cells #[.slice none 0 0] 27)).alloc (.cells #[.int .i64 v] 2)) = W0 := ⟨_, rfl⟩
  rw [hW0] at b4 b5 hB0 hS0 hp hsz0 ⊢
  clear hW0 q0 q0' q1 HI HP hS hb2 hbw
  refine wpIn_rangeFunc_ownH hro (by omega) (gf := 116) (lb := #[.pointer (some ⟨w2.heap.size + 1 + 1, 0, none⟩)]) rfl trivial (enters_of Try.func116 (by kernel_rfl) rfl)
    (all_stops (9 - 1) (by omega) (w2.heap.size + 1 + 1) vn (by omega) w.heap.size W0 hp (by omega)) KpB.trans (KpB.put (by omega)) (Below.refl _ _) (fun _ => rfl)
    (fun pre W => ((∃ u, Boxed W (w2.heap.size + 1) 27 u ∧ W.ownsRow W0.heap.size 60 3 u (frL bs pre).length ((frL bs pre).flatMap cells3) ∧ True) ∧ Boxed W w2.heap.size 91 (.map (some w1.heap.size)) ∧ BoolSet W Try.prog 94 4 w1.heap.size (3 * bs.length) ((bs.flatMap pairsL).map pv)) ∧ Below w.heap.size W0 W)
    (fun _ _ _ => False)
    (OwnFrom.and (OwnFrom.and (Own.from (holdsRow_own W0.heap.size (w2.heap.size + 1) 27 60 3 (fun pre => (frL bs pre).length) (fun pre => (frL bs pre).flatMap cells3) (fun _ _ => True)) _) (OwnFrom.and (Own.from (boxed_own _ _ _) _) (fun s A B row hs hg hr => hs.kept hg (fun e => by have := (hr _ e.symm).1; omega)))) (ownFrom_below (by omega) (by omega)))
    (fun _ _ _ _ _ hs _ _ => hs)
    ⟨⟨⟨_, b5, World.ownsRow_nil _ _ _ _, trivial⟩, b4, hS0⟩, Below.refl _ _⟩
    (fun x a' W => ∃ Bx, B3 W Bx x.1 ∧ a' = { tmps := #[.agg #[.int .i64 v, .slice a0 bs.length c0], .pointer (some ⟨w.heap.size, 0, none⟩), .slice none 0 0, .int .i64 0, .pointer (some ⟨w2.heap.size, 0, none⟩), .pointer (some ⟨w2.heap.size + 1, 0, none⟩), .pointer (some ⟨Bx, 0, none⟩), .agg #[.int .i64 v, .slice a0 bs.length c0], .bool true, .bool false, .pointer (some ⟨w.heap.size, 1, none⟩), .slice a0 bs.length c0, .map (some w1.heap.size), .pointer (some ⟨w.heap.size, 0, none⟩), .int .i64 v, .func (.func 116) #[] #[.pointer (some ⟨w2.heap.size + 1 + 1, 0, none⟩)], bv x.1, undef, undef, undef, undef, undef, undef, undef, undef], defers := [] })
    (fun x a' _ X Y row hs hg hr => by obtain ⟨Bx, h1, h2⟩ := hs; exact ⟨Bx, B3.own Bx x.1 () X Y row h1 hg (fun r e => (hr r e).2), h2⟩)
    ?assign ?body ?done ?stop
  case assign =>
    rintro l pre x W K ⟨⟨⟨u, hv, hrow, _⟩, d4, hS⟩, hB⟩ hK
    have hsW2 := hB.size
    dsimp only [bv]
    gi_wp2
    exact hK _ _ ((KeepsOthers.alloc _ _).from _) (KpB.alloc (by omega) _) ⟨⟨⟨u, hv.alloc _, hrow.alloc _, trivial⟩, d4.alloc _, hS.alloc _⟩, hB.alloc (by omega) _⟩ ⟨W.heap.size, World.alloc_heap_new W _, rfl⟩
  case body =>
    rintro l pre x a' W hl ⟨r, hr⟩ ⟨⟨⟨u, hv, hrow, _⟩, d4, hS⟩, hB⟩ ⟨Bx, bX, rfl⟩ hlt
    have hc4 := d4.cell
    have hpl : (frL bs pre).length + 1 ≤ 5000 := by have := frL_len bs pre; omega
    have hml : 1100000 ≤ maxLen := by decide
    have hinf := HIF.out
    have hsB := hB.size
    have hd : 1 ≤ 9 - 1 - 1 := by omega
    have hsn := frL_snoc bs pre x
    have hfb := isBlockFree_any w1.heap.size (3 * bs.length) (bs.flatMap pairsL) x.1 x.2 W hS
    have hin : (Below W.heap.size W W → True) := fun _ => trivial
    clear hin
    obtain ⟨⟨y1, y2, y3⟩, hwf⟩ := x
    obtain ⟨x1, x2, x3⟩ := bX.cells
    have hBx := bX.lt
    dsimp only [bv] at hfb x1 x2 x3
    have HSN := Lib.hid hsn
    clear hsn
    cases hfr : freeB (bs.flatMap pairsL) ⟨y1, y2, y3⟩ with
    | false =>
      rw [hfr] at hfb HSN
      have HFB := Lib.hid hfb
      clear hfb
      gi_wp2_with (refine ⟨trivial, ?_⟩; gi_at_call 86; refine (CallsIn.inRound l (callsIn_wide.2 HFB.out)).mono ?_; rintro e W3 ⟨rfl, hb3⟩)
      have hg := gb_below hb3
      have hown : u.ownBlock = none ∨ u.ownBlock ≠ none := Classical.em _
      exact ⟨KeepsFrom.of_grownBy hg (by simp), ⟨hb3.mono (by omega), fun z hz => (hb3.cell (p := ⟨_, 0, none⟩) (by obtain ⟨ob, ho, _⟩ := cells_of_cell hz; exact (Array.getElem?_eq_some_iff.1 ho).1)).trans hz⟩, ⟨⟨u, hv.kept hg (by simp), by rw [HSN.out, if_neg (by decide), List.append_nil]; exact hrow.kept hg hown, trivial⟩, d4.kept hg (by simp), hS.kept hg (by simp)⟩, hB.trans (hb3.mono (by omega))⟩
    | true =>
      rw [hfr, if_pos rfl] at HSN
      rw [hfr] at hfb
      have HFB := Lib.hid hfb
      clear hfb
      gi_wp2_with (first
        | (refine ⟨trivial, ?_⟩; gi_at_call 86; refine (CallsIn.inRound l (callsIn_wide.2 HFB.out)).mono ?_; rintro e W3 ⟨rfl, hb3⟩; have hg := gb_below hb3; have hv3 := hv.kept hg (by simp); have hc5 := hv3.cell; have hrow3 := hrow.kept hg (Classical.em _); have z1 := (hb3.cell (p := ⟨Bx, 0, none⟩) hBx).trans x1; have z2 := (hb3.cell (p := ⟨Bx, 1, none⟩) hBx).trans x2; have z3 := (hb3.cell (p := ⟨Bx, 2, none⟩) hBx).trans x3; have hz3 := hb3.size)
        | (gi_at_builtin; refine wpListIn_append_own _ rfl _ _ 27 rfl W0.heap.size 60 i0 _ 3 24 Try.underlying27 hinf hz0 hz1 hz2 rfl (by decide) _ _ _ rfl (hrow3.alloc _) ⟨W3.heap.size, 0, none⟩ 1 1 (cells3 ⟨y1, y2, y3⟩) rfl rfl (cell_three_new W3 ⟨y1, y2, y3⟩ _) (by intro u hu; simp [cells3] at hu; rcases hu with rfl | rfl | rfl <;> rfl) (by omega) (by omega) (by simp; omega) ?_; intro v' w4 hown' hgrow _; obtain ⟨g', cap', rfl⟩ := ownsRow_succ hown'; obtain ⟨hv1, hv2, hr2, hk2, hb2⟩ := appended2 (n := w.heap.size) (Bp := w2.heap.size + 1 + 1) hv3 (by decide) hrow3 (by omega) (by omega) (by omega) (by omega) (by omega) hown' hgrow; have hc1 := hv1.cell; have hf1 := hv1.frozen))
      have n4 := own_ne hrow3 (show w2.heap.size < W0.heap.size by omega)
      have n1 := own_ne hrow3 (show w1.heap.size < W0.heap.size by omega)
      have d4' := (((d4.kept hg (by simp)).alloc (.cells #[.int .i64 y1, .int .i64 y2, .int .i64 y3] 60)).kept hgrow n4).other (B' := w2.heap.size + 1) (by omega) (.slice (some ⟨g', 0, none⟩) ((frL bs pre).length + 1) cap')
      have hS' := (((hS.kept hg (by simp)).alloc (.cells #[.int .i64 y1, .int .i64 y2, .int .i64 y3] 60)).kept hgrow n1).setCell (a := ⟨w2.heap.size + 1, 0, none⟩) (by simp; omega) (.slice (some ⟨g', 0, none⟩) ((frL bs pre).length + 1) cap')
      refine ⟨(KeepsFrom.of_grownBy hg (by simp)).trans (hk2.from _), KpB.trans ⟨hb3.mono (by omega), fun z hz => (hb3.cell (p := ⟨_, 0, none⟩) (by obtain ⟨ob, ho, _⟩ := cells_of_cell hz; exact (Array.getElem?_eq_some_iff.1 ho).1)).trans hz⟩ hb2, ⟨⟨_, hv2, ?_, trivial⟩, d4', hS'⟩, (hB.trans (hb3.mono (by omega))).trans hb2.1⟩
      rw [HSN.out, List.length_append, List.flatMap_append]
      simpa using hr2
  case done =>
    rintro D ys W hD hys ⟨⟨⟨u, hv, hrow, _⟩, d4, hS⟩, hB⟩ hK
    have hc := hv.cell
    have he : frL bs ys = (rowA vn vn).filter (freeB (bs.flatMap pairsL)) := by unfold frL; rw [hys]
    rw [he] at hrow
    gi_wp2
    refine ⟨by simp, .inl ⟨_, _, rfl, run_takeDeferred hK, ?_⟩⟩
    exact ⟨_, by simp [results, Try.f60, go_sem], u, rfl, ownsRow_base (ownsRow_putObj hrow _ hK rfl) (by omega), (hB0.trans hB).trans (belowK_b (w := w) (Nat.le_refl _) W D _ _ (by omega) hK rfl rfl)⟩
  case stop =>
    rintro D c pre W _ _ h _
    exact h.elim
end Go.Proofs.Ytomcjifklggcnaa

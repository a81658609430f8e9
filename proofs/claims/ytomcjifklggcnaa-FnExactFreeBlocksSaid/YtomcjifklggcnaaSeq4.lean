/- The program's ThirdPoint where it searches. -/
import Derived.Test.YtomcjifklggcnaaSeq3
namespace Go.Proofs.Ytomcjifklggcnaa
open Go.RowKit Go.Maps Go.Shelf
attribute [local go_sem] Oper.semAt_some
/-- A block in a box. -/
def B3 (W : World) (B : Nat) (x : Blk) : Prop := W.heap[B]? = some (.cells #[.int .i64 x.a, .int .i64 x.b, .int .i64 x.c] 60 (0, 0))
theorem B3.lt {W : World} {B : Nat} {x : Blk} (h : B3 W B x) : B < W.heap.size := (Array.getElem?_eq_some_iff.1 h).1
theorem B3.cells {W : World} {B : Nat} {x : Blk} (h : B3 W B x) : W.cell? ⟨B, 0, none⟩ = some (.int .i64 x.a) ∧ W.cell? ⟨B, 1, none⟩ = some (.int .i64 x.b) ∧ W.cell? ⟨B, 2, none⟩ = some (.int .i64 x.c) := by
  have : W.heap[B]? = _ := h
  refine ⟨?_, ?_, ?_⟩ <;> simp [World.cell?, this]
theorem B3.own (B : Nat) (x : Blk) : Own (fun (_ : Unit) W => B3 W B x) := fun _ X Y row hs hg hrow =>
  (hg.block B hs.lt (fun e' => by obtain ⟨o, ho, hc⟩ := hrow B e'.symm; rw [show X.heap[B]? = _ from hs] at ho; cases ho; cases hc)).trans hs
/-- The third point as it is reckoned. -/
def thirdW (x : Blk) (a b : Int) : Int := wrap64 (wrap64 (wrap64 (wrap64 (x.a + x.b) + x.c) - a) - b)
theorem upTo_snd (bs : List Blk) {k : Nat} (hk : k ≤ bs.length) : ((List.range k).map fun j => ((j, bs[j]?.getD default) : Nat × Blk)).map (·.2) = bs.take k := by
  apply List.ext_getElem
  · simp [hk]
  · intro i h1 h2
    have : i < bs.length := by simp at h1; omega
    simp [this]
theorem upTo_find (p b : Int) (bs : List Blk) {k : Nat} (hk : k ≤ bs.length) : ((upTo p bs k).find? fun q => hasB q.2 b).map (·.2) = (bs.take k).find? (bothB p b) := by
  rw [← upTo_snd bs hk, List.find?_map]
  unfold upTo
  rw [List.find?_filter]
  congr 2
  funext q
  simp [bothB]
theorem find_done {p b : Int} {bs : List Blk} (h : ∀ q ∈ upTo p bs bs.length, hasB q.2 b = false) : bs.find? (bothB p b) = none := by
  have e := upTo_find p b bs (Nat.le_refl _)
  rw [List.take_length] at e
  rw [← e, List.find?_eq_none.2 (fun q hq => by simp [h q hq])]
  rfl
theorem find_stop {p b : Int} {bs : List Blk} {k : Nat} (hk : k ≤ bs.length) {ini : List (Nat × Blk)} {last : Nat × Blk} (e : upTo p bs k = ini ++ [last]) (h : ∀ q ∈ ini, hasB q.2 b = false) (hl : hasB last.2 b = true) : bs.find? (bothB p b) = some last.2 := by
  have e2 := upTo_find p b bs hk
  rw [e, List.find?_append, List.find?_eq_none.2 (fun q hq => by simp [h q hq])] at e2
  simp [hl] at e2
  rw [← List.take_append_drop k bs, List.find?_append, ← e2]
  rfl
theorem inP_iff {v a : Int} : inP v a = true ↔ 0 ≤ a ∧ a < v := by simp [inP]
theorem thirdW_eq {v a b : Int} {bs : List Blk} {x : Blk} (hi : isSysImpl v bs = true) (hx : bs.find? (bothB a b) = some x) (ha : inP v a = true) (hb : inP v b = true) : thirdW x a b = thirdOf x a b := by
  have hg := sys_good hi x (List.mem_of_find?_eq_some hx)
  have hv := (sys_size hi).2.1
  rw [goodB_iff] at hg
  rw [inP_iff] at ha hb
  unfold thirdW thirdOf wrap64
  omega
theorem KpB.alloc {n₀ Bp : Nat} {W : World} (hn : n₀ ≤ W.heap.size) (o : Obj) : KpB n₀ Bp W (W.alloc o) := ⟨(Below.refl _ _).alloc hn _, fun _ hu => cell_past hu (by obtain ⟨ob, ho, _⟩ := cells_of_cell hu; exact (Array.getElem?_eq_some_iff.1 ho).1)⟩
theorem KpB.drew (n₀ Bp : Nat) (W : World) : KpB n₀ Bp W W.drew := ⟨below_drewN (Below.refl _ _) 1, fun _ hu => cell_drewN hu 1⟩
theorem boxed_drew {W : World} {B : Nat} {t : TypeId} {u : Value} (h : Boxed W B t u) : Boxed W.drew B t u := h
theorem three (W : World) (B : Nat) (x : Blk) (p : Int) (h : B3 W B x) : Calls Try.prog 80 #[.slice (some ⟨B, 0, none⟩) 3 3, .int .i64 p] W (RS (.bool (hasB x p)) W) := by
  obtain ⟨g1, g2, g3⟩ := h.cells
  rw [← inL3]
  exact Contains_any B 0 3 [x.a, x.b, x.c] p W (ints3 g1 g2 g3) (by simp)
set_option maxRecDepth 100000 in
set_option maxHeartbeats 2000000 in
theorem ThirdPoint_main (v : Int) (s : Value) (bs : List Blk) (a b : Int) (w : World) (h : SB w s bs) (hi : isSysImpl v bs = true) (ha : inP v a = true) (hb : inP v b = true) (hab : (a == b) = false) :
    Calls Try.prog 33 #[.agg #[.int .i64 v, s], .int .i64 a, .int .i64 b] w (RV (thirdV v bs a b) w) := by
  have hs := h.slice
  have HI := Lib.hid fun W (hb : Below w.heap.size w W) => IsSystem_any v s bs W (h.below hb (Nat.le_refl _))
  rw [hi] at HI
  have H := Lib.hid h
  have HI1 := Lib.hid hi
  have HP1 := Lib.hid ha
  have HP2 := Lib.hid hb
  have HAB := Lib.hid hab
  have HPA := Lib.hid fun W => isPointI_any v a W
  have HPB := Lib.hid fun W => isPointI_any v b W
  rw [ha] at HPA
  rw [hb] at HPB
  clear h hi ha hb
  obtain ⟨a0, c0, rfl⟩ := hs
  have hro : Fence.wide.round = none := rfl
  have hmx : Try.prog.follows .mixedOrders = true := by kernel_rfl
  refine (callsIn_wide (n := 9)).1 ?_
  refine callsIn_of_wp_marks Try.func33 rfl trivial ?_ hro
  simp only [Try.ntmps33, List.size_toArray, List.length_cons, List.length_nil, Nat.reduceAdd, Nat.reduceSub, Array.replicate_succ, Array.replicate_zero, List.push_toArray, List.append_toArray, List.nil_append, List.cons_append]
  gi_wp2_with (first
    | (refine ⟨trivial, ?_⟩; gi_at_call 20; refine (callsIn_wide.2 (HI.out (w5 v _ a b w) (w5_below _ _ _ _ _))).mono ?_; rintro e w1 ⟨rfl, hb1⟩; obtain ⟨q0, q1, b1, b2, b3, b4, hsz, hbw⟩ := boxes5 hb1; have q2 := b1.cell; have q3 := b2.cell)
    | (refine ⟨trivial, ?_⟩; gi_at_call 78; refine (callsIn_wide.2 (HPA.out _)).mono ?_; clear HPA; rintro e w2 ⟨rfl, rfl⟩)
    | (refine ⟨trivial, ?_⟩; gi_at_call 78; refine (callsIn_wide.2 (HPB.out _)).mono ?_; rintro e w2 ⟨rfl, rfl⟩)
    | (refine ⟨trivial, ?_⟩; gi_at_call 79; refine (callsIn_wide.2 (blocksWith_any _ _ _ _)).mono ?_; rintro e w3 ⟨rfl, rfl⟩))
  have hsW := hbw.size
  have c1 := b1.alloc (.cells #[.int .i64 v, .slice a0 bs.length c0] 29) |>.alloc (.cells #[.int .i64 a] 2)
  have c2 := b2.alloc (.cells #[.int .i64 v, .slice a0 bs.length c0] 29) |>.alloc (.cells #[.int .i64 a] 2)
  have c3 := b3.alloc (.cells #[.int .i64 v, .slice a0 bs.length c0] 29) |>.alloc (.cells #[.int .i64 a] 2)
  have c4 := b4.alloc (.cells #[.int .i64 v, .slice a0 bs.length c0] 29) |>.alloc (.cells #[.int .i64 a] 2)
  have hB0 : Below w.heap.size w ((w1.alloc (.cells #[.int .i64 v, .slice a0 bs.length c0] 29)).alloc (.cells #[.int .i64 a] 2)) := (hbw.alloc hsW _).alloc (by simp; omega) _
  have hx : ((w1.alloc (.cells #[.int .i64 v, .slice a0 bs.length c0] 29)).alloc (.cells #[.int .i64 a] 2)).cell? ⟨w1.heap.size, 1, none⟩ = some (.slice a0 bs.length c0) := cell_past (new_at 1 rfl) (by simp)
  have hp : ((w1.alloc (.cells #[.int .i64 v, .slice a0 bs.length c0] 29)).alloc (.cells #[.int .i64 a] 2)).cell? ⟨w1.heap.size + 1, 0, none⟩ = some (.int .i64 a) := by
    simp
  have hsz0 : ((w1.alloc (.cells #[.int .i64 v, .slice a0 bs.length c0] 29)).alloc (.cells #[.int .i64 a] 2)).heap.size = w1.heap.size + 1 + 1 := by simp
  obtain ⟨W0, hW0⟩ : ∃ W0, ((w1.alloc (.cells #[.int .i64 v, .slice a0 bs.length c0] 29)).alloc (.cells #[.int .i64 a] 2)) = W0 := ⟨_, rfl⟩
  rw [hW0] at c1 c2 c3 c4 hB0 hx hp hsz0 ⊢
  clear hW0 q0 q1 q2 q3 b1 b2 b3 b4 hb1 HI HPB
  refine wpIn_rangeFunc_ownH hro (by omega) (gf := 112) (lb := #[.pointer (some ⟨w1.heap.size, 0, none⟩), .pointer (some ⟨w1.heap.size + 1, 0, none⟩)]) rfl trivial (enters_of Try.func112 (by kernel_rfl) rfl)
    (with_stops (9 - 1) (by omega) w1.heap.size (w1.heap.size + 1) a _ bs w W0 H.out hB0 hx (by omega) hp (by omega)) KpB.trans (KpB.put (by omega)) (Below.refl _ _) (fun _ => rfl)
    (fun pre W => ((∀ q ∈ pre, hasB q.2 b = false) ∧ (Boxed W (w.heap.size + 1) 2 (.int .i64 a) ∧ Boxed W (w.heap.size + 1 + 1) 2 (.int .i64 b)) ∧ (Boxed W (w.heap.size + 1 + 1 + 1) 2 (.int .i64 0) ∧ Boxed W (w.heap.size + 1 + 1 + 1 + 1) 2 (.int .i64 0))) ∧ Below w.heap.size w W)
    (fun c pre W => (c = .ret ∧ ∃ ini last, pre = ini ++ [last] ∧ (∀ q ∈ ini, hasB q.2 b = false) ∧ hasB last.2 b = true ∧ W.cell? ⟨w.heap.size + 1 + 1 + 1, 0, none⟩ = some (.int .i64 (thirdW last.2 a b)) ∧ W.cell? ⟨w.heap.size + 1 + 1 + 1 + 1, 0, none⟩ = some (.int .i64 0)) ∧ Below w.heap.size w W)
    (OwnFrom.and (OwnFrom.and (ownFrom_pure _ _) (OwnFrom.and (OwnFrom.and (Own.from (boxed_own _ _ _) _) (Own.from (boxed_own _ _ _) _)) (OwnFrom.and (Own.from (boxed_own _ _ _) _) (Own.from (boxed_own _ _ _) _)))) (ownFrom_below (Nat.le_refl _) (by omega)))
    (fun c => OwnFrom.and (Own.from (fun s A B row hs hg hr => by obtain ⟨hc, ini, last, e1, e2, e3, e4, e5⟩ := hs; exact ⟨hc, ini, last, e1, e2, e3, cell_kept e4 hg hr, cell_kept e5 hg hr⟩) _) (ownFrom_below (Nat.le_refl _) (by omega)))
    ⟨⟨by simp, ⟨c1, c2⟩, c3, c4⟩, hB0⟩
    (fun x a' W => ∃ Bx, B3 W Bx x.2 ∧ a' = { tmps := #[.agg #[.int .i64 v, .slice a0 bs.length c0], .int .i64 a, .int .i64 b, .pointer (some ⟨w.heap.size, 0, none⟩), .pointer (some ⟨w.heap.size + 1, 0, none⟩), .pointer (some ⟨w.heap.size + 1 + 1, 0, none⟩), .pointer (some ⟨w.heap.size + 1 + 1 + 1, 0, none⟩), .pointer (some ⟨w.heap.size + 1 + 1 + 1 + 1, 0, none⟩), undef, .pointer (some ⟨Bx, 0, none⟩), .agg #[.int .i64 v, .slice a0 bs.length c0], .bool true, .bool false, .pointer (some ⟨w.heap.size, 0, none⟩), .int .i64 v, .int .i64 a, .bool true, .bool false, .bool false, .pointer (some ⟨w.heap.size, 0, none⟩), .int .i64 v, .int .i64 b, .bool true, .bool false, .bool false, .bool false, .int .i64 a, .int .i64 b, .bool false, .bool false, .agg #[.int .i64 v, .slice a0 bs.length c0], .int .i64 a, .func (.func 112) #[] #[.pointer (some ⟨w1.heap.size, 0, none⟩), .pointer (some ⟨w1.heap.size + 1, 0, none⟩)], .int .i64 (x.1 : Int), bv x.2, undef, undef, undef, undef, undef, undef, undef, undef, undef, undef, undef, undef, undef, undef, undef], defers := [] })
    (fun x a' _ X Y row hs hg hr => by obtain ⟨Bx, h1, h2⟩ := hs; exact ⟨Bx, B3.own Bx x.2 () X Y row h1 hg (fun r e => (hr r e).2), h2⟩)
    ?assign ?body ?done ?stop
  case assign =>
    rintro l pre x W K ⟨⟨hpre, ⟨d1, d2⟩, d3, d4⟩, hBW⟩ hK
    have hsW2 := hBW.size
    dsimp only [encQ, bv]
    gi_wp2
    exact hK _ _ ((KeepsOthers.alloc _ _).from _) (KpB.alloc (by omega) _) ⟨⟨hpre, ⟨d1.alloc _, d2.alloc _⟩, d3.alloc _, d4.alloc _⟩, hBW.alloc hsW2 _⟩ ⟨W.heap.size, World.alloc_heap_new W _, rfl⟩
  case body =>
    rintro l pre x a' W hl ⟨r, hr⟩ ⟨⟨hpre, ⟨d1, d2⟩, d3, d4⟩, hBW⟩ ⟨Bx, bX, rfl⟩ hlt
    have k1 := (boxed_drew d1).cell
    have k2 := d2.cell
    have k2' := (boxed_drew d2).cell
    have k3 := (boxed_drew d3).cell
    have k4 := (boxed_drew d4).cell
    have g3 := (boxed_drew d3).frozen
    have g4 := (boxed_drew d4).frozen
    have n4 := boxed_drew (d4.other (B' := w.heap.size + 1 + 1 + 1) (by omega) (.int .i64 (wrap64 (wrap64 (wrap64 (wrap64 (x.2.a + x.2.b) + x.2.c) - a) - b))))
    have k5 := n4.cell
    have g5 := n4.frozen
    have hd : 1 ≤ 9 - 1 - 1 := by omega
    obtain ⟨x1, x2, x3⟩ := (show B3 W.drew Bx x.2 from bX).cells
    obtain ⟨y1, y2, y3⟩ := bX.cells
    have HT := Lib.hid (three W.drew Bx x.2 b bX)
    cases hq : hasB x.2 b with
    | true =>
      rw [hq] at HT
      gi_wp2
      gi_region_with_o (refine ⟨trivial, ?_⟩; gi_at_call 80; refine (CallsIn.inRound l (callsIn_wide.2 HT.out)).mono ?_; rintro e w' ⟨rfl, rfl⟩)
      all_goals gi_wp2
      all_goals
        have m3 := boxed_drew ((d3.set (.int .i64 (wrap64 (wrap64 (wrap64 (wrap64 (x.2.a + x.2.b) + x.2.c) - a) - b)))).other (B' := w.heap.size + 1 + 1 + 1 + 1) (by omega) (.int .i64 0))
        have m4 := boxed_drew (Boxed.set (.int .i64 0) (d4.other (B' := w.heap.size + 1 + 1 + 1) (by omega) (.int .i64 (wrap64 (wrap64 (wrap64 (wrap64 (x.2.a + x.2.b) + x.2.c) - a) - b)))))
        exact ⟨(((KeepsOthers.setCell _ _ _).trans (KeepsOthers.setCell _ _ _)).trans (KeepsOthers.drew _)).from _, ⟨rfl, pre, x, rfl, hpre, hq, m3.cell, m4.cell⟩, below_drewN ((hBW.setCell (p := ⟨w.heap.size + 1 + 1 + 1, 0, none⟩) (by simp; omega) _).setCell (p := ⟨w.heap.size + 1 + 1 + 1 + 1, 0, none⟩) (by simp; omega) _) 1⟩
    | false =>
      rw [hq] at HT
      gi_wp2
      gi_region_with_o (refine ⟨trivial, ?_⟩; gi_at_call 80; refine (CallsIn.inRound l (callsIn_wide.2 HT.out)).mono ?_; rintro e w' ⟨rfl, rfl⟩)
      all_goals gi_wp2
      all_goals exact ⟨(KeepsOthers.drew _).from _, KpB.drew _ _ _, ⟨fun q hq' => (List.mem_append.1 hq').elim (hpre q) (fun e => by simp at e; subst e; exact hq), ⟨boxed_drew d1, boxed_drew d2⟩, boxed_drew d3, boxed_drew d4⟩, below_drewN hBW 1⟩
  case done =>
    rintro D ys W hD rfl ⟨⟨hpre, ⟨d1, d2⟩, d3, d4⟩, hBW⟩ hK
    have k3 := d3.cell
    have k4 := d4.cell
    have g3 := d3.frozen
    have g4 := d4.frozen
    have hval : thirdV v bs a b = .tuple #[.int .i64 0, .int .i64 4] := by
      unfold thirdV
      rw [if_pos HI1.out, HP1.out, HP2.out, if_pos (by decide), if_neg (by simpa using HAB.out), find_done hpre]
    rw [hval]
    have n4 := d4.other (B' := w.heap.size + 1 + 1 + 1) (by omega) (.int .i64 0)
    have k5 := n4.cell
    have g5 := n4.frozen
    gi_wp2
    have hK1 := (KeepsOthers.setCell W ⟨w.heap.size + 1 + 1 + 1, 0, none⟩ (.int .i64 0)).same D _ hK rfl
    have hK2 := (KeepsOthers.setCell (W.setCell ⟨w.heap.size + 1 + 1 + 1, 0, none⟩ (.int .i64 0)) ⟨w.heap.size + 1 + 1 + 1 + 1, 0, none⟩ (.int .i64 4)).same D _ hK1 rfl
    have m6 := cell_kept ((d3.set (.int .i64 0)).other (B' := w.heap.size + 1 + 1 + 1 + 1) (by omega) (.int .i64 4)).cell (grownBy_putObj' _ D (.deferred none)) (fun r e => by cases e; exact ⟨_, hK2, rfl⟩)
    have m7 := cell_kept (n4.set (.int .i64 4)).cell (grownBy_putObj' _ D (.deferred none)) (fun r e => by cases e; exact ⟨_, hK2, rfl⟩)
    refine ⟨by simp, .inl ⟨_, _, rfl, run_takeDeferred hK2, ?_⟩⟩
    refine ⟨.tuple #[.int .i64 0, .int .i64 4], by simp [results, Try.f33, go_sem, m6, m7], by rw [hval], ?_⟩
    exact ((hBW.setCell (p := ⟨w.heap.size + 1 + 1 + 1, 0, none⟩) (by simp; omega) _).setCell (p := ⟨w.heap.size + 1 + 1 + 1 + 1, 0, none⟩) (by simp; omega) _).trans (belowK_b (w := w) (Nat.le_refl _) _ D _ _ (by omega) hK2 rfl rfl)
  case stop =>
    rintro D c pre W hD ⟨k, hk, rfl⟩ ⟨⟨rfl, ini, last, e1, e2, e3, e4, e5⟩, hBW⟩ hK
    have hf := find_stop hk e1 e2 e3
    have hval : thirdV v bs a b = .tuple #[.int .i64 (thirdW last.2 a b), .int .i64 0] := by
      unfold thirdV
      rw [if_pos HI1.out, HP1.out, HP2.out, if_pos (by decide), if_neg (by simpa using HAB.out), hf, thirdW_eq HI1.out hf HP1.out HP2.out]
    rw [hval]
    gi_wp2
    have m6 := cell_kept e4 (grownBy_putObj' _ D (.deferred none)) (fun r e => by cases e; exact ⟨_, hK, rfl⟩)
    have m7 := cell_kept e5 (grownBy_putObj' _ D (.deferred none)) (fun r e => by cases e; exact ⟨_, hK, rfl⟩)
    refine ⟨by simp, .inl ⟨_, _, rfl, run_takeDeferred hK, ?_⟩⟩
    refine ⟨.tuple #[.int .i64 (thirdW last.2 a b), .int .i64 0], by simp [results, Try.f33, go_sem, m6, m7], rfl, ?_⟩
    exact hBW.trans (belowK_b (w := w) (Nat.le_refl _) _ D _ _ (by omega) hK rfl rfl)
theorem ThirdPoint_any (v : Int) (s : Value) (bs : List Blk) (a b : Int) (w : World) (h : SB w s bs) :
    Calls Try.prog 33 #[.agg #[.int .i64 v, s], .int .i64 a, .int .i64 b] w (RV (thirdV v bs a b) w) := by
  cases hn : (isSysImpl v bs && (inP v a && inP v b && !(a == b))) with
  | false => exact ThirdPoint_no v s bs a b w h hn
  | true =>
    simp only [Bool.and_eq_true, Bool.not_eq_true'] at hn
    exact ThirdPoint_main v s bs a b w h hn.1 hn.2.1.1 hn.2.1.2 hn.2.2
end Go.Proofs.Ytomcjifklggcnaa

/- The program's BlocksAt: the indices of the blocks through a point. -/
import Derived.Test.YtomcjifklggcnaaSeq4
import Derived.Maps.AppendAt
namespace Go.Proofs.Ytomcjifklggcnaa
open Go.RowKit Go.Maps Go.Shelf
attribute [local go_sem] Oper.semAt_some
theorem infoInt64 : (Try.prog.info? 2).map (fun i => (i.zero, i.size, i.bytes)) = some (some (.int .i64 0), 1, 8) := by kernel_rfl
def idxs (pre : List (Nat × Blk)) : List Value := pre.map fun q => .int .i64 (q.1 : Int)
/-- The value owns a row of these integers, beyond base; it is nil just where there is none. -/
def OwnI (W : World) (base : Nat) (u : Value) (zs : List Value) : Prop := W.ownsRow base 2 1 u zs.length zs ∧ (u = .slice none 0 0 ↔ zs = [])
/-- Returns a fresh slice of integers and a code. -/
def RInts (zs : List Value) (κ : Int) (w : World) (e : Ending) (w' : World) : Prop := ∃ u, e = .returned (.tuple #[u, .int .i64 κ]) ∧ OwnI w' w.heap.size u zs ∧ Below w.heap.size w w'
theorem ownsRow_base {W : World} {base base' : Nat} {e : TypeId} {size : Nat} {v : Value} {k : Nat} {xs : List Value} (h : W.ownsRow base e size v k xs) (hb : base' ≤ base) : W.ownsRow base' e size v k xs := by
  obtain ⟨h1, h2⟩ := h
  refine ⟨h1, ?_⟩
  rcases h2 with h2 | ⟨g, cap, cur, e1, e2, e3⟩
  · exact .inl h2
  · exact .inr ⟨g, cap, cur, e1, by omega, e3⟩
theorem lt_new {w w1 : World} {cs : Array Value} {T : TypeId} (h : Below (w.alloc (.cells cs T)).heap.size (w.alloc (.cells cs T)) w1) : w.heap.size < w1.heap.size := by
  have := h.size
  simp at this
  omega
theorem below_new {w w1 : World} {cs : Array Value} {T : TypeId} (h : Below (w.alloc (.cells cs T)).heap.size (w.alloc (.cells cs T)) w1) : Below w.heap.size w w1 :=
  ((Below.refl _ _).alloc (Nat.le_refl _) _).trans (h.mono (by simp))
theorem appended2 {W w1 : World} {n n₁ B Bp : Nat} {t e : TypeId} {size : Nat} {v v' : Value} {k m : Nat} {xs ys : List Value} {tmp : Obj}
    (hv : Boxed W B t v) (hte : t ≠ e) (hrow : W.ownsRow n₁ e size v k xs) (hn : n ≤ W.heap.size) (hB : n ≤ B) (hnn : n ≤ n₁) (hBp : Bp < n₁) (hne : Bp ≠ B)
    (hown' : w1.ownsRow n₁ e size v' m ys) (hgrow : (W.alloc tmp).grownBy w1 v.ownBlock) :
    Boxed w1 B t v ∧ Boxed (w1.setCell ⟨B, 0, none⟩ v') B t v' ∧ (w1.setCell ⟨B, 0, none⟩ v').ownsRow n₁ e size v' m ys ∧ KeepsOthers W (w1.setCell ⟨B, 0, none⟩ v') ∧ KpB n Bp W (w1.setCell ⟨B, 0, none⟩ v') := by
  have hv1 : Boxed w1 B t v := (hv.alloc tmp).kept hgrow (hv.not_row hte hrow)
  have hge : ∀ j, v.ownBlock = some j → n₁ ≤ j := fun j ej => by
    rcases hrow.2 with ⟨rfl, _⟩ | ⟨g, cap, cur, rfl, hb, _, _⟩
    · simp [Value.ownBlock] at ej
    · obtain rfl : g = j := by simpa [Value.ownBlock] using ej
      exact hb
  refine ⟨hv1, hv1.set v', hown'.kept (grownBy_setCell' w1 B v') (.inr (hv1.not_row hte hown').symm), ?_, ?_, ?_⟩
  · refine ((KeepsOthers.alloc W tmp).trans (KeepsOthers.of_grownBy hgrow fun j o ej hj => ?_)).trans (KeepsOthers.setCell _ _ _)
    rcases (hrow.alloc tmp).2 with ⟨rfl, _⟩ | ⟨g, cap, cur, rfl, _, hgb, _⟩
    · simp [Value.ownBlock] at ej
    · obtain rfl : g = j := by simpa [Value.ownBlock] using ej
      rw [hgb] at hj; cases hj; rfl
  · exact (((Below.refl n W).alloc hn tmp).grown hgrow (by simp; omega) fun j ej => Nat.le_trans hnn (hge j ej)).setCell (p := ⟨B, 0, none⟩) hB v'
  · intro u hu
    have hlt : Bp < W.heap.size := by obtain ⟨ob, ho, _⟩ := cells_of_cell hu; exact (Array.getElem?_eq_some_iff.1 ho).1
    have h1 := cell_past (ob := tmp) hu hlt
    have h2 : w1.cell? ⟨Bp, 0, none⟩ = some u := (World.cell?_of_block (hgrow.block Bp (by simp; omega) (fun e' => by have := hge Bp e'.symm; omega))).trans h1
    exact (World.cell?_of_block ((grownBy_setCell' w1 B v').block Bp (Nat.lt_of_lt_of_le (by simp; omega) hgrow.size) (fun e' => hne (by cases e'; rfl)))).trans h2
set_option maxRecDepth 100000 in
set_option maxHeartbeats 2000000 in
theorem BlocksAt_main (v : Int) (s : Value) (bs : List Blk) (p : Int) (w : World) (h : SB w s bs) (hi : isSysImpl v bs = true) (ha : inP v p = true) :
    Calls Try.prog 35 #[.agg #[.int .i64 v, s], .int .i64 p] w (RInts (idxs (upTo p bs bs.length)) 0 w) := by
  have hs := h.slice
  have HI := Lib.hid fun W (hb : Below w.heap.size w W) => IsSystem_any v s bs W (h.below hb (Nat.le_refl _))
  rw [hi] at HI
  have H := Lib.hid h
  have HL := Lib.hid h.2.1
  have HPA := Lib.hid fun W => isPointI_any v p W
  rw [ha] at HPA
  clear h hi ha
  obtain ⟨a0, c0, rfl⟩ := hs
  obtain ⟨i0, hinf, hz0, hz1, hz2⟩ := info_parts infoInt64
  have HIF := Lib.hid hinf
  have hro : Fence.wide.round = none := rfl
  refine (callsIn_wide (n := 9)).1 ?_
  refine callsIn_of_wp_marks Try.func35 rfl trivial ?_ hro
  simp only [Try.ntmps35, List.size_toArray, List.length_cons, List.length_nil, Nat.reduceAdd, Nat.reduceSub, Array.replicate_succ, Array.replicate_zero, List.push_toArray, List.append_toArray, List.nil_append, List.cons_append]
  gi_wp2_with (first
    | (refine ⟨trivial, ?_⟩; gi_at_call 20; refine (callsIn_wide.2 (HI.out _ ((Below.refl _ _).alloc (Nat.le_refl _) _))).mono ?_; rintro e w1 ⟨rfl, hb1⟩; have q0 := cell_new hb1 0 rfl; have q1 := cell_new hb1 1 rfl; have hlt1 := lt_new hb1; have hbw := below_new hb1)
    | (refine ⟨trivial, ?_⟩; gi_at_call 78; refine (callsIn_wide.2 (HPA.out _)).mono ?_; rintro e w2 ⟨rfl, rfl⟩)
    | (refine ⟨trivial, ?_⟩; gi_at_call 79; refine (callsIn_wide.2 (blocksWith_any _ _ _ _)).mono ?_; rintro e w3 ⟨rfl, rfl⟩))
  have hsW := hbw.size
  have bO := ((Boxed.new w1 46 (.slice none 0 0)).alloc (.cells #[.int .i64 v, .slice a0 bs.length c0] 29)).alloc (.cells #[.int .i64 p] 2)
  have hB0 : Below w.heap.size w (((w1.alloc (.cells #[.slice none 0 0] 46)).alloc (.cells #[.int .i64 v, .slice a0 bs.length c0] 29)).alloc (.cells #[.int .i64 p] 2)) := ((hbw.alloc hsW _).alloc (by simp; omega) _).alloc (by simp; omega) _
  have hx : (((w1.alloc (.cells #[.slice none 0 0] 46)).alloc (.cells #[.int .i64 v, .slice a0 bs.length c0] 29)).alloc (.cells #[.int .i64 p] 2)).cell? ⟨w1.heap.size + 1, 1, none⟩ = some (.slice a0 bs.length c0) := by
    have := new_at (w := w1.alloc (.cells #[.slice none 0 0] 46)) (cs := #[.int .i64 v, .slice a0 bs.length c0]) (T := 29) 1 rfl
    rw [World.size_alloc] at this
    exact cell_past this (by simp)
  have hp : (((w1.alloc (.cells #[.slice none 0 0] 46)).alloc (.cells #[.int .i64 v, .slice a0 bs.length c0] 29)).alloc (.cells #[.int .i64 p] 2)).cell? ⟨w1.heap.size + 1 + 1, 0, none⟩ = some (.int .i64 p) := by
    have := new_at (w := (w1.alloc (.cells #[.slice none 0 0] 46)).alloc (.cells #[.int .i64 v, .slice a0 bs.length c0] 29)) (cs := #[.int .i64 p]) (T := 2) 0 rfl
    simp only [World.size_alloc] at this
    exact this
  have hsz0 : (((w1.alloc (.cells #[.slice none 0 0] 46)).alloc (.cells #[.int .i64 v, .slice a0 bs.length c0] 29)).alloc (.cells #[.int .i64 p] 2)).heap.size = w1.heap.size + 1 + 1 + 1 := by simp
  obtain ⟨W0, hW0⟩ : ∃ W0, (((w1.alloc (.cells #[.slice none 0 0] 46)).alloc (.cells #[.int .i64 v, .slice a0 bs.length c0] 29)).alloc (.cells #[.int .i64 p] 2)) = W0 := ⟨_, rfl⟩
  rw [hW0] at bO hB0 hx hp hsz0 ⊢
  clear hW0 q0 q1 hb1 HI HPA
  refine wpIn_rangeFunc_ownG hro (by omega) (gf := 112) (lb := #[.pointer (some ⟨w1.heap.size + 1, 0, none⟩), .pointer (some ⟨w1.heap.size + 1 + 1, 0, none⟩)]) rfl trivial (enters_of Try.func112 (by kernel_rfl) rfl)
    (with_stops (9 - 1) (by omega) (w1.heap.size + 1) (w1.heap.size + 1 + 1) p _ bs w W0 H.out hB0 hx (by omega) hp (by omega)) KpB.trans (KpB.put (by omega)) (Below.refl _ _) (fun _ => rfl)
    (fun pre W => (∃ u, Boxed W w1.heap.size 46 u ∧ W.ownsRow W0.heap.size 2 1 u (idxs pre).length (idxs pre) ∧ (u = .slice none 0 0 ↔ idxs pre = [])) ∧ Below w.heap.size W0 W)
    (fun _ _ _ => False)
    (OwnFrom.and (Own.from (holdsRow_own W0.heap.size w1.heap.size 46 2 1 (fun pre => (idxs pre).length) (fun pre => idxs pre) (fun pre u => u = .slice none 0 0 ↔ idxs pre = [])) _) (ownFrom_below (by omega) (by omega)))
    (fun _ _ _ _ _ hs _ _ => hs)
    ⟨⟨_, bO, World.ownsRow_nil _ _ _ _, by simp [idxs]⟩, Below.refl _ _⟩
    (fun x => { tmps := #[.agg #[.int .i64 v, .slice a0 bs.length c0], .int .i64 p, .pointer (some ⟨w.heap.size, 0, none⟩), undef, .slice none 0 0, .int .i64 0, .pointer (some ⟨w1.heap.size, 0, none⟩), .int .i64 (x.1 : Int), .agg #[.int .i64 v, .slice a0 bs.length c0], .bool true, .bool false, .pointer (some ⟨w.heap.size, 0, none⟩), .int .i64 v, .int .i64 p, .bool true, .bool false, .agg #[.int .i64 v, .slice a0 bs.length c0], .int .i64 p, .func (.func 112) #[] #[.pointer (some ⟨w1.heap.size + 1, 0, none⟩), .pointer (some ⟨w1.heap.size + 1 + 1, 0, none⟩)], .int .i64 (x.1 : Int), bv x.2, undef, undef, undef, undef, undef], defers := [] }) ?assign ?body ?done ?stop
  case assign =>
    intro l x W K hK
    dsimp only [encQ, bv]
    gi_wp2
    exact hK
  case body =>
    rintro l pre x W ⟨⟨u, hv, hrow, hnil⟩, hB⟩ hlt
    have hc := hv.cell
    have hpl : (idxs pre).length + 1 ≤ 1100000 := by have := HL.out; simp [idxs]; omega
    have hml : 1100000 ≤ maxLen := by decide
    have hinf := HIF.out
    have hsB := hB.size
    gi_wp2_with (gi_at_builtin; refine wpListIn_append_own _ rfl _ _ 46 rfl W0.heap.size 2 i0 (.int .i64 0) 1 8 Try.underlying46 hinf hz0 hz1 hz2 rfl (by decide) _ _ _ rfl (hrow.alloc _) ⟨W.heap.size, 0, none⟩ 1 1 [.int .i64 (x.1 : Int)] rfl rfl (cell_one_new _ _ _) (by simp [Value.oneCell']) (by omega) (by omega) (by have := hB.size; simp; omega) ?_; intro v' w1' hown' hgrow _; obtain ⟨g', cap', rfl⟩ := ownsRow_succ hown'; obtain ⟨hv1, hv2, hr2, hk2, hb2⟩ := appended2 (n := w.heap.size) (Bp := w1.heap.size + 1 + 1) hv (by decide) hrow (by omega) (by omega) (by omega) (by omega) (by omega) hown' hgrow; have hc1 := hv1.cell; have hf1 := hv1.frozen)
    have e1 : idxs (pre ++ [x]) = idxs pre ++ [.int .i64 (x.1 : Int)] := by simp [idxs]
    exact ⟨hk2.from _, hb2, ⟨_, hv2, by rw [e1]; simpa using hr2, by rw [e1]; simp⟩, hB.trans hb2.1⟩
  case done =>
    rintro D ys W hD rfl ⟨⟨u, hv, hrow, hnil⟩, hB⟩ hK
    have hc := hv.cell
    gi_wp2
    refine ⟨by simp, .inl ⟨_, _, rfl, run_takeDeferred hK, ?_⟩⟩
    exact ⟨_, by simp [results, Try.f35, go_sem], u, rfl, ⟨ownsRow_base (ownsRow_putObj hrow _ hK rfl) (by omega), hnil⟩, (hB0.trans hB).trans (belowK_b (w := w) (Nat.le_refl _) W D _ _ (by omega) hK rfl rfl)⟩
  case stop =>
    rintro D c pre W _ _ h _
    exact h.elim
end Go.Proofs.Ytomcjifklggcnaa

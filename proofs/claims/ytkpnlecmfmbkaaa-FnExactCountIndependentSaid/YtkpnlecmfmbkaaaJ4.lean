
/- The program's ThirdPoint answers as the plain function thirdV. The program's ThirdPoint where it searches. The program's BlocksAt: the indices of the blocks through a point. The model's ThirdPoint answers as the plain function thirdV. The model's ThirdPoint answers as the plain function thirdV. Slices of integers: equality of two that hold the same. The model's points of a block as digits. Sets of points as masks, in the program: bits counted, the mask of a list. -/
import Derived.Test.YtkpnlecmfmbkaaaJ3
import Derived.Maps.AppendAt
import Derived.Deep.QuietTactic
namespace Go.Proofs.Ytkpnlecmfmbkaaa
open Go.RowKit Go.Maps Go.Shelf
theorem Boxed.below {W W' : World} {B n : Nat} {t : TypeId} {v : Value} (h : Boxed W B t v) (hb : Below n W W') (hl : B < n) : Boxed W' B t v := (hb.block B hl).trans h
/-- The world behind the five boxes. -/
def w5 (v : Int) (s : Value) (a b : Int) (w : World) : World := ((((w.alloc (.cells #[.int .i64 v, s] 32)).alloc (.cells #[.int .i64 a] 2)).alloc (.cells #[.int .i64 b] 2)).alloc (.cells #[.int .i64 0] 2)).alloc (.cells #[.int .i64 0] 2)
theorem w5_size (v : Int) (s : Value) (a b : Int) (w : World) : (w5 v s a b w).heap.size = w.heap.size + 1 + 1 + 1 + 1 + 1 := by simp [w5]
theorem w5_below (v : Int) (s : Value) (a b : Int) (w : World) : Below w.heap.size w (w5 v s a b w) :=
  (((((Below.refl _ _).alloc (Nat.le_refl _) _).alloc (by simp) _).alloc (by simp; omega) _).alloc (by simp; omega) _).alloc (by simp; omega) _
theorem boxes5 {v : Int} {s : Value} {a b : Int} {w w1 : World} (h : Below (w5 v s a b w).heap.size (w5 v s a b w) w1) :
    w1.cell? ⟨w.heap.size, 0, none⟩ = some (.int .i64 v) ∧ w1.cell? ⟨w.heap.size, 1, none⟩ = some s ∧ Boxed w1 (w.heap.size + 1) 2 (.int .i64 a) ∧ Boxed w1 (w.heap.size + 1 + 1) 2 (.int .i64 b) ∧
    Boxed w1 (w.heap.size + 1 + 1 + 1) 2 (.int .i64 0) ∧ Boxed w1 (w.heap.size + 1 + 1 + 1 + 1) 2 (.int .i64 0) ∧ w.heap.size + 1 + 1 + 1 + 1 < w1.heap.size ∧ Below w.heap.size w w1 := by
  have hs := h.size
  have hz := w5_size v s a b w
  have past : ∀ j u, (w.alloc (.cells #[.int .i64 v, s] 32)).cell? ⟨w.heap.size, j, none⟩ = some u → (w5 v s a b w).cell? ⟨w.heap.size, j, none⟩ = some u := fun j u e =>
    cell_past (cell_past (cell_past (cell_past e (by simp)) (by simp; omega)) (by simp; omega)) (by simp; omega)
  refine ⟨(h.cell (p := ⟨w.heap.size, 0, none⟩) (by show w.heap.size < _; omega)).trans (past 0 _ (new_at 0 rfl)), (h.cell (p := ⟨w.heap.size, 1, none⟩) (by show w.heap.size < _; omega)).trans (past 1 _ (new_at 1 rfl)), ?_, ?_, ?_, ?_, by omega, (w5_below v s a b w).trans (h.mono (by omega))⟩
  · refine Boxed.below ?_ h (by omega)
    have := (((Boxed.new (w.alloc (.cells #[.int .i64 v, s] 32)) 2 (.int .i64 a)).alloc (.cells #[.int .i64 b] 2)).alloc (.cells #[.int .i64 0] 2)).alloc (.cells #[.int .i64 0] 2)
    simpa [w5] using this
  · refine Boxed.below ?_ h (by omega)
    have := ((Boxed.new ((w.alloc (.cells #[.int .i64 v, s] 32)).alloc (.cells #[.int .i64 a] 2)) 2 (.int .i64 b)).alloc (.cells #[.int .i64 0] 2)).alloc (.cells #[.int .i64 0] 2)
    simpa [w5] using this
  · refine Boxed.below ?_ h (by omega)
    have := (Boxed.new (((w.alloc (.cells #[.int .i64 v, s] 32)).alloc (.cells #[.int .i64 a] 2)).alloc (.cells #[.int .i64 b] 2)) 2 (.int .i64 0)).alloc (.cells #[.int .i64 0] 2)
    simpa [w5] using this
  · refine Boxed.below ?_ h (by omega)
    have := Boxed.new ((((w.alloc (.cells #[.int .i64 v, s] 32)).alloc (.cells #[.int .i64 a] 2)).alloc (.cells #[.int .i64 b] 2)).alloc (.cells #[.int .i64 0] 2)) 2 (.int .i64 0)
    simpa [w5] using this
end Go.Proofs.Ytkpnlecmfmbkaaa

namespace Go.Proofs.Ytkpnlecmfmbkaaa
open Go.RowKit Go.Maps Go.Shelf
attribute [local go_sem] Oper.semAt_some
/-- A block in a box. -/
def B3 (W : World) (B : Nat) (x : Blk) : Prop := W.heap[B]? = some (.cells #[.int .i64 x.a, .int .i64 x.b, .int .i64 x.c] 78 (0, 0))
theorem B3.lt {W : World} {B : Nat} {x : Blk} (h : B3 W B x) : B < W.heap.size := (Array.getElem?_eq_some_iff.1 h).1
theorem B3.cells {W : World} {B : Nat} {x : Blk} (h : B3 W B x) : W.cell? ⟨B, 0, none⟩ = some (.int .i64 x.a) ∧ W.cell? ⟨B, 1, none⟩ = some (.int .i64 x.b) ∧ W.cell? ⟨B, 2, none⟩ = some (.int .i64 x.c) := by
  have : W.heap[B]? = _ := h
  refine ⟨?_, ?_, ?_⟩ <;> simp [World.cell?, this]
theorem B3.own (B : Nat) (x : Blk) : Own (fun (_ : Unit) W => B3 W B x) := fun _ X Y row hs hg hrow =>
  (hg.block B hs.lt (fun e' => by obtain ⟨o, ho, hc⟩ := hrow B e'.symm; rw [show X.heap[B]? = _ from hs] at ho; cases ho; cases hc)).trans hs
/-- The third point as it is reckoned. -/
def thirdW (x : Blk) (a b : Int) : Int := wrap64 (wrap64 (wrap64 (wrap64 (x.a + x.b) + x.c) - a) - b)
theorem upTo_snd (bs : List Blk) {k : Nat} (hk : k ≤ bs.length) : ((List.range k).map fun j => ((j, bs[j]?.getD default) : Nat × Blk)).map (·.2) = bs.take k := by
  apply List.ext_getElem
  · simp [hk]
  · intro i h1 h2
    have : i < bs.length := by simp at h1; omega
    simp [this]
theorem upTo_find (p b : Int) (bs : List Blk) {k : Nat} (hk : k ≤ bs.length) : ((upTo p bs k).find? fun q => hasB q.2 b).map (·.2) = (bs.take k).find? (bothB p b) := by
  rw [← upTo_snd bs hk, List.find?_map]
  unfold upTo
  rw [List.find?_filter]
  congr 2
  funext q
  simp [bothB]
theorem find_done {p b : Int} {bs : List Blk} (h : ∀ q ∈ upTo p bs bs.length, hasB q.2 b = false) : bs.find? (bothB p b) = none := by
  have e := upTo_find p b bs (Nat.le_refl _)
  rw [List.take_length] at e
  rw [← e, List.find?_eq_none.2 (fun q hq => by simp [h q hq])]
  rfl
theorem find_stop {p b : Int} {bs : List Blk} {k : Nat} (hk : k ≤ bs.length) {ini : List (Nat × Blk)} {last : Nat × Blk} (e : upTo p bs k = ini ++ [last]) (h : ∀ q ∈ ini, hasB q.2 b = false) (hl : hasB last.2 b = true) : bs.find? (bothB p b) = some last.2 := by
  have e2 := upTo_find p b bs hk
  rw [e, List.find?_append, List.find?_eq_none.2 (fun q hq => by simp [h q hq])] at e2
  simp [hl] at e2
  rw [← List.take_append_drop k bs, List.find?_append, ← e2]
  rfl
theorem inP_iff {v a : Int} : inP v a = true ↔ 0 ≤ a ∧ a < v := by simp [inP]
theorem thirdW_eq {v a b : Int} {bs : List Blk} {x : Blk} (hi : isSysImpl v bs = true) (hx : bs.find? (bothB a b) = some x) (ha : inP v a = true) (hb : inP v b = true) : thirdW x a b = thirdOf x a b := by
  have hg := sys_good hi x (List.mem_of_find?_eq_some hx)
  have hv := (sys_size hi).2.1
  rw [goodB_iff] at hg
  rw [inP_iff] at ha hb
  unfold thirdW thirdOf wrap64
  omega
theorem KpB.alloc {n₀ Bp : Nat} {W : World} (hn : n₀ ≤ W.heap.size) (o : Obj) : KpB n₀ Bp W (W.alloc o) := ⟨(Below.refl _ _).alloc hn _, fun _ hu => cell_past hu (by obtain ⟨ob, ho, _⟩ := cells_of_cell hu; exact (Array.getElem?_eq_some_iff.1 ho).1)⟩
theorem KpB.drew (n₀ Bp : Nat) (W : World) : KpB n₀ Bp W W.drew := ⟨below_drewN (Below.refl _ _) 1, fun _ hu => cell_drewN hu 1⟩
theorem boxed_drew {W : World} {B : Nat} {t : TypeId} {u : Value} (h : Boxed W B t u) : Boxed W.drew B t u := h
theorem three (W : World) (B : Nat) (x : Blk) (p : Int) (h : B3 W B x) : Calls Try.prog 167 #[.slice (some ⟨B, 0, none⟩) 3 3, .int .i64 p] W (RS (.bool (hasB x p)) W) := by
  obtain ⟨g1, g2, g3⟩ := h.cells
  rw [← inL3]
  exact Contains_any B 0 3 [x.a, x.b, x.c] p W (ints3 g1 g2 g3) (by simp)
end Go.Proofs.Ytkpnlecmfmbkaaa

namespace Go.Proofs.Ytkpnlecmfmbkaaa
open Go.RowKit Go.Maps Go.Shelf
attribute [local go_sem] Oper.semAt_some
theorem infoInt64 : (Try.prog.info? 2).map (fun i => (i.zero, i.size, i.bytes)) = some (some (.int .i64 0), 1, 8) := by kernel_rfl
def idxs (pre : List (Nat × Blk)) : List Value := pre.map fun q => .int .i64 (q.1 : Int)
/-- The value owns a row of these integers, beyond base; it is nil just where there is none. -/
def OwnI (W : World) (base : Nat) (u : Value) (zs : List Value) : Prop := W.ownsRow base 2 1 u zs.length zs ∧ (u = .slice none 0 0 ↔ zs = [])
/-- Returns a fresh slice of integers and a code. -/
def RInts (zs : List Value) (κ : Int) (w : World) (e : Ending) (w' : World) : Prop := ∃ u, e = .returned (.tuple #[u, .int .i64 κ]) ∧ OwnI w' w.heap.size u zs ∧ Below w.heap.size w w'
theorem ownsRow_base {W : World} {base base' : Nat} {e : TypeId} {size : Nat} {v : Value} {k : Nat} {xs : List Value} (h : W.ownsRow base e size v k xs) (hb : base' ≤ base) : W.ownsRow base' e size v k xs := by
  obtain ⟨h1, h2⟩ := h
  refine ⟨h1, ?_⟩
  rcases h2 with h2 | ⟨g, cap, cur, e1, e2, e3⟩
  · exact .inl h2
  · exact .inr ⟨g, cap, cur, e1, by omega, e3⟩
theorem lt_new {w w1 : World} {cs : Array Value} {T : TypeId} (h : Below (w.alloc (.cells cs T)).heap.size (w.alloc (.cells cs T)) w1) : w.heap.size < w1.heap.size := by
  have := h.size
  simp at this
  omega
theorem below_new {w w1 : World} {cs : Array Value} {T : TypeId} (h : Below (w.alloc (.cells cs T)).heap.size (w.alloc (.cells cs T)) w1) : Below w.heap.size w w1 :=
  ((Below.refl _ _).alloc (Nat.le_refl _) _).trans (h.mono (by simp))
theorem appended2 {W w1 : World} {n n₁ B Bp : Nat} {t e : TypeId} {size : Nat} {v v' : Value} {k m : Nat} {xs ys : List Value} {tmp : Obj}
    (hv : Boxed W B t v) (hte : t ≠ e) (hrow : W.ownsRow n₁ e size v k xs) (hn : n ≤ W.heap.size) (hB : n ≤ B) (hnn : n ≤ n₁) (hBp : Bp < n₁) (hne : Bp ≠ B)
    (hown' : w1.ownsRow n₁ e size v' m ys) (hgrow : (W.alloc tmp).grownBy w1 v.ownBlock) :
    Boxed w1 B t v ∧ Boxed (w1.setCell ⟨B, 0, none⟩ v') B t v' ∧ (w1.setCell ⟨B, 0, none⟩ v').ownsRow n₁ e size v' m ys ∧ KeepsOthers W (w1.setCell ⟨B, 0, none⟩ v') ∧ KpB n Bp W (w1.setCell ⟨B, 0, none⟩ v') := by
  have hv1 : Boxed w1 B t v := (hv.alloc tmp).kept hgrow (hv.not_row hte hrow)
  have hge : ∀ j, v.ownBlock = some j → n₁ ≤ j := fun j ej => by
    rcases hrow.2 with ⟨rfl, _⟩ | ⟨g, cap, cur, rfl, hb, _, _⟩
    · simp [Value.ownBlock] at ej
    · obtain rfl : g = j := by simpa [Value.ownBlock] using ej
      exact hb
  refine ⟨hv1, hv1.set v', hown'.kept (grownBy_setCell' w1 B v') (.inr (hv1.not_row hte hown').symm), ?_, ?_, ?_⟩
  · refine ((KeepsOthers.alloc W tmp).trans (KeepsOthers.of_grownBy hgrow fun j o ej hj => ?_)).trans (KeepsOthers.setCell _ _ _)
    rcases (hrow.alloc tmp).2 with ⟨rfl, _⟩ | ⟨g, cap, cur, rfl, _, hgb, _⟩
    · simp [Value.ownBlock] at ej
    · obtain rfl : g = j := by simpa [Value.ownBlock] using ej
      rw [hgb] at hj; cases hj; rfl
  · exact (((Below.refl n W).alloc hn tmp).grown hgrow (by simp; omega) fun j ej => Nat.le_trans hnn (hge j ej)).setCell (p := ⟨B, 0, none⟩) hB v'
  · intro u hu
    have hlt : Bp < W.heap.size := by obtain ⟨ob, ho, _⟩ := cells_of_cell hu; exact (Array.getElem?_eq_some_iff.1 ho).1
    have h1 := cell_past (ob := tmp) hu hlt
    have h2 : w1.cell? ⟨Bp, 0, none⟩ = some u := (World.cell?_of_block (hgrow.block Bp (by simp; omega) (fun e' => by have := hge Bp e'.symm; omega))).trans h1
    exact (World.cell?_of_block ((grownBy_setCell' w1 B v').block Bp (Nat.lt_of_lt_of_le (by simp; omega) hgrow.size) (fun e' => hne (by cases e'; rfl)))).trans h2
end Go.Proofs.Ytkpnlecmfmbkaaa

namespace Go.Proofs.Ytkpnlecmfmbkaaa
open Go.RowKit Go.Maps
set_option maxRecDepth 100000 in
theorem l01With_any (x : Blk) (p : Int) (w : World) : Calls Try.prog 96 #[bv x, .int .i64 p] w (RV (.bool (hasB x p)) w) := by
  obtain ⟨a, b, c⟩ := x
  unfold bv
  dsimp only
  by_cases h1 : a = p
  · have e1 : (a == p) = true := by simp [h1]
    have H1 := Lib.hid h1
    clear h1
    go_enter Try.func96, Try.ntmps96
    go_wp2
    go_ret
    exact RV_of (bool_eq (by simp [hasB, H1.out])) ((Below.refl _ _).alloc (Nat.le_refl _) _)
  · have e1 : (a == p) = false := by simp [h1]
    have H1 := Lib.hid h1
    clear h1
    by_cases h2 : b = p
    · have e2 : (b == p) = true := by simp [h2]
      have H2 := Lib.hid h2
      clear h2
      go_enter Try.func96, Try.ntmps96
      go_wp2
      go_ret
      exact RV_of (bool_eq (by simp [hasB, H2.out])) ((Below.refl _ _).alloc (Nat.le_refl _) _)
    · have e2 : (b == p) = false := by simp [h2]
      have H2 := Lib.hid h2
      clear h2
      go_enter Try.func96, Try.ntmps96
      go_wp2
      go_ret
      exact RV_of (bool_eq (by rw [Bool.eq_iff_iff]; simp [hasB, H1.out, H2.out])) ((Below.refl _ _).alloc (Nat.le_refl _) _)

set_option maxRecDepth 100000 in
theorem l01Third_any (v : Int) (s : Value) (bs : List Blk) (a b : Int) (w : World) (h : SB w s bs) (hg : ∀ x ∈ bs, goodB v x = true) (hv : v ≤ 15) (ha : 0 ≤ a) (ha' : a ≤ 15) (hb : 0 ≤ b) (hb' : b ≤ 15) :
    Calls Try.prog 159 #[.agg #[.int .i64 v, s], .int .i64 a, .int .i64 b] w (RV (.int .i64 (third1 bs a b)) w) := by
  have hs := h.slice
  have H := Lib.hid h
  have HG := Lib.hid hg
  have hl := h.2.1
  clear h hg
  obtain ⟨a0, c0, rfl⟩ := hs
  go_enter Try.func159, Try.ntmps159
  go_wp2
  go_loopw [7] (fun i wr => ∃ k : Nat, k ≤ bs.length ∧ i = .int .i64 k ∧ Below (w.heap.size + 1) (w.alloc (.cells #[.int .i64 v, .slice a0 bs.length c0] 32)) wr ∧ Hid ((bs.take k).find? (bothB a b) = none)) (fun i _ => bs.length - (intOf i).toNat)
  case atStart => exact ⟨0, Nat.zero_le _, rfl, Below.refl _ _, Lib.hid (by simp)⟩
  case round =>
    obtain ⟨k, hk, rfl, hB, HN⟩ := hrel
    have hz := hB.size
    simp at hz
    have p1 : wr.cell? ⟨w.heap.size, 1, none⟩ = some (.slice a0 bs.length c0) := by rw [hB.cell (by simp)]; simp
    have hBw : Below w.heap.size w wr := ((Below.refl _ _).alloc (Nat.le_refl _) _).trans (hB.mono (by omega))
    by_cases hkl : k < bs.length
    · rcases H.out.2.2 with ⟨_, _, _, hnil⟩ | ⟨bb, off, cap, hval, hblt, hbl⟩
      · rw [hnil] at hkl; simp at hkl
      · simp at hval
        obtain ⟨rfl, rfl⟩ := hval
        obtain ⟨x, hx, ex, x1, x2, x3⟩ := blks_at (hbl.below hBw hblt) hkl
        have hgx := HG.out x hx
        rw [goodB_iff] at hgx
        obtain ⟨b1, b2, b3, b4⟩ := hgx
        have hn := find_next hkl ex HN.out
        have hw1 := l01With_any x a
        have hw2 := l01With_any x b
        have hth : third1 bs a b = (match bs.find? (bothB a b) with | some x => thirdOf x a b | none => -1) := rfl
        have hbo : bothB a b x = (hasB x a && hasB x b) := rfl
        have htx : thirdOf x a b = x.a + x.b + x.c - a - b := rfl
        obtain ⟨p, q, r⟩ := x
        dsimp only at x1 x2 x3 b1 b2 b3 b4 htx
        have g0 : (0 : Int) ≤ (k : Int) := by omega
        have g1 : (k : Int) < (bs.length : Int) := by omega
        have HNX := Lib.hid hn
        have HTH := Lib.hid hth
        have HTX := Lib.hid htx
        clear hbl hx ex hn hth htx
        cases h1 : hasB ⟨p, q, r⟩ a with
        | false =>
          rw [h1] at hw1 hbo
          have HW1 := Lib.hid hw1
          have HBO := Lib.hid hbo
          clear hw1 hw2 h1 hbo
          go_wp2_with (go_at_call 96; refine (HW1.out _).mono ?_; rintro e w1 ⟨rfl, hb1⟩)
          go_roundw
          case rel => exact ⟨k + 1, by omega, by go_num, (hB.alloc (by omega) _).trans (hb1.mono (by simp; omega)), Lib.hid (HNX.out.2 (by rw [HBO.out]; rfl))⟩
          case measure => simp [intOf]; omega
        | true =>
          rw [h1] at hw1 hbo
          have HW1 := Lib.hid hw1
          clear hw1 h1
          cases h2 : hasB ⟨p, q, r⟩ b with
          | false =>
            rw [h2] at hw2 hbo
            have HW2 := Lib.hid hw2
            have HBO := Lib.hid hbo
            clear hw2 h2 hbo
            go_wp2_with fail
            refine (HW1.out _).mono ?_
            rintro e w1 ⟨rfl, hb1⟩
            have d1 := cell_new hb1 0 rfl
            have d2 := cell_new hb1 1 rfl
            have d3 := cell_new hb1 2 rfl
            have z1 := hb1.size
            simp at z1
            go_wp2_with (go_at_call 96; refine (HW2.out _).mono ?_; rintro e w2 ⟨rfl, hb2⟩)
            go_roundw
            case rel => exact ⟨k + 1, by omega, by go_num, ((hB.alloc (by omega) _).trans (hb1.mono (by simp; omega))).trans (hb2.mono (by omega)), Lib.hid (HNX.out.2 (by rw [HBO.out]; rfl))⟩
            case measure => simp [intOf]; omega
          | true =>
            rw [h2] at hw2 hbo
            have HW2 := Lib.hid hw2
            have HBO := Lib.hid hbo
            clear hw2 h2 hbo
            go_wp2_with fail
            refine (HW1.out _).mono ?_
            rintro e w1 ⟨rfl, hb1⟩
            have d1 := cell_new hb1 0 rfl
            have d2 := cell_new hb1 1 rfl
            have d3 := cell_new hb1 2 rfl
            have z1 := hb1.size
            simp at z1
            go_wp2_with (go_at_call 96; refine (HW2.out _).mono ?_; rintro e w2 ⟨rfl, hb2⟩; have e1 := (hb2.cell (p := ⟨wr.heap.size, 0, none⟩) (by show wr.heap.size < _; omega)).trans d1; have e2 := (hb2.cell (p := ⟨wr.heap.size, 1, none⟩) (by show wr.heap.size < _; omega)).trans d2; have e3 := (hb2.cell (p := ⟨wr.heap.size, 2, none⟩) (by show wr.heap.size < _; omega)).trans d3)
            go_ret
            refine RV_of (int_eq ?_) (((hBw.alloc (by omega) _).trans (hb1.mono (by simp; omega))).trans (hb2.mono (by omega)))
            rw [HTH.out, HNX.out.1 (by rw [HBO.out]; rfl)]
            exact HTX.out.symm
    · go_wp2
      go_ret
      have e : k = bs.length := by omega
      subst e
      refine RV_of (int_eq ?_) hBw
      have := HN.out
      rw [List.take_length] at this
      unfold third1
      rw [this]
end Go.Proofs.Ytkpnlecmfmbkaaa

namespace Go.Proofs.Ytkpnlecmfmbkaaa
open Go.RowKit Go.Maps
def pointsCode (v : Int) (bs : List Blk) (ps : List Int) : Int := if isSysImpl v bs then (if ps.all (inP v) then 0 else 2) else 1
theorem RS.quiet2 {P : Program} {f : FuncId} {args : Array Value} {w : World} {a n : Nat} {v : Value} (h : Calls P f args (w.drewN (a + n)) (RS v (w.drewN (a + n)))) :
    Calls P f args (w.drewN (a + n)) fun e w'' => e = .returned v ∧ ∃ m, w'' = w.drewN (a + m) :=
  h.mono fun _ _ ⟨he, hm⟩ => ⟨he, n, hm.symm⟩
theorem Ints.below {w w' : World} {b off B : Nat} {zs : List Int} (h : Ints w b off zs) (hb : Below B w w') (hl : b < B) : Ints w' b off zs := fun k hk => (hb.cell (p := ⟨b, off + k, none⟩) hl).trans (h k hk)
set_option maxRecDepth 100000 in
theorem l01Points_any (v : Int) (s : Value) (bs : List Blk) (b off cap : Nat) (ps : List Int) (w : World) (h : SB w s bs) (hps : Ints w b off ps) (hb : b < w.heap.size) (hpl : ps.length ≤ 1100000) :
    Calls Try.prog 179 #[.agg #[.int .i64 v, s], .slice (some ⟨b, off, none⟩) ps.length cap] w (RV (.int .i64 (pointsCode v bs ps)) w) := by
  have hs := h.slice
  have hc := l01Is_any v s bs (w.alloc (.cells #[.int .i64 v, s] 32)) (h.below ((Below.refl _ _).alloc (Nat.le_refl _) _) (Nat.le_refl _))
  have HPS := Lib.hid hps
  clear h hps
  obtain ⟨a0, c0, rfl⟩ := hs
  cases hi : isSysImpl v bs with
  | false =>
    rw [hi] at hc
    have HC := Lib.hid hc
    have hp : pointsCode v bs ps = 1 := by simp [pointsCode, hi]
    rw [hp]
    clear hc hi hp
    go_enter Try.func179, Try.ntmps179
    go_wp2_with (go_at_call 92; refine HC.out.mono ?_; rintro e w1 ⟨rfl, hb1⟩)
    go_ret
    exact RV_of rfl (((Below.refl _ _).alloc (Nat.le_refl _) _).trans (hb1.mono (by simp)))
  | true =>
    rw [hi] at hc
    have HC := Lib.hid hc
    obtain ⟨v3, v15, _⟩ := sys_size hi
    have hp : pointsCode v bs ps = if ps.all (inP v) then 0 else 2 := by simp [pointsCode, hi]
    have HP := Lib.hid hp
    clear hc hi hp
    go_enter Try.func179, Try.ntmps179
    go_wp2_with fail
    refine HC.out.mono ?_
    rintro e w1 ⟨rfl, hb1⟩
    have p0 := cell_new hb1 0 rfl
    have z1 := hb1.size
    simp at z1
    have hbw := ((Below.refl w.heap.size w).alloc (Nat.le_refl _) (.cells #[.int .i64 v, .slice a0 bs.length c0] 32)).trans (hb1.mono (by simp))
    have HI1 := Lib.hid (HPS.out.below hbw hb)
    clear hb1 HPS HC
    go_wp2_with fail
    go_loopw [5] (fun i wr => ∃ k : Nat, k ≤ ps.length ∧ i = .int .i64 k ∧ (∃ n, wr = w1.drewN n) ∧ Hid ((ps.take k).all (inP v) = true)) (fun i _ => ps.length - (intOf i).toNat)
    case atStart => exact ⟨0, Nat.zero_le _, rfl, ⟨0, rfl⟩, Lib.hid (by simp)⟩
    case round =>
      obtain ⟨k, hk, rfl, ⟨n, rfl⟩, HA⟩ := hrel
      by_cases hkl : k < ps.length
      · have hx := HI1.out k hkl
        obtain ⟨x, hxe⟩ : ∃ x, x = ps[k]?.getD 0 := ⟨_, rfl⟩
        rw [← hxe] at hx
        have hnx : (ps.take (k + 1)).all (inP v) = ((ps.take k).all (inP v) && inP v x) := by
          rw [take_next hkl, List.all_append, hxe, List.getElem?_eq_getElem hkl]
          simp only [Option.getD_some, List.all_cons, List.all_nil, Bool.and_true]
        have hall : inP v x = false → ps.all (inP v) = false := fun hf => by
          rw [List.all_eq_false]
          exact ⟨ps[k], List.getElem_mem hkl, by rw [hxe] at hf; simpa [hkl] using hf⟩
        have HNX := Lib.hid hnx
        have HALL := Lib.hid hall
        have g0 : (0 : Int) ≤ (k : Int) := by omega
        have g1 : (k : Int) < (ps.length : Int) := by omega
        have hc2 := fun W => l01In_any x 0 (v - 1) W
        have he : (decide (0 ≤ x) && decide (x ≤ v - 1)) = inP v x := by
          unfold inP
          rw [Bool.eq_iff_iff]
          simp
          omega
        rw [he] at hc2
        clear hnx hall hxe he
        cases hp : inP v x with
        | false =>
          rw [hp] at hc2
          have HC2 := Lib.hid hc2
          have HPX := Lib.hid hp
          clear hc2 hp
          go_wp2
          go_quiet ((go_at_call 125; exact RS.quiet2 (HC2.out _)))
          go_wp2
          go_ret
          exact RV_of (int_eq (by rw [HP.out, HALL.out HPX.out]; rfl)) (below_drewN (below_drewN hbw _) _)
        | true =>
          rw [hp] at hc2
          have HC2 := Lib.hid hc2
          have HPX := Lib.hid hp
          clear hc2 hp
          go_wp2
          go_quiet ((go_at_call 125; exact RS.quiet2 (HC2.out _)))
          go_wp2
          go_roundw
          case rel => exact ⟨k + 1, by omega, by go_num, ⟨_, rfl⟩, Lib.hid (by rw [HNX.out, HA.out, HPX.out]; rfl)⟩
          case measure => simp [intOf]; omega
      · go_wp2
        go_ret
        have e : k = ps.length := by omega
        subst e
        have := HA.out
        rw [List.take_length] at this
        exact RV_of (int_eq (by rw [HP.out, this]; rfl)) (below_drewN hbw _)

theorem ints2 {w : World} {b : Nat} {x y : Int} (h0 : w.cell? ⟨b, 0, none⟩ = some (.int .i64 x)) (h1 : w.cell? ⟨b, 1, none⟩ = some (.int .i64 y)) : Ints w b 0 [x, y] := by
  intro k hk
  match k, hk with
  | 0, _ => simpa using h0
  | 1, _ => simpa using h1
end Go.Proofs.Ytkpnlecmfmbkaaa

namespace Go.Proofs.Ytkpnlecmfmbkaaa
open Go.RowKit Go.Maps
/-- The value is a slice of just these integers. -/
def IB (w : World) (s : Value) (zs : List Int) : Prop :=
  zs.length ≤ 1100000 ∧ ((∃ a c, s = .slice a 0 c ∧ zs = []) ∨ ∃ b off cap, s = .slice (some ⟨b, off, none⟩) zs.length cap ∧ b < w.heap.size ∧ Ints w b off zs)
theorem IB.below {w w' : World} {s : Value} {zs : List Int} (h : IB w s zs) {B : Nat} (hb : Below B w w') (hB : w.heap.size ≤ B) : IB w' s zs := by
  obtain ⟨h1, h2⟩ := h
  refine ⟨h1, ?_⟩
  rcases h2 with h2 | ⟨b, off, cap, rfl, hl, hr⟩
  · exact .inl h2
  · exact .inr ⟨b, off, cap, rfl, by have := hb.size; omega, hr.below hb (by omega)⟩
theorem OwnI.ib {W : World} {base : Nat} {u : Value} {zs : List Int} (h : OwnI W base u (zs.map (Value.int .i64))) (hl : zs.length ≤ 1100000) : IB W u zs := by
  obtain ⟨⟨_, h | ⟨g, cap, cur, rfl, hb, hcur, hn, hc, hsz, hx⟩⟩, _⟩ := h
  · obtain ⟨rfl, h0⟩ := h
    refine ⟨hl, .inl ⟨_, _, rfl, ?_⟩⟩
    rw [List.length_map] at h0
    exact List.length_eq_zero_iff.1 h0
  · refine ⟨hl, .inr ⟨g, 0, cap, by rw [List.length_map], (Array.getElem?_eq_some_iff.1 hcur).1, fun k hk => ?_⟩⟩
    have e : (zs.map (Value.int .i64))[k]? = some (.int .i64 (zs[k]?.getD 0)) := by simp [hk]
    rw [← hx, List.getElem?_take_of_lt (by rw [List.length_map]; omega)] at e
    rw [Nat.zero_add]
    simp [World.cell?, hcur]
    simpa using e
set_option maxRecDepth 100000 in
theorem eqInt64S_same (s t : Value) (zs : List Int) (w : World) (h : IB w s zs) (k : IB w t zs) : Calls Try.prog 29 #[s, t] w (RV (.bool true) w) := by
  have hlen := h.1
  rcases h.2 with ⟨a0, c0, rfl, rfl⟩ | ⟨b, off, cap, rfl, hb, hB⟩
  · rcases k.2 with ⟨a1, c1, rfl, _⟩ | ⟨b', off', cap', rfl, hb', hB'⟩
    all_goals
      clear hlen h k
      go_enter Try.func29, Try.ntmps29
      go_wp2
      refine wp_loop_rounds 1 ?_
      rw [rounds_succ]
      go_wp2
      go_ret
      exact RV_of rfl (Below.refl _ _)
  · by_cases h0 : zs.length = 0
    · rcases k.2 with ⟨a1, c1, rfl, rfl⟩ | ⟨b', off', cap', rfl, hb', hB'⟩
      all_goals
        try rw [h0]
        clear hlen h k
        go_enter Try.func29, Try.ntmps29
        go_wp2
        refine wp_loop_rounds 1 ?_
        rw [rounds_succ]
        go_wp2
        go_ret
        exact RV_of rfl (Below.refl _ _)
    · rcases k.2 with ⟨a1, c1, rfl, rfl⟩ | ⟨b', off', cap', rfl, hb', hB'⟩
      · exact absurd rfl h0
      · have HB := Lib.hid hB
        have HB' := Lib.hid hB'
        clear hB hB' h k h0
        have hne : (((zs.length : Nat) : Int) != (zs.length : Nat)) = false := by simp
        go_enter Try.func29, Try.ntmps29
        go_wp2
        go_loopw [5] (fun i wr => ∃ k : Nat, k ≤ zs.length ∧ i = .int .i64 k ∧ Below w.heap.size w wr) (fun i _ => zs.length - (intOf i).toNat)
        case atStart => exact ⟨0, Nat.zero_le _, rfl, Below.refl _ _⟩
        case round =>
          obtain ⟨k, hk, rfl, hBw⟩ := hrel
          by_cases hkl : k < zs.length
          · have q1 := (hBw.cell (p := ⟨b, off + k, none⟩) hb).trans (HB.out k hkl)
            have q2 := (hBw.cell (p := ⟨b', off' + k, none⟩) hb').trans (HB'.out k hkl)
            obtain ⟨z, hz⟩ : ∃ z, z = zs[k]?.getD 0 := ⟨_, rfl⟩
            rw [← hz] at q1 q2
            clear hz
            have r1 := cell_regrown q1
            have r2 := cell_regrown q2
            clear q1 q2
            have g0 : (0 : Int) ≤ (k : Int) := by omega
            have g1 : (k : Int) < (zs.length : Int) := by omega
            have hzz : (z != z) = false := by simp
            go_wp2
            refine wp_region_quiet_below (by kernel_rfl) (by kernel_rfl) ?_
            repeat (go_big_quiet_step (fail))
            refine wpQuiet_nil ?_
            intro _ hw'
            obtain ⟨⟨dq, osq⟩, hw''⟩ := hw'
            subst hw''
            go_wp2
            go_roundw
            case rel => exact ⟨k + 1, by omega, by go_num, hBw.trans ((below_regrown _ dq osq).mono hBw.size)⟩
            case measure => simp [intOf]; omega
          · go_wp2
            go_ret
            exact RV_of rfl hBw
end Go.Proofs.Ytkpnlecmfmbkaaa

namespace Go.Proofs.Ytkpnlecmfmbkaaa
open Go.RowKit Go.Maps
theorem wrap_pow15 {t : Int} (h1 : 0 ≤ t) (h7 : t < 15) : IntKind.i64.wrap (2 ^ t.toNat) = ((2 ^ t.toNat : Nat) : Int) ∧ IntKind.u64.wrap t = t ∧ ((2 ^ t.toNat : Nat) : Int) ≤ 16384 := by
  have : t = 0 ∨ t = 1 ∨ t = 2 ∨ t = 3 ∨ t = 4 ∨ t = 5 ∨ t = 6 ∨ t = 7 ∨ t = 8 ∨ t = 9 ∨ t = 10 ∨ t = 11 ∨ t = 12 ∨ t = 13 ∨ t = 14 := by omega
  rcases this with rfl | rfl | rfl | rfl | rfl | rfl | rfl | rfl | rfl | rfl | rfl | rfl | rfl | rfl | rfl <;> decide
theorem l05Bits_any (x : Blk) (hx : okB x) (w : World) : Calls Try.prog 180 #[bv x] w (RV (.int .i64 (mkB x : Int)) w) := by
  obtain ⟨a, b, c⟩ := x
  obtain ⟨h1, h2, h3, h4⟩ := hx
  dsimp only at h1 h2 h3 h4
  obtain ⟨pa, qa, ra⟩ := wrap_pow15 (t := a) (by omega) (by omega)
  obtain ⟨pb, qb, rb⟩ := wrap_pow15 (t := b) (by omega) (by omega)
  obtain ⟨pc, qc, rc⟩ := wrap_pow15 (t := c) (by omega) (by omega)
  have HV := Lib.hid (show ((mkB ⟨a, b, c⟩ : Nat) : Int) = ((2 ^ a.toNat : Nat) : Int) + ((2 ^ b.toNat : Nat) : Int) + ((2 ^ c.toNat : Nat) : Int) by simp [mkB])
  have ga : 0 ≤ ((2 ^ a.toNat : Nat) : Int) := Int.natCast_nonneg _
  have gb : 0 ≤ ((2 ^ b.toNat : Nat) : Int) := Int.natCast_nonneg _
  have gc : 0 ≤ ((2 ^ c.toNat : Nat) : Int) := Int.natCast_nonneg _
  obtain ⟨A, hA⟩ : ∃ A, A = ((2 ^ a.toNat : Nat) : Int) := ⟨_, rfl⟩
  obtain ⟨B, hB⟩ : ∃ A, A = ((2 ^ b.toNat : Nat) : Int) := ⟨_, rfl⟩
  obtain ⟨C, hC⟩ : ∃ A, A = ((2 ^ c.toNat : Nat) : Int) := ⟨_, rfl⟩
  rw [← hA] at pa ra ga HV
  rw [← hB] at pb rb gb HV
  rw [← hC] at pc rc gc HV
  have b0 : 0 ≤ b := by omega
  have c0 : 0 ≤ c := by omega
  have a64 : a ≤ 64 := by omega
  have b64 : b ≤ 64 := by omega
  have c64 : c ≤ 64 := by omega
  clear hA hB hC h2 h3 h4
  unfold bv
  dsimp only
  go_enter Try.func180, Try.ntmps180
  go_wp2
  go_ret
  exact RV_of (int_eq (by rw [HV.out])) ((Below.refl _ _).alloc (Nat.le_refl _) _)
theorem sys_ok {v : Int} {bs : List Blk} (h : isSysImpl v bs = true) : ∀ x ∈ bs, okB x := fun x hx => by
  have hs := (sys_size h).2.1
  have := goodB_iff.1 (sys_good h x hx)
  exact ⟨this.1, this.2.1, this.2.2.1, by omega⟩
end Go.Proofs.Ytkpnlecmfmbkaaa

namespace Go.Proofs.Ytkpnlecmfmbkaaa
open Go.RowKit Go.Maps
theorem pop8_ones {b : Nat} (h : b < 256) : Lib.pop8 (b : Int) = (Lib.onesCount b : Int) ∧ Lib.onesCount b ≤ 8 := ⟨Lib.pop8_eq ⟨b, h⟩, Lib.onesCount_le8 ⟨b, h⟩⟩
theorem OnesCount16_any (n : Nat) (h : n < 32768) (w : World) : Calls Try.prog 228 #[.int .u16 n] w (RV (.int .i64 (pc n)) w) := by
  have HV := Lib.hid (pc_tab h)
  have e1 := pop8_ones (b := n / 256) (by omega)
  have e2 := pop8_ones (b := n % 256) (by omega)
  go_enter Try.func228, Try.ntmps228
  have i1 : 0 ≤ (n : Int) / 256 := by omega
  have i2 : (n : Int) / 256 ≤ 255 := by omega
  have i3 : 0 ≤ (n : Int) % 256 := by omega
  have i4 : (n : Int) % 256 ≤ 255 := by omega
  have hb : bits .and .u16 (n : Int) 255 = (n : Int) % 256 := by
    have h1 := (bits16 h (y := 255) (by decide)).1
    rw [show ((255 : Nat) : Int) = 255 by rfl] at h1
    rw [h1, show n &&& 255 = n % 256 from Nat.and_two_pow_sub_one_eq_mod n 8]
    omega
  go_wp2
  conv in (occs := *) (Value.string _) => all_goals change Value.string Lib.pop8tab
  go_quiet (fail)
  go_wp2
  go_ret
  refine RV_of (int_eq ?_) (below_drewN (Below.refl _ _) _)
  rw [HV.out, show (n : Int) / 256 = ((n / 256 : Nat) : Int) by omega, show (n : Int) % 256 = ((n % 256 : Nat) : Int) by omega, e1.1, e2.1]
  omega
theorem size_any (n : Nat) (h : n < 32768) (w : World) : Calls Try.prog 183 #[.int .u16 n] w (RV (.int .i64 (pc n)) w) := by
  have HC := Lib.hid (OnesCount16_any n h w)
  obtain ⟨p, hp⟩ : ∃ p, p = pc n := ⟨_, rfl⟩
  rw [← hp] at HC ⊢
  clear hp
  go_enter Try.func183, Try.ntmps183
  go_wp2_with fail
  refine HC.out.mono ?_
  rintro e w1 ⟨rfl, hb1⟩
  go_wp2
  go_ret
  exact RV_of rfl hb1
theorem wrap_powu {t : Int} (h1 : 0 ≤ t) (h7 : t < 15) : IntKind.u16.wrap (2 ^ (14 - t).toNat) = ((2 ^ (14 - t).toNat : Nat) : Int) ∧ 2 ^ (14 - t).toNat < 32768 := by
  have : t = 0 ∨ t = 1 ∨ t = 2 ∨ t = 3 ∨ t = 4 ∨ t = 5 ∨ t = 6 ∨ t = 7 ∨ t = 8 ∨ t = 9 ∨ t = 10 ∨ t = 11 ∨ t = 12 ∨ t = 13 ∨ t = 14 := by omega
  rcases this with rfl | rfl | rfl | rfl | rfl | rfl | rfl | rfl | rfl | rfl | rfl | rfl | rfl | rfl | rfl <;> decide
theorem mskR_take {zs : List Int} {k : Nat} (hk : k < zs.length) : mskR (zs.take (k + 1)) = mskR (zs.take k) ||| 2 ^ (14 - zs[k]?.getD 0).toNat := by
  unfold mskR
  rw [List.take_succ_eq_append_getElem hk, List.map_append, List.map_singleton, msk_snoc]
  simp [rv, hk]
theorem in_take {zs : List Int} {n : Int} (h : ∀ z ∈ zs, 0 ≤ z ∧ z < n) (k : Nat) : ∀ z ∈ zs.take k, 0 ≤ z ∧ z < n := fun z hz => h z (List.mem_of_mem_take hz)
set_option maxRecDepth 100000 in
theorem setOfPoints_any (s : Value) (zs : List Int) (w : World) (h : IB w s zs) (hz : ∀ z ∈ zs, 0 ≤ z ∧ z < 15) : Calls Try.prog 111 #[s] w (RS (.int .u16 (mskR zs)) w) := by
  obtain ⟨hl, h⟩ := h
  have HZ := Lib.hid hz
  clear hz
  have hform : ∃ a c, s = .slice a zs.length c := by rcases h with ⟨a, c, rfl, rfl⟩ | ⟨b, off, cap, rfl, _⟩ <;> exact ⟨_, _, rfl⟩
  have HI := Lib.hid h
  clear h
  obtain ⟨a, c, rfl⟩ := hform
  go_enter Try.func111, Try.ntmps111
  go_wp2
  go_loop [3, 8] (fun m i => ∃ k : Nat, k ≤ zs.length ∧ i = .int .i64 k ∧ m = .int .u16 (mskR (zs.take k))) (fun _ i => zs.length - (intOf i).toNat)
  case atStart => exact ⟨0, Nat.zero_le _, rfl, rfl⟩
  case round =>
    obtain ⟨k, hk, rfl, rfl⟩ := hrel
    by_cases hkl : k < zs.length
    · rcases HI.out with ⟨_, _, _, hnil⟩ | ⟨b, off, cap, hval, hlt, hI⟩
      · rw [hnil] at hkl; simp at hkl
      · simp at hval
        obtain ⟨rfl, rfl⟩ := hval
        have c0 := hI k hkl
        have HT := Lib.hid (mskR_take hkl)
        have hzz := HZ.out (zs[k]?.getD 0) (by simp [hkl])
        have hml := mskR_lt (in_take HZ.out k)
        obtain ⟨z, hzq⟩ : ∃ z, z = zs[k]?.getD 0 := ⟨_, rfl⟩
        rw [← hzq] at c0 HT hzz
        obtain ⟨z0, z15⟩ := hzz
        obtain ⟨q1, q2⟩ := wrap_powu z0 z15
        obtain ⟨m, hm⟩ : ∃ m, m = mskR (zs.take k) := ⟨_, rfl⟩
        rw [← hm] at HT hml ⊢
        have q3 := (bits16 hml q2).2
        obtain ⟨P, hP⟩ : ∃ P, P = 2 ^ (14 - z).toNat := ⟨_, rfl⟩
        rw [← hP] at q2 q3 HT
        rw [show ((2 ^ (14 - z).toNat : Nat) : Int) = (P : Int) by rw [hP]] at q1
        have g0 : (0 : Int) ≤ (k : Int) := by omega
        have g1 : (k : Int) < (zs.length : Int) := by omega
        have s0 : 0 ≤ 14 - z := by omega
        have s1 : 14 - z ≤ 64 := by omega
        clear hzq hI hm hP
        go_wp2
        go_round
        case rel => exact ⟨k + 1, by omega, by go_num, by rw [HT.out]⟩
        case measure => simp [intOf]; omega
    · have e : k = zs.length := by omega
      have HE := Lib.hid (show zs.take k = zs by rw [e, List.take_length])
      clear e
      go_wp2
      go_ret
      exact RS_of (int_eq (by rw [HE.out]))
end Go.Proofs.Ytkpnlecmfmbkaaa

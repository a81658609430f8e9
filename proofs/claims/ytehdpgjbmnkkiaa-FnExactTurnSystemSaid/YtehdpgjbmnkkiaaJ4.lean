
/- The program's ThirdPoint where it searches. The program's BlocksAt: the indices of the blocks through a point. The model's ThirdPoint answers as the plain function thirdV. The model's ThirdPoint answers as the plain function thirdV. Slices of integers: equality of two that hold the same. The laws' marks in systems. The contract of slices.Sort, laid at []int64. The program's blockFrom: three numbers in order. The program's isRenumbering. -/
import Derived.Test.YtehdpgjbmnkkiaaJ3
import Derived.Maps.AppendAt
import Derived.Shelf.SortM.Plain
import Derived.Ground.SlgmProg
import Derived.Test.YtehdpgjbmnkkiaaProg
namespace Go.Proofs.Ytehdpgjbmnkkiaa
open Go.RowKit Go.Maps Go.Shelf
attribute [local go_sem] Oper.semAt_some
/-- A block in a box. -/
def B3 (W : World) (B : Nat) (x : Blk) : Prop := W.heap[B]? = some (.cells #[.int .i64 x.a, .int .i64 x.b, .int .i64 x.c] 93 (0, 0))
theorem B3.lt {W : World} {B : Nat} {x : Blk} (h : B3 W B x) : B < W.heap.size := (Array.getElem?_eq_some_iff.1 h).1
theorem B3.cells {W : World} {B : Nat} {x : Blk} (h : B3 W B x) : W.cell? ⟨B, 0, none⟩ = some (.int .i64 x.a) ∧ W.cell? ⟨B, 1, none⟩ = some (.int .i64 x.b) ∧ W.cell? ⟨B, 2, none⟩ = some (.int .i64 x.c) := by
  have : W.heap[B]? = _ := h
  refine ⟨?_, ?_, ?_⟩ <;> simp [World.cell?, this]
theorem B3.own (B : Nat) (x : Blk) : Own (fun (_ : Unit) W => B3 W B x) := fun _ X Y row hs hg hrow =>
  (hg.block B hs.lt (fun e' => by obtain ⟨o, ho, hc⟩ := hrow B e'.symm; rw [show X.heap[B]? = _ from hs] at ho; cases ho; cases hc)).trans hs
/-- The third point as it is reckoned. -/
def thirdW (x : Blk) (a b : Int) : Int := wrap64 (wrap64 (wrap64 (wrap64 (x.a + x.b) + x.c) - a) - b)
theorem upTo_snd (bs : List Blk) {k : Nat} (hk : k ≤ bs.length) : ((List.range k).map fun j => ((j, bs[j]?.getD default) : Nat × Blk)).map (·.2) = bs.take k := by
  apply List.ext_getElem
  · simp [hk]
  · intro i h1 h2
    have : i < bs.length := by simp at h1; omega
    simp [this]
theorem upTo_find (p b : Int) (bs : List Blk) {k : Nat} (hk : k ≤ bs.length) : ((upTo p bs k).find? fun q => hasB q.2 b).map (·.2) = (bs.take k).find? (bothB p b) := by
  rw [← upTo_snd bs hk, List.find?_map]
  unfold upTo
  rw [List.find?_filter]
  congr 2
  funext q
  simp [bothB]
theorem find_done {p b : Int} {bs : List Blk} (h : ∀ q ∈ upTo p bs bs.length, hasB q.2 b = false) : bs.find? (bothB p b) = none := by
  have e := upTo_find p b bs (Nat.le_refl _)
  rw [List.take_length] at e
  rw [← e, List.find?_eq_none.2 (fun q hq => by simp [h q hq])]
  rfl
theorem find_stop {p b : Int} {bs : List Blk} {k : Nat} (hk : k ≤ bs.length) {ini : List (Nat × Blk)} {last : Nat × Blk} (e : upTo p bs k = ini ++ [last]) (h : ∀ q ∈ ini, hasB q.2 b = false) (hl : hasB last.2 b = true) : bs.find? (bothB p b) = some last.2 := by
  have e2 := upTo_find p b bs hk
  rw [e, List.find?_append, List.find?_eq_none.2 (fun q hq => by simp [h q hq])] at e2
  simp [hl] at e2
  rw [← List.take_append_drop k bs, List.find?_append, ← e2]
  rfl
theorem inP_iff {v a : Int} : inP v a = true ↔ 0 ≤ a ∧ a < v := by simp [inP]
theorem thirdW_eq {v a b : Int} {bs : List Blk} {x : Blk} (hi : isSysImpl v bs = true) (hx : bs.find? (bothB a b) = some x) (ha : inP v a = true) (hb : inP v b = true) : thirdW x a b = thirdOf x a b := by
  have hg := sys_good hi x (List.mem_of_find?_eq_some hx)
  have hv := (sys_size hi).2.1
  rw [goodB_iff] at hg
  rw [inP_iff] at ha hb
  unfold thirdW thirdOf wrap64
  omega
theorem KpB.alloc {n₀ Bp : Nat} {W : World} (hn : n₀ ≤ W.heap.size) (o : Obj) : KpB n₀ Bp W (W.alloc o) := ⟨(Below.refl _ _).alloc hn _, fun _ hu => cell_past hu (by obtain ⟨ob, ho, _⟩ := cells_of_cell hu; exact (Array.getElem?_eq_some_iff.1 ho).1)⟩
theorem KpB.drew (n₀ Bp : Nat) (W : World) : KpB n₀ Bp W W.drew := ⟨below_drewN (Below.refl _ _) 1, fun _ hu => cell_drewN hu 1⟩
theorem boxed_drew {W : World} {B : Nat} {t : TypeId} {u : Value} (h : Boxed W B t u) : Boxed W.drew B t u := h
theorem three (W : World) (B : Nat) (x : Blk) (p : Int) (h : B3 W B x) : Calls Try.prog 120 #[.slice (some ⟨B, 0, none⟩) 3 3, .int .i64 p] W (RS (.bool (hasB x p)) W) := by
  obtain ⟨g1, g2, g3⟩ := h.cells
  rw [← inL3]
  exact Contains_any B 0 3 [x.a, x.b, x.c] p W (ints3 g1 g2 g3) (by simp)
end Go.Proofs.Ytehdpgjbmnkkiaa

namespace Go.Proofs.Ytehdpgjbmnkkiaa
open Go.RowKit Go.Maps Go.Shelf
attribute [local go_sem] Oper.semAt_some
theorem infoInt64 : (Try.prog.info? 2).map (fun i => (i.zero, i.size, i.bytes)) = some (some (.int .i64 0), 1, 8) := by kernel_rfl
def idxs (pre : List (Nat × Blk)) : List Value := pre.map fun q => .int .i64 (q.1 : Int)
/-- The value owns a row of these integers, beyond base; it is nil just where there is none. -/
def OwnI (W : World) (base : Nat) (u : Value) (zs : List Value) : Prop := W.ownsRow base 2 1 u zs.length zs ∧ (u = .slice none 0 0 ↔ zs = [])
/-- Returns a fresh slice of integers and a code. -/
def RInts (zs : List Value) (κ : Int) (w : World) (e : Ending) (w' : World) : Prop := ∃ u, e = .returned (.tuple #[u, .int .i64 κ]) ∧ OwnI w' w.heap.size u zs ∧ Below w.heap.size w w'
theorem ownsRow_base {W : World} {base base' : Nat} {e : TypeId} {size : Nat} {v : Value} {k : Nat} {xs : List Value} (h : W.ownsRow base e size v k xs) (hb : base' ≤ base) : W.ownsRow base' e size v k xs := by
  obtain ⟨h1, h2⟩ := h
  refine ⟨h1, ?_⟩
  rcases h2 with h2 | ⟨g, cap, cur, e1, e2, e3⟩
  · exact .inl h2
  · exact .inr ⟨g, cap, cur, e1, by omega, e3⟩
theorem lt_new {w w1 : World} {cs : Array Value} {T : TypeId} (h : Below (w.alloc (.cells cs T)).heap.size (w.alloc (.cells cs T)) w1) : w.heap.size < w1.heap.size := by
  have := h.size
  simp at this
  omega
theorem below_new {w w1 : World} {cs : Array Value} {T : TypeId} (h : Below (w.alloc (.cells cs T)).heap.size (w.alloc (.cells cs T)) w1) : Below w.heap.size w w1 :=
  ((Below.refl _ _).alloc (Nat.le_refl _) _).trans (h.mono (by simp))
theorem appended2 {W w1 : World} {n n₁ B Bp : Nat} {t e : TypeId} {size : Nat} {v v' : Value} {k m : Nat} {xs ys : List Value} {tmp : Obj}
    (hv : Boxed W B t v) (hte : t ≠ e) (hrow : W.ownsRow n₁ e size v k xs) (hn : n ≤ W.heap.size) (hB : n ≤ B) (hnn : n ≤ n₁) (hBp : Bp < n₁) (hne : Bp ≠ B)
    (hown' : w1.ownsRow n₁ e size v' m ys) (hgrow : (W.alloc tmp).grownBy w1 v.ownBlock) :
    Boxed w1 B t v ∧ Boxed (w1.setCell ⟨B, 0, none⟩ v') B t v' ∧ (w1.setCell ⟨B, 0, none⟩ v').ownsRow n₁ e size v' m ys ∧ KeepsOthers W (w1.setCell ⟨B, 0, none⟩ v') ∧ KpB n Bp W (w1.setCell ⟨B, 0, none⟩ v') := by
  have hv1 : Boxed w1 B t v := (hv.alloc tmp).kept hgrow (hv.not_row hte hrow)
  have hge : ∀ j, v.ownBlock = some j → n₁ ≤ j := fun j ej => by
    rcases hrow.2 with ⟨rfl, _⟩ | ⟨g, cap, cur, rfl, hb, _, _⟩
    · simp [Value.ownBlock] at ej
    · obtain rfl : g = j := by simpa [Value.ownBlock] using ej
      exact hb
  refine ⟨hv1, hv1.set v', hown'.kept (grownBy_setCell' w1 B v') (.inr (hv1.not_row hte hown').symm), ?_, ?_, ?_⟩
  · refine ((KeepsOthers.alloc W tmp).trans (KeepsOthers.of_grownBy hgrow fun j o ej hj => ?_)).trans (KeepsOthers.setCell _ _ _)
    rcases (hrow.alloc tmp).2 with ⟨rfl, _⟩ | ⟨g, cap, cur, rfl, _, hgb, _⟩
    · simp [Value.ownBlock] at ej
    · obtain rfl : g = j := by simpa [Value.ownBlock] using ej
      rw [hgb] at hj; cases hj; rfl
  · exact (((Below.refl n W).alloc hn tmp).grown hgrow (by simp; omega) fun j ej => Nat.le_trans hnn (hge j ej)).setCell (p := ⟨B, 0, none⟩) hB v'
  · intro u hu
    have hlt : Bp < W.heap.size := by obtain ⟨ob, ho, _⟩ := cells_of_cell hu; exact (Array.getElem?_eq_some_iff.1 ho).1
    have h1 := cell_past (ob := tmp) hu hlt
    have h2 : w1.cell? ⟨Bp, 0, none⟩ = some u := (World.cell?_of_block (hgrow.block Bp (by simp; omega) (fun e' => by have := hge Bp e'.symm; omega))).trans h1
    exact (World.cell?_of_block ((grownBy_setCell' w1 B v').block Bp (Nat.lt_of_lt_of_le (by simp; omega) hgrow.size) (fun e' => hne (by cases e'; rfl)))).trans h2
end Go.Proofs.Ytehdpgjbmnkkiaa

namespace Go.Proofs.Ytehdpgjbmnkkiaa
open Go.RowKit Go.Maps
set_option maxRecDepth 100000 in
theorem l01With_any (x : Blk) (p : Int) (w : World) : Calls Try.prog 136 #[bv x, .int .i64 p] w (RV (.bool (hasB x p)) w) := by
  obtain ⟨a, b, c⟩ := x
  unfold bv
  dsimp only
  by_cases h1 : a = p
  · have e1 : (a == p) = true := by simp [h1]
    have H1 := Lib.hid h1
    clear h1
    go_enter Try.func136, Try.ntmps136
    go_wp2
    go_ret
    exact RV_of (bool_eq (by simp [hasB, H1.out])) ((Below.refl _ _).alloc (Nat.le_refl _) _)
  · have e1 : (a == p) = false := by simp [h1]
    have H1 := Lib.hid h1
    clear h1
    by_cases h2 : b = p
    · have e2 : (b == p) = true := by simp [h2]
      have H2 := Lib.hid h2
      clear h2
      go_enter Try.func136, Try.ntmps136
      go_wp2
      go_ret
      exact RV_of (bool_eq (by simp [hasB, H2.out])) ((Below.refl _ _).alloc (Nat.le_refl _) _)
    · have e2 : (b == p) = false := by simp [h2]
      have H2 := Lib.hid h2
      clear h2
      go_enter Try.func136, Try.ntmps136
      go_wp2
      go_ret
      exact RV_of (bool_eq (by rw [Bool.eq_iff_iff]; simp [hasB, H1.out, H2.out])) ((Below.refl _ _).alloc (Nat.le_refl _) _)

set_option maxRecDepth 100000 in
theorem l01Third_any (v : Int) (s : Value) (bs : List Blk) (a b : Int) (w : World) (h : SB w s bs) (hg : ∀ x ∈ bs, goodB v x = true) (hv : v ≤ 15) (ha : 0 ≤ a) (ha' : a ≤ 15) (hb : 0 ≤ b) (hb' : b ≤ 15) :
    Calls Try.prog 93 #[.agg #[.int .i64 v, s], .int .i64 a, .int .i64 b] w (RV (.int .i64 (third1 bs a b)) w) := by
  have hs := h.slice
  have H := Lib.hid h
  have HG := Lib.hid hg
  have hl := h.2.1
  clear h hg
  obtain ⟨a0, c0, rfl⟩ := hs
  go_enter Try.func93, Try.ntmps93
  go_wp2
  go_loopw [7] (fun i wr => ∃ k : Nat, k ≤ bs.length ∧ i = .int .i64 k ∧ Below (w.heap.size + 1) (w.alloc (.cells #[.int .i64 v, .slice a0 bs.length c0] 31)) wr ∧ Hid ((bs.take k).find? (bothB a b) = none)) (fun i _ => bs.length - (intOf i).toNat)
  case atStart => exact ⟨0, Nat.zero_le _, rfl, Below.refl _ _, Lib.hid (by simp)⟩
  case round =>
    obtain ⟨k, hk, rfl, hB, HN⟩ := hrel
    have hz := hB.size
    simp at hz
    have p1 : wr.cell? ⟨w.heap.size, 1, none⟩ = some (.slice a0 bs.length c0) := by rw [hB.cell (by simp)]; simp
    have hBw : Below w.heap.size w wr := ((Below.refl _ _).alloc (Nat.le_refl _) _).trans (hB.mono (by omega))
    by_cases hkl : k < bs.length
    · rcases H.out.2.2 with ⟨_, _, _, hnil⟩ | ⟨bb, off, cap, hval, hblt, hbl⟩
      · rw [hnil] at hkl; simp at hkl
      · simp at hval
        obtain ⟨rfl, rfl⟩ := hval
        obtain ⟨x, hx, ex, x1, x2, x3⟩ := blks_at (hbl.below hBw hblt) hkl
        have hgx := HG.out x hx
        rw [goodB_iff] at hgx
        obtain ⟨b1, b2, b3, b4⟩ := hgx
        have hn := find_next hkl ex HN.out
        have hw1 := l01With_any x a
        have hw2 := l01With_any x b
        have hth : third1 bs a b = (match bs.find? (bothB a b) with | some x => thirdOf x a b | none => -1) := rfl
        have hbo : bothB a b x = (hasB x a && hasB x b) := rfl
        have htx : thirdOf x a b = x.a + x.b + x.c - a - b := rfl
        obtain ⟨p, q, r⟩ := x
        dsimp only at x1 x2 x3 b1 b2 b3 b4 htx
        have g0 : (0 : Int) ≤ (k : Int) := by omega
        have g1 : (k : Int) < (bs.length : Int) := by omega
        have HNX := Lib.hid hn
        have HTH := Lib.hid hth
        have HTX := Lib.hid htx
        clear hbl hx ex hn hth htx
        cases h1 : hasB ⟨p, q, r⟩ a with
        | false =>
          rw [h1] at hw1 hbo
          have HW1 := Lib.hid hw1
          have HBO := Lib.hid hbo
          clear hw1 hw2 h1 hbo
          go_wp2_with (go_at_call 136; refine (HW1.out _).mono ?_; rintro e w1 ⟨rfl, hb1⟩)
          go_roundw
          case rel => exact ⟨k + 1, by omega, by go_num, (hB.alloc (by omega) _).trans (hb1.mono (by simp; omega)), Lib.hid (HNX.out.2 (by rw [HBO.out]; rfl))⟩
          case measure => simp [intOf]; omega
        | true =>
          rw [h1] at hw1 hbo
          have HW1 := Lib.hid hw1
          clear hw1 h1
          cases h2 : hasB ⟨p, q, r⟩ b with
          | false =>
            rw [h2] at hw2 hbo
            have HW2 := Lib.hid hw2
            have HBO := Lib.hid hbo
            clear hw2 h2 hbo
            go_wp2_with fail
            refine (HW1.out _).mono ?_
            rintro e w1 ⟨rfl, hb1⟩
            have d1 := cell_new hb1 0 rfl
            have d2 := cell_new hb1 1 rfl
            have d3 := cell_new hb1 2 rfl
            have z1 := hb1.size
            simp at z1
            go_wp2_with (go_at_call 136; refine (HW2.out _).mono ?_; rintro e w2 ⟨rfl, hb2⟩)
            go_roundw
            case rel => exact ⟨k + 1, by omega, by go_num, ((hB.alloc (by omega) _).trans (hb1.mono (by simp; omega))).trans (hb2.mono (by omega)), Lib.hid (HNX.out.2 (by rw [HBO.out]; rfl))⟩
            case measure => simp [intOf]; omega
          | true =>
            rw [h2] at hw2 hbo
            have HW2 := Lib.hid hw2
            have HBO := Lib.hid hbo
            clear hw2 h2 hbo
            go_wp2_with fail
            refine (HW1.out _).mono ?_
            rintro e w1 ⟨rfl, hb1⟩
            have d1 := cell_new hb1 0 rfl
            have d2 := cell_new hb1 1 rfl
            have d3 := cell_new hb1 2 rfl
            have z1 := hb1.size
            simp at z1
            go_wp2_with (go_at_call 136; refine (HW2.out _).mono ?_; rintro e w2 ⟨rfl, hb2⟩; have e1 := (hb2.cell (p := ⟨wr.heap.size, 0, none⟩) (by show wr.heap.size < _; omega)).trans d1; have e2 := (hb2.cell (p := ⟨wr.heap.size, 1, none⟩) (by show wr.heap.size < _; omega)).trans d2; have e3 := (hb2.cell (p := ⟨wr.heap.size, 2, none⟩) (by show wr.heap.size < _; omega)).trans d3)
            go_ret
            refine RV_of (int_eq ?_) (((hBw.alloc (by omega) _).trans (hb1.mono (by simp; omega))).trans (hb2.mono (by omega)))
            rw [HTH.out, HNX.out.1 (by rw [HBO.out]; rfl)]
            exact HTX.out.symm
    · go_wp2
      go_ret
      have e : k = bs.length := by omega
      subst e
      refine RV_of (int_eq ?_) hBw
      have := HN.out
      rw [List.take_length] at this
      unfold third1
      rw [this]
end Go.Proofs.Ytehdpgjbmnkkiaa

namespace Go.Proofs.Ytehdpgjbmnkkiaa
open Go.RowKit Go.Maps
def pointsCode (v : Int) (bs : List Blk) (ps : List Int) : Int := if isSysImpl v bs then (if ps.all (inP v) then 0 else 2) else 1
theorem RS.quiet2 {P : Program} {f : FuncId} {args : Array Value} {w : World} {a n : Nat} {v : Value} (h : Calls P f args (w.drewN (a + n)) (RS v (w.drewN (a + n)))) :
    Calls P f args (w.drewN (a + n)) fun e w'' => e = .returned v ∧ ∃ m, w'' = w.drewN (a + m) :=
  h.mono fun _ _ ⟨he, hm⟩ => ⟨he, n, hm.symm⟩
theorem Ints.below {w w' : World} {b off B : Nat} {zs : List Int} (h : Ints w b off zs) (hb : Below B w w') (hl : b < B) : Ints w' b off zs := fun k hk => (hb.cell (p := ⟨b, off + k, none⟩) hl).trans (h k hk)
theorem ints2 {w : World} {b : Nat} {x y : Int} (h0 : w.cell? ⟨b, 0, none⟩ = some (.int .i64 x)) (h1 : w.cell? ⟨b, 1, none⟩ = some (.int .i64 y)) : Ints w b 0 [x, y] := by
  intro k hk
  match k, hk with
  | 0, _ => simpa using h0
  | 1, _ => simpa using h1
end Go.Proofs.Ytehdpgjbmnkkiaa

namespace Go.Proofs.Ytehdpgjbmnkkiaa
open Go.RowKit Go.Maps
/-- The value is a slice of just these integers. -/
def IB (w : World) (s : Value) (zs : List Int) : Prop :=
  zs.length ≤ 1100000 ∧ ((∃ a c, s = .slice a 0 c ∧ zs = []) ∨ ∃ b off cap, s = .slice (some ⟨b, off, none⟩) zs.length cap ∧ b < w.heap.size ∧ Ints w b off zs)
theorem IB.below {w w' : World} {s : Value} {zs : List Int} (h : IB w s zs) {B : Nat} (hb : Below B w w') (hB : w.heap.size ≤ B) : IB w' s zs := by
  obtain ⟨h1, h2⟩ := h
  refine ⟨h1, ?_⟩
  rcases h2 with h2 | ⟨b, off, cap, rfl, hl, hr⟩
  · exact .inl h2
  · exact .inr ⟨b, off, cap, rfl, by have := hb.size; omega, hr.below hb (by omega)⟩
theorem OwnI.ib {W : World} {base : Nat} {u : Value} {zs : List Int} (h : OwnI W base u (zs.map (Value.int .i64))) (hl : zs.length ≤ 1100000) : IB W u zs := by
  obtain ⟨⟨_, h | ⟨g, cap, cur, rfl, hb, hcur, hn, hc, hsz, hx⟩⟩, _⟩ := h
  · obtain ⟨rfl, h0⟩ := h
    refine ⟨hl, .inl ⟨_, _, rfl, ?_⟩⟩
    rw [List.length_map] at h0
    exact List.length_eq_zero_iff.1 h0
  · refine ⟨hl, .inr ⟨g, 0, cap, by rw [List.length_map], (Array.getElem?_eq_some_iff.1 hcur).1, fun k hk => ?_⟩⟩
    have e : (zs.map (Value.int .i64))[k]? = some (.int .i64 (zs[k]?.getD 0)) := by simp [hk]
    rw [← hx, List.getElem?_take_of_lt (by rw [List.length_map]; omega)] at e
    rw [Nat.zero_add]
    simp [World.cell?, hcur]
    simpa using e
set_option maxRecDepth 100000 in
theorem eqInt64S_same (s t : Value) (zs : List Int) (w : World) (h : IB w s zs) (k : IB w t zs) : Calls Try.prog 24 #[s, t] w (RV (.bool true) w) := by
  have hlen := h.1
  rcases h.2 with ⟨a0, c0, rfl, rfl⟩ | ⟨b, off, cap, rfl, hb, hB⟩
  · rcases k.2 with ⟨a1, c1, rfl, _⟩ | ⟨b', off', cap', rfl, hb', hB'⟩
    all_goals
      clear hlen h k
      go_enter Try.func24, Try.ntmps24
      go_wp2
      refine wp_loop_rounds 1 ?_
      rw [rounds_succ]
      go_wp2
      go_ret
      exact RV_of rfl (Below.refl _ _)
  · by_cases h0 : zs.length = 0
    · rcases k.2 with ⟨a1, c1, rfl, rfl⟩ | ⟨b', off', cap', rfl, hb', hB'⟩
      all_goals
        try rw [h0]
        clear hlen h k
        go_enter Try.func24, Try.ntmps24
        go_wp2
        refine wp_loop_rounds 1 ?_
        rw [rounds_succ]
        go_wp2
        go_ret
        exact RV_of rfl (Below.refl _ _)
    · rcases k.2 with ⟨a1, c1, rfl, rfl⟩ | ⟨b', off', cap', rfl, hb', hB'⟩
      · exact absurd rfl h0
      · have HB := Lib.hid hB
        have HB' := Lib.hid hB'
        clear hB hB' h k h0
        have hne : (((zs.length : Nat) : Int) != (zs.length : Nat)) = false := by simp
        go_enter Try.func24, Try.ntmps24
        go_wp2
        go_loopw [5] (fun i wr => ∃ k : Nat, k ≤ zs.length ∧ i = .int .i64 k ∧ Below w.heap.size w wr) (fun i _ => zs.length - (intOf i).toNat)
        case atStart => exact ⟨0, Nat.zero_le _, rfl, Below.refl _ _⟩
        case round =>
          obtain ⟨k, hk, rfl, hBw⟩ := hrel
          by_cases hkl : k < zs.length
          · have q1 := (hBw.cell (p := ⟨b, off + k, none⟩) hb).trans (HB.out k hkl)
            have q2 := (hBw.cell (p := ⟨b', off' + k, none⟩) hb').trans (HB'.out k hkl)
            obtain ⟨z, hz⟩ : ∃ z, z = zs[k]?.getD 0 := ⟨_, rfl⟩
            rw [← hz] at q1 q2
            clear hz
            have r1 := cell_regrown q1
            have r2 := cell_regrown q2
            clear q1 q2
            have g0 : (0 : Int) ≤ (k : Int) := by omega
            have g1 : (k : Int) < (zs.length : Int) := by omega
            have hzz : (z != z) = false := by simp
            go_wp2
            refine wp_region_quiet_below (by kernel_rfl) (by kernel_rfl) ?_
            repeat (go_big_quiet_step (fail))
            refine wpQuiet_nil ?_
            intro _ hw'
            obtain ⟨⟨dq, osq⟩, hw''⟩ := hw'
            subst hw''
            go_wp2
            go_roundw
            case rel => exact ⟨k + 1, by omega, by go_num, hBw.trans ((below_regrown _ dq osq).mono hBw.size)⟩
            case measure => simp [intOf]; omega
          · go_wp2
            go_ret
            exact RV_of rfl hBw
end Go.Proofs.Ytehdpgjbmnkkiaa

namespace Go.Proofs.Ytehdpgjbmnkkiaa
open Go.RowKit Go.Maps
theorem gb_trans {a b c : World} {row : Option Nat} (h : a.grownBy b none) (k : b.grownBy c row) : a.grownBy c row :=
  ⟨k.os.trans h.os, k.tape.trans h.tape, k.output.trans h.output, Nat.le_trans h.size k.size, fun i hi hne => (k.block i (Nat.lt_of_lt_of_le hi h.size) hne).trans (h.block i hi (by simp))⟩
theorem gb_below {a b : World} (h : Below a.heap.size a b) : a.grownBy b none := only_of_below h none
theorem ResR.slice {w : World} {lo hi : Nat} {s : Value} {bs : List Blk} (h : ResR w lo hi s bs) : ∃ a c, s = .slice a bs.length c := by
  rcases h with ⟨rfl, a, c, rfl⟩ | ⟨g, cap, rfl, _⟩ <;> exact ⟨_, _, rfl⟩
set_option maxRecDepth 100000 in
theorem markSystem_any (lo hi : Nat) (v : Int) (s : Value) (bs : List Blk) (k : Int) (w : World) (h : ResR w lo hi s bs) (hl : bs.length ≤ 1100000) (h0 : 0 ≤ k) (h1 : k ≤ 9000000) :
    Calls Try.prog 17 #[.agg #[.int .i64 v, s], .int .i64 k] w (fun e w' => e = .returned (.int .i64 (k + 3 * bs.length)) ∧ (∃ row, w.grownBy w' row ∧ ∀ r, row = some r → lo ≤ r ∧ r < hi) ∧ ResR w' lo hi s (markL k bs.length)) := by
  have hc := markR lo hi s bs k (w.alloc (.cells #[.int .i64 v, s] 31)) (h.below ((Below.refl _ _).alloc (Nat.le_refl _) _) (Nat.le_refl _)) hl h0 h1
  have hs := h.slice
  have HC := Lib.hid hc
  clear hc h
  obtain ⟨a, c, rfl⟩ := hs
  go_enter Try.func17, Try.ntmps17
  go_wp2_with (go_at_call 50; refine HC.out.mono ?_; rintro e w1 ⟨rfl, hg, hr⟩)
  go_ret
  obtain ⟨row, hg, hrow⟩ := hg
  exact ⟨rfl, ⟨row, gb_trans (World.grownBy_alloc _ _ none) hg, hrow⟩, hr⟩
set_option maxRecDepth 100000 in
theorem heldSystem_any (lo hi : Nat) (v : Int) (s : Value) (n : Nat) (k : Int) (w : World) (h : ResR w lo hi s (markL k n)) (hl : n ≤ 1100000) (h0 : 0 ≤ k) (h1 : k ≤ 9000000) :
    Calls Try.prog 33 #[.agg #[.int .i64 v, s], .int .i64 k] w (RV (.int .i64 (k + 3 * n)) w) := by
  have hc := heldR lo hi s n k (w.alloc (.cells #[.int .i64 v, s] 31)) (h.below ((Below.refl _ _).alloc (Nat.le_refl _) _) (Nat.le_refl _)) hl h0 h1
  have hs := h.slice
  obtain ⟨m, hm⟩ : ∃ m, m = k + 3 * (n : Int) := ⟨_, rfl⟩
  rw [← hm] at hc ⊢
  have m0 : 0 ≤ m := by omega
  have HC := Lib.hid hc
  clear hc h hm
  obtain ⟨a, c, rfl⟩ := hs
  go_enter Try.func33, Try.ntmps33
  go_wp2_with (go_at_call 66; refine HC.out.mono ?_; rintro e w1 ⟨rfl, rfl⟩)
  go_ret
  exact RV_of rfl ((Below.refl _ _).alloc (Nat.le_refl _) _)
end Go.Proofs.Ytehdpgjbmnkkiaa

namespace Go.Proofs
open Go.Shelf
def Try.sortI_ren : Go.Shelf.Ren := ⟨fun | 5 => 86 | 8 => 88 | 7 => 124 | 19 => 133 | 20 => 134 | 10 => 147 | 11 => 148 | 12 => 149 | 13 => 150 | 14 => 151 | 15 => 152 | 16 => 153 | 17 => 154 | 18 => 155 | 30 => 164 | 31 => 157 | 32 => 158 | 33 => 165 | 34 => 166 | 35 => 135 | 40 => 169 | n => n, fun | 23 => 40 | 25 => 2 | 3 => 3 | 32 => 109 | 22 => 40 | 0 => 0 | 44 => 146 | 46 => 148 | 4 => 4 | 36 => 139 | 35 => 138 | 41 => 143 | 5 => 5 | 9 => 9 | 53 => 162 | 57 => 166 | 63 => 175 | 64 => 176 | n => n, fun | n => n⟩
theorem Try.sortI : Go.Proofs.SlLaysM.n5 Try.prog Try.sortI_ren := {
  mixed := by kernel_rfl
  f5 := ⟨Try.f86.name, by decide, Try.func86.trans (congrArg some (by kernel_rfl))⟩
  f7 := ⟨Try.f124.name, by decide, Try.func124.trans (congrArg some (by kernel_rfl))⟩
  f8 := Try.func88.trans (congrArg some (by kernel_rfl))
  f10 := ⟨Try.f147.name, by decide, Try.func147.trans (congrArg some (by kernel_rfl))⟩
  f11 := ⟨Try.f148.name, by decide, Try.func148.trans (congrArg some (by kernel_rfl))⟩
  f12 := ⟨Try.f149.name, by decide, Try.func149.trans (congrArg some (by kernel_rfl))⟩
  f13 := ⟨Try.f150.name, by decide, Try.func150.trans (congrArg some (by kernel_rfl))⟩
  f14 := ⟨Try.f151.name, by decide, Try.func151.trans (congrArg some (by kernel_rfl))⟩
  f15 := ⟨Try.f152.name, by decide, Try.func152.trans (congrArg some (by kernel_rfl))⟩
  f16 := ⟨Try.f153.name, by decide, Try.func153.trans (congrArg some (by kernel_rfl))⟩
  f17 := ⟨Try.f154.name, by decide, Try.func154.trans (congrArg some (by kernel_rfl))⟩
  f18 := ⟨Try.f155.name, by decide, Try.func155.trans (congrArg some (by kernel_rfl))⟩
  f19 := Try.func133.trans (congrArg some (by kernel_rfl))
  f20 := Try.func134.trans (congrArg some (by kernel_rfl))
  f30 := ⟨Try.f164.name, by decide, Try.func164.trans (congrArg some (by kernel_rfl))⟩
  f31 := Try.func157.trans (congrArg some (by kernel_rfl))
  f32 := Try.func158.trans (congrArg some (by kernel_rfl))
  f33 := ⟨Try.f165.name, by decide, Try.func165.trans (congrArg some (by kernel_rfl))⟩
  f34 := ⟨Try.f166.name, by decide, Try.func166.trans (congrArg some (by kernel_rfl))⟩
  f35 := ⟨Try.f135.name, by decide, Try.func135.trans (congrArg some (by kernel_rfl))⟩
  f40 := ⟨Try.f169.name, by decide, Try.func169.trans (congrArg some (by kernel_rfl))⟩
  t0 := Try.underlying0
  a0 := Try.isAgg0
  z0 := Try.sizeOf0
  v0 := Try.zeroValue0
  t3 := Try.underlying3
  a3 := Try.isAgg3
  z3 := Try.sizeOf3
  v3 := Try.zeroValue3
  t4 := Try.underlying4
  a4 := Try.isAgg4
  z4 := Try.sizeOf4
  v4 := Try.zeroValue4
  t5 := Try.underlying5
  a5 := Try.isAgg5
  z5 := Try.sizeOf5
  v5 := Try.zeroValue5
  t9 := Try.underlying9
  a9 := Try.isAgg9
  z9 := Try.sizeOf9
  v9 := Try.zeroValue9
  t22 := Try.underlying40
  a22 := Try.isAgg40
  z22 := Try.sizeOf40
  v22 := Try.zeroValue40
  t23 := Try.underlying40
  a23 := Try.isAgg40
  z23 := Try.sizeOf40
  v23 := Try.zeroValue40
  t25 := Try.underlying2
  a25 := Try.isAgg2
  z25 := Try.sizeOf2
  v25 := Try.zeroValue2
  t32 := Try.underlying109
  a32 := Try.isAgg109
  z32 := Try.sizeOf109
  v32 := Try.zeroValue109
  t35 := Try.underlying138
  a35 := Try.isAgg138
  z35 := Try.sizeOf138
  v35 := Try.zeroValue138
  t36 := Try.underlying139
  a36 := Try.isAgg139
  z36 := Try.sizeOf139
  v36 := Try.zeroValue139
  t41 := Try.underlying143
  a41 := Try.isAgg143
  z41 := Try.sizeOf143
  v41 := Try.zeroValue143
  t44 := Try.underlying146
  a44 := Try.isAgg146
  z44 := Try.sizeOf146
  v44 := Try.zeroValue146
  t46 := Try.underlying148
  a46 := Try.isAgg148
  z46 := Try.sizeOf148
  v46 := Try.zeroValue148
  t53 := Try.underlying162
  a53 := Try.isAgg162
  z53 := Try.sizeOf162
  v53 := Try.zeroValue162
  t57 := Try.underlying166
  a57 := Try.isAgg166
  z57 := Try.sizeOf166
  v57 := Try.zeroValue166
  t63 := Try.underlying175
  a63 := Try.isAgg175
  z63 := Try.sizeOf175
  v63 := Try.zeroValue175
  t64 := Try.underlying176
  a64 := Try.isAgg176
  z64 := Try.sizeOf176
  v64 := Try.zeroValue176 }
end Go.Proofs

namespace Go.Proofs.Ytehdpgjbmnkkiaa
open Go.RowKit Go.Maps Go.Sort Go.Shelf
theorem heap_put' {α : Type} [Inhabited α] (enc : α → Value) {w : World} {g n : Nat} {os : Array Obj} {cur : Array Value} {e : TypeId} {fr : Nat × Nat} (F : Array α) (hb : w.heap[g]? = some (.cells cur e fr)) :
    (grow (putRow enc (Sort.ahead w n) g 0 F) os).heap[g]? = some (.cells (putCells enc 0 F cur) e fr) := by
  have hg : g < w.heap.size := (Array.getElem?_eq_some_iff.1 hb).1
  rw [heap_grow_old _ _ (by simpa using hg)]
  simp [putRow, mapBlock, Sort.ahead, Array.getElem?_modify, hb, onCells]
theorem grownBy_put' {α : Type} [Inhabited α] (enc : α → Value) {w : World} {g n : Nat} {os : Array Obj} (F : Array α) : w.grownBy (grow (putRow enc (Sort.ahead w n) g 0 F) os) (some g) := by
  refine ⟨rfl, rfl, rfl, by simp, fun k hk hne => ?_⟩
  rw [heap_grow_old _ _ (by simpa using hk)]
  have : g ≠ k := fun e => hne (by rw [e])
  simp [putRow, mapBlock, Sort.ahead, Array.getElem?_modify, this]
theorem sort3_any (b : Nat) (x y z : Int) (w : World) (h : w.heap[b]? = some (.cells #[.int .i64 x, .int .i64 y, .int .i64 z] 93 (0, 0))) :
    Calls Try.prog 86 #[.slice (some ⟨b, 0, none⟩) 3 3] w fun e w' => e = .returned (.tuple #[]) ∧ w.grownBy w' (some b) ∧ w'.heap[b]? = some (.cells #[.int .i64 (blk3 x y z).a, .int .i64 (blk3 x y z).b, .int .i64 (blk3 x y z).c] 93 (0, 0)) := by
  have hlt : b < w.heap.size := (Array.getElem?_eq_some_iff.1 h).1
  have hH : Holds (Value.int .i64) w b 0 [x, y, z].toArray := by
    intro j hj
    simp at hj
    rw [Nat.zero_add]
    match j, hj with
    | 0, _ => exact ⟨by simp [World.cell?, h], by simp [World.frozen?, h]⟩
    | 1, _ => exact ⟨by simp [World.cell?, h], by simp [World.frozen?, h]⟩
    | 2, _ => exact ⟨by simp [World.cell?, h], by simp [World.frozen?, h]⟩
  have hS := AnyM.slices_Sort_int Try.sortI b 0 3 [x, y, z] w hH hlt (by simp)
  rw [sort3] at hS
  refine Calls.mono hS ?_
  rintro e w' ⟨rfl, n, os, rfl⟩
  refine ⟨rfl, grownBy_put' _ _, ?_⟩
  rw [heap_put' _ _ h]
  rfl
set_option maxRecDepth 100000 in
theorem blockFrom_any (b off c : Nat) (x y z : Int) (w : World) (h0 : w.cell? ⟨b, off, none⟩ = some (.int .i64 x)) (h1 : w.cell? ⟨b, off + 1, none⟩ = some (.int .i64 y)) (h2 : w.cell? ⟨b, off + 2, none⟩ = some (.int .i64 z)) :
    Calls Try.prog 123 #[.slice (some ⟨b, off, none⟩) 3 c] w (RV (bv (blk3 x y z)) w) := by
  obtain ⟨wx, hwx⟩ : ∃ wx, wx = (w.alloc (.cells #[.int .i64 0, .int .i64 0, .int .i64 0] 93)).alloc (.cells #[.int .i64 x, .int .i64 y, .int .i64 z] 93) := ⟨_, rfl⟩
  have hzx : wx.heap.size = w.heap.size + 1 + 1 := by rw [hwx]; simp
  have hbx : Below w.heap.size w wx := by rw [hwx]; exact ((Below.refl _ _).alloc (Nat.le_refl _) _).alloc (by simp) _
  have hh : wx.heap[w.heap.size + 1]? = some (.cells #[.int .i64 x, .int .i64 y, .int .i64 z] 93 (0, 0)) := by
    rw [hwx]
    have := World.alloc_heap_new (w.alloc (.cells #[.int .i64 0, .int .i64 0, .int .i64 0] 93)) (.cells #[.int .i64 x, .int .i64 y, .int .i64 z] 93)
    simpa using this
  have d0 : wx.heap[w.heap.size]? = some (.cells #[.int .i64 0, .int .i64 0, .int .i64 0] 93 (0, 0)) := by
    rw [hwx, Below.heap_alloc _ _ _ (by simp)]
    exact World.alloc_heap_new w _
  have HS := Lib.hid (sort3_any (w.heap.size + 1) x y z wx hh)
  have D0 := Lib.hid d0
  have HZX := Lib.hid hzx
  have HBX := Lib.hid hbx
  have HWX := Lib.hid hwx
  clear hh d0 hzx hbx hwx
  obtain ⟨r, hr⟩ : ∃ r, r = blk3 x y z := ⟨_, rfl⟩
  rw [← hr] at HS ⊢
  clear hr
  obtain ⟨ra, rb, rc⟩ := r
  have hat : ∀ W, (Instr.arrayAt 93 (.slice (some ⟨b, off, none⟩) 3 c)).run Try.prog W = .ok (.pointer (some ⟨b, off, none⟩)) W := fun W => by kernel_rfl
  have hblt : b < w.heap.size := by obtain ⟨ob, ho, _⟩ := cells_of_cell h0; exact (Array.getElem?_eq_some_iff.1 ho).1
  go_enter Try.func123, Try.ntmps123
  go_wp2_with fail
  rw [← HWX.out]
  refine HS.out.mono ?_
  rintro e w1 ⟨rfl, hg, hh⟩
  have hz := hg.size
  rw [HZX.out] at hz
  have hd := (hg.block w.heap.size (by rw [HZX.out]; omega) (by simp)).trans D0.out
  have hbw : Below w.heap.size w w1 := HBX.out.grown hg HBX.out.size (fun r e => by cases e; omega)
  have q0 : w1.cell? ⟨w.heap.size + 1, 0, none⟩ = some (.int .i64 ra) := by simp [World.cell?, hh]
  have q1 : w1.cell? ⟨w.heap.size + 1, 1, none⟩ = some (.int .i64 rb) := by simp [World.cell?, hh]
  have q2 : w1.cell? ⟨w.heap.size + 1, 2, none⟩ = some (.int .i64 rc) := by simp [World.cell?, hh]
  have e0 : w1.cell? ⟨w.heap.size, 0, none⟩ = some (.int .i64 0) := by simp [World.cell?, hd]
  have e1 : w1.cell? ⟨w.heap.size, 1, none⟩ = some (.int .i64 0) := by simp [World.cell?, hd]
  have e2 : w1.cell? ⟨w.heap.size, 2, none⟩ = some (.int .i64 0) := by simp [World.cell?, hd]
  have k0 : w1.frozen? ⟨w.heap.size, 0, none⟩ = false := by simp [World.frozen?, hd]
  have k1 : w1.frozen? ⟨w.heap.size, 1, none⟩ = false := by simp [World.frozen?, hd]
  have k2 : w1.frozen? ⟨w.heap.size, 2, none⟩ = false := by simp [World.frozen?, hd]
  clear hh hd hg
  go_wp2
  refine bodyPost_ret (v := bv ⟨ra, rb, rc⟩) (by simp [results, Try.results123, go_sem, bv, *]) rfl ⟨rfl, ?_⟩
  exact ((hbw.setCell (p := ⟨w.heap.size, 0, none⟩) (Nat.le_refl _) _).setCell (p := ⟨w.heap.size, 1, none⟩) (Nat.le_refl _) _).setCell (p := ⟨w.heap.size, 2, none⟩) (Nat.le_refl _) _
end Go.Proofs.Ytehdpgjbmnkkiaa

namespace Go.Proofs.Ytehdpgjbmnkkiaa
open Go.RowKit Go.Maps
theorem intKeyed : Keyed Try.prog 2 := int_keyed Try.underlying2
theorem int_key {a : Int} (ha : WF a) : ∃ kl, keyOf Try.prog 2 (.int .i64 a) = some kl := ⟨_, keyOf_int_mk Try.underlying2 ha⟩
def iv (a : Int) : Value := .int .i64 a
theorem iv_inj {a b : Int} (h : iv a = iv b) : a = b := by simpa [iv] using h
theorem take_snoc' {l : List Int} {k : Nat} (h : k < l.length) : l.take (k + 1) = l.take k ++ [l[k]?.getD 0] := by
  rw [List.take_succ_eq_append_getElem h]; simp [h]
set_option maxRecDepth 100000 in
theorem isRenumbering_any (v : Int) (s : Value) (p : List Int) (w : World) (h : IB w s p) (hwf : ∀ z ∈ p, WF z) :
    Calls Try.prog 141 #[.int .i64 v, s] w (RV (.bool (isRen v p)) w) := by
  obtain ⟨hlen, h3⟩ := h
  have hmm := @run_makeMap Try.prog
  have HPT := Lib.hid fun a W => isPointI_any v a W
  obtain ⟨a0, c0, hs⟩ : ∃ a c, s = .slice a p.length c := by rcases h3 with ⟨a, c, rfl, rfl⟩ | ⟨b, off, cap, rfl, _⟩ <;> exact ⟨_, _, rfl⟩
  by_cases hv : (p.length : Int) = v
  · subst hv
    have hval : isRen (p.length : Int) p = rnGo (p.length : Int) [] p := by simp [isRen]
    rw [hval]
    have HW := Lib.hid hwf
    rcases h3 with ⟨a, c, rfl, rfl⟩ | ⟨b, off, cap, rfl, hlt, hI⟩
    · clear hs hval hwf
      go_enter Try.func141, Try.ntmps141
      go_wp2
      refine wp_loop_rounds 1 ?_
      rw [rounds_succ]
      go_wp2
      go_ret
      exact RV_of rfl ((Below.refl _ _).alloc (Nat.le_refl _) _)
    · clear hs hval hwf
      have HI := Lib.hid hI
      clear hI
      go_enter Try.func141, Try.ntmps141
      go_wp2
      go_loopw [15] (fun i wr => ∃ k : Nat, k ≤ p.length ∧ i = .int .i64 k ∧ BoolSet wr Try.prog 2 4 w.heap.size k ((p.take k).map iv) ∧ Below w.heap.size w wr ∧ Hid (rnGo (p.length : Int) [] p = rnGo (p.length : Int) (p.take k) (p.drop k))) (fun i _ => p.length - (intOf i).toNat)
      case atStart => exact ⟨0, Nat.zero_le _, rfl, BoolSet.made _ _ _ _, (Below.refl _ _).alloc (Nat.le_refl _) _, Lib.hid (by simp)⟩
      case round =>
        obtain ⟨k, hk, rfl, hS, hB, HE⟩ := hrel
        have hsz := hB.size
        have hltB := hS.lt
        by_cases hkl : k < p.length
        · have c0 := (hB.cell (p := ⟨b, off + k, none⟩) hlt).trans (HI.out k hkl)
          have hmem : (p[k]?.getD 0) ∈ p := by rw [List.getElem?_eq_getElem hkl]; exact List.getElem_mem hkl
          have hts := take_snoc' hkl
          have hdr : p.drop k = (p[k]?.getD 0) :: p.drop (k + 1) := by rw [List.drop_eq_getElem_cons hkl]; simp [hkl]
          obtain ⟨z, hz⟩ : ∃ z, z = p[k]?.getD 0 := ⟨_, rfl⟩
          rw [← hz] at c0 hmem hts hdr
          rw [hdr] at HE
          obtain ⟨k1, hk1⟩ := int_key (HW.out z hmem)
          have HK1 := Lib.hid hk1
          have TS := Lib.hid hts
          have g0 : (0 : Int) ≤ (k : Int) := by omega
          have g1 : (k : Int) < (p.length : Int) := by omega
          clear hz hts hdr hk1 hmem
          have hput : ∀ w', BoolSet w' Try.prog 2 4 w.heap.size (k + 1) ((p.take k).map iv ++ [iv z]) → BoolSet w' Try.prog 2 4 w.heap.size (k + 1) ((p.take (k + 1)).map iv) := fun w' h => by rw [TS.out, List.map_append]; exact h
          have HPUT := Lib.hid hput
          have hmm : ∀ β : Bool, Hid (β = true ↔ iv z ∈ (p.take k).map iv) → (β = true ↔ z ∈ p.take k) := fun β h => h.out.trans ⟨fun h => by obtain ⟨q, hq, e⟩ := List.mem_map.1 h; rw [← iv_inj e]; exact hq, fun h => List.mem_map.2 ⟨z, h, rfl⟩⟩
          have HM := Lib.hid hmm
          clear hput hmm
          cases hin : inP (p.length : Int) z with
          | false =>
            have HIN := Lib.hid hin
            have hpt := HPT.out z
            rw [hin] at hpt
            have HP1 := Lib.hid hpt
            clear hin hpt
            go_wp2_with (go_at_call 64; refine (HP1.out _).mono ?_; rintro e w' ⟨rfl, rfl⟩)
            go_ret
            exact RV_of (bool_eq (by rw [HE.out, rnGo_bad HIN.out])) hB
          | true =>
            have HIN := Lib.hid hin
            have hpt := HPT.out z
            rw [hin] at hpt
            have HP1 := Lib.hid hpt
            clear hin hpt
            obtain ⟨β1, hrun, hβ1⟩ : ∃ β : Bool, (Instr.lookup 170 (.map (some w.heap.size)) (.int .i64 z) false).run Try.prog wr = .ok (.bool β) wr ∧ (β = true ↔ iv z ∈ (p.take k).map iv) := hS.look intKeyed Try.underlying170 Try.underlying4 (zeroBool _) HK1.out
            have hb1 := HM.out β1 (Lib.hid hβ1)
            by_cases hsn : z ∈ p.take k
            · have HSN := Lib.hid hsn
              obtain rfl : β1 = true := hb1.2 hsn
              clear hsn hb1 hβ1
              go_wp2_with (go_at_call 64; refine (HP1.out _).mono ?_; rintro e w' ⟨rfl, rfl⟩)
              go_ret
              exact RV_of (bool_eq (by rw [HE.out, rnGo_dup HSN.out])) hB
            · have HSN := Lib.hid hsn
              obtain rfl : β1 = false := Bool.eq_false_iff.2 (fun h => hsn (hb1.1 h))
              clear hsn hb1 hβ1
              go_wp2_with (first | (go_at_call 64; refine (HP1.out _).mono ?_; rintro e w' ⟨rfl, rfl⟩) | (at_mapUpdate; refine wpList_put_set _ rfl _ _ _ 170 rfl 2 4 intKeyed Try.underlying170 Try.underlying4 w.heap.size k ((p.take k).map iv) rfl hS (by unfold maxLen; omega) (iv z) k1 rfl rfl HK1.out ?_; intro w3 hS3 hg3))
              have hB3 := hB.grown hg3 hsz (fun j e => by cases e; exact Nat.le_refl _)
              go_roundw
              case rel => exact ⟨k + 1, by omega, by go_num, HPUT.out _ hS3, hB3, Lib.hid (by rw [HE.out, rnGo_next HIN.out HSN.out, TS.out])⟩
              case measure => simp [intOf]; omega
        · go_wp2
          go_ret
          exact RV_of (bool_eq (by rw [HE.out, List.drop_eq_nil_of_le (by omega), rnGo])) hB
  · have hval : isRen v p = false := by simp [isRen, hv]
    rw [hval]
    have hd : ((p.length : Int) != v) = true := by simpa using hv
    subst hs
    clear hval h3 hv hwf
    go_enter Try.func141, Try.ntmps141
    go_wp2
    go_ret
    exact RV_of rfl (Below.refl _ _)
end Go.Proofs.Ytehdpgjbmnkkiaa

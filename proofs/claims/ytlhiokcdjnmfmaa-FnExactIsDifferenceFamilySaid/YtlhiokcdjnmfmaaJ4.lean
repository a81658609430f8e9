
/- The program's BlocksAt: the indices of the blocks through a point. The model's ThirdPoint answers as the plain function thirdV. The model's ThirdPoint answers as the plain function thirdV. Slices of integers: equality of two that hold the same. The model's list of the blocks through a point. BlocksAt: the program and the model answer alike. impl.isDifferenceTriple, differencesOf; spec.l02Triple. spec.l02Triple, the first cases. spec.l02Triple, the other cases. Masks of small numbers. -/
import Derived.Test.YtlhiokcdjnmfmaaJ3
import Derived.Maps.AppendAt
import Derived.Deep.QuietTactic
import Derived.BigQuiet
namespace Go.Proofs.Ytlhiokcdjnmfmaa
open Go.RowKit Go.Maps Go.Shelf
attribute [local go_sem] Oper.semAt_some
theorem infoInt64 : (Try.prog.info? 2).map (fun i => (i.zero, i.size, i.bytes)) = some (some (.int .i64 0), 1, 8) := by kernel_rfl
def idxs (pre : List (Nat × Blk)) : List Value := pre.map fun q => .int .i64 (q.1 : Int)
/-- The value owns a row of these integers, beyond base; it is nil just where there is none. -/
def OwnI (W : World) (base : Nat) (u : Value) (zs : List Value) : Prop := W.ownsRow base 2 1 u zs.length zs ∧ (u = .slice none 0 0 ↔ zs = [])
/-- Returns a fresh slice of integers and a code. -/
def RInts (zs : List Value) (κ : Int) (w : World) (e : Ending) (w' : World) : Prop := ∃ u, e = .returned (.tuple #[u, .int .i64 κ]) ∧ OwnI w' w.heap.size u zs ∧ Below w.heap.size w w'
theorem ownsRow_base {W : World} {base base' : Nat} {e : TypeId} {size : Nat} {v : Value} {k : Nat} {xs : List Value} (h : W.ownsRow base e size v k xs) (hb : base' ≤ base) : W.ownsRow base' e size v k xs := by
  obtain ⟨h1, h2⟩ := h
  refine ⟨h1, ?_⟩
  rcases h2 with h2 | ⟨g, cap, cur, e1, e2, e3⟩
  · exact .inl h2
  · exact .inr ⟨g, cap, cur, e1, by omega, e3⟩
theorem lt_new {w w1 : World} {cs : Array Value} {T : TypeId} (h : Below (w.alloc (.cells cs T)).heap.size (w.alloc (.cells cs T)) w1) : w.heap.size < w1.heap.size := by
  have := h.size
  simp at this
  omega
theorem below_new {w w1 : World} {cs : Array Value} {T : TypeId} (h : Below (w.alloc (.cells cs T)).heap.size (w.alloc (.cells cs T)) w1) : Below w.heap.size w w1 :=
  ((Below.refl _ _).alloc (Nat.le_refl _) _).trans (h.mono (by simp))
theorem appended2 {W w1 : World} {n n₁ B Bp : Nat} {t e : TypeId} {size : Nat} {v v' : Value} {k m : Nat} {xs ys : List Value} {tmp : Obj}
    (hv : Boxed W B t v) (hte : t ≠ e) (hrow : W.ownsRow n₁ e size v k xs) (hn : n ≤ W.heap.size) (hB : n ≤ B) (hnn : n ≤ n₁) (hBp : Bp < n₁) (hne : Bp ≠ B)
    (hown' : w1.ownsRow n₁ e size v' m ys) (hgrow : (W.alloc tmp).grownBy w1 v.ownBlock) :
    Boxed w1 B t v ∧ Boxed (w1.setCell ⟨B, 0, none⟩ v') B t v' ∧ (w1.setCell ⟨B, 0, none⟩ v').ownsRow n₁ e size v' m ys ∧ KeepsOthers W (w1.setCell ⟨B, 0, none⟩ v') ∧ KpB n Bp W (w1.setCell ⟨B, 0, none⟩ v') := by
  have hv1 : Boxed w1 B t v := (hv.alloc tmp).kept hgrow (hv.not_row hte hrow)
  have hge : ∀ j, v.ownBlock = some j → n₁ ≤ j := fun j ej => by
    rcases hrow.2 with ⟨rfl, _⟩ | ⟨g, cap, cur, rfl, hb, _, _⟩
    · simp [Value.ownBlock] at ej
    · obtain rfl : g = j := by simpa [Value.ownBlock] using ej
      exact hb
  refine ⟨hv1, hv1.set v', hown'.kept (grownBy_setCell' w1 B v') (.inr (hv1.not_row hte hown').symm), ?_, ?_, ?_⟩
  · refine ((KeepsOthers.alloc W tmp).trans (KeepsOthers.of_grownBy hgrow fun j o ej hj => ?_)).trans (KeepsOthers.setCell _ _ _)
    rcases (hrow.alloc tmp).2 with ⟨rfl, _⟩ | ⟨g, cap, cur, rfl, _, hgb, _⟩
    · simp [Value.ownBlock] at ej
    · obtain rfl : g = j := by simpa [Value.ownBlock] using ej
      rw [hgb] at hj; cases hj; rfl
  · exact (((Below.refl n W).alloc hn tmp).grown hgrow (by simp; omega) fun j ej => Nat.le_trans hnn (hge j ej)).setCell (p := ⟨B, 0, none⟩) hB v'
  · intro u hu
    have hlt : Bp < W.heap.size := by obtain ⟨ob, ho, _⟩ := cells_of_cell hu; exact (Array.getElem?_eq_some_iff.1 ho).1
    have h1 := cell_past (ob := tmp) hu hlt
    have h2 : w1.cell? ⟨Bp, 0, none⟩ = some u := (World.cell?_of_block (hgrow.block Bp (by simp; omega) (fun e' => by have := hge Bp e'.symm; omega))).trans h1
    exact (World.cell?_of_block ((grownBy_setCell' w1 B v').block Bp (Nat.lt_of_lt_of_le (by simp; omega) hgrow.size) (fun e' => hne (by cases e'; rfl)))).trans h2
end Go.Proofs.Ytlhiokcdjnmfmaa

namespace Go.Proofs.Ytlhiokcdjnmfmaa
open Go.RowKit Go.Maps
set_option maxRecDepth 100000 in
theorem l01With_any (x : Blk) (p : Int) (w : World) : Calls Try.prog 93 #[bv x, .int .i64 p] w (RV (.bool (hasB x p)) w) := by
  obtain ⟨a, b, c⟩ := x
  unfold bv
  dsimp only
  by_cases h1 : a = p
  · have e1 : (a == p) = true := by simp [h1]
    have H1 := Lib.hid h1
    clear h1
    go_enter Try.func93, Try.ntmps93
    go_wp2
    go_ret
    exact RV_of (bool_eq (by simp [hasB, H1.out])) ((Below.refl _ _).alloc (Nat.le_refl _) _)
  · have e1 : (a == p) = false := by simp [h1]
    have H1 := Lib.hid h1
    clear h1
    by_cases h2 : b = p
    · have e2 : (b == p) = true := by simp [h2]
      have H2 := Lib.hid h2
      clear h2
      go_enter Try.func93, Try.ntmps93
      go_wp2
      go_ret
      exact RV_of (bool_eq (by simp [hasB, H2.out])) ((Below.refl _ _).alloc (Nat.le_refl _) _)
    · have e2 : (b == p) = false := by simp [h2]
      have H2 := Lib.hid h2
      clear h2
      go_enter Try.func93, Try.ntmps93
      go_wp2
      go_ret
      exact RV_of (bool_eq (by rw [Bool.eq_iff_iff]; simp [hasB, H1.out, H2.out])) ((Below.refl _ _).alloc (Nat.le_refl _) _)

set_option maxRecDepth 100000 in
theorem l01Third_any (v : Int) (s : Value) (bs : List Blk) (a b : Int) (w : World) (h : SB w s bs) (hg : ∀ x ∈ bs, goodB v x = true) (hv : v ≤ 15) (ha : 0 ≤ a) (ha' : a ≤ 15) (hb : 0 ≤ b) (hb' : b ≤ 15) :
    Calls Try.prog 98 #[.agg #[.int .i64 v, s], .int .i64 a, .int .i64 b] w (RV (.int .i64 (third1 bs a b)) w) := by
  have hs := h.slice
  have H := Lib.hid h
  have HG := Lib.hid hg
  have hl := h.2.1
  clear h hg
  obtain ⟨a0, c0, rfl⟩ := hs
  go_enter Try.func98, Try.ntmps98
  go_wp2
  go_loopw [7] (fun i wr => ∃ k : Nat, k ≤ bs.length ∧ i = .int .i64 k ∧ Below (w.heap.size + 1) (w.alloc (.cells #[.int .i64 v, .slice a0 bs.length c0] 31)) wr ∧ Hid ((bs.take k).find? (bothB a b) = none)) (fun i _ => bs.length - (intOf i).toNat)
  case atStart => exact ⟨0, Nat.zero_le _, rfl, Below.refl _ _, Lib.hid (by simp)⟩
  case round =>
    obtain ⟨k, hk, rfl, hB, HN⟩ := hrel
    have hz := hB.size
    simp at hz
    have p1 : wr.cell? ⟨w.heap.size, 1, none⟩ = some (.slice a0 bs.length c0) := by rw [hB.cell (by simp)]; simp
    have hBw : Below w.heap.size w wr := ((Below.refl _ _).alloc (Nat.le_refl _) _).trans (hB.mono (by omega))
    by_cases hkl : k < bs.length
    · rcases H.out.2.2 with ⟨_, _, _, hnil⟩ | ⟨bb, off, cap, hval, hblt, hbl⟩
      · rw [hnil] at hkl; simp at hkl
      · simp at hval
        obtain ⟨rfl, rfl⟩ := hval
        obtain ⟨x, hx, ex, x1, x2, x3⟩ := blks_at (hbl.below hBw hblt) hkl
        have hgx := HG.out x hx
        rw [goodB_iff] at hgx
        obtain ⟨b1, b2, b3, b4⟩ := hgx
        have hn := find_next hkl ex HN.out
        have hw1 := l01With_any x a
        have hw2 := l01With_any x b
        have hth : third1 bs a b = (match bs.find? (bothB a b) with | some x => thirdOf x a b | none => -1) := rfl
        have hbo : bothB a b x = (hasB x a && hasB x b) := rfl
        have htx : thirdOf x a b = x.a + x.b + x.c - a - b := rfl
        obtain ⟨p, q, r⟩ := x
        dsimp only at x1 x2 x3 b1 b2 b3 b4 htx
        have g0 : (0 : Int) ≤ (k : Int) := by omega
        have g1 : (k : Int) < (bs.length : Int) := by omega
        have HNX := Lib.hid hn
        have HTH := Lib.hid hth
        have HTX := Lib.hid htx
        clear hbl hx ex hn hth htx
        cases h1 : hasB ⟨p, q, r⟩ a with
        | false =>
          rw [h1] at hw1 hbo
          have HW1 := Lib.hid hw1
          have HBO := Lib.hid hbo
          clear hw1 hw2 h1 hbo
          go_wp2_with (go_at_call 93; refine (HW1.out _).mono ?_; rintro e w1 ⟨rfl, hb1⟩)
          go_roundw
          case rel => exact ⟨k + 1, by omega, by go_num, (hB.alloc (by omega) _).trans (hb1.mono (by simp; omega)), Lib.hid (HNX.out.2 (by rw [HBO.out]; rfl))⟩
          case measure => simp [intOf]; omega
        | true =>
          rw [h1] at hw1 hbo
          have HW1 := Lib.hid hw1
          clear hw1 h1
          cases h2 : hasB ⟨p, q, r⟩ b with
          | false =>
            rw [h2] at hw2 hbo
            have HW2 := Lib.hid hw2
            have HBO := Lib.hid hbo
            clear hw2 h2 hbo
            go_wp2_with fail
            refine (HW1.out _).mono ?_
            rintro e w1 ⟨rfl, hb1⟩
            have d1 := cell_new hb1 0 rfl
            have d2 := cell_new hb1 1 rfl
            have d3 := cell_new hb1 2 rfl
            have z1 := hb1.size
            simp at z1
            go_wp2_with (go_at_call 93; refine (HW2.out _).mono ?_; rintro e w2 ⟨rfl, hb2⟩)
            go_roundw
            case rel => exact ⟨k + 1, by omega, by go_num, ((hB.alloc (by omega) _).trans (hb1.mono (by simp; omega))).trans (hb2.mono (by omega)), Lib.hid (HNX.out.2 (by rw [HBO.out]; rfl))⟩
            case measure => simp [intOf]; omega
          | true =>
            rw [h2] at hw2 hbo
            have HW2 := Lib.hid hw2
            have HBO := Lib.hid hbo
            clear hw2 h2 hbo
            go_wp2_with fail
            refine (HW1.out _).mono ?_
            rintro e w1 ⟨rfl, hb1⟩
            have d1 := cell_new hb1 0 rfl
            have d2 := cell_new hb1 1 rfl
            have d3 := cell_new hb1 2 rfl
            have z1 := hb1.size
            simp at z1
            go_wp2_with (go_at_call 93; refine (HW2.out _).mono ?_; rintro e w2 ⟨rfl, hb2⟩; have e1 := (hb2.cell (p := ⟨wr.heap.size, 0, none⟩) (by show wr.heap.size < _; omega)).trans d1; have e2 := (hb2.cell (p := ⟨wr.heap.size, 1, none⟩) (by show wr.heap.size < _; omega)).trans d2; have e3 := (hb2.cell (p := ⟨wr.heap.size, 2, none⟩) (by show wr.heap.size < _; omega)).trans d3)
            go_ret
            refine RV_of (int_eq ?_) (((hBw.alloc (by omega) _).trans (hb1.mono (by simp; omega))).trans (hb2.mono (by omega)))
            rw [HTH.out, HNX.out.1 (by rw [HBO.out]; rfl)]
            exact HTX.out.symm
    · go_wp2
      go_ret
      have e : k = bs.length := by omega
      subst e
      refine RV_of (int_eq ?_) hBw
      have := HN.out
      rw [List.take_length] at this
      unfold third1
      rw [this]
end Go.Proofs.Ytlhiokcdjnmfmaa

namespace Go.Proofs.Ytlhiokcdjnmfmaa
open Go.RowKit Go.Maps
def pointsCode (v : Int) (bs : List Blk) (ps : List Int) : Int := if isSysImpl v bs then (if ps.all (inP v) then 0 else 2) else 1
theorem RS.quiet2 {P : Program} {f : FuncId} {args : Array Value} {w : World} {a n : Nat} {v : Value} (h : Calls P f args (w.drewN (a + n)) (RS v (w.drewN (a + n)))) :
    Calls P f args (w.drewN (a + n)) fun e w'' => e = .returned v ∧ ∃ m, w'' = w.drewN (a + m) :=
  h.mono fun _ _ ⟨he, hm⟩ => ⟨he, n, hm.symm⟩
theorem Ints.below {w w' : World} {b off B : Nat} {zs : List Int} (h : Ints w b off zs) (hb : Below B w w') (hl : b < B) : Ints w' b off zs := fun k hk => (hb.cell (p := ⟨b, off + k, none⟩) hl).trans (h k hk)
set_option maxRecDepth 100000 in
theorem l01Points_any (v : Int) (s : Value) (bs : List Blk) (b off cap : Nat) (ps : List Int) (w : World) (h : SB w s bs) (hps : Ints w b off ps) (hb : b < w.heap.size) (hpl : ps.length ≤ 1100000) :
    Calls Try.prog 97 #[.agg #[.int .i64 v, s], .slice (some ⟨b, off, none⟩) ps.length cap] w (RV (.int .i64 (pointsCode v bs ps)) w) := by
  have hs := h.slice
  have hc := l01Is_any v s bs (w.alloc (.cells #[.int .i64 v, s] 31)) (h.below ((Below.refl _ _).alloc (Nat.le_refl _) _) (Nat.le_refl _))
  have HPS := Lib.hid hps
  clear h hps
  obtain ⟨a0, c0, rfl⟩ := hs
  cases hi : isSysImpl v bs with
  | false =>
    rw [hi] at hc
    have HC := Lib.hid hc
    have hp : pointsCode v bs ps = 1 := by simp [pointsCode, hi]
    rw [hp]
    clear hc hi hp
    go_enter Try.func97, Try.ntmps97
    go_wp2_with (go_at_call 59; refine HC.out.mono ?_; rintro e w1 ⟨rfl, hb1⟩)
    go_ret
    exact RV_of rfl (((Below.refl _ _).alloc (Nat.le_refl _) _).trans (hb1.mono (by simp)))
  | true =>
    rw [hi] at hc
    have HC := Lib.hid hc
    obtain ⟨v3, v15, _⟩ := sys_size hi
    have hp : pointsCode v bs ps = if ps.all (inP v) then 0 else 2 := by simp [pointsCode, hi]
    have HP := Lib.hid hp
    clear hc hi hp
    go_enter Try.func97, Try.ntmps97
    go_wp2_with fail
    refine HC.out.mono ?_
    rintro e w1 ⟨rfl, hb1⟩
    have p0 := cell_new hb1 0 rfl
    have z1 := hb1.size
    simp at z1
    have hbw := ((Below.refl w.heap.size w).alloc (Nat.le_refl _) (.cells #[.int .i64 v, .slice a0 bs.length c0] 31)).trans (hb1.mono (by simp))
    have HI1 := Lib.hid (HPS.out.below hbw hb)
    clear hb1 HPS HC
    go_wp2_with fail
    go_loopw [5] (fun i wr => ∃ k : Nat, k ≤ ps.length ∧ i = .int .i64 k ∧ (∃ n, wr = w1.drewN n) ∧ Hid ((ps.take k).all (inP v) = true)) (fun i _ => ps.length - (intOf i).toNat)
    case atStart => exact ⟨0, Nat.zero_le _, rfl, ⟨0, rfl⟩, Lib.hid (by simp)⟩
    case round =>
      obtain ⟨k, hk, rfl, ⟨n, rfl⟩, HA⟩ := hrel
      by_cases hkl : k < ps.length
      · have hx := HI1.out k hkl
        obtain ⟨x, hxe⟩ : ∃ x, x = ps[k]?.getD 0 := ⟨_, rfl⟩
        rw [← hxe] at hx
        have hnx : (ps.take (k + 1)).all (inP v) = ((ps.take k).all (inP v) && inP v x) := by
          rw [take_next hkl, List.all_append, hxe, List.getElem?_eq_getElem hkl]
          simp only [Option.getD_some, List.all_cons, List.all_nil, Bool.and_true]
        have hall : inP v x = false → ps.all (inP v) = false := fun hf => by
          rw [List.all_eq_false]
          exact ⟨ps[k], List.getElem_mem hkl, by rw [hxe] at hf; simpa [hkl] using hf⟩
        have HNX := Lib.hid hnx
        have HALL := Lib.hid hall
        have g0 : (0 : Int) ≤ (k : Int) := by omega
        have g1 : (k : Int) < (ps.length : Int) := by omega
        have hc2 := fun W => l01In_any x 0 (v - 1) W
        have he : (decide (0 ≤ x) && decide (x ≤ v - 1)) = inP v x := by
          unfold inP
          rw [Bool.eq_iff_iff]
          simp
          omega
        rw [he] at hc2
        clear hnx hall hxe he
        cases hp : inP v x with
        | false =>
          rw [hp] at hc2
          have HC2 := Lib.hid hc2
          have HPX := Lib.hid hp
          clear hc2 hp
          go_wp2
          go_quiet ((go_at_call 106; exact RS.quiet2 (HC2.out _)))
          go_wp2
          go_ret
          exact RV_of (int_eq (by rw [HP.out, HALL.out HPX.out]; rfl)) (below_drewN (below_drewN hbw _) _)
        | true =>
          rw [hp] at hc2
          have HC2 := Lib.hid hc2
          have HPX := Lib.hid hp
          clear hc2 hp
          go_wp2
          go_quiet ((go_at_call 106; exact RS.quiet2 (HC2.out _)))
          go_wp2
          go_roundw
          case rel => exact ⟨k + 1, by omega, by go_num, ⟨_, rfl⟩, Lib.hid (by rw [HNX.out, HA.out, HPX.out]; rfl)⟩
          case measure => simp [intOf]; omega
      · go_wp2
        go_ret
        have e : k = ps.length := by omega
        subst e
        have := HA.out
        rw [List.take_length] at this
        exact RV_of (int_eq (by rw [HP.out, this]; rfl)) (below_drewN hbw _)

theorem ints2 {w : World} {b : Nat} {x y : Int} (h0 : w.cell? ⟨b, 0, none⟩ = some (.int .i64 x)) (h1 : w.cell? ⟨b, 1, none⟩ = some (.int .i64 y)) : Ints w b 0 [x, y] := by
  intro k hk
  match k, hk with
  | 0, _ => simpa using h0
  | 1, _ => simpa using h1
end Go.Proofs.Ytlhiokcdjnmfmaa

namespace Go.Proofs.Ytlhiokcdjnmfmaa
open Go.RowKit Go.Maps
/-- The value is a slice of just these integers. -/
def IB (w : World) (s : Value) (zs : List Int) : Prop :=
  zs.length ≤ 1100000 ∧ ((∃ a c, s = .slice a 0 c ∧ zs = []) ∨ ∃ b off cap, s = .slice (some ⟨b, off, none⟩) zs.length cap ∧ b < w.heap.size ∧ Ints w b off zs)
theorem IB.below {w w' : World} {s : Value} {zs : List Int} (h : IB w s zs) {B : Nat} (hb : Below B w w') (hB : w.heap.size ≤ B) : IB w' s zs := by
  obtain ⟨h1, h2⟩ := h
  refine ⟨h1, ?_⟩
  rcases h2 with h2 | ⟨b, off, cap, rfl, hl, hr⟩
  · exact .inl h2
  · exact .inr ⟨b, off, cap, rfl, by have := hb.size; omega, hr.below hb (by omega)⟩
theorem OwnI.ib {W : World} {base : Nat} {u : Value} {zs : List Int} (h : OwnI W base u (zs.map (Value.int .i64))) (hl : zs.length ≤ 1100000) : IB W u zs := by
  obtain ⟨⟨_, h | ⟨g, cap, cur, rfl, hb, hcur, hn, hc, hsz, hx⟩⟩, _⟩ := h
  · obtain ⟨rfl, h0⟩ := h
    refine ⟨hl, .inl ⟨_, _, rfl, ?_⟩⟩
    rw [List.length_map] at h0
    exact List.length_eq_zero_iff.1 h0
  · refine ⟨hl, .inr ⟨g, 0, cap, by rw [List.length_map], (Array.getElem?_eq_some_iff.1 hcur).1, fun k hk => ?_⟩⟩
    have e : (zs.map (Value.int .i64))[k]? = some (.int .i64 (zs[k]?.getD 0)) := by simp [hk]
    rw [← hx, List.getElem?_take_of_lt (by rw [List.length_map]; omega)] at e
    rw [Nat.zero_add]
    simp [World.cell?, hcur]
    simpa using e
set_option maxRecDepth 100000 in
theorem eqInt64S_same (s t : Value) (zs : List Int) (w : World) (h : IB w s zs) (k : IB w t zs) : Calls Try.prog 19 #[s, t] w (RV (.bool true) w) := by
  have hlen := h.1
  rcases h.2 with ⟨a0, c0, rfl, rfl⟩ | ⟨b, off, cap, rfl, hb, hB⟩
  · rcases k.2 with ⟨a1, c1, rfl, _⟩ | ⟨b', off', cap', rfl, hb', hB'⟩
    all_goals
      clear hlen h k
      go_enter Try.func19, Try.ntmps19
      go_wp2
      refine wp_loop_rounds 1 ?_
      rw [rounds_succ]
      go_wp2
      go_ret
      exact RV_of rfl (Below.refl _ _)
  · by_cases h0 : zs.length = 0
    · rcases k.2 with ⟨a1, c1, rfl, rfl⟩ | ⟨b', off', cap', rfl, hb', hB'⟩
      all_goals
        try rw [h0]
        clear hlen h k
        go_enter Try.func19, Try.ntmps19
        go_wp2
        refine wp_loop_rounds 1 ?_
        rw [rounds_succ]
        go_wp2
        go_ret
        exact RV_of rfl (Below.refl _ _)
    · rcases k.2 with ⟨a1, c1, rfl, rfl⟩ | ⟨b', off', cap', rfl, hb', hB'⟩
      · exact absurd rfl h0
      · have HB := Lib.hid hB
        have HB' := Lib.hid hB'
        clear hB hB' h k h0
        have hne : (((zs.length : Nat) : Int) != (zs.length : Nat)) = false := by simp
        go_enter Try.func19, Try.ntmps19
        go_wp2
        go_loopw [5] (fun i wr => ∃ k : Nat, k ≤ zs.length ∧ i = .int .i64 k ∧ Below w.heap.size w wr) (fun i _ => zs.length - (intOf i).toNat)
        case atStart => exact ⟨0, Nat.zero_le _, rfl, Below.refl _ _⟩
        case round =>
          obtain ⟨k, hk, rfl, hBw⟩ := hrel
          by_cases hkl : k < zs.length
          · have q1 := (hBw.cell (p := ⟨b, off + k, none⟩) hb).trans (HB.out k hkl)
            have q2 := (hBw.cell (p := ⟨b', off' + k, none⟩) hb').trans (HB'.out k hkl)
            obtain ⟨z, hz⟩ : ∃ z, z = zs[k]?.getD 0 := ⟨_, rfl⟩
            rw [← hz] at q1 q2
            clear hz
            have r1 := cell_regrown q1
            have r2 := cell_regrown q2
            clear q1 q2
            have g0 : (0 : Int) ≤ (k : Int) := by omega
            have g1 : (k : Int) < (zs.length : Int) := by omega
            have hzz : (z != z) = false := by simp
            go_wp2
            refine wp_region_quiet_below (by kernel_rfl) (by kernel_rfl) ?_
            repeat (go_big_quiet_step (fail))
            refine wpQuiet_nil ?_
            intro _ hw'
            obtain ⟨⟨dq, osq⟩, hw''⟩ := hw'
            subst hw''
            go_wp2
            go_roundw
            case rel => exact ⟨k + 1, by omega, by go_num, hBw.trans ((below_regrown _ dq osq).mono hBw.size)⟩
            case measure => simp [intOf]; omega
          · go_wp2
            go_ret
            exact RV_of rfl hBw
end Go.Proofs.Ytlhiokcdjnmfmaa

namespace Go.Proofs.Ytlhiokcdjnmfmaa
open Go.RowKit Go.Maps
/-- The value owns a row of just these integers, beyond base. -/
def OwnJ (W : World) (base : Nat) (u : Value) (zs : List Int) : Prop := W.ownsRow base 2 1 u zs.length (zs.map (Value.int .i64))
theorem OwnJ.kept {w w' : World} {base : Nat} {v : Value} {bs : List Int} {row : Option Nat} (h : OwnJ w base v bs) (hg : w.grownBy w' row) (hr : ∀ r, row = some r → r < base) : OwnJ w' base v bs := by
  obtain ⟨hl, h | ⟨g, cap, cur, rfl, hb, hcur, hrest⟩⟩ := h
  · exact ⟨hl, .inl h⟩
  · exact ⟨hl, .inr ⟨g, cap, cur, rfl, hb, (hg.block g (Array.getElem?_eq_some_iff.1 hcur).1 (fun e => by have := hr g e.symm; omega)).trans hcur, hrest⟩⟩
theorem OwnJ.below {w w' : World} {base : Nat} {v : Value} {bs : List Int} (h : OwnJ w base v bs) {B : Nat} (hb : Below B w w') (hB : w.heap.size ≤ B) : OwnJ w' base v bs :=
  h.kept (only_of_below (hb.mono hB) none) (by simp)
theorem OwnJ.row {w : World} {base : Nat} {v : Value} {bs : List Int} (h : OwnJ w base v bs) : ∀ r, v.ownBlock = some r → base ≤ r := fun r hr => by
  rcases h.2 with ⟨rfl, _⟩ | ⟨g, cap, cur, rfl, hb, _⟩
  · simp [Value.ownBlock] at hr
  · obtain rfl : g = r := by simpa [Value.ownBlock] using hr
    exact hb
theorem OwnJ.ib {W : World} {base : Nat} {u : Value} {zs : List Int} (h : OwnJ W base u zs) (hl : zs.length ≤ 1100000) : IB W u zs := by
  obtain ⟨_, h | ⟨g, cap, cur, rfl, hb, hcur, hn, hc, hsz, hx⟩⟩ := h
  · obtain ⟨rfl, h0⟩ := h
    exact ⟨hl, .inl ⟨_, _, rfl, List.length_eq_zero_iff.1 h0⟩⟩
  · refine ⟨hl, .inr ⟨g, 0, cap, rfl, (Array.getElem?_eq_some_iff.1 hcur).1, fun k hk => ?_⟩⟩
    have e : (zs.map (Value.int .i64))[k]? = some (.int .i64 (zs[k]?.getD 0)) := by simp [hk]
    rw [← hx, List.getElem?_take_of_lt (by omega)] at e
    rw [Nat.zero_add]
    simp [World.cell?, hcur]
    simpa using e
theorem wpList_append_int {w : World} {ops : Array Oper} {rest : List Oper} {o : Oper} {a : Act} {Q : Exit → Act → World → Prop} (hgd : o.guard = none) (s x : Operand)
    (ho : o.op = .call { callee := .builtin .append, args := #[s, x], argTypes := #[26, 26] })
    (base : Nat) (v : Value) (zs : List Int) (hs : a.eval s = v) (hown : OwnJ w base v zs) (b0 c : Nat) (y : Int) (hx : a.eval x = .slice (some ⟨b0, 0, none⟩) 1 c)
    (c1 : w.cell? ⟨b0, 0, none⟩ = some (.int .i64 y)) (hl : zs.length ≤ 1100000) (hbase : base ≤ w.heap.size)
    (h : ∀ (g cap : Nat) (w' : World), OwnJ w' base (.slice (some ⟨g, 0, none⟩) (zs.length + 1) cap) (zs ++ [y]) → w.grownBy w' v.ownBlock → wpList Try.prog ops Q rest (a.put o.dst (.slice (some ⟨g, 0, none⟩) (zs.length + 1) cap)) w') : wpList Try.prog ops Q (o :: rest) a w := by
  obtain ⟨i0, hi, hz0, hz1, hz2⟩ := info_parts infoInt64
  refine wpList_append_own w hgd s x 26 ho base 2 i0 _ 1 8 Try.underlying26 hi hz0 hz1 hz2 rfl (by decide) v zs.length (zs.map (Value.int .i64)) hs hown ⟨b0, 0, none⟩ 1 c [.int .i64 y] hx rfl ?_ ?_ (by unfold maxLen; omega) (by omega) hbase ?_
  · intro j u hj
    rw [addr_at, Nat.zero_add]
    match j, hj with
    | 0, hj => simp at hj; rw [← hj]; exact c1
    | j + 1, hj => simp at hj
  · intro u hu
    simp at hu
    rw [hu]
    rfl
  · intro v' w' hown' hg _
    obtain ⟨g, cap, rfl⟩ := row_some hown'
    refine h g cap w' ?_ hg
    unfold OwnJ
    rw [List.length_append, List.length_singleton, List.map_append, List.map_singleton]
    exact hown'
theorem OwnJ.new0 (W : World) {base : Nat} (hb : base ≤ W.heap.size) : OwnJ (W.alloc (.cells #[] 2)) base (.slice (some ⟨W.heap.size, 0, none⟩) 0 0) [] :=
  ⟨rfl, .inr ⟨W.heap.size, 0, #[], rfl, hb, World.alloc_heap_new W _, Nat.le_refl _, Nat.zero_le _, rfl, rfl⟩⟩
/-- The indices of the blocks through p among the first k. -/
def idxI (p : Int) (bs : List Blk) (k : Nat) : List Int := (upTo p bs k).map fun q => (q.1 : Int)
theorem idxI_succ (p : Int) (bs : List Blk) (k : Nat) : idxI p bs (k + 1) = idxI p bs k ++ if hasB (bs[k]?.getD default) p then [(k : Int)] else [] := by
  unfold idxI
  rw [upTo_succ, List.map_append]
  congr 1
  split <;> rfl
theorem idxI_len (p : Int) (bs : List Blk) (k : Nat) : (idxI p bs k).length ≤ k := by
  unfold idxI
  rw [List.length_map]
  exact upTo_len p bs k
set_option maxRecDepth 100000 in
theorem l01At_any (v : Int) (s : Value) (bs : List Blk) (p : Int) (w : World) (h : SB w s bs) :
    Calls Try.prog 60 #[.agg #[.int .i64 v, s], .int .i64 p] w fun e w' => ∃ u, e = .returned u ∧ OwnJ w' w.heap.size u (idxI p bs bs.length) ∧ Below w.heap.size w w' := by
  have hs := h.slice
  have H := Lib.hid h
  have hl := h.2.1
  clear h
  obtain ⟨a0, c0, rfl⟩ := hs
  go_enter Try.func60, Try.ntmps60
  go_wp2
  have ho0 := OwnJ.new0 (w.alloc (.cells #[.int .i64 v, .slice a0 bs.length c0] 31)) (base := w.heap.size + 1) (by simp)
  rw [World.size_alloc] at ho0
  obtain ⟨w2, hw2⟩ : ∃ w2, (w.alloc (.cells #[.int .i64 v, .slice a0 bs.length c0] 31)).alloc (.cells #[] 2) = w2 := ⟨_, rfl⟩
  have hB0 : Below w.heap.size w w2 := by rw [← hw2]; exact ((Below.refl _ _).alloc (Nat.le_refl _) _).alloc (by simp) _
  have hz2 : w2.heap.size = w.heap.size + 1 + 1 := by rw [← hw2]; simp
  have hc2 : w2.cell? ⟨w.heap.size, 1, none⟩ = some (.slice a0 bs.length c0) := by rw [← hw2]; exact cell_past (new_at 1 rfl) (by simp)
  rw [hw2] at ho0 ⊢
  have HO0 := Lib.hid ho0
  clear hw2 ho0
  go_loopw [5, 6] (fun o i wr => ∃ k : Nat, k ≤ bs.length ∧ i = .int .i64 k ∧ Below (w.heap.size + 1) w2 wr ∧ OwnJ wr (w.heap.size + 1) o (idxI p bs k) ∧ ∃ a n c, o = .slice a n c) (fun _ i _ => bs.length - (intOf i).toNat)
  case atStart => exact ⟨0, Nat.zero_le _, rfl, Below.refl _ _, HO0.out, _, _, _, rfl⟩
  case round =>
    obtain ⟨k, hk, rfl, hB, hO, hform⟩ := hrel
    have hz := hB.size
    have p1 : wr.cell? ⟨w.heap.size, 1, none⟩ = some (.slice a0 bs.length c0) := by rw [hB.cell (by simp)]; exact hc2
    have hBw : Below w.heap.size w wr := hB0.trans (hB.mono (by omega))
    obtain ⟨a3, n3, c3, rfl⟩ := hform
    have HO := Lib.hid hO
    clear hO
    by_cases hkl : k < bs.length
    · rcases H.out.2.2 with ⟨_, _, _, hnil⟩ | ⟨bb, off, cap, hval, hblt, hbl⟩
      · rw [hnil] at hkl; simp at hkl
      · simp at hval
        obtain ⟨rfl, rfl⟩ := hval
        obtain ⟨x1, x2, x3⟩ := (hbl.below hBw hblt) k hkl
        obtain ⟨x, hx⟩ : ∃ x, x = bs[k]?.getD default := ⟨_, rfl⟩
        have hsucc := idxI_succ p bs k
        rw [← hx] at x1 x2 x3 hsucc
        have hlen := idxI_len p bs k
        have hw1 := l01With_any x p
        clear hbl hx
        obtain ⟨y1, y2, y3⟩ := x
        dsimp only [bv] at x1 x2 x3 hw1
        have g0 : (0 : Int) ≤ (k : Int) := by omega
        have g1 : (k : Int) < (bs.length : Int) := by omega
        cases h1 : hasB ⟨y1, y2, y3⟩ p with
        | false =>
          rw [h1] at hw1 hsucc
          have HW1 := Lib.hid hw1
          have HS := Lib.hid hsucc
          clear hw1 h1 hsucc
          go_wp2_with (go_at_call 93; refine (HW1.out _).mono ?_; rintro e w1 ⟨rfl, hb1⟩)
          go_roundw
          case rel => exact ⟨k + 1, by omega, by go_num, hB.trans (hb1.mono (by omega)), by rw [HS.out, if_neg (by decide), List.append_nil]; exact HO.out.below hb1 (Nat.le_refl _), _, _, _, rfl⟩
          case measure => simp [intOf]; omega
        | true =>
          rw [h1, if_pos rfl] at hsucc
          rw [h1] at hw1
          have HW1 := Lib.hid hw1
          have HS := Lib.hid hsucc
          clear hw1 h1 hsucc
          go_wp2_with fail
          refine (HW1.out _).mono ?_
          rintro e w1 ⟨rfl, hb1⟩
          have hz1 := hb1.size
          have HO1 := Lib.hid (HO.out.below hb1 (Nat.le_refl _))
          go_wp2_with (at_builtin; refine wpList_append_int rfl _ _ rfl (w.heap.size + 1) _ (idxI p bs k) rfl (HO1.out.below ((Below.refl _ _).alloc (Nat.le_refl _) _) (Nat.le_refl _)) _ _ (k : Int) rfl (by simp [go_sem]) (by omega) (by simp; omega) ?_; intro g' cap' w4 hO4 hg4)
          have hrow := HO1.out.row
          have hgo : w1.grownBy w4 (Value.slice a3 n3 c3).ownBlock := ⟨hg4.os, hg4.tape, hg4.output, by have := hg4.size; simp at this; omega, fun i hi hne => by
            rw [hg4.block i (by simp; omega) hne, Below.heap_alloc _ _ _ hi]⟩
          clear hg4
          have hB1 := hB.trans (hb1.mono (by omega))
          go_roundw
          case rel => exact ⟨k + 1, by omega, by go_num, hB1.grown hgo (by omega) (fun j e => hrow j e), by rw [HS.out]; exact hO4, _, _, _, rfl⟩
          case measure => simp [intOf]; omega
    · go_wp2
      go_ret
      have e : k = bs.length := by omega
      subst e
      exact ⟨_, rfl, ownsRow_base HO.out (by omega), hBw⟩
end Go.Proofs.Ytlhiokcdjnmfmaa

namespace Go.Proofs.Ytlhiokcdjnmfmaa
open Go.RowKit Go.Maps
/-- The indices of the blocks through p, and the code. -/
def atF (v : Int) (bs : List Blk) (p : Int) : List Int × Int := if isSysImpl v bs then (if inP v p then (idxI p bs bs.length, 0) else ([], 2)) else ([], 1)
def RJ (r : List Int × Int) (w : World) (e : Ending) (w' : World) : Prop := ∃ u, e = .returned (.tuple #[u, .int .i64 r.2]) ∧ OwnJ w' w.heap.size u r.1 ∧ Below w.heap.size w w'
theorem OwnJ.nil (w : World) (base : Nat) : OwnJ w base (.slice none 0 0) [] := ⟨rfl, .inl ⟨rfl, rfl⟩⟩
theorem idxs_eq (p : Int) (bs : List Blk) : idxs (upTo p bs bs.length) = (idxI p bs bs.length).map (Value.int .i64) := by
  unfold idxs idxI
  rw [List.map_map]
  rfl
theorem ints1 {w : World} {b : Nat} {x : Int} (h0 : w.cell? ⟨b, 0, none⟩ = some (.int .i64 x)) : Ints w b 0 [x] := by
  intro k hk
  match k, hk with
  | 0, _ => simpa using h0
end Go.Proofs.Ytlhiokcdjnmfmaa

namespace Go.Proofs.Ytlhiokcdjnmfmaa
open Go.RowKit Go.Maps
theorem hasDF_any (v : Int) (w : World) : Calls Try.prog 79 #[.int .i64 v] w (RS (.bool (dfV v)) w) := by
  go_enter Try.func79, Try.ntmps79
  go_wp2
  all_goals go_ret
  all_goals refine RS_of (bool_eq ?_)
  all_goals (rw [Bool.eq_iff_iff]; simp [dfV]; try omega)
theorem numsDF_any (v : Int) (w : World) : Calls Try.prog 77 #[.int .i64 v] w (RS (.bool (dfV v)) w) := by
  go_enter Try.func77, Try.ntmps77
  go_wp2
  all_goals go_ret
  all_goals refine RS_of (bool_eq ?_)
  all_goals (rw [Bool.eq_iff_iff]; simp [dfV]; try omega)
theorem dfV_half {v : Int} (h : dfV v = true) : (v - 1).tdiv 2 = (v - 1) / 2 ∧ 7 ≤ v ∧ v ≤ 15 ∧ 3 ≤ (v - 1) / 2 ∧ (v - 1) / 2 ≤ 7 := by
  simp only [dfV, Bool.or_eq_true, decide_eq_true_eq] at h
  rcases h with (rfl | rfl) | rfl <;> decide
set_option maxRecDepth 100000 in
set_option maxHeartbeats 4000000 in
theorem isDT_len (v : Int) (a : Option Addr) (n c : Nat) (w : World) (h : n ≠ 3) : Calls Try.prog 80 #[.int .i64 v, .slice a n c] w (RV (.bool false) w) := by
  have hne : ((n : Int) != 3) = true := by simp; omega
  clear h
  go_enter Try.func80, Try.ntmps80
  go_wp2
  go_quiet (fail)
  go_wp2
  go_ret
  exact RV_of rfl (below_drewN (Below.refl _ _) _)
set_option maxRecDepth 100000 in
set_option maxHeartbeats 16000000 in
theorem isDT_three (v a b c : Int) (B off cap : Nat) (w : World) (hv : dfV v = true) (h0 : w.cell? ⟨B, off, none⟩ = some (.int .i64 a)) (h1 : w.cell? ⟨B, off + 1, none⟩ = some (.int .i64 b)) (h2 : w.cell? ⟨B, off + 2, none⟩ = some (.int .i64 c)) :
    Calls Try.prog 80 #[.int .i64 v, .slice (some ⟨B, off, none⟩) 3 cap] w (RV (.bool (triB v [a, b, c])) w) := by
  obtain ⟨hq, v7, v15, q3, q7⟩ := dfV_half hv
  obtain ⟨q, hqq⟩ : ∃ q, q = (v - 1) / 2 := ⟨_, rfl⟩
  rw [← hqq] at hq q3 q7
  have HT := Lib.hid (show triB v [a, b, c] = (decide (1 ≤ a) && decide (a < b) && decide (b < c) && decide (c ≤ q) && (decide (a + b = c) || decide (a + b + c = v))) by rw [hqq]; simp [triB, at3])
  have hw1 : IntKind.i64.wrap (v - 1) = v - 1 := IntWalk.i64_in _ (by omega)
  clear hqq hv
  by_cases c1 : 1 ≤ a
  case neg =>
    have d1 : decide (a < 1) = true := by simp; omega
    have HV := Lib.hid (show triB v [a, b, c] = false by rw [HT.out]; simp; omega)
    clear c1
    go_enter Try.func80, Try.ntmps80
    go_wp2
    go_quiet (fail)
    go_wp2
    go_ret
    exact RV_of (bool_eq HV.out.symm) (below_drewN (Below.refl _ _) _)
  have d1 : decide (a < 1) = false := by simp; omega
  by_cases c2 : a < b
  case neg =>
    have d2 : decide (b ≤ a) = true := by simp; omega
    have HV := Lib.hid (show triB v [a, b, c] = false by rw [HT.out]; simp; omega)
    clear c1 c2
    go_enter Try.func80, Try.ntmps80
    go_wp2
    go_quiet (fail)
    go_wp2
    go_ret
    exact RV_of (bool_eq HV.out.symm) (below_drewN (Below.refl _ _) _)
  have d2 : decide (b ≤ a) = false := by simp; omega
  by_cases c3 : b < c
  case neg =>
    have d3 : decide (c ≤ b) = true := by simp; omega
    have HV := Lib.hid (show triB v [a, b, c] = false by rw [HT.out]; simp; omega)
    clear c1 c2 c3
    go_enter Try.func80, Try.ntmps80
    go_wp2
    go_quiet (fail)
    go_wp2
    go_ret
    exact RV_of (bool_eq HV.out.symm) (below_drewN (Below.refl _ _) _)
  have d3 : decide (c ≤ b) = false := by simp; omega
  by_cases c4 : c ≤ q
  case neg =>
    have d4 : decide (q < c) = true := by simp; omega
    have HV := Lib.hid (show triB v [a, b, c] = false by rw [HT.out]; simp; omega)
    clear c1 c2 c3 c4
    go_enter Try.func80, Try.ntmps80
    go_wp2
    go_quiet (fail)
    go_wp2
    go_ret
    exact RV_of (bool_eq HV.out.symm) (below_drewN (Below.refl _ _) _)
  have d4 : decide (q < c) = false := by simp; omega
  have hw2 : IntKind.i64.wrap (a + b) = a + b := IntWalk.i64_in _ (by omega)
  have hw3 : IntKind.i64.wrap (a + b + c) = a + b + c := IntWalk.i64_in _ (by omega)
  by_cases c5 : a + b = c
  case pos =>
    have d5 : (a + b == c) = true := by simpa using c5
    have HV := Lib.hid (show triB v [a, b, c] = true by rw [HT.out]; simp; omega)
    go_enter Try.func80, Try.ntmps80
    go_wp2
    go_quiet (fail)
    go_wp2
    go_quiet (fail)
    go_wp2
    go_ret
    exact RV_of (bool_eq HV.out.symm) (below_drewN (below_drewN (Below.refl _ _) _) _)
  have d5 : (a + b == c) = false := by simpa using c5
  have HV := Lib.hid (show triB v [a, b, c] = (a + b + c == v) by rw [HT.out, Bool.eq_iff_iff]; simp; omega)
  go_enter Try.func80, Try.ntmps80
  go_wp2
  go_quiet (fail)
  go_wp2
  go_quiet (fail)
  go_wp2
  go_ret
  exact RV_of (bool_eq HV.out.symm) (below_drewN (below_drewN (Below.refl _ _) _) _)
theorem isDT_any (v : Int) (s : Value) (t : List Int) (w : World) (hv : dfV v = true) (h : IB w s t) : Calls Try.prog 80 #[.int .i64 v, s] w (RV (.bool (triB v t)) w) := by
  by_cases h3 : t.length = 3
  · rcases h.2 with ⟨_, _, _, rfl⟩ | ⟨B, off, cap, rfl, _, hr⟩
    · simp at h3
    · match t, h3 with
      | [a, b, c], _ => exact isDT_three v a b c B off cap w hv (by simpa using hr 0 (by simp)) (by simpa using hr 1 (by simp)) (by simpa using hr 2 (by simp))
  · have e : triB v t = false := by simp [triB, h3]
    rw [e]
    rcases h.2 with ⟨a, c, rfl, rfl⟩ | ⟨B, off, cap, rfl, _, _⟩
    · exact isDT_len v a 0 c w (by decide)
    · exact isDT_len v _ _ cap w h3
theorem diffsK_succ (v : Int) (k : Nat) : diffsK v (k + 1) = diffsK v k ++ if decide (v ≠ 15) || decide (((k : Int) + 1) ≠ 5) then [(k : Int) + 1] else [] := by
  simp only [diffsK, List.range_succ, List.map_append, List.filter_append, List.map_cons, List.map_nil]
  congr 1
  by_cases e1 : v = 15 <;> by_cases e2 : (k : Int) + 1 = 5 <;> simp [e1, e2]
theorem diffsK_len (v : Int) (k : Nat) : (diffsK v k).length ≤ k := by
  unfold diffsK
  exact Nat.le_trans (List.length_filter_le _ _) (by simp)
end Go.Proofs.Ytlhiokcdjnmfmaa

namespace Go.Proofs.Ytlhiokcdjnmfmaa
open Go.RowKit Go.Maps
/-- Returns v; only draws. -/
def RQ (v : Value) (w : World) (e : Ending) (w' : World) : Prop := e = .returned v ∧ ∃ n, w' = w.drewN n
set_option maxRecDepth 100000 in
set_option maxHeartbeats 4000000 in
theorem l02T_len (v : Int) (a : Option Addr) (n c : Nat) (w : World) (h : n ≠ 3) : Calls Try.prog 130 #[.int .i64 v, .slice a n c] w (RQ (.bool false) w) := by
  have hne : ((n : Int) == 3) = false := by simp; omega
  clear h
  go_enter Try.func130, Try.ntmps130
  go_wp2
  dsimp only [List.append]
  go_quiet (fail)
  go_wp2
  go_ret
  exact ⟨rfl, _, rfl⟩
set_option maxRecDepth 100000 in
set_option maxHeartbeats 4000000 in
theorem l02T_c1 (v a b c q : Int) (B off cap : Nat) (w : World) (hq : (v - 1).tdiv 2 = q) (v7 : 7 ≤ v) (v15 : v ≤ 15) (q3 : 3 ≤ q) (q7 : q ≤ 7) (h0 : w.cell? ⟨B, off, none⟩ = some (.int .i64 a)) (h1 : w.cell? ⟨B, off + 1, none⟩ = some (.int .i64 b)) (h2 : w.cell? ⟨B, off + 2, none⟩ = some (.int .i64 c))  (c1 : ¬ (1 ≤ a)) :
    Calls Try.prog 130 #[.int .i64 v, .slice (some ⟨B, off, none⟩) 3 cap] w (RQ (.bool false) w) := by
  have hw1 : IntKind.i64.wrap (v - 1) = v - 1 := IntWalk.i64_in _ (by omega)
  have hwq : IntKind.i64.wrap q = q := IntWalk.i64_in _ (by omega)
  have d1 : decide (1 ≤ a) = false := decide_eq_false c1
  clear c1
  go_enter Try.func130, Try.ntmps130
  go_wp2
  dsimp only [List.append]
  go_quiet (fail)
  go_wp2
  go_ret
  exact ⟨rfl, _, rfl⟩
set_option maxRecDepth 100000 in
set_option maxHeartbeats 4000000 in
theorem l02T_c2 (v a b c q : Int) (B off cap : Nat) (w : World) (hq : (v - 1).tdiv 2 = q) (v7 : 7 ≤ v) (v15 : v ≤ 15) (q3 : 3 ≤ q) (q7 : q ≤ 7) (h0 : w.cell? ⟨B, off, none⟩ = some (.int .i64 a)) (h1 : w.cell? ⟨B, off + 1, none⟩ = some (.int .i64 b)) (h2 : w.cell? ⟨B, off + 2, none⟩ = some (.int .i64 c)) (c1 : 1 ≤ a) (c2 : ¬ (a < b)) :
    Calls Try.prog 130 #[.int .i64 v, .slice (some ⟨B, off, none⟩) 3 cap] w (RQ (.bool false) w) := by
  have hw1 : IntKind.i64.wrap (v - 1) = v - 1 := IntWalk.i64_in _ (by omega)
  have hwq : IntKind.i64.wrap q = q := IntWalk.i64_in _ (by omega)
  have d1 : decide (1 ≤ a) = true := decide_eq_true c1
  have d2 : decide (a < b) = false := decide_eq_false c2
  clear c1 c2
  go_enter Try.func130, Try.ntmps130
  go_wp2
  dsimp only [List.append]
  go_quiet (fail)
  go_wp2
  go_ret
  exact ⟨rfl, _, rfl⟩
set_option maxRecDepth 100000 in
set_option maxHeartbeats 4000000 in
theorem l02T_c3 (v a b c q : Int) (B off cap : Nat) (w : World) (hq : (v - 1).tdiv 2 = q) (v7 : 7 ≤ v) (v15 : v ≤ 15) (q3 : 3 ≤ q) (q7 : q ≤ 7) (h0 : w.cell? ⟨B, off, none⟩ = some (.int .i64 a)) (h1 : w.cell? ⟨B, off + 1, none⟩ = some (.int .i64 b)) (h2 : w.cell? ⟨B, off + 2, none⟩ = some (.int .i64 c)) (c1 : 1 ≤ a) (c2 : a < b) (c3 : ¬ (b < c)) :
    Calls Try.prog 130 #[.int .i64 v, .slice (some ⟨B, off, none⟩) 3 cap] w (RQ (.bool false) w) := by
  have hw1 : IntKind.i64.wrap (v - 1) = v - 1 := IntWalk.i64_in _ (by omega)
  have hwq : IntKind.i64.wrap q = q := IntWalk.i64_in _ (by omega)
  have d1 : decide (1 ≤ a) = true := decide_eq_true c1
  have d2 : decide (a < b) = true := decide_eq_true c2
  have d3 : decide (b < c) = false := decide_eq_false c3
  clear c1 c2 c3
  go_enter Try.func130, Try.ntmps130
  go_wp2
  dsimp only [List.append]
  go_quiet (fail)
  go_wp2
  go_ret
  exact ⟨rfl, _, rfl⟩
end Go.Proofs.Ytlhiokcdjnmfmaa

namespace Go.Proofs.Ytlhiokcdjnmfmaa
open Go.RowKit Go.Maps
set_option maxRecDepth 100000 in
set_option maxHeartbeats 4000000 in
theorem l02T_c4 (v a b c q : Int) (B off cap : Nat) (w : World) (hq : (v - 1).tdiv 2 = q) (v7 : 7 ≤ v) (v15 : v ≤ 15) (q3 : 3 ≤ q) (q7 : q ≤ 7) (h0 : w.cell? ⟨B, off, none⟩ = some (.int .i64 a)) (h1 : w.cell? ⟨B, off + 1, none⟩ = some (.int .i64 b)) (h2 : w.cell? ⟨B, off + 2, none⟩ = some (.int .i64 c)) (c1 : 1 ≤ a) (c2 : a < b) (c3 : b < c) (c4 : ¬ (c ≤ q)) :
    Calls Try.prog 130 #[.int .i64 v, .slice (some ⟨B, off, none⟩) 3 cap] w (RQ (.bool false) w) := by
  have hw1 : IntKind.i64.wrap (v - 1) = v - 1 := IntWalk.i64_in _ (by omega)
  have hwq : IntKind.i64.wrap q = q := IntWalk.i64_in _ (by omega)
  have d1 : decide (1 ≤ a) = true := decide_eq_true c1
  have d2 : decide (a < b) = true := decide_eq_true c2
  have d3 : decide (b < c) = true := decide_eq_true c3
  have d4 : decide (c ≤ q) = false := decide_eq_false c4
  clear c1 c2 c3 c4
  go_enter Try.func130, Try.ntmps130
  go_wp2
  dsimp only [List.append]
  go_quiet (fail)
  go_wp2
  go_ret
  exact ⟨rfl, _, rfl⟩
set_option maxRecDepth 100000 in
set_option maxHeartbeats 4000000 in
theorem l02T_c5 (v a b c q : Int) (B off cap : Nat) (w : World) (hq : (v - 1).tdiv 2 = q) (v7 : 7 ≤ v) (v15 : v ≤ 15) (q3 : 3 ≤ q) (q7 : q ≤ 7) (h0 : w.cell? ⟨B, off, none⟩ = some (.int .i64 a)) (h1 : w.cell? ⟨B, off + 1, none⟩ = some (.int .i64 b)) (h2 : w.cell? ⟨B, off + 2, none⟩ = some (.int .i64 c)) (c1 : 1 ≤ a) (c2 : a < b) (c3 : b < c) (c4 : c ≤ q) (c5 : a + b = c) :
    Calls Try.prog 130 #[.int .i64 v, .slice (some ⟨B, off, none⟩) 3 cap] w (RQ (.bool true) w) := by
  have hw1 : IntKind.i64.wrap (v - 1) = v - 1 := IntWalk.i64_in _ (by omega)
  have hwq : IntKind.i64.wrap q = q := IntWalk.i64_in _ (by omega)
  have d1 : decide (1 ≤ a) = true := decide_eq_true c1
  have d2 : decide (a < b) = true := decide_eq_true c2
  have d3 : decide (b < c) = true := decide_eq_true c3
  have d4 : decide (c ≤ q) = true := decide_eq_true c4
  have d5 : (a + b == c) = true := by simpa using c5
  have hw2 : IntKind.i64.wrap (a + b) = a + b := IntWalk.i64_in _ (by omega)
  have hw3 : IntKind.i64.wrap (a + b + c) = a + b + c := IntWalk.i64_in _ (by omega)
  clear c1 c2 c3 c4 c5
  go_enter Try.func130, Try.ntmps130
  go_wp2
  dsimp only [List.append]
  go_quiet (fail)
  go_wp2
  go_ret
  exact ⟨rfl, _, rfl⟩
set_option maxRecDepth 100000 in
set_option maxHeartbeats 4000000 in
theorem l02T_c6 (v a b c q : Int) (B off cap : Nat) (w : World) (hq : (v - 1).tdiv 2 = q) (v7 : 7 ≤ v) (v15 : v ≤ 15) (q3 : 3 ≤ q) (q7 : q ≤ 7) (h0 : w.cell? ⟨B, off, none⟩ = some (.int .i64 a)) (h1 : w.cell? ⟨B, off + 1, none⟩ = some (.int .i64 b)) (h2 : w.cell? ⟨B, off + 2, none⟩ = some (.int .i64 c)) (c1 : 1 ≤ a) (c2 : a < b) (c3 : b < c) (c4 : c ≤ q) (c5 : ¬ a + b = c) :
    Calls Try.prog 130 #[.int .i64 v, .slice (some ⟨B, off, none⟩) 3 cap] w (RQ (.bool (a + b + c == v)) w) := by
  have hw1 : IntKind.i64.wrap (v - 1) = v - 1 := IntWalk.i64_in _ (by omega)
  have hwq : IntKind.i64.wrap q = q := IntWalk.i64_in _ (by omega)
  have d1 : decide (1 ≤ a) = true := decide_eq_true c1
  have d2 : decide (a < b) = true := decide_eq_true c2
  have d3 : decide (b < c) = true := decide_eq_true c3
  have d4 : decide (c ≤ q) = true := decide_eq_true c4
  have d5 : (a + b == c) = false := by simpa using c5
  have hw2 : IntKind.i64.wrap (a + b) = a + b := IntWalk.i64_in _ (by omega)
  have hw3 : IntKind.i64.wrap (a + b + c) = a + b + c := IntWalk.i64_in _ (by omega)
  clear c1 c2 c3 c4 c5
  go_enter Try.func130, Try.ntmps130
  go_wp2
  dsimp only [List.append]
  go_quiet (fail)
  go_wp2
  go_ret
  exact ⟨rfl, _, rfl⟩
theorem l02T_three (v a b c : Int) (B off cap : Nat) (w : World) (hv : dfV v = true) (h0 : w.cell? ⟨B, off, none⟩ = some (.int .i64 a)) (h1 : w.cell? ⟨B, off + 1, none⟩ = some (.int .i64 b)) (h2 : w.cell? ⟨B, off + 2, none⟩ = some (.int .i64 c)) :
    Calls Try.prog 130 #[.int .i64 v, .slice (some ⟨B, off, none⟩) 3 cap] w (RQ (.bool (triB v [a, b, c])) w) := by
  obtain ⟨hq, v7, v15, q3, q7⟩ := dfV_half hv
  obtain ⟨q, hqq⟩ : ∃ q, q = (v - 1) / 2 := ⟨_, rfl⟩
  rw [← hqq] at hq q3 q7
  have HT : triB v [a, b, c] = (decide (1 ≤ a) && decide (a < b) && decide (b < c) && decide (c ≤ q) && (decide (a + b = c) || decide (a + b + c = v))) := by rw [hqq]; simp [triB, at3]
  by_cases c1 : 1 ≤ a
  case neg => rw [show triB v [a, b, c] = false by rw [HT]; simp; omega]; exact l02T_c1 v a b c q B off cap w hq v7 v15 q3 q7 h0 h1 h2 c1
  by_cases c2 : a < b
  case neg => rw [show triB v [a, b, c] = false by rw [HT]; simp; omega]; exact l02T_c2 v a b c q B off cap w hq v7 v15 q3 q7 h0 h1 h2 c1 c2
  by_cases c3 : b < c
  case neg => rw [show triB v [a, b, c] = false by rw [HT]; simp; omega]; exact l02T_c3 v a b c q B off cap w hq v7 v15 q3 q7 h0 h1 h2 c1 c2 c3
  by_cases c4 : c ≤ q
  case neg => rw [show triB v [a, b, c] = false by rw [HT]; simp; omega]; exact l02T_c4 v a b c q B off cap w hq v7 v15 q3 q7 h0 h1 h2 c1 c2 c3 c4
  by_cases c5 : a + b = c
  case pos => rw [show triB v [a, b, c] = true by rw [HT]; simp; omega]; exact l02T_c5 v a b c q B off cap w hq v7 v15 q3 q7 h0 h1 h2 c1 c2 c3 c4 c5
  rw [show triB v [a, b, c] = (a + b + c == v) by rw [HT, Bool.eq_iff_iff]; simp; omega]
  exact l02T_c6 v a b c q B off cap w hq v7 v15 q3 q7 h0 h1 h2 c1 c2 c3 c4 c5
theorem l02Triple_any (v : Int) (s : Value) (t : List Int) (w : World) (hv : dfV v = true) (h : IB w s t) : Calls Try.prog 130 #[.int .i64 v, s] w (RQ (.bool (triB v t)) w) := by
  by_cases h3 : t.length = 3
  · rcases h.2 with ⟨_, _, _, rfl⟩ | ⟨B, off, cap, rfl, _, hr⟩
    · simp at h3
    · match t, h3 with
      | [a, b, c], _ => exact l02T_three v a b c B off cap w hv (by simpa using hr 0 (by simp)) (by simpa using hr 1 (by simp)) (by simpa using hr 2 (by simp))
  · have e : triB v t = false := by simp [triB, h3]
    rw [e]
    rcases h.2 with ⟨a, c, rfl, rfl⟩ | ⟨B, off, cap, rfl, _, _⟩
    · exact l02T_len v a 0 c w (by decide)
    · exact l02T_len v _ _ cap w h3
end Go.Proofs.Ytlhiokcdjnmfmaa

namespace Go.Proofs.Ytlhiokcdjnmfmaa
open Go.RowKit Go.Maps
def msk (L : List Int) : Nat := L.foldl (fun m d => m ||| 2 ^ d.toNat) 0
theorem msk_snoc (L : List Int) (d : Int) : msk (L ++ [d]) = msk L ||| 2 ^ d.toNat := by simp [msk, List.foldl_append]
theorem foldM_test (t : Nat) : ∀ (L : List Int) (m : Nat), (L.foldl (fun m d => m ||| 2 ^ d.toNat) m).testBit t = (m.testBit t || L.any fun d => decide (d.toNat = t))
  | [], m => by simp
  | d :: L, m => by
    rw [List.foldl_cons, foldM_test t L, Nat.testBit_or, Nat.testBit_two_pow, List.any_cons, Bool.or_assoc]
theorem msk_test (L : List Int) (t : Nat) : (msk L).testBit t = L.any fun d => decide (d.toNat = t) := by
  rw [msk, foldM_test]; simp
theorem foldM_lt : ∀ (L : List Int) (m : Nat), m < 256 → (∀ d ∈ L, 1 ≤ d ∧ d ≤ 7) → L.foldl (fun m d => m ||| 2 ^ d.toNat) m < 256
  | [], m, h, _ => h
  | d :: L, m, h, hd => by
    rw [List.foldl_cons]
    have hq := hd d (List.mem_cons_self)
    refine foldM_lt L _ ?_ fun e he => hd e (List.mem_cons_of_mem _ he)
    refine Nat.or_lt_two_pow (n := 8) h ?_
    exact Nat.pow_lt_pow_right (by decide) (by omega)
theorem msk_lt {L : List Int} (h : ∀ d ∈ L, 1 ≤ d ∧ d ≤ 7) : msk L < 256 := foldM_lt L 0 (by decide) h
theorem bits_small : ∀ t : Fin 8, ∀ u : Fin 256, bits .and .i64 (u.val : Int) ((2 ^ t.val : Nat) : Int) = ((u.val &&& 2 ^ t.val : Nat) : Int) ∧ bits .or .i64 (u.val : Int) ((2 ^ t.val : Nat) : Int) = ((u.val ||| 2 ^ t.val : Nat) : Int) := by
  decide +kernel
theorem and_pow_ne : ∀ t : Fin 8, ∀ u : Fin 256, decide (u.val &&& 2 ^ t.val ≠ 0) = u.val.testBit t.val := by
  decide +kernel
/-- Is d among L: the bit says it. -/
theorem bit_in {L : List Int} (h : ∀ d ∈ L, 1 ≤ d ∧ d ≤ 7) {d : Int} (h1 : 1 ≤ d) (h7 : d ≤ 7) : (bits .and .i64 (msk L : Int) ((2 ^ d.toNat : Nat) : Int) != 0) = decide (d ∈ L) ∧ bits .or .i64 (msk L : Int) ((2 ^ d.toNat : Nat) : Int) = (msk (L ++ [d]) : Int) := by
  have hb := bits_small ⟨d.toNat, by omega⟩ ⟨msk L, msk_lt h⟩
  simp only at hb
  refine ⟨?_, by rw [hb.2, msk_snoc]⟩
  rw [hb.1, Bool.eq_iff_iff]
  simp only [bne_iff_ne, ne_eq, decide_eq_true_eq]
  have e1 : (¬ ((msk L &&& 2 ^ d.toNat : Nat) : Int) = 0) ↔ (msk L &&& 2 ^ d.toNat ≠ 0) := by omega
  have e2 := and_pow_ne ⟨d.toNat, by omega⟩ ⟨msk L, msk_lt h⟩
  simp only at e2
  rw [e1, ← decide_eq_true_iff (p := msk L &&& 2 ^ d.toNat ≠ 0), e2, msk_test, List.any_eq_true]
  constructor
  · rintro ⟨e, he, hq⟩
    have := h e he
    simp at hq
    have : e = d := by omega
    exact this ▸ he
  · intro hd
    exact ⟨d, hd, by simp⟩
end Go.Proofs.Ytlhiokcdjnmfmaa

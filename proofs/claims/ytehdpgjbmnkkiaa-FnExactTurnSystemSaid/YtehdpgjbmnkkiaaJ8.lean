
/- The model's DoubleSystem answers as dblF. impl.SquareOf makes the square of its number. The model's l01Order. The model's RenumberSystem. The model's RenumberSystem, whole. The model's turned systems; TurnSystem on both sides. What a law over one system whose result is a list of integers knows of the memory between two of its steps. -/
import Derived.Test.YtehdpgjbmnkkiaaJ7
namespace Go.Proofs.Ytehdpgjbmnkkiaa
open Go.RowKit Go.Maps
theorem l01Block_is {a b c p q r : Int} (W : World) (a0 : 0 ≤ a) (a1 : a ≤ 1000) (b0 : 0 ≤ b) (b1 : b ≤ 1000) (c0 : 0 ≤ c) (c1 : c ≤ 1000) (hp : p = min (min a b) c) (hr : r = max (max a b) c) (hq : q = a + b + c - p - r) :
    Calls Try.prog 139 #[.int .i64 a, .int .i64 b, .int .i64 c] W (RV (.agg #[.int .i64 p, .int .i64 q, .int .i64 r]) W) := by
  have h := l01Block_any a b c W a0 a1 b0 b1 c0 c1
  rw [blk3_of hp hr hq] at h
  exact h
end Go.Proofs.Ytehdpgjbmnkkiaa

namespace Go.Proofs.Ytehdpgjbmnkkiaa
open Go.RowKit Go.Maps
theorem mkRow (n : Nat) (hn : n ≤ 1100000) (W : World) : (Instr.makeSlice 40 (.int .i64 (n : Int)) (.int .i64 (n : Int))).run Try.prog W = .ok (.slice (some ⟨W.heap.size, 0, none⟩) n n) (W.alloc (.cells (madeCells #[.int .i64 0] n) 2)) := by
  obtain ⟨i0, hi, hz0, hz1, hz2⟩ := info_parts infoInt64
  have hr := run_make (P := Try.prog) W 40 2 i0 (.int .i64 0) Try.underlying40 hi hz0 .i64 .i64 n n (by omega) (by omega) (by rw [hz2]; omega) (by omega)
  simp only [Int.toNat_natCast, hz1, Nat.mul_one] at hr
  exact hr
end Go.Proofs.Ytehdpgjbmnkkiaa

namespace Go.Proofs.Ytehdpgjbmnkkiaa
open Go.RowKit Go.Maps
theorem infoBoolT : (Try.prog.info? 4).map (fun i => (i.zero, i.size, i.bytes)) = some (some (.bool false), 1, 1) := by kernel_rfl
theorem mkBoolsR (n : Nat) (hn : n ≤ 1100000) (W : World) : (Instr.makeSlice 168 (.int .i64 (n : Int)) (.int .i64 (n : Int))).run Try.prog W = .ok (.slice (some ⟨W.heap.size, 0, none⟩) n n) (W.alloc (.cells (madeCells #[.bool false] n) 4)) := by
  obtain ⟨i0, hi, hz0, hz1, hz2⟩ := info_parts infoBoolT
  have hr := run_make (P := Try.prog) W 168 4 i0 (.bool false) Try.underlying168 hi hz0 .i64 .i64 n n (by omega) (by omega) (by rw [hz2]; omega) (by omega)
  simp only [Int.toNat_natCast, hz1, Nat.mul_one] at hr
  exact hr
/-- A row of bools. -/
structure BoolsAt (w : World) (g n : Nat) (f : Nat → Bool) : Prop where
  lt : g < w.heap.size
  cell : ∀ q, q < n → w.cell? ⟨g, q, none⟩ = some (.bool (f q))
  free : ∀ o, w.frozen? ⟨g, o, none⟩ = false
theorem BoolsAt.made (w : World) (n : Nat) (T : TypeId) : BoolsAt (w.alloc (.cells (madeCells #[.bool false] n) T)) w.heap.size n (fun _ => false) := by
  refine ⟨by simp, fun k hk => ?_, fun o => by simp⟩
  rw [World.cell?_alloc_at _ _ _ _ rfl]
  simp [madeCells, hk, Nat.mod_one]
theorem BoolsAt.set {w : World} {g n : Nat} {f : Nat → Bool} (h : BoolsAt w g n f) {i : Nat} (hi : i < n) : BoolsAt (w.setCell ⟨g, i, none⟩ (.bool true)) g n (fun q => if q = i then true else f q) := by
  refine ⟨by simpa [World.setCell] using h.lt, fun q hq => ?_, fun o => by rw [World.frozen?_setCell]; exact h.free o⟩
  by_cases e : q = i
  · subst e
    rw [World.cell?_setCell_same' _ _ _ (by rw [h.cell q hq]; rfl)]
    simp
  · rw [World.cell?_setCell_other _ _ _ _ (by simp <;> omega), h.cell q hq, if_neg e]
theorem BoolsAt.congr {w : World} {g n : Nat} {f f' : Nat → Bool} (h : BoolsAt w g n f) (e : ∀ q, q < n → f q = f' q) : BoolsAt w g n f' := ⟨h.lt, fun q hq => by rw [← e q hq]; exact h.cell q hq, h.free⟩
theorem BoolsAt.kept {w w' : World} {g n : Nat} {f : Nat → Bool} {row : Option Nat} (h : BoolsAt w g n f) (hg : w.grownBy w' row) (hne : some g ≠ row) : BoolsAt w' g n f :=
  ⟨Nat.lt_of_lt_of_le h.lt hg.size, fun q hq => (World.cell?_of_block (w := w) (a := ⟨g, _, none⟩) (hg.block g h.lt hne)).trans (h.cell q hq), fun o => (World.frozen?_of_block (w := w) (a := ⟨g, o, none⟩) (hg.block g h.lt hne)).trans (h.free o)⟩
theorem take_snoc2 {l : List Int} {k : Nat} (h : k < l.length) : l.take (k + 1) = l.take k ++ [l[k]?.getD 0] := by
  rw [List.take_succ_eq_append_getElem h]; simp [h]
end Go.Proofs.Ytehdpgjbmnkkiaa

namespace Go.Proofs.Ytehdpgjbmnkkiaa
open Go.RowKit Go.Maps
set_option maxRecDepth 100000 in
set_option maxHeartbeats 1000000 in
theorem l01Renamed_any (v : Int) (s : Value) (bs : List Blk) (t : Value) (p : List Int) (w : World) (h : SB w s bs) (ht : IB w t p) (hg : ∀ x ∈ bs, goodB v x = true) (hv3 : 3 ≤ v) (hv15 : v ≤ 15) (hb35 : bs.length ≤ 35) (hren : isRen v p = true) :
    Calls Try.prog 105 #[.agg #[.int .i64 v, s], t] w fun e w' => ∃ u, e = .returned (.agg #[.int .i64 v, u]) ∧ ResR w' w.heap.size w'.heap.size u (sortB (bs.map (renB p))) ∧ Below w.heap.size w w' := by
  have hs := h.slice
  have HSX := Lib.hid h.sx
  have HT := Lib.hid ht
  have HG := Lib.hid hg
  have hts : ∃ a c, t = .slice a p.length c := by rcases ht.2 with ⟨a, c, rfl, rfl⟩ | ⟨b, off, cap, rfl, _⟩ <;> exact ⟨_, _, rfl⟩
  have HREN := Lib.hid hren
  have hpl : (p.length : Int) = v := by unfold isRen at hren; simp only [Bool.and_eq_true, decide_eq_true_eq] at hren; exact hren.1
  have HPL := Lib.hid hpl
  clear h ht hg hren hpl
  obtain ⟨a0, c0, rfl⟩ := hs
  obtain ⟨a1, c1, rfl⟩ := hts
  go_enter Try.func105, Try.ntmps105
  go_wp2_with fail
  obtain ⟨w2, hw2⟩ : ∃ w2, ((w.alloc (.cells #[.int .i64 v, .slice a0 bs.length c0] 31)).alloc (.cells #[.int .i64 0, .slice none 0 0] 31)) = w2 := ⟨_, rfl⟩
  have six : Six w2 w.heap.size v (.slice a0 bs.length c0) := by rw [← hw2]; exact ⟨by simp [go_sem], by simp [go_sem], by simp [go_sem], by simp [go_sem], by simp [go_sem], by simp [go_sem]⟩
  have hz2 : w2.heap.size = w.heap.size + 1 + 1 := by rw [← hw2]; simp
  have hbw2 : Below w.heap.size w w2 := by rw [← hw2]; exact below2 _ _ _ _
  rw [hw2]
  clear hw2
  have HO := lit_own w2
  have HB3 : Below w2.heap.size w2 (w2.alloc (.cells #[] 93)) := (Below.refl _ _).alloc (Nat.le_refl _) _
  rw [hz2] at HO HB3
  obtain ⟨q0, q1, _⟩ := id six
  have HSIX := Lib.hid six
  have HSX2 := Lib.hid (HSX.out.below hbw2 (Nat.le_refl _))
  have HT2 := Lib.hid (HT.out.below hbw2 (Nat.le_refl _))
  have HO0 := Lib.hid (And.intro HO HB3)
  have hlt2 : w.heap.size + 1 < w2.heap.size := by omega
  have hlt3 : w.heap.size < w2.heap.size := by omega
  have HZ2 := Lib.hid hz2
  clear six HO HB3 HSX HT hz2
  go_loopw [5, 6] (fun o t wr => ∃ k : Nat, k ≤ bs.length ∧ t = .int .i64 k ∧ Below w2.heap.size w2 wr ∧ OwnR wr w2.heap.size o ((bs.take k).map (renB p)) ∧ ∃ a n c, o = .slice a n c) (fun _ t _ => bs.length - (intOf t).toNat)
  case atStart =>
    have := HO0.out
    rw [← HZ2.out] at this
    exact ⟨0, Nat.zero_le _, rfl, this.2, by rw [← HZ2.out]; exact this.1, _, _, _, rfl⟩
  case round =>
    obtain ⟨k, hk, rfl, hB, hO, a5, n5, c5, rfl⟩ := hrel
    have hz := hB.size
    have hz1 : w.heap.size < wr.heap.size := by omega
    have r0 := (hB.cell (p := ⟨w.heap.size, 0, none⟩) hlt3).trans q0
    have r1 := (hB.cell (p := ⟨w.heap.size, 1, none⟩) hlt3).trans q1
    have HO5 := Lib.hid hO
    clear hO
    by_cases hkl : k < bs.length
    · rcases HSX2.out with ⟨_, _, _, hnil⟩ | ⟨b, off, cap, hv, hblt, hbl⟩
      · rw [hnil] at hkl; simp at hkl
      rcases HT2.out.2 with ⟨_, _, _, hnil⟩ | ⟨pb, po, pc, hv2, hplt, hpi⟩
      · exfalso; have := HPL.out; rw [hnil] at this; simp at this; omega
      simp at hv hv2
      obtain ⟨rfl, rfl⟩ := hv
      obtain ⟨rfl, rfl⟩ := hv2
      have hz4 : b < wr.heap.size := by omega
      have hz5 : pb < wr.heap.size := by omega
      obtain ⟨x, hx, ex, x1, x2, x3⟩ := blks_at (hbl.below hB hblt) hkl
      obtain ⟨g1, g2, g3, g4⟩ := goodB_iff.1 (HG.out x hx)
      obtain ⟨xa, xb, xc⟩ := x
      dsimp only at x1 x2 x3 g1 g2 g3 g4
      obtain ⟨na, rfl⟩ : ∃ n : Nat, xa = (n : Int) := ⟨xa.toNat, by omega⟩
      obtain ⟨nb, rfl⟩ : ∃ n : Nat, xb = (n : Int) := ⟨xb.toNat, by omega⟩
      obtain ⟨nc, rfl⟩ : ∃ n : Nat, xc = (n : Int) := ⟨xc.toNat, by omega⟩
      have hpl := HPL.out
      have t1 := (hB.cell (p := ⟨pb, po + na, none⟩) hplt).trans (hpi na (by omega))
      have t2 := (hB.cell (p := ⟨pb, po + nb, none⟩) hplt).trans (hpi nb (by omega))
      have t3 := (hB.cell (p := ⟨pb, po + nc, none⟩) hplt).trans (hpi nc (by omega))
      obtain ⟨ya, hya⟩ : ∃ y, y = p[na]?.getD 0 := ⟨_, rfl⟩
      obtain ⟨yb, hyb⟩ : ∃ y, y = p[nb]?.getD 0 := ⟨_, rfl⟩
      obtain ⟨yc, hyc⟩ : ∃ y, y = p[nc]?.getD 0 := ⟨_, rfl⟩
      rw [← hya] at t1
      rw [← hyb] at t2
      rw [← hyc] at t3
      obtain ⟨r, hr⟩ : ∃ r, r = blk3 ya yb yc := ⟨_, rfl⟩
      have hsucc : (bs.take (k + 1)).map (renB p) = (bs.take k).map (renB p) ++ [r] := by
        have e1 : bs[k] = ⟨(na : Int), (nb : Int), (nc : Int)⟩ := by rw [List.getElem?_eq_getElem hkl] at ex; simpa using ex
        rw [List.take_succ_eq_append_getElem hkl, List.map_append, e1, hr, hya, hyb, hyc]
        simp [renB, at0]
      have HSU := Lib.hid hsucc
      have hya1 : 0 ≤ ya ∧ ya < v := by rw [hya]; exact at0_in (a := (na : Int)) HREN.out g1 (by omega)
      have hyb1 : 0 ≤ yb ∧ yb < v := by rw [hyb]; exact at0_in (a := (nb : Int)) HREN.out (by omega) (by omega)
      have hyc1 : 0 ≤ yc ∧ yc < v := by rw [hyc]; exact at0_in (a := (nc : Int)) HREN.out (by omega) g4
      have HBF := Lib.hid fun (W : World) => l01Block_any ya yb yc W (by omega) (by omega) (by omega) (by omega) (by omega) (by omega)
      rw [← hr] at HBF
      obtain ⟨ra, rb, rc⟩ := r
      unfold bv at HBF
      dsimp only at HBF
      have j1 : (na : Int) < (p.length : Int) := by omega
      have j2 : (nb : Int) < (p.length : Int) := by omega
      have j3 : (nc : Int) < (p.length : Int) := by omega
      have i0 : (0 : Int) ≤ (k : Int) := by omega
      have i1 : (k : Int) < (bs.length : Int) := by omega
      have hl3 : ((bs.take k).map (renB p)).length ≤ 1000 := by simp; omega
      obtain ⟨L, hL⟩ : ∃ L, L = (bs.take k).map (renB p) := ⟨_, rfl⟩
      rw [← hL] at HO5 HSU hl3
      have HLT := Lib.hid (show ∀ r, (Value.slice a5 n5 c5).ownBlock = some r → w2.heap.size ≤ r ∧ r < wr.heap.size from ownsRow_lt HO5.out)
      clear hx ex hbl hpi hsucc hya hyb hyc hya1 hyb1 hyc1 hr hL hpl
      have m0 : (wr.alloc (.cells #[.int .i64 (na : Int), .int .i64 (nb : Int), .int .i64 (nc : Int)] 93)).cell? ⟨pb, po + na, none⟩ = some (.int .i64 ya) := cell_past t1 hz5
      have m1 : (wr.alloc (.cells #[.int .i64 (na : Int), .int .i64 (nb : Int), .int .i64 (nc : Int)] 93)).cell? ⟨pb, po + nb, none⟩ = some (.int .i64 yb) := cell_past t2 hz5
      have m2 : (wr.alloc (.cells #[.int .i64 (na : Int), .int .i64 (nb : Int), .int .i64 (nc : Int)] 93)).cell? ⟨pb, po + nc, none⟩ = some (.int .i64 yc) := cell_past t3 hz5
      go_wp2
      have n0 : (wr.alloc (.cells #[.int .i64 (na : Int), .int .i64 (nb : Int), .int .i64 (nc : Int)] 93)).cell? ⟨wr.heap.size, 0, none⟩ = some (.int .i64 (na : Int)) := by simp [go_sem]
      have n1 : (wr.alloc (.cells #[.int .i64 (na : Int), .int .i64 (nb : Int), .int .i64 (nc : Int)] 93)).cell? ⟨wr.heap.size, 1, none⟩ = some (.int .i64 (nb : Int)) := by simp [go_sem]
      have n2 : (wr.alloc (.cells #[.int .i64 (na : Int), .int .i64 (nb : Int), .int .i64 (nc : Int)] 93)).cell? ⟨wr.heap.size, 2, none⟩ = some (.int .i64 (nc : Int)) := by simp [go_sem]
      have ho1 := HO5.out.below ((Below.refl _ _).alloc (Nat.le_refl _) (.cells #[.int .i64 (na : Int), .int .i64 (nb : Int), .int .i64 (nc : Int)] 93)) (Nat.le_refl _)
      have hB1 := hB.alloc hz (.cells #[.int .i64 (na : Int), .int .i64 (nb : Int), .int .i64 (nc : Int)] 93)
      have hz6 : (wr.alloc (.cells #[.int .i64 (na : Int), .int .i64 (nb : Int), .int .i64 (nc : Int)] 93)).heap.size = wr.heap.size + 1 := by simp
      obtain ⟨W1, hW1⟩ : ∃ W1, (wr.alloc (.cells #[.int .i64 (na : Int), .int .i64 (nb : Int), .int .i64 (nc : Int)] 93)) = W1 := ⟨_, rfl⟩
      rw [hW1] at m0 m1 m2 n0 n1 n2 ho1 hB1 hz6 ⊢
      have HO1 := Lib.hid ho1
      have HZ6 := Lib.hid hz6
      have hpz : pb < W1.heap.size := by omega
      have hwz : wr.heap.size < W1.heap.size := by omega
      clear hW1 t1 t2 t3 x1 x2 x3 ho1 hz6 r0 r1
      go_region_held3 (fun w' => w'.cell? ⟨pb, po + na, none⟩ = some (.int .i64 ya) ∧ w'.cell? ⟨pb, po + nb, none⟩ = some (.int .i64 yb) ∧ w'.cell? ⟨pb, po + nc, none⟩ = some (.int .i64 yc) ∧ w'.cell? ⟨wr.heap.size, 0, none⟩ = some (.int .i64 (na : Int)) ∧ w'.cell? ⟨wr.heap.size, 1, none⟩ = some (.int .i64 (nb : Int)) ∧ w'.cell? ⟨wr.heap.size, 2, none⟩ = some (.int .i64 (nc : Int)))
        (first | exact ⟨E0, E1, E2, E3, E4, E5⟩ | exact ⟨F0, F1, F2, F3, F4, F5⟩ | go_keep)
        (first
          | (go_at_call 139; refine (HBF.out _).mono ?_; rintro e w5 ⟨rfl, hb5⟩; have hB5 : Below W1.heap.size W1 w5 := (by first | exact ((Below.refl _ _).drew).trans (hb5.mono (by simp)) | exact hb5); have E0 := (hB5.cell (p := ⟨pb, po + na, none⟩) hpz).trans m0; have E1 := (hB5.cell (p := ⟨pb, po + nb, none⟩) hpz).trans m1; have E2 := (hB5.cell (p := ⟨pb, po + nc, none⟩) hpz).trans m2; have E3 := (hB5.cell (p := ⟨wr.heap.size, 0, none⟩) hwz).trans n0; have E4 := (hB5.cell (p := ⟨wr.heap.size, 1, none⟩) hwz).trans n1; have E5 := (hB5.cell (p := ⟨wr.heap.size, 2, none⟩) hwz).trans n2; have HO6 := Lib.hid (HO1.out.below hB5 (Nat.le_refl _)))
          | (refine step_append_many rfl (.tmp 21) (.tmp 38) rfl w2.heap.size (.slice a5 n5 c5) L (by simp [Act.eval]) (by first | exact HO6.out.below ((Below.refl _ _).alloc (Nat.le_refl _) _) (Nat.le_refl _) | exact HO6.out.below (((Below.refl _ _).alloc (Nat.le_refl _) _).drew) (Nat.le_refl _)) (.slice (some ⟨w5.heap.size, 0, none⟩) 1 1) [⟨ra, rb, rc⟩] (by simp [Act.eval]) (by first | exact sx_one _ ⟨ra, rb, rc⟩ _ | exact (sx_one _ ⟨ra, rb, rc⟩ _).below ((Below.refl _ _).drew) (Nat.le_refl _)) (by simp; omega) (by have := hB5.size; simp; omega) ?_; intro a3 c3 w3 ho3 hg3; have hgw : w5.grownBy w3 (Value.slice a5 n5 c5).ownBlock := gb_trans (World.grownBy_alloc _ _ none) (by first | exact hg3 | exact gb_drewL hg3); have F0 := hgw.cell E0 (fun e => by have := (HLT.out _ e.symm).1; simp at this; omega); have F1 := hgw.cell E1 (fun e => by have := (HLT.out _ e.symm).1; simp at this; omega); have F2 := hgw.cell E2 (fun e => by have := (HLT.out _ e.symm).1; simp at this; omega); have F3 := hgw.cell E3 (fun e => by have := (HLT.out _ e.symm).2; simp at this); have F4 := hgw.cell E4 (fun e => by have := (HLT.out _ e.symm).2; simp at this); have F5 := hgw.cell E5 (fun e => by have := (HLT.out _ e.symm).2; simp at this)))
      have hrow := HO6.out.row
      have hB6 := hB1.trans (hB5.mono (by omega))
      have hz7 := hB5.size
      have hB7 := hB6.grown hgw (by omega) (fun j e => hrow j e)
      go_wp2
      go_roundw
      case rel => exact ⟨k + 1, by omega, by go_num, hB7, by rw [HSU.out]; exact ho3, _, _, _, rfl⟩
      case measure => simp [intOf]; omega
    · have e : k = bs.length := by omega
      subst e
      rw [List.take_length] at HO5
      obtain ⟨L, hL⟩ : ∃ L, L = bs.map (renB p) := ⟨_, rfl⟩
      have hLl : L.length ≤ 100000 := by rw [hL, List.length_map]; omega
      have HLL := Lib.hid hL
      rw [← hL] at HO5
      have HSF := Lib.hid (l01Made_any v (.slice a5 n5 c5) L wr HO5.out.sx hLl)
      obtain ⟨e0, e1, k0, k1⟩ := HSIX.out.2.2
      have f0 := (hB.cell (p := ⟨w.heap.size + 1, 0, none⟩) hlt2).trans e0
      have f1 := (hB.cell (p := ⟨w.heap.size + 1, 1, none⟩) hlt2).trans e1
      have f2 := (hB.frozen (p := ⟨w.heap.size + 1, 0, none⟩) hlt2).trans k0
      have f3 := (hB.frozen (p := ⟨w.heap.size + 1, 1, none⟩) hlt2).trans k1
      clear e0 e1 k0 k1 hL
      go_wp2_with fail
      refine HSF.out.mono ?_
      rintro e w3 ⟨u, rfl, hres, hb3⟩
      obtain ⟨a9, c9, hu⟩ := hres.slice
      obtain ⟨n9, hn9⟩ : ∃ n, n = (sortB L).length := ⟨_, rfl⟩
      rw [← hn9] at hu
      subst hu
      have g0 := (hb3.cell (p := ⟨w.heap.size + 1, 0, none⟩) (by show w.heap.size + 1 < _; omega)).trans f0
      have g1 := (hb3.cell (p := ⟨w.heap.size + 1, 1, none⟩) (by show w.heap.size + 1 < _; omega)).trans f1
      have g2 := (hb3.frozen (p := ⟨w.heap.size + 1, 0, none⟩) (by show w.heap.size + 1 < _; omega)).trans f2
      have g3 := (hb3.frozen (p := ⟨w.heap.size + 1, 1, none⟩) (by show w.heap.size + 1 < _; omega)).trans f3
      have hz9 := hb3.size
      have hB9 : Below w.heap.size w w3 := (hbw2.trans (hB.mono (by omega))).trans (hb3.mono (by omega))
      clear f0 f1 f2 f3 hb3 hn9
      go_wp2
      have hfin := (hres.kept (gb_set2 w3 (w.heap.size + 1) (.int .i64 v) (.slice a9 n9 c9)) (fun r e => by cases e; exact .inl (by omega))).wide (lo' := w.heap.size) (by omega) (gb_set2 w3 (w.heap.size + 1) (.int .i64 v) (.slice a9 n9 c9)).size
      rw [HLL.out] at hfin
      exact bodyPost_ret (v := .agg #[.int .i64 v, .slice a9 n9 c9]) (by simp [results, Try.results105, go_sem, *]) rfl ⟨_, rfl, hfin, below_set2 hB9 (by omega) _ _⟩
end Go.Proofs.Ytehdpgjbmnkkiaa

namespace Go.Proofs.Ytehdpgjbmnkkiaa
open Go.RowKit Go.Maps
theorem renF_wf (v : Int) (bs : List Blk) (p : List Int) : ∀ x ∈ (renF v bs p).2.1, WFB x := by
  unfold renF
  split
  · rename_i hi
    split
    · rename_i hr
      intro x hx
      have hx : x ∈ sortB (bs.map (renB p)) := hx
      rw [sortB_mem] at hx
      obtain ⟨y, hy, rfl⟩ := List.mem_map.1 hx
      have hg := goodB_iff.1 (sys_good hi y hy)
      obtain ⟨_, hv, _⟩ := sys_size hi
      have h := blk3_in (at0_in hr (a := y.a) (by omega) (by omega)) (at0_in hr (a := y.b) (by omega) (by omega)) (at0_in hr (a := y.c) (by omega) (by omega))
      exact ⟨wf_pl h.1.1 (by have := h.1.2; unfold renB; omega), wf_pl h.2.1.1 (by have := h.2.1.2; unfold renB; omega), wf_pl h.2.2.1 (by have := h.2.2.2; unfold renB; omega)⟩
    · simp
  · simp
end Go.Proofs.Ytehdpgjbmnkkiaa

namespace Go.Proofs.Ytehdpgjbmnkkiaa
open Go.RowKit Go.Maps
set_option maxRecDepth 100000 in
set_option maxHeartbeats 1000000 in
theorem l10Turned_any (n k : Nat) (s : Value) (bs : List Blk) (w : World) (h : SB w s bs) (hi : isSysImpl (n : Int) bs = true) (hk : k < n) :
    Calls Try.prog 63 #[.agg #[.int .i64 (n : Int), s], .int .i64 (k : Int)] w (fun e w' => ∃ u, e = .returned (.agg #[.int .i64 (n : Int), u]) ∧ ResR w' w.heap.size w'.heap.size u (turnS n k bs) ∧ Below w.heap.size w w') := by
  obtain ⟨hv3, hv15, hb35⟩ := sys_size hi
  have hs := h.slice
  have HR := Lib.hid fun (t : Value) W (hb : Below w.heap.size w W) (ht : IB W t (turnU n k n)) => l01Renamed_any (n : Int) s bs t (turnU n k n) W (h.below hb (Nat.le_refl _)) ht (sys_good hi) hv3 hv15 hb35 turnU_ren
  clear h hi
  obtain ⟨a0, c0, rfl⟩ := hs
  go_enter Try.func63, Try.ntmps63
  go_wp2_with fail
  obtain ⟨w2, hw2⟩ : ∃ w2, ((w.alloc (.cells #[.int .i64 n, .slice a0 bs.length c0] 31)).alloc (.cells #[.int .i64 0, .slice none 0 0] 31)) = w2 := ⟨_, rfl⟩
  have six : Six w2 w.heap.size n (.slice a0 bs.length c0) := by rw [← hw2]; exact ⟨by simp [go_sem], by simp [go_sem], by simp [go_sem], by simp [go_sem], by simp [go_sem], by simp [go_sem]⟩
  have hz2 : w2.heap.size = w.heap.size + 1 + 1 := by rw [← hw2]; simp
  have hbw2 : Below w.heap.size w w2 := by rw [← hw2]; exact below2 _ _ _ _
  have HO0 := Lib.hid (OwnJ.new0 w2 (base := w2.heap.size) (Nat.le_refl _))
  have HB0 := Lib.hid (show Below w2.heap.size w2 (w2.alloc (.cells #[] 2)) from (Below.refl _ _).alloc (Nat.le_refl _) _)
  rw [hw2]
  rw [hz2] at HO0 HB0
  clear hw2
  obtain ⟨q0, q1, _⟩ := id six
  have HSIX := Lib.hid six
  have hlt3 : w.heap.size < w2.heap.size := by omega
  have hlt4 : w.heap.size + 1 < w2.heap.size := by omega
  clear six
  go_loopw [5, 6] (fun o t wr => ∃ m : Nat, m ≤ n ∧ t = .int .i64 m ∧ Below w2.heap.size w2 wr ∧ OwnJ wr w2.heap.size o (turnU n k m)) (fun _ t _ => n - (intOf t).toNat)
  case atStart => exact ⟨0, Nat.zero_le _, rfl, by rw [hz2]; exact HB0.out, by rw [hz2]; exact HO0.out⟩
  case round =>
    obtain ⟨m, hm, rfl, hB, hO⟩ := hrel
    have hz := hB.size
    obtain ⟨a3, c3, rfl⟩ := hO.slice
    have HO := Lib.hid hO
    have hl := turnU_len n k m
    rw [hl] at HO ⊢
    have r0 := (hB.cell (p := ⟨w.heap.size, 0, none⟩) hlt3).trans q0
    have r1 := (hB.cell (p := ⟨w.heap.size, 1, none⟩) hlt3).trans q1
    clear hO
    by_cases hmn : m < n
    · have hmod : wrap64 (Int.tmod ((m : Int) + (k : Int)) (n : Int)) = (((m + k) % n : Nat) : Int) := by
        rw [Int.tmod_eq_emod_of_nonneg (by omega)]
        have := Nat.mod_lt (m + k) (show 0 < n by omega)
        rw [show ((m : Int) + (k : Int)) % (n : Int) = (((m + k) % n : Nat) : Int) by simp]
        unfold wrap64; omega
      have HSU := Lib.hid (turnU_succ n k m)
      have hn0 : (n : Int) ≠ 0 := by omega
      go_wp2_with (at_builtin; refine wpList_append_int rfl _ _ rfl w2.heap.size _ (turnU n k m) rfl (HO.out.below ((Below.refl _ _).alloc (Nat.le_refl _) _) (Nat.le_refl _)) _ _ (((m + k) % n : Nat) : Int) rfl (by simp [go_sem]) (by omega) (by simp; omega) ?_; intro g' cap' w4 hO4 hg4; rw [hl] at hO4 ⊢)
      have hrow := HO.out.row
      have hgo := gb_trans (World.grownBy_alloc _ _ none) hg4
      clear hg4
      go_roundw
      case rel => exact ⟨m + 1, by omega, by go_num, hB.grown hgo hz (fun j e => hrow j e), by rw [HSU.out]; exact hO4⟩
      case measure => simp [intOf]; omega
    · have e : m = n := by omega
      subst e
      have hbw3 := hbw2.trans (hB.mono (by omega))
      obtain ⟨_, _, e0, e1, k0, k1⟩ := HSIX.out
      have f0 := (hB.cell (p := ⟨w.heap.size + 1, 0, none⟩) hlt4).trans e0
      have f1 := (hB.cell (p := ⟨w.heap.size + 1, 1, none⟩) hlt4).trans e1
      have f2 := (hB.frozen (p := ⟨w.heap.size + 1, 0, none⟩) hlt4).trans k0
      have f3 := (hB.frozen (p := ⟨w.heap.size + 1, 1, none⟩) hlt4).trans k1
      have HC := Lib.hid (HR.out _ wr hbw3 (HO.out.ib (by omega)))
      have hzr : w.heap.size + 1 < wr.heap.size := by omega
      clear e0 e1 k0 k1
      go_wp2_with fail
      refine HC.out.mono ?_
      rintro e w3 ⟨u, rfl, hres, hb3⟩
      have g0 := (hb3.cell (p := ⟨w.heap.size + 1, 0, none⟩) hzr).trans f0
      have g1 := (hb3.cell (p := ⟨w.heap.size + 1, 1, none⟩) hzr).trans f1
      have g2 := (hb3.frozen (p := ⟨w.heap.size + 1, 0, none⟩) hzr).trans f2
      have g3 := (hb3.frozen (p := ⟨w.heap.size + 1, 1, none⟩) hzr).trans f3
      have hz3 := hb3.size
      have HB3 := Lib.hid (hbw3.trans (hb3.mono (by omega)))
      have HRES := Lib.hid hres
      obtain ⟨a9, c9, hu⟩ := hres.slice
      obtain ⟨n9, hn9⟩ : ∃ n, n = (turnS m k bs).length := ⟨_, rfl⟩
      unfold turnS at hn9
      rw [← hn9] at hu
      subst hu
      clear hres hb3 HC r0 r1 f0 f1 f2 f3 hn9
      go_wp2
      have hfin := (HRES.out.kept (gb_set2 w3 (w.heap.size + 1) (.int .i64 m) (.slice a9 n9 c9)) (fun r e => by cases e; exact .inl (by omega))).wide (lo' := w.heap.size) (by omega) (gb_set2 w3 (w.heap.size + 1) (.int .i64 m) (.slice a9 n9 c9)).size
      exact bodyPost_ret (v := .agg #[.int .i64 m, .slice a9 n9 c9]) (by simp [results, Try.results63, go_sem, *]) rfl ⟨_, rfl, hfin, below_set2 HB3.out (by omega) _ _⟩
theorem l01InP_any (v k : Int) (w : World) : Calls Try.prog 62 #[.int .i64 k, .int .i64 0, .int .i64 (v - 1)] w (RS (.bool (inP v k)) w) := by
  have h := l01In_any k 0 (v - 1) w
  have e : (decide (0 ≤ k) && decide (k ≤ v - 1)) = inP v k := by
    unfold inP
    rw [Bool.eq_iff_iff]
    simp
    omega
  rw [← e]
  exact h
theorem turnS_wf {n k : Nat} {bs : List Blk} (hi : isSysImpl (n : Int) bs = true) : ∀ x ∈ turnS n k bs, WFB x := by
  have := renF_wf (n : Int) bs (turnU n k n)
  rw [turnS_ren hi] at this
  exact this
theorem turnF_wf (v : Int) (bs : List Blk) (k : Int) : ∀ x ∈ (turnF v bs k).2.1, WFB x := by
  unfold turnF
  split
  · rename_i hi
    split
    · have hv := (sys_size hi).1
      exact turnS_wf (by rw [show ((v.toNat : Nat) : Int) = v by omega]; exact hi)
    · simp
  · simp
set_option maxRecDepth 100000 in
set_option maxHeartbeats 1000000 in
theorem TurnSystem_any (v : Int) (s : Value) (bs : List Blk) (k : Int) (w : World) (h : SB w s bs) :
    Calls Try.prog 32 #[.agg #[.int .i64 v, s], .int .i64 k] w (RSys (turnF v bs k) w) := by
  have hs := h.slice
  have HI := Lib.hid fun W (hb : Below w.heap.size w W) => IsSystem_any v s bs W (h.below hb (Nat.le_refl _))
  have HSB := Lib.hid h
  clear h
  obtain ⟨a0, c0, rfl⟩ := hs
  cases hi : isSysImpl v bs with
  | false =>
    have hval : turnF v bs k = (0, [], 1) := by simp [turnF, hi]
    rw [hval]
    rw [hi] at HI
    clear hval hi HSB
    go_enter Try.func32, Try.ntmps32
    go_wp2_with fail
    refine (HI.out _ (below2 _ _ _ _)).mono ?_
    rintro e w1 ⟨rfl, hb1⟩
    obtain ⟨_, _, d0, d1, f0, f1, hbw, hlt⟩ := boxes2 hb1
    clear hb1
    go_wp2
    exact bodyPost_ret (v := .tuple #[.agg #[.int .i64 0, .slice none 0 0], .int .i64 1]) (by simp [results, Try.results32, go_sem, *]) rfl ⟨_, rfl, .inl ⟨rfl, _, _, rfl⟩, below_set2 hbw (by omega) _ _⟩
  | true =>
    rw [hi] at HI
    obtain ⟨hv3, hv15, hb35⟩ := sys_size hi
    have HP := Lib.hid fun W => isPointI_any v k W
    cases hp : inP v k with
    | false =>
      have hval : turnF v bs k = (0, [], 2) := by unfold turnF; rw [if_pos hi, ← show inP v k = (decide (0 ≤ k) && decide (k < v)) from by simp [inP], hp]; rfl
      rw [hval]
      rw [hp] at HP
      clear hval hi hp HSB
      go_enter Try.func32, Try.ntmps32
      go_wp2_with fail
      refine (HI.out _ (below2 _ _ _ _)).mono ?_
      rintro e w1 ⟨rfl, hb1⟩
      obtain ⟨p0, p1, d0, d1, f0, f1, hbw, hlt⟩ := boxes2 hb1
      clear hb1
      go_wp2_with fail
      refine (HP.out _).mono ?_
      rintro e w2 ⟨rfl, rfl⟩
      go_wp2
      exact bodyPost_ret (v := .tuple #[.agg #[.int .i64 0, .slice none 0 0], .int .i64 2]) (by simp [results, Try.results32, go_sem, *]) rfl ⟨_, rfl, .inl ⟨rfl, _, _, rfl⟩, below_set2 hbw (by omega) _ _⟩
    | true =>
      have hval : turnF v bs k = (v, turnS v.toNat k.toNat bs, 0) := by unfold turnF; rw [if_pos hi, ← show inP v k = (decide (0 ≤ k) && decide (k < v)) from by simp [inP], hp]; rfl
      rw [hval]
      rw [hp] at HP
      have hk2 : 0 ≤ k ∧ k < v := by simpa [inP] using hp
      obtain ⟨n, rfl⟩ : ∃ n : Nat, v = n := ⟨v.toNat, by omega⟩
      obtain ⟨q, rfl⟩ : ∃ q : Nat, k = q := ⟨k.toNat, by omega⟩
      have HT := Lib.hid fun W (hb : Below w.heap.size w W) => turned_any n q _ bs W (HSB.out.below hb (Nat.le_refl _)) hi (by omega)
      simp only [Int.toNat_natCast]
      clear hval hi hp HSB
      go_enter Try.func32, Try.ntmps32
      go_wp2_with fail
      refine (HI.out _ (below2 _ _ _ _)).mono ?_
      rintro e w1 ⟨rfl, hb1⟩
      obtain ⟨p0, p1, d0, d1, f0, f1, hbw, hlt⟩ := boxes2 hb1
      clear hb1
      go_wp2_with fail
      refine (HP.out _).mono ?_
      rintro e w2 ⟨rfl, rfl⟩
      go_wp2_with fail
      refine (HT.out _ hbw).mono ?_
      rintro e w3 ⟨u, rfl, hres, hb3⟩
      have g0 := (hb3.cell (p := ⟨w.heap.size + 1, 0, none⟩) hlt).trans d0
      have g1 := (hb3.cell (p := ⟨w.heap.size + 1, 1, none⟩) hlt).trans d1
      have g2 := (hb3.frozen (p := ⟨w.heap.size + 1, 0, none⟩) hlt).trans f0
      have g3 := (hb3.frozen (p := ⟨w.heap.size + 1, 1, none⟩) hlt).trans f1
      have hz3 := hb3.size
      have HB3 := Lib.hid (hbw.trans (hb3.mono (by omega)))
      have HRES := Lib.hid hres
      obtain ⟨a9, c9, hu⟩ := hres.slice
      obtain ⟨n9, hn9⟩ : ∃ m, m = (turnS n q bs).length := ⟨_, rfl⟩
      rw [← hn9] at hu
      subst hu
      clear hres hb3 HT p0 p1 d0 d1 f0 f1 hn9
      go_wp2
      have hfin := (HRES.out.kept (gb_set2 w3 (w.heap.size + 1) (.int .i64 n) (.slice a9 n9 c9)) (fun r e => by cases e; exact .inl (by omega))).wide (lo' := w.heap.size) (by omega) (gb_set2 w3 (w.heap.size + 1) (.int .i64 n) (.slice a9 n9 c9)).size
      exact bodyPost_ret (v := .tuple #[.agg #[.int .i64 n, .slice a9 n9 c9], .int .i64 0]) (by simp [results, Try.results32, go_sem, *]) rfl ⟨_, rfl, hfin, below_set2 HB3.out (by omega) _ _⟩
set_option maxRecDepth 100000 in
set_option maxHeartbeats 1000000 in
theorem specTurnSystem_any (v : Int) (s : Value) (bs : List Blk) (k : Int) (w : World) (h : SB w s bs) :
    Calls Try.prog 31 #[.agg #[.int .i64 v, s], .int .i64 k] w (RSys (turnF v bs k) w) := by
  have hs := h.slice
  have HI := Lib.hid fun W (hb : Below w.heap.size w W) => l01Is_any v s bs W (h.below hb (Nat.le_refl _))
  have HSB := Lib.hid h
  clear h
  obtain ⟨a0, c0, rfl⟩ := hs
  cases hi : isSysImpl v bs with
  | false =>
    have hval : turnF v bs k = (0, [], 1) := by simp [turnF, hi]
    rw [hval]
    rw [hi] at HI
    clear hval hi HSB
    go_enter Try.func31, Try.ntmps31
    go_wp2_with fail
    refine (HI.out _ (below2 _ _ _ _)).mono ?_
    rintro e w1 ⟨rfl, hb1⟩
    obtain ⟨_, _, d0, d1, f0, f1, hbw, hlt⟩ := boxes2 hb1
    clear hb1
    go_wp2
    exact bodyPost_ret (v := .tuple #[.agg #[.int .i64 0, .slice none 0 0], .int .i64 1]) (by simp [results, Try.results31, go_sem, *]) rfl ⟨_, rfl, .inl ⟨rfl, _, _, rfl⟩, below_set2 hbw (by omega) _ _⟩
  | true =>
    rw [hi] at HI
    obtain ⟨hv3, hv15, hb35⟩ := sys_size hi
    have HP := Lib.hid fun W => l01InP_any v k W
    cases hp : inP v k with
    | false =>
      have hval : turnF v bs k = (0, [], 2) := by unfold turnF; rw [if_pos hi, ← show inP v k = (decide (0 ≤ k) && decide (k < v)) from by simp [inP], hp]; rfl
      rw [hval]
      rw [hp] at HP
      clear hval hi hp HSB
      go_enter Try.func31, Try.ntmps31
      go_wp2_with fail
      refine (HI.out _ (below2 _ _ _ _)).mono ?_
      rintro e w1 ⟨rfl, hb1⟩
      obtain ⟨p0, p1, d0, d1, f0, f1, hbw, hlt⟩ := boxes2 hb1
      clear hb1
      go_wp2_with fail
      refine (HP.out _).mono ?_
      rintro e w2 ⟨rfl, rfl⟩
      go_wp2
      exact bodyPost_ret (v := .tuple #[.agg #[.int .i64 0, .slice none 0 0], .int .i64 2]) (by simp [results, Try.results31, go_sem, *]) rfl ⟨_, rfl, .inl ⟨rfl, _, _, rfl⟩, below_set2 hbw (by omega) _ _⟩
    | true =>
      have hval : turnF v bs k = (v, turnS v.toNat k.toNat bs, 0) := by unfold turnF; rw [if_pos hi, ← show inP v k = (decide (0 ≤ k) && decide (k < v)) from by simp [inP], hp]; rfl
      rw [hval]
      rw [hp] at HP
      have hk2 : 0 ≤ k ∧ k < v := by simpa [inP] using hp
      obtain ⟨n, rfl⟩ : ∃ n : Nat, v = n := ⟨v.toNat, by omega⟩
      obtain ⟨q, rfl⟩ : ∃ q : Nat, k = q := ⟨k.toNat, by omega⟩
      have HT := Lib.hid fun W (hb : Below w.heap.size w W) => l10Turned_any n q _ bs W (HSB.out.below hb (Nat.le_refl _)) hi (by omega)
      simp only [Int.toNat_natCast]
      clear hval hi hp HSB
      go_enter Try.func31, Try.ntmps31
      go_wp2_with fail
      refine (HI.out _ (below2 _ _ _ _)).mono ?_
      rintro e w1 ⟨rfl, hb1⟩
      obtain ⟨p0, p1, d0, d1, f0, f1, hbw, hlt⟩ := boxes2 hb1
      clear hb1
      go_wp2_with fail
      refine (HP.out _).mono ?_
      rintro e w2 ⟨rfl, rfl⟩
      go_wp2_with fail
      refine (HT.out _ hbw).mono ?_
      rintro e w3 ⟨u, rfl, hres, hb3⟩
      have g0 := (hb3.cell (p := ⟨w.heap.size + 1, 0, none⟩) hlt).trans d0
      have g1 := (hb3.cell (p := ⟨w.heap.size + 1, 1, none⟩) hlt).trans d1
      have g2 := (hb3.frozen (p := ⟨w.heap.size + 1, 0, none⟩) hlt).trans f0
      have g3 := (hb3.frozen (p := ⟨w.heap.size + 1, 1, none⟩) hlt).trans f1
      have hz3 := hb3.size
      have HB3 := Lib.hid (hbw.trans (hb3.mono (by omega)))
      have HRES := Lib.hid hres
      obtain ⟨a9, c9, hu⟩ := hres.slice
      obtain ⟨n9, hn9⟩ : ∃ m, m = (turnS n q bs).length := ⟨_, rfl⟩
      rw [← hn9] at hu
      subst hu
      clear hres hb3 HT p0 p1 d0 d1 f0 f1 hn9
      go_wp2
      have hfin := (HRES.out.kept (gb_set2 w3 (w.heap.size + 1) (.int .i64 n) (.slice a9 n9 c9)) (fun r e => by cases e; exact .inl (by omega))).wide (lo' := w.heap.size) (by omega) (gb_set2 w3 (w.heap.size + 1) (.int .i64 n) (.slice a9 n9 c9)).size
      exact bodyPost_ret (v := .tuple #[.agg #[.int .i64 n, .slice a9 n9 c9], .int .i64 0]) (by simp [results, Try.results31, go_sem, *]) rfl ⟨_, rfl, hfin, below_set2 HB3.out (by omega) _ _⟩
end Go.Proofs.Ytehdpgjbmnkkiaa

namespace Go.Proofs.Ytehdpgjbmnkkiaa
open Go.RowKit Go.Maps
theorem ResI.slice {w : World} {lo hi : Nat} {s : Value} {zs : List Int} (h : ResI w lo hi s zs) : ∃ a c, s = .slice a zs.length c := by
  rcases h with ⟨rfl, a, c, rfl⟩ | ⟨g, cap, rfl, _⟩ <;> exact ⟨_, _, rfl⟩
theorem ResI.wide {w : World} {lo hi lo' hi' : Nat} {s : Value} {zs : List Int} (h : ResI w lo hi s zs) (h1 : lo' ≤ lo) (h2 : hi ≤ hi') : ResI w lo' hi' s zs := by
  rcases h with h | ⟨g, cap, rfl, h3, h4, ho⟩
  · exact .inl h
  · exact .inr ⟨g, cap, rfl, by omega, by omega, ho⟩
structure St1 (w : World) (v : Int) (s : Value) (W : World) : Prop where
  below : Below w.heap.size w W
  big : w.heap.size < W.heap.size
  x0 : W.cell? ⟨w.heap.size, 0, none⟩ = some (.int .i64 v)
  x1 : W.cell? ⟨w.heap.size, 1, none⟩ = some s
theorem St1.step {w : World} {v : Int} {s : Value} {W W' : World} {row : Option Nat} (h : St1 w v s W) (hg : W.grownBy W' row) (hr : ∀ r, row = some r → w.heap.size < r) : St1 w v s W' :=
  ⟨h.below.grown hg h.below.size (fun r e => by have := hr r e; omega), Nat.lt_of_lt_of_le h.big hg.size,
    hg.cell h.x0 (fun e => by have := hr _ e.symm; simp at this), hg.cell h.x1 (fun e => by have := hr _ e.symm; simp at this)⟩
theorem St1.start (w : World) (v : Int) (s : Value) : St1 w v s (w.alloc (.cells #[.int .i64 v, s] 24)) :=
  ⟨(Below.refl _ _).alloc (Nat.le_refl _) _, by simp, by simp [go_sem], by simp [go_sem]⟩
structure CI (w : World) (v : Int) (s sW s8 sG : Value) (X i0 i1 i2 i5 i6 : Nat) (LW : List Int) (L8 : List Blk) (LG : List Int) (W : World) : Prop where
  st : St1 w v s W
  o0 : w.heap.size < i0
  o1 : i0 ≤ i1
  o2 : i1 ≤ i2
  oX : i2 ≤ X
  oX' : X < i5
  o6 : i5 ≤ i6
  rW : ResI W i0 i1 sW LW
  r8 : ResR W i1 i2 s8 L8
  vX : VarB W X v s8
  rG : ResI W i5 i6 sG LG
section
variable {w : World} {v : Int} {s sW s8 sG : Value} {X i0 i1 i2 i5 i6 : Nat} {LW LG : List Int} {L8 : List Blk} {W W' : World}
theorem CI.step (h : CI w v s sW s8 sG X i0 i1 i2 i5 i6 LW L8 LG W) (hg : W.grownBy W' none) : CI w v s sW s8 sG X i0 i1 i2 i5 i6 LW L8 LG W' :=
  ⟨h.st.step hg (by simp), h.o0, h.o1, h.o2, h.oX, h.oX', h.o6, h.rW.kept hg (by simp), h.r8.kept hg (by simp), h.vX.step hg (by simp), h.rG.kept hg (by simp)⟩
theorem CI.mark8 (h : CI w v s sW s8 sG X i0 i1 i2 i5 i6 LW L8 LG W) {row : Option Nat} (hg : W.grownBy W' row) (hr : ∀ r, row = some r → i1 ≤ r ∧ r < i2) {L : List Blk} (hn : ResR W' i1 i2 s8 L) :
    CI w v s sW s8 sG X i0 i1 i2 i5 i6 LW L LG W' := by
  obtain ⟨st, o0, o1, o2, oX, oX', o6, rW, r8, vX, rG⟩ := h
  exact ⟨st.step hg (fun r e => by have := hr r e; omega), o0, o1, o2, oX, oX', o6, rW.kept hg (fun r e => by have := hr r e; omega), hn, vX.step hg (fun e => by have := hr _ e; omega), rG.kept hg (fun r e => by have := hr r e; omega)⟩
theorem CI.markG (h : CI w v s sW s8 sG X i0 i1 i2 i5 i6 LW L8 LG W) {row : Option Nat} (hg : W.grownBy W' row) (hr : ∀ r, row = some r → i5 ≤ r ∧ r < i6) {L : List Int} (hn : ResI W' i5 i6 sG L) :
    CI w v s sW s8 sG X i0 i1 i2 i5 i6 LW L8 L W' := by
  obtain ⟨st, o0, o1, o2, oX, oX', o6, rW, r8, vX, rG⟩ := h
  exact ⟨st.step hg (fun r e => by have := hr r e; omega), o0, o1, o2, oX, oX', o6, rW.kept hg (fun r e => by have := hr r e; omega), r8.kept hg (fun r e => by have := hr r e; omega), vX.step hg (fun e => by have := hr _ e; omega), hn⟩
end
theorem gb_drew1 (w : World) : w.grownBy w.drew none := ⟨rfl, rfl, rfl, Nat.le_refl _, fun _ _ _ => rfl⟩
theorem gb_alloc1 (w : World) (o : Obj) : w.grownBy (w.alloc o) none := World.grownBy_alloc w o none
end Go.Proofs.Ytehdpgjbmnkkiaa

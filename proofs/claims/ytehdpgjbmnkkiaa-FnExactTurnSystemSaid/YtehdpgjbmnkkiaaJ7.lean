
/- impl.RenumberSystem answers as the plain function renF. The numbers from 0 on: plain. blockNumbers. The pairs of a list of blocks, as a map. The program's PairsLeft. The program's turned systems. The model's insertion sort. The model's block of three points. -/
import Derived.Test.YtehdpgjbmnkkiaaJ6
import Derived.Deep.RegionHeld3
namespace Go.Proofs.Ytehdpgjbmnkkiaa
open Go.RowKit Go.Maps
theorem sx_one (W : World) (x : Blk) (T : TypeId) : SX (W.alloc (.cells #[.int .i64 x.a, .int .i64 x.b, .int .i64 x.c] T)) (.slice (some ⟨W.heap.size, 0, none⟩) 1 1) [x] :=
  .inr ⟨W.heap.size, 0, 1, rfl, by simp, fun k hk => by
    have : k = 0 := by simp at hk; omega
    subst this
    simp⟩
set_option maxRecDepth 100000 in
set_option maxHeartbeats 1000000 in
theorem RenumberSystem_any (v : Int) (s : Value) (bs : List Blk) (t : Value) (p : List Int) (w : World) (h : SB w s bs) (ht : IB w t p) (hwf : ∀ z ∈ p, WF z) :
    Calls Try.prog 106 #[.agg #[.int .i64 v, s], t] w (RSys (renF v bs p) w) := by
  have hs := h.slice
  have HI := Lib.hid fun W (hb : Below w.heap.size w W) => IsSystem_any v s bs W (h.below hb (Nat.le_refl _))
  have HR := Lib.hid fun W (hb : Below w.heap.size w W) => isRenumbering_any v t p W (ht.below hb (Nat.le_refl _)) hwf
  have HSB := Lib.hid h
  have hlen := h.2.1
  have hts : ∃ a c, t = .slice a p.length c := by rcases ht.2 with ⟨a, c, rfl, rfl⟩ | ⟨b, off, cap, rfl, _⟩ <;> exact ⟨_, _, rfl⟩
  have HT := Lib.hid ht
  clear h ht hwf
  obtain ⟨a0, c0, rfl⟩ := hs
  obtain ⟨a1, c1, rfl⟩ := hts
  cases hi : isSysImpl v bs with
  | false =>
    have hval : renF v bs p = (0, [], 1) := by simp [renF, hi]
    rw [hval]
    rw [hi] at HI
    clear hval hi HSB HR HT
    go_enter Try.func106, Try.ntmps106
    go_wp2_with (go_at_call 45; refine (HI.out _ (below2 _ _ _ _)).mono ?_; rintro e w1 ⟨rfl, hb1⟩; obtain ⟨_, _, d0, d1, f0, f1, hbw, hlt⟩ := boxes2 hb1)
    exact bodyPost_ret (v := .tuple #[.agg #[.int .i64 0, .slice none 0 0], .int .i64 1]) (by simp [results, Try.results106, go_sem, *]) rfl ⟨_, rfl, .inl ⟨rfl, _, _, rfl⟩, below_set2 hbw (by omega) _ _⟩
  | true =>
    rw [hi] at HI
    obtain ⟨hv3, hv15, hb35⟩ := sys_size hi
    cases hr : isRen v p with
    | false =>
      have hval : renF v bs p = (0, [], 2) := by simp [renF, hi, hr]
      rw [hval]
      rw [hr] at HR
      clear hval hi hr HSB HT
      go_enter Try.func106, Try.ntmps106
      go_wp2_with fail
      refine (HI.out _ (below2 _ _ _ _)).mono ?_
      rintro e w1 ⟨rfl, hb1⟩
      obtain ⟨p0, p1, d0, d1, f0, f1, hbw, hlt⟩ := boxes2 hb1
      clear hb1
      go_wp2_with fail
      refine (HR.out _ hbw).mono ?_
      rintro e w2 ⟨rfl, hb2⟩
      obtain ⟨q0, q1, e0, e1, k0, k1⟩ : Six w2 w.heap.size v (.slice a0 bs.length c0) := keep6 (row := none) ⟨p0, p1, d0, d1, f0, f1⟩ (gb_below hb2) (by simp)
      have hz2 := hb2.size
      go_wp2
      exact bodyPost_ret (v := .tuple #[.agg #[.int .i64 0, .slice none 0 0], .int .i64 2]) (by simp [results, Try.results106, go_sem, *]) rfl ⟨_, rfl, .inl ⟨rfl, _, _, rfl⟩, below_set2 (hbw.trans (hb2.mono (by omega))) (by omega) _ _⟩
    | true =>
      have hval : renF v bs p = (v, sortB (bs.map (renB p)), 0) := by simp [renF, hi, hr]
      rw [hval]
      rw [hr] at HR
      have HG := Lib.hid (sys_good hi)
      have HREN := Lib.hid hr
      have hpl : (p.length : Int) = v := by unfold isRen at hr; simp only [Bool.and_eq_true, decide_eq_true_eq] at hr; exact hr.1
      clear hval hi hr
      go_enter Try.func106, Try.ntmps106
      go_wp2_with fail
      refine (HI.out _ (below2 _ _ _ _)).mono ?_
      rintro e w1 ⟨rfl, hb1⟩
      obtain ⟨p0, p1, d0, d1, f0, f1, hbw, hlt⟩ := boxes2 hb1
      clear hb1
      go_wp2_with fail
      refine (HR.out _ hbw).mono ?_
      rintro e w2 ⟨rfl, hb2⟩
      obtain ⟨q0, q1, e0, e1, k0, k1⟩ : Six w2 w.heap.size v (.slice a0 bs.length c0) := keep6 (row := none) ⟨p0, p1, d0, d1, f0, f1⟩ (gb_below hb2) (by simp)
      have hz2 := hb2.size
      have hbw2 := hbw.trans (hb2.mono (by omega))
      have hlt2 : w.heap.size + 1 < w2.heap.size := by omega
      have hlt3 : w.heap.size < w2.heap.size := by omega
      have HSX := Lib.hid (HSB.out.below hbw2 (Nat.le_refl _)).sx
      have HT2 := Lib.hid (HT.out.below hbw2 (Nat.le_refl _))
      have HSIX := Lib.hid (show Six w2 w.heap.size v (.slice a0 bs.length c0) from ⟨q0, q1, e0, e1, k0, k1⟩)
      have HPL := Lib.hid hpl
      clear p0 p1 d0 d1 f0 f1 hb2 e0 e1 k0 k1 hpl
      go_wp2_with fail
      go_loopw [6, 22] (fun o t wr => ∃ k : Nat, k ≤ bs.length ∧ t = .int .i64 k ∧ Below w2.heap.size w2 wr ∧ OwnR wr w2.heap.size o ((bs.take k).map (renB p)) ∧ ∃ a n c, o = .slice a n c) (fun _ t _ => bs.length - (intOf t).toNat)
      case atStart => exact ⟨0, Nat.zero_le _, rfl, Below.refl _ _, OwnR.nil _ _, _, _, _, rfl⟩
      case round =>
        obtain ⟨k, hk, rfl, hB, hO, a5, n5, c5, rfl⟩ := hrel
        have hz := hB.size
        have hz1 : w.heap.size < wr.heap.size := by omega
        have r0 := (hB.cell (p := ⟨w.heap.size, 0, none⟩) hlt3).trans q0
        have r1 := (hB.cell (p := ⟨w.heap.size, 1, none⟩) hlt3).trans q1
        have HO5 := Lib.hid hO
        clear hO
        by_cases hkl : k < bs.length
        · rcases HSX.out with ⟨_, _, _, hnil⟩ | ⟨b, off, cap, hv, hblt, hbl⟩
          · rw [hnil] at hkl; simp at hkl
          rcases HT2.out.2 with ⟨_, _, _, hnil⟩ | ⟨pb, po, pc, hv2, hplt, hpi⟩
          · exfalso; have := HPL.out; rw [hnil] at this; simp at this; omega
          simp at hv hv2
          obtain ⟨rfl, rfl⟩ := hv
          obtain ⟨rfl, rfl⟩ := hv2
          have hz4 : b < wr.heap.size := by omega
          have hz5 : pb < wr.heap.size := by omega
          obtain ⟨x, hx, ex, x1, x2, x3⟩ := blks_at (hbl.below hB hblt) hkl
          obtain ⟨g1, g2, g3, g4⟩ := goodB_iff.1 (HG.out x hx)
          obtain ⟨xa, xb, xc⟩ := x
          dsimp only at x1 x2 x3 g1 g2 g3 g4
          obtain ⟨na, rfl⟩ : ∃ n : Nat, xa = (n : Int) := ⟨xa.toNat, by omega⟩
          obtain ⟨nb, rfl⟩ : ∃ n : Nat, xb = (n : Int) := ⟨xb.toNat, by omega⟩
          obtain ⟨nc, rfl⟩ : ∃ n : Nat, xc = (n : Int) := ⟨xc.toNat, by omega⟩
          have hpl := HPL.out
          have t1 := (hB.cell (p := ⟨pb, po + na, none⟩) hplt).trans (hpi na (by omega))
          have t2 := (hB.cell (p := ⟨pb, po + nb, none⟩) hplt).trans (hpi nb (by omega))
          have t3 := (hB.cell (p := ⟨pb, po + nc, none⟩) hplt).trans (hpi nc (by omega))
          obtain ⟨ya, hya⟩ : ∃ y, y = p[na]?.getD 0 := ⟨_, rfl⟩
          obtain ⟨yb, hyb⟩ : ∃ y, y = p[nb]?.getD 0 := ⟨_, rfl⟩
          obtain ⟨yc, hyc⟩ : ∃ y, y = p[nc]?.getD 0 := ⟨_, rfl⟩
          rw [← hya] at t1
          rw [← hyb] at t2
          rw [← hyc] at t3
          obtain ⟨r, hr⟩ : ∃ r, r = blk3 ya yb yc := ⟨_, rfl⟩
          have hsucc : (bs.take (k + 1)).map (renB p) = (bs.take k).map (renB p) ++ [r] := by
            have e1 : bs[k] = ⟨(na : Int), (nb : Int), (nc : Int)⟩ := by rw [List.getElem?_eq_getElem hkl] at ex; simpa using ex
            rw [List.take_succ_eq_append_getElem hkl, List.map_append, e1, hr, hya, hyb, hyc]
            simp [renB, at0]
          have HSU := Lib.hid hsucc
          have HBF := Lib.hid fun (B : Nat) (C : Nat) (W : World) (j0 : W.cell? ⟨B, 0, none⟩ = some (.int .i64 ya)) (j1 : W.cell? ⟨B, 1, none⟩ = some (.int .i64 yb)) (j2 : W.cell? ⟨B, 2, none⟩ = some (.int .i64 yc)) => blockFrom_any B 0 C ya yb yc W j0 j1 j2
          rw [← hr] at HBF
          obtain ⟨ra, rb, rc⟩ := r
          unfold bv at HBF
          dsimp only at HBF
          have j1 : (na : Int) < (p.length : Int) := by omega
          have j2 : (nb : Int) < (p.length : Int) := by omega
          have j3 : (nc : Int) < (p.length : Int) := by omega
          have i0 : (0 : Int) ≤ (k : Int) := by omega
          have i1 : (k : Int) < (bs.length : Int) := by omega
          have hl3 : ((bs.take k).map (renB p)).length ≤ 1000 := by simp; omega
          obtain ⟨L, hL⟩ : ∃ L, L = (bs.take k).map (renB p) := ⟨_, rfl⟩
          rw [← hL] at HO5 HSU hl3
          have HLT := Lib.hid (show ∀ r, (Value.slice a5 n5 c5).ownBlock = some r → w2.heap.size ≤ r ∧ r < wr.heap.size from ownsRow_lt HO5.out)
          clear hx ex hbl hpi hsucc hya hyb hyc hr hL hpl
          have m0 : (wr.alloc (.cells #[.int .i64 (na : Int), .int .i64 (nb : Int), .int .i64 (nc : Int)] 93)).cell? ⟨pb, po + na, none⟩ = some (.int .i64 ya) := cell_past t1 hz5
          have m1 : (wr.alloc (.cells #[.int .i64 (na : Int), .int .i64 (nb : Int), .int .i64 (nc : Int)] 93)).cell? ⟨pb, po + nb, none⟩ = some (.int .i64 yb) := cell_past t2 hz5
          have m2 : (wr.alloc (.cells #[.int .i64 (na : Int), .int .i64 (nb : Int), .int .i64 (nc : Int)] 93)).cell? ⟨pb, po + nc, none⟩ = some (.int .i64 yc) := cell_past t3 hz5
          go_wp2
          have n0 : (wr.alloc (.cells #[.int .i64 (na : Int), .int .i64 (nb : Int), .int .i64 (nc : Int)] 93)).cell? ⟨wr.heap.size, 0, none⟩ = some (.int .i64 (na : Int)) := by simp [go_sem]
          have n1 : (wr.alloc (.cells #[.int .i64 (na : Int), .int .i64 (nb : Int), .int .i64 (nc : Int)] 93)).cell? ⟨wr.heap.size, 1, none⟩ = some (.int .i64 (nb : Int)) := by simp [go_sem]
          have n2 : (wr.alloc (.cells #[.int .i64 (na : Int), .int .i64 (nb : Int), .int .i64 (nc : Int)] 93)).cell? ⟨wr.heap.size, 2, none⟩ = some (.int .i64 (nc : Int)) := by simp [go_sem]
          have ho1 := HO5.out.below ((Below.refl _ _).alloc (Nat.le_refl _) (.cells #[.int .i64 (na : Int), .int .i64 (nb : Int), .int .i64 (nc : Int)] 93)) (Nat.le_refl _)
          have hB1 := hB.alloc hz (.cells #[.int .i64 (na : Int), .int .i64 (nb : Int), .int .i64 (nc : Int)] 93)
          have hz6 : (wr.alloc (.cells #[.int .i64 (na : Int), .int .i64 (nb : Int), .int .i64 (nc : Int)] 93)).heap.size = wr.heap.size + 1 := by simp
          obtain ⟨W1, hW1⟩ : ∃ W1, (wr.alloc (.cells #[.int .i64 (na : Int), .int .i64 (nb : Int), .int .i64 (nc : Int)] 93)) = W1 := ⟨_, rfl⟩
          rw [hW1] at m0 m1 m2 n0 n1 n2 ho1 hB1 hz6 ⊢
          have HO1 := Lib.hid ho1
          have HZ6 := Lib.hid hz6
          have hpz : pb < W1.heap.size := by omega
          have hwz : wr.heap.size < W1.heap.size := by omega
          clear hW1 t1 t2 t3 x1 x2 x3 ho1 hz6 r0 r1
          go_region_held3 (fun w' => w'.cell? ⟨pb, po + na, none⟩ = some (.int .i64 ya) ∧ w'.cell? ⟨pb, po + nb, none⟩ = some (.int .i64 yb) ∧ w'.cell? ⟨pb, po + nc, none⟩ = some (.int .i64 yc) ∧ w'.cell? ⟨wr.heap.size, 0, none⟩ = some (.int .i64 (na : Int)) ∧ w'.cell? ⟨wr.heap.size, 1, none⟩ = some (.int .i64 (nb : Int)) ∧ w'.cell? ⟨wr.heap.size, 2, none⟩ = some (.int .i64 (nc : Int)))
            (first | exact ⟨E0, E1, E2, E3, E4, E5⟩ | exact ⟨F0, F1, F2, F3, F4, F5⟩ | go_keep)
            (first
              | (go_at_call 123; refine (HBF.out W1.heap.size 3 _ (by simp [go_sem]) (by simp [go_sem]) (by simp [go_sem])).mono ?_; rintro e w5 ⟨rfl, hb5⟩; have hB5 : Below W1.heap.size W1 w5 := (((Below.refl _ _).alloc (Nat.le_refl _) _).drew).trans (hb5.mono (by simp)); have E0 := (hB5.cell (p := ⟨pb, po + na, none⟩) hpz).trans m0; have E1 := (hB5.cell (p := ⟨pb, po + nb, none⟩) hpz).trans m1; have E2 := (hB5.cell (p := ⟨pb, po + nc, none⟩) hpz).trans m2; have E3 := (hB5.cell (p := ⟨wr.heap.size, 0, none⟩) hwz).trans n0; have E4 := (hB5.cell (p := ⟨wr.heap.size, 1, none⟩) hwz).trans n1; have E5 := (hB5.cell (p := ⟨wr.heap.size, 2, none⟩) hwz).trans n2; have HO6 := Lib.hid (HO1.out.below hB5 (Nat.le_refl _)))
              | (refine step_append_many rfl (.tmp 26) (.tmp 44) rfl w2.heap.size (.slice a5 n5 c5) L (by simp [Act.eval]) (by first | exact HO6.out.below ((Below.refl _ _).alloc (Nat.le_refl _) _) (Nat.le_refl _) | exact HO6.out.below (((Below.refl _ _).alloc (Nat.le_refl _) _).drew) (Nat.le_refl _)) (.slice (some ⟨w5.heap.size, 0, none⟩) 1 1) [⟨ra, rb, rc⟩] (by simp [Act.eval]) (by first | exact sx_one _ ⟨ra, rb, rc⟩ _ | exact (sx_one _ ⟨ra, rb, rc⟩ _).below ((Below.refl _ _).drew) (Nat.le_refl _)) (by simp; omega) (by have := hB5.size; simp; omega) ?_; intro a3 c3 w3 ho3 hg3; have hgw : w5.grownBy w3 (Value.slice a5 n5 c5).ownBlock := gb_trans (World.grownBy_alloc _ _ none) (by first | exact hg3 | exact gb_drewL hg3); have F0 := hgw.cell E0 (fun e => by have := (HLT.out _ e.symm).1; simp at this; omega); have F1 := hgw.cell E1 (fun e => by have := (HLT.out _ e.symm).1; simp at this; omega); have F2 := hgw.cell E2 (fun e => by have := (HLT.out _ e.symm).1; simp at this; omega); have F3 := hgw.cell E3 (fun e => by have := (HLT.out _ e.symm).2; simp at this); have F4 := hgw.cell E4 (fun e => by have := (HLT.out _ e.symm).2; simp at this); have F5 := hgw.cell E5 (fun e => by have := (HLT.out _ e.symm).2; simp at this)))
          have hrow := HO6.out.row
          have hB6 := hB1.trans (hB5.mono (by omega))
          have hz7 := hB5.size
          have hB7 := hB6.grown hgw (by omega) (fun j e => hrow j e)
          go_wp2
          go_roundw
          case rel => exact ⟨k + 1, by omega, by go_num, hB7, by rw [HSU.out]; exact ho3, _, _, _, rfl⟩
          case measure => simp [intOf]; omega
        · have e : k = bs.length := by omega
          subst e
          rw [List.take_length] at HO5
          obtain ⟨L, hL⟩ : ∃ L, L = bs.map (renB p) := ⟨_, rfl⟩
          have hLl : L.length ≤ 1100000 := by rw [hL, List.length_map]; omega
          have HLL := Lib.hid hL
          rw [← hL] at HO5
          have HSF := Lib.hid (systemFrom_any v w2.heap.size (.slice a5 n5 c5) L wr HO5.out hLl hz)
          obtain ⟨e0, e1, k0, k1⟩ := HSIX.out.2.2
          have f0 := (hB.cell (p := ⟨w.heap.size + 1, 0, none⟩) hlt2).trans e0
          have f1 := (hB.cell (p := ⟨w.heap.size + 1, 1, none⟩) hlt2).trans e1
          have f2 := (hB.frozen (p := ⟨w.heap.size + 1, 0, none⟩) hlt2).trans k0
          have f3 := (hB.frozen (p := ⟨w.heap.size + 1, 1, none⟩) hlt2).trans k1
          have hrow := HO5.out.row
          clear e0 e1 k0 k1 hL
          go_wp2_with fail
          refine HSF.out.mono ?_
          rintro e w3 ⟨rfl, ho3, hg3⟩
          have hne : ∀ q, q < w2.heap.size → some q ≠ (Value.slice a5 n5 c5).ownBlock := fun q hq e => by have := hrow q e.symm; omega
          have g0 := hg3.cell f0 (by simpa using hne _ hlt2)
          have g1 := hg3.cell f1 (by simpa using hne _ hlt2)
          have hblk := hg3.block (w.heap.size + 1) (by omega) (hne _ hlt2)
          have g2 : w3.frozen? ⟨w.heap.size + 1, 0, none⟩ = false := (World.frozen?_of_block (a := ⟨w.heap.size + 1, 0, none⟩) hblk).trans f2
          have g3 : w3.frozen? ⟨w.heap.size + 1, 1, none⟩ = false := (World.frozen?_of_block (a := ⟨w.heap.size + 1, 1, none⟩) hblk).trans f3
          have hz9 := hg3.size
          have hB9 : Below w.heap.size w w3 := (hbw2.trans (hB.mono (by omega))).grown hg3 (by omega) (fun j e => by have := hrow j e; omega)
          have hres := ho3.res
          clear f0 f1 f2 f3 hblk ho3 hg3
          go_wp2
          have hfin := (hres.kept (gb_set2 w3 (w.heap.size + 1) (.int .i64 v) (.slice a5 n5 c5)) (fun r e => by cases e; exact .inl (by omega))).wide (lo' := w.heap.size) (by omega) (gb_set2 w3 (w.heap.size + 1) (.int .i64 v) (.slice a5 n5 c5)).size
          rw [HLL.out] at hfin
          exact bodyPost_ret (v := .tuple #[.agg #[.int .i64 v, .slice a5 n5 c5], .int .i64 0]) (by simp [results, Try.results106, go_sem, *]) rfl ⟨_, rfl, hfin, below_set2 hB9 (by omega) _ _⟩
end Go.Proofs.Ytehdpgjbmnkkiaa

namespace Go.Proofs.Ytehdpgjbmnkkiaa
def numL (m : Nat) : List Int := (List.range m).map fun (k : Nat) => (k : Int)
theorem numL_succ (m : Nat) : numL (m + 1) = numL m ++ [(m : Int)] := by simp [numL, List.range_succ]
theorem numL_len (m : Nat) : (numL m).length = m := by simp [numL]
theorem numL_asc (m : Nat) : (numL m).Pairwise (· ≤ ·) := by
  unfold numL
  rw [List.pairwise_map]
  exact List.pairwise_lt_range.imp (by intro a b h; omega)
theorem numL_nodup (m : Nat) : (numL m).Nodup := by
  unfold numL
  rw [List.Nodup, List.pairwise_map]
  exact List.nodup_range.imp fun h e => h (by omega)
end Go.Proofs.Ytehdpgjbmnkkiaa

namespace Go.Proofs.Ytehdpgjbmnkkiaa
open Go.RowKit Go.Maps
theorem OwnJ.slice {w : World} {base : Nat} {u : Value} {zs : List Int} (h : OwnJ w base u zs) : ∃ a c, u = .slice a zs.length c := by
  rcases h.2 with ⟨rfl, h0⟩ | ⟨g, cap, cur, rfl, _⟩
  · exact ⟨none, 0, by rw [h0]⟩
  · exact ⟨_, _, rfl⟩
end Go.Proofs.Ytehdpgjbmnkkiaa

namespace Go.Proofs.Ytehdpgjbmnkkiaa
open Go.RowKit Go.Maps
end Go.Proofs.Ytehdpgjbmnkkiaa

namespace Go.Proofs.Ytehdpgjbmnkkiaa
open Go.RowKit Go.Maps
/-- The pairs (a, b), b among the next n, that P lets through; then those of the rows before a. -/
def rowL (P : Int → Int → Bool) (a : Nat) : Nat → List (Int × Int)
  | 0 => []
  | n + 1 => rowL P a n ++ if P a ((a : Int) + 1 + n) then [((a : Int), (a : Int) + 1 + n)] else []
def leftL (P : Int → Int → Bool) (v : Nat) : Nat → List (Int × Int)
  | 0 => []
  | a + 1 => leftL P v a ++ rowL P a (v - 1 - a)
theorem rowL_len (P : Int → Int → Bool) (a n : Nat) : (rowL P a n).length ≤ n := by
  induction n with
  | zero => simp [rowL]
  | succ n ih =>
    unfold rowL
    rw [List.length_append]
    split <;> simp <;> omega
theorem leftL_len (P : Int → Int → Bool) (v a : Nat) : (leftL P v a).length ≤ a * v := by
  induction a with
  | zero => simp [leftL]
  | succ a ih =>
    unfold leftL
    rw [List.length_append, Nat.succ_mul]
    have := rowL_len P a (v - 1 - a)
    omega
theorem rowL_congr {P Q : Int → Int → Bool} {a : Nat} : ∀ n : Nat, (∀ b : Int, (a : Int) < b → b ≤ a + n → P a b = Q a b) → rowL P a n = rowL Q a n
  | 0, _ => rfl
  | n + 1, h => by
    unfold rowL
    rw [rowL_congr n (fun b h1 h2 => h b h1 (by omega)), h ((a : Int) + 1 + n) (by omega) (by omega)]
theorem leftL_congr {P Q : Int → Int → Bool} {v : Nat} : ∀ a : Nat, a ≤ v → (∀ a' b : Int, 0 ≤ a' → a' < b → b < v → P a' b = Q a' b) → leftL P v a = leftL Q v a
  | 0, _, _ => rfl
  | a + 1, ha, h => by
    unfold leftL
    rw [leftL_congr a (by omega) h, rowL_congr _ (fun b h1 h2 => h a b (by omega) h1 (by omega))]
def fnL (L : List (Int × Int)) (k : Nat) : List Int := let p := L[k]?.getD (0, 0); [p.1, p.2]
theorem fnL_len (L : List (Int × Int)) (k : Nat) : (fnL L k).length = 2 := rfl
theorem fnL_lt {L L' : List (Int × Int)} {k : Nat} (h : k < L.length) : fnL L k = fnL (L ++ L') k := by
  unfold fnL
  rw [List.getElem?_append_left h]
theorem fnL_at (L : List (Int × Int)) (p : Int × Int) : fnL (L ++ [p]) L.length = [p.1, p.2] := by simp [fnL]
theorem AccS.congr {w : World} {base : Nat} {u : Value} {n : Nat} {gs caps : Nat → Nat} {F F' : Nat → List Int} (h : AccS w base u n gs caps F) (e : ∀ k, k < n → F k = F' k) : AccS w base u n gs caps F' := by
  refine ⟨?_, fun k hk => by rw [← e k hk]; exact h.row k hk, h.ne, h.inc, h.low⟩
  have he : (List.range n).map (rowV gs caps F') = (List.range n).map (rowV gs caps F) := map_congr' fun k hk => by
    have := e k (List.mem_range.1 hk)
    simp [rowV, this]
  rw [he]
  exact h.own
theorem AccS.base {w : World} {base base' : Nat} {u : Value} {n : Nat} {gs caps : Nat → Nat} {F : Nat → List Int} (h : AccS w base u n gs caps F) (hb : base' ≤ base) : AccS w base' u n gs caps F :=
  ⟨ownsRow_base h.own hb, h.row, h.ne, h.inc, fun k hk => Nat.le_trans hb (h.low k hk)⟩
theorem wf_pl {n : Int} (h0 : 0 ≤ n) (h1 : n ≤ 1000) : WF n := by
  have : n = wrap64 n := by unfold wrap64; omega
  unfold WF
  rw [this]
  exact wrap64_wf _
def notIn (seen : List (Int × Int)) (a b : Int) : Bool := !decide ((a, b) ∈ seen)
theorem two_own (w : World) (x y : Int) (T : TypeId) : OwnAtI (w.alloc (.cells #[.int .i64 x, .int .i64 y] T)) w.heap.size [x, y] := by
  refine ⟨by simp, fun k hk => ?_, fun o => by simp⟩
  rw [World.cell?_alloc_at _ _ _ _ rfl]
  match k, hk with
  | 0, _ => rfl
  | 1, _ => rfl
end Go.Proofs.Ytehdpgjbmnkkiaa

namespace Go.Proofs.Ytehdpgjbmnkkiaa
open Go.RowKit Go.Maps
set_option maxRecDepth 100000 in
set_option maxHeartbeats 1000000 in
theorem turned_any (n k : Nat) (s : Value) (bs : List Blk) (w : World) (h : SB w s bs) (hi : isSysImpl (n : Int) bs = true) (hk : k < n) :
    Calls Try.prog 65 #[.agg #[.int .i64 (n : Int), s], .int .i64 (k : Int)] w (fun e w' => ∃ u, e = .returned (.agg #[.int .i64 (n : Int), u]) ∧ ResR w' w.heap.size w'.heap.size u (turnS n k bs) ∧ Below w.heap.size w w') := by
  have hn15 : n ≤ 15 := by have := (sys_size hi).2.1; omega
  have hs := h.slice
  have HR := Lib.hid fun (t : Value) W (hb : Below w.heap.size w W) (ht : IB W t (turnU n k n)) (hwf : ∀ z ∈ turnU n k n, WF z) => (turnS_ren (k := k) hi) ▸ RenumberSystem_any (n : Int) s bs t (turnU n k n) W (h.below hb (Nat.le_refl _)) ht hwf
  have HWF := Lib.hid (show ∀ z ∈ turnU n k n, WF z from fun z hz => by
    unfold turnU at hz
    obtain ⟨m, hm, rfl⟩ := List.mem_map.1 hz
    have := Nat.mod_lt (m + k) (show 0 < n by omega)
    exact wf_pl (by omega) (by omega))
  have hln := turnS_len n k bs
  have hbl := h.2.1
  clear h hi
  obtain ⟨a0, c0, rfl⟩ := hs
  go_enter Try.func65, Try.ntmps65
  go_wp2_with fail
  obtain ⟨w2, hw2⟩ : ∃ w2, ((w.alloc (.cells #[.int .i64 n, .slice a0 bs.length c0] 31)).alloc (.cells #[.int .i64 0, .slice none 0 0] 31)) = w2 := ⟨_, rfl⟩
  have six : Six w2 w.heap.size n (.slice a0 bs.length c0) := by rw [← hw2]; exact ⟨by simp [go_sem], by simp [go_sem], by simp [go_sem], by simp [go_sem], by simp [go_sem], by simp [go_sem]⟩
  have hz2 : w2.heap.size = w.heap.size + 1 + 1 := by rw [← hw2]; simp
  have hbw2 : Below w.heap.size w w2 := by rw [← hw2]; exact below2 _ _ _ _
  rw [hw2]
  clear hw2
  obtain ⟨q0, q1, _⟩ := id six
  have HSIX := Lib.hid six
  have hlt3 : w.heap.size < w2.heap.size := by omega
  have hlt4 : w.heap.size + 1 < w2.heap.size := by omega
  clear six
  go_loopw [5, 11] (fun o t wr => ∃ m : Nat, m ≤ n ∧ t = .int .i64 m ∧ Below w2.heap.size w2 wr ∧ OwnJ wr w2.heap.size o (turnU n k m)) (fun _ t _ => n - (intOf t).toNat)
  case atStart => exact ⟨0, Nat.zero_le _, rfl, Below.refl _ _, OwnJ.nil _ _⟩
  case round =>
    obtain ⟨m, hm, rfl, hB, hO⟩ := hrel
    have hz := hB.size
    obtain ⟨a3, c3, rfl⟩ := hO.slice
    have HO := Lib.hid hO
    have hl := turnU_len n k m
    rw [hl] at HO ⊢
    have r0 := (hB.cell (p := ⟨w.heap.size, 0, none⟩) hlt3).trans q0
    have r1 := (hB.cell (p := ⟨w.heap.size, 1, none⟩) hlt3).trans q1
    clear hO
    by_cases hmn : m < n
    · have hmod : wrap64 (Int.tmod ((m : Int) + (k : Int)) (n : Int)) = (((m + k) % n : Nat) : Int) := by
        rw [Int.tmod_eq_emod_of_nonneg (by omega)]
        have := Nat.mod_lt (m + k) (show 0 < n by omega)
        rw [show ((m : Int) + (k : Int)) % (n : Int) = (((m + k) % n : Nat) : Int) by simp]
        unfold wrap64; omega
      have HSU := Lib.hid (turnU_succ n k m)
      have hn0 : (n : Int) ≠ 0 := by omega
      go_wp2_with (at_builtin; refine wpList_append_int rfl _ _ rfl w2.heap.size _ (turnU n k m) rfl (HO.out.below ((Below.refl _ _).alloc (Nat.le_refl _) _) (Nat.le_refl _)) _ _ (((m + k) % n : Nat) : Int) rfl (by simp [go_sem]) (by omega) (by simp; omega) ?_; intro g' cap' w4 hO4 hg4; rw [hl] at hO4 ⊢)
      have hrow := HO.out.row
      have hgo := gb_trans (World.grownBy_alloc _ _ none) hg4
      clear hg4
      go_roundw
      case rel => exact ⟨m + 1, by omega, by go_num, hB.grown hgo hz (fun j e => hrow j e), by rw [HSU.out]; exact hO4⟩
      case measure => simp [intOf]; omega
    · have e : m = n := by omega
      subst e
      have hbw3 := hbw2.trans (hB.mono (by omega))
      obtain ⟨_, _, e0, e1, k0, k1⟩ := HSIX.out
      have f0 := (hB.cell (p := ⟨w.heap.size + 1, 0, none⟩) hlt4).trans e0
      have f1 := (hB.cell (p := ⟨w.heap.size + 1, 1, none⟩) hlt4).trans e1
      have f2 := (hB.frozen (p := ⟨w.heap.size + 1, 0, none⟩) hlt4).trans k0
      have f3 := (hB.frozen (p := ⟨w.heap.size + 1, 1, none⟩) hlt4).trans k1
      have HC := Lib.hid (HR.out _ wr hbw3 (HO.out.ib (by omega)) HWF.out)
      have hzr : w.heap.size + 1 < wr.heap.size := by omega
      clear e0 e1 k0 k1
      go_wp2_with fail
      refine HC.out.mono ?_
      rintro e w3 ⟨u, rfl, hres, hb3⟩
      have g0 := (hb3.cell (p := ⟨w.heap.size + 1, 0, none⟩) hzr).trans f0
      have g1 := (hb3.cell (p := ⟨w.heap.size + 1, 1, none⟩) hzr).trans f1
      have g2 := (hb3.frozen (p := ⟨w.heap.size + 1, 0, none⟩) hzr).trans f2
      have g3 := (hb3.frozen (p := ⟨w.heap.size + 1, 1, none⟩) hzr).trans f3
      have hz3 := hb3.size
      have HB3 := Lib.hid (hbw3.trans (hb3.mono (by omega)))
      have HRES := Lib.hid hres
      obtain ⟨a9, c9, hu⟩ := hres.slice
      obtain ⟨n9, hn9⟩ : ∃ n, n = (turnS m k bs).length := ⟨_, rfl⟩
      rw [← hn9] at hu
      subst hu
      clear hres hb3 HC r0 r1 f0 f1 f2 f3 hn9
      have hz9 : w.heap.size + 1 < w3.heap.size := by omega
      have p0 := cell_past (ob := .cells #[.int .i64 (m : Int), .slice a9 n9 c9] 31) g0 hz9
      have p1 := cell_past (ob := .cells #[.int .i64 (m : Int), .slice a9 n9 c9] 31) g1 hz9
      have p2 := (show (w3.alloc (.cells #[.int .i64 (m : Int), .slice a9 n9 c9] 31)).frozen? ⟨w.heap.size + 1, 0, none⟩ = w3.frozen? ⟨w.heap.size + 1, 0, none⟩ from World.frozen?_alloc_past _ _ _ hz9).trans g2
      have p3 := (show (w3.alloc (.cells #[.int .i64 (m : Int), .slice a9 n9 c9] 31)).frozen? ⟨w.heap.size + 1, 1, none⟩ = w3.frozen? ⟨w.heap.size + 1, 1, none⟩ from World.frozen?_alloc_past _ _ _ hz9).trans g3
      go_wp2
      have hg2 := gb_set2 w3 (w.heap.size + 1) (.int .i64 m) (.slice a9 n9 c9)
      refine bodyPost_ret (v := .agg #[.int .i64 m, .slice a9 n9 c9]) (by simp [results, Try.results65, go_sem, *]) rfl ⟨_, rfl, ?_, (below_set2 HB3.out (by omega) _ _).alloc (Nat.le_trans HB3.out.size hg2.size) _⟩
      exact ((HRES.out.kept hg2 (fun r e => by cases e; exact .inl (by omega))).kept (World.grownBy_alloc _ (.cells #[.int .i64 (m : Int), .slice a9 n9 c9] 31) none) (by simp)).wide (lo' := w.heap.size) (by omega) (Nat.le_trans hg2.size (by simp))
end Go.Proofs.Ytehdpgjbmnkkiaa

namespace Go.Proofs.Ytehdpgjbmnkkiaa
open Go.RowKit Go.Maps
theorem ins_start (x : Blk) (l : List Blk) : l ++ [x] = l.take l.length ++ x :: l.drop l.length := by simp
theorem ins_round (l : List Blk) {m : Nat} (hm : m < l.length) (y : Blk) : (l.take (m + 1) ++ y :: l.drop (m + 1)).set (m + 1) (l[m]?.getD default) = l.take m ++ (l[m]?.getD default) :: l.drop m := by
  have h1 : (l.take (m + 1)).length = m + 1 := by simp; omega
  rw [List.set_append_right _ _ (by omega), h1, Nat.sub_self, List.set_cons_zero]
  rw [List.getElem?_eq_getElem hm, Option.getD_some, List.take_succ_eq_append_getElem hm, List.append_assoc]
  congr 1
  rw [List.singleton_append, List.drop_eq_getElem_cons hm]
theorem ins_end (l : List Blk) {m : Nat} (hm : m ≤ l.length) (x y : Blk) : (l.take m ++ y :: l.drop m).set m x = l.take m ++ x :: l.drop m := by
  have h1 : (l.take m).length = m := by simp; omega
  rw [List.set_append_right _ _ (by omega), h1, Nat.sub_self, List.set_cons_zero]
theorem ins_len (l : List Blk) {m : Nat} (hm : m ≤ l.length) (y : Blk) : (l.take m ++ y :: l.drop m).length = l.length + 1 := by
  simp; omega
theorem ins_at (l : List Blk) {m : Nat} (hm : m < l.length) (y : Blk) : (l.take (m + 1) ++ y :: l.drop (m + 1))[m]?.getD default = l[m]?.getD default := by
  rw [List.getElem?_append_left (by simp; omega), List.getElem?_take_of_lt (by omega)]
set_option maxRecDepth 100000 in
set_option maxHeartbeats 1000000 in
theorem l01Sort_any (s : Value) (bs : List Blk) (w : World) (h : SX w s bs) (hl : bs.length ≤ 100000) :
    Calls Try.prog 161 #[s] w fun e w' => ∃ u, e = .returned u ∧ OwnR w' w.heap.size u (sortB bs) ∧ Below w.heap.size w w' := by
  have hs : ∃ a c, s = .slice a bs.length c := by rcases h with ⟨a0, c0, rfl, rfl⟩ | ⟨b, off, cap, rfl, _⟩ <;> exact ⟨_, _, rfl⟩
  have HSX := Lib.hid h
  clear h
  obtain ⟨a0, c0, rfl⟩ := hs
  go_enter Try.func161, Try.ntmps161
  go_wp2
  have ho0 := lit_own w
  obtain ⟨w0, hw0⟩ : ∃ w0, w.alloc (.cells #[] 93) = w0 := ⟨_, rfl⟩
  have hB0 : Below w.heap.size w w0 := by rw [← hw0]; exact (Below.refl _ _).alloc (Nat.le_refl _) _
  have hz0 : w.heap.size < w0.heap.size := by rw [← hw0]; simp
  rw [hw0] at ho0 ⊢
  have HO0 := Lib.hid ho0
  clear hw0 ho0
  go_loopw [3, 4] (fun o i wr => ∃ k : Nat, k ≤ bs.length ∧ i = .int .i64 k ∧ Below w.heap.size w wr ∧ OwnR wr w.heap.size o (sortB (bs.take k)) ∧ ∃ a c, o = .slice a k c) (fun _ i _ => bs.length - (intOf i).toNat)
  case atStart => exact ⟨0, Nat.zero_le _, rfl, hB0, by simpa [sortB] using HO0.out, _, _, rfl⟩
  case round =>
    obtain ⟨k, hk, rfl, hB, hO, a3, c3, rfl⟩ := hrel
    have hz := hB.size
    by_cases hkl : k < bs.length
    · rcases HSX.out with ⟨_, _, _, hnil⟩ | ⟨b, off, cap, hv, hblt, hbl⟩
      · rw [hnil] at hkl; simp at hkl
      · simp at hv
        obtain ⟨rfl, rfl⟩ := hv
        have HBL := Lib.hid hbl
        obtain ⟨x, hx, ex, x1, x2, x3⟩ := blks_at (hbl.below hB hblt) hkl
        obtain ⟨l, hl1⟩ : ∃ l, l = sortB (bs.take k) := ⟨_, rfl⟩
        have hll : l.length = k := by rw [hl1, sortB_length]; simp; omega
        have hnext : sortB (bs.take (k + 1)) = insB x l := by
          rw [List.getElem?_eq_getElem hkl] at ex
          have ex' : bs[k] = x := by simpa using ex
          rw [take_next hkl, ex', sortB_snoc, hl1]
        rw [← hl1] at hO
        have HO := Lib.hid hO
        have HNX := Lib.hid hnext
        have HLL := Lib.hid hll
        have hlen2 : l.length ≤ 100000 := by omega
        have g0 : (0 : Int) ≤ (k : Int) := by omega
        have g1 : (k : Int) < (bs.length : Int) := by omega
        have HEX := Lib.hid ex
        clear hx ex hl1 hO hnext hll hbl
        go_wp2_with (at_builtin; refine wpList_append_blk rfl _ _ rfl w.heap.size _ l rfl (HO.out.below ((Below.refl _ _).alloc (Nat.le_refl _) _) (Nat.le_refl _)) _ _ x rfl (by simp [go_sem]) (by simp [go_sem]) (by simp [go_sem]) (by omega) (by simp; omega) ?_; intro g' cap' w4 hO4 hg4)
        have hB4 : Below w.heap.size w w4 := (hB.alloc (by omega) _).grown hg4 (by simp; omega) (fun r e => HO.out.row r e)
        have HBR := Lib.hid (l01Before_any x)
        have HX := Lib.hid (show bs[k]?.getD default = x by rw [HEX.out]; rfl)
        clear hg4 x1 x2 x3
        go_loopw [5] (fun t wr2 => ∃ m : Nat, m ≤ k ∧ t = .int .i64 m ∧ Below w.heap.size w wr2 ∧ (∃ y, OwnR wr2 w.heap.size (.slice (some ⟨g', 0, none⟩) (l.length + 1) cap') (l.take m ++ y :: l.drop m)) ∧ Hid (posB x l l.length = posB x l m)) (fun t _ => (intOf t).toNat)
        case atStart => exact ⟨k, Nat.le_refl _, rfl, hB4, ⟨x, by have := hO4; rw [ins_start, HLL.out] at this; rw [HLL.out]; exact this⟩, Lib.hid (by rw [HLL.out])⟩
        case round =>
          obtain ⟨m, hm, rfl, hB2, ⟨y, hO2⟩, HP⟩ := hrel
          obtain ⟨hn0, hgb, hat⟩ := hO2.at_
          clear hn0
          have hxx := (HBL.out.below hB2 hblt) k hkl
          rw [HX.out] at hxx
          obtain ⟨x1, x2, x3⟩ := hxx
          have hglt := hat.lt
          have hz2 := hB2.size
          have hblt2 : b < wr.heap.size := by omega
          have hfree := hat.free
          have HO2 := Lib.hid hO2
          rcases m with _ | m
          · rw [show ((0 : Nat) : Int) = 0 from rfl]
            have gl1 : (0 : Int) < ((l.length + 1 : Nat) : Int) := by omega
            have gl2 : (0 : Int) < (l.length : Int) + 1 := by omega
            obtain ⟨c1, c2, c3'⟩ := hat.at_ 0 (by rw [ins_len l (Nat.zero_le _) y]; omega)
            simp only [Nat.zero_mul, Nat.zero_add] at c1 c2 c3'
            have hnew := HO2.out.set3 (i := 0) (by rw [ins_len l (Nat.zero_le _) y]; omega) x
            rw [ins_end l (Nat.zero_le _) x y] at hnew
            have hins : insB x l = l.take 0 ++ x :: l.drop 0 := by unfold insB; rw [HP.out]; rfl
            rw [← hins, ← HNX.out] at hnew
            simp only [Nat.zero_mul, Nat.zero_add] at hnew
            have HN := Lib.hid hnew
            clear hO2 hat hnew hins
            go_wp2
            go_quiet (fail)
            go_wp2
            go_roundw
            case rel => exact ⟨k + 1, by omega, by go_num, (((below_drewN hB2 _).setCell (p := ⟨g', 0, none⟩) hgb _).setCell (p := ⟨g', 1, none⟩) hgb _).setCell (p := ⟨g', 2, none⟩) hgb _, HN.out, _, _, by rw [HLL.out]⟩
            case measure => simp [intOf]; omega
          · have hml : m < l.length := by rw [HLL.out]; omega
            have hm1 : m + 1 ≤ l.length := by omega
            have gl1 : (m : Int) + 1 < ((l.length + 1 : Nat) : Int) := by omega
            have gl2 : (m : Int) + 1 < (l.length : Int) + 1 := by omega
            have gl3 : (m : Int) < ((l.length + 1 : Nat) : Int) := by omega
            have gl4 : (m : Int) < (l.length : Int) + 1 := by omega
            have gl5 : (0 : Int) < (m : Int) + 1 := by omega
            have gl6 : (0 : Int) ≤ (m : Int) := by omega
            have gl7 : (m : Int) ≤ 100000 := by omega
            have hatm := hat.at_ m (by rw [ins_len l hm1 y]; omega)
            rw [ins_at l hml y, Nat.zero_add] at hatm
            obtain ⟨c1, c2, c3'⟩ := hat.at_ (m + 1) (by rw [ins_len l hm1 y]; omega)
            rw [Nat.zero_add] at c1 c2 c3'
            obtain ⟨z, hz⟩ : ∃ z, z = l[m]?.getD default := ⟨_, rfl⟩
            have hpos : posB x l (m + 1) = if befB x (l[m]?.getD default) then posB x l m else m + 1 := rfl
            rw [← hz] at hatm hpos
            have HZ := Lib.hid hz
            have HPP := Lib.hid hpos
            obtain ⟨q1, q2, q3⟩ := hatm
            have hbr := HBR.out z
            clear hO2 hat hpos hz
            have r1 := cell_regrown x1
            have r2 := cell_regrown x2
            have r3 := cell_regrown x3
            have s1 := cell_regrown q1
            have s2 := cell_regrown q2
            have s3 := cell_regrown q3
            have t1 := cell_regrown c1
            have t2 := cell_regrown c2
            have t3 := cell_regrown c3'
            have rf : ∀ d os o, (Sort.grow (redrawn wr d) os).frozen? ⟨g', o, none⟩ = false := fun d os o => ((below_regrown wr d os).frozen (p := ⟨g', o, none⟩) hglt).trans (hfree o)
            obtain ⟨za, zb, zc⟩ := z
            obtain ⟨xa, xb, xc⟩ := x
            unfold bv at hbr
            dsimp only at hbr x1 x2 x3 q1 q2 q3 r1 r2 r3 s1 s2 s3
            cases hbe : befB ⟨xa, xb, xc⟩ ⟨za, zb, zc⟩ with
            | false =>
              rw [hbe] at hbr
              have HC := Lib.hid hbr
              have HBE := Lib.hid hbe
              clear hbr hbe
              go_wp2
              refine wp_region_quiet_below (by kernel_rfl) (by kernel_rfl) ?_
              repeat (go_big_quiet_step (exact Calls.regrown_of (HC.out _)))
              refine wpQuiet_nil ?_
              intro _ hw'
              obtain ⟨⟨dq, osq⟩, hw''⟩ := hw'
              subst hw''
              go_wp2
              have hnew := (HO2.out.below (below_regrown wr dq osq) (Nat.le_refl _)).set3 (i := m + 1) (by rw [ins_len l hm1 y]; omega) ⟨xa, xb, xc⟩
              rw [ins_end l hm1 _ y] at hnew
              have hins : insB ⟨xa, xb, xc⟩ l = l.take (m + 1) ++ ⟨xa, xb, xc⟩ :: l.drop (m + 1) := by unfold insB; rw [HP.out, HPP.out, if_neg (by rw [HBE.out]; decide)]
              rw [← hins, ← HNX.out] at hnew
              have HN := Lib.hid hnew
              clear hnew hins
              go_roundw
              case rel => exact ⟨k + 1, by omega, by go_num, (((hB2.trans ((below_regrown wr dq osq).mono hz2)).setCell (p := ⟨g', (m + 1) * 3, none⟩) hgb _).setCell (p := ⟨g', (m + 1) * 3 + 1, none⟩) hgb _).setCell (p := ⟨g', (m + 1) * 3 + 2, none⟩) hgb _, HN.out, _, _, by rw [HLL.out]⟩
              case measure => simp [intOf]; omega
            | true =>
              rw [hbe] at hbr
              have HC := Lib.hid hbr
              have HBE := Lib.hid hbe
              clear hbr hbe
              go_wp2
              refine wp_region_quiet_below (by kernel_rfl) (by kernel_rfl) ?_
              repeat (go_big_quiet_step (exact Calls.regrown_of (HC.out _)))
              refine wpQuiet_nil ?_
              intro _ hw'
              obtain ⟨⟨dq, osq⟩, hw''⟩ := hw'
              subst hw''
              go_wp2
              have hnew := (HO2.out.below (below_regrown wr dq osq) (Nat.le_refl _)).set3 (i := m + 1) (by rw [ins_len l hm1 y]; omega) ⟨za, zb, zc⟩
              have hro := ins_round l hml y
              rw [← HZ.out] at hro
              rw [hro] at hnew
              have HN := Lib.hid hnew
              clear hnew hro
              go_roundw
              case rel => exact ⟨m, by omega, rfl, (((hB2.trans ((below_regrown wr dq osq).mono hz2)).setCell (p := ⟨g', (m + 1) * 3, none⟩) hgb _).setCell (p := ⟨g', (m + 1) * 3 + 1, none⟩) hgb _).setCell (p := ⟨g', (m + 1) * 3 + 2, none⟩) hgb _, ⟨⟨za, zb, zc⟩, HN.out⟩, Lib.hid (by rw [HP.out, HPP.out, if_pos HBE.out])⟩
              case measure => simp [intOf]
    · go_wp2
      go_ret
      have e : k = bs.length := by omega
      subst e
      rw [List.take_length] at hO
      exact ⟨_, rfl, hO, hB⟩
set_option maxRecDepth 100000 in
theorem l01Made_any (v : Int) (s : Value) (bs : List Blk) (w : World) (h : SX w s bs) (hl : bs.length ≤ 100000) :
    Calls Try.prog 140 #[.int .i64 v, s] w fun e w' => ∃ u, e = .returned (.agg #[.int .i64 v, u]) ∧ ResR w' w.heap.size w'.heap.size u (sortB bs) ∧ Below w.heap.size w w' := by
  have hs : ∃ a c, s = .slice a bs.length c := by rcases h with ⟨a0, c0, rfl, rfl⟩ | ⟨b, off, cap, rfl, _⟩ <;> exact ⟨_, _, rfl⟩
  have HS := Lib.hid (l01Sort_any s bs (w.alloc (.cells #[.int .i64 0, .slice none 0 0] 31)) (h.below ((Below.refl _ _).alloc (Nat.le_refl _) _) (Nat.le_refl _)) hl)
  clear h
  obtain ⟨a0, c0, rfl⟩ := hs
  go_enter Try.func140, Try.ntmps140
  go_wp2_with fail
  refine HS.out.mono ?_
  rintro e w1 ⟨u, rfl, ho, hb1⟩
  have hlt : w.heap.size < w1.heap.size := by have := hb1.size; simp at this; omega
  have hbw : Below w.heap.size w w1 := ((Below.refl _ _).alloc (Nat.le_refl _) _).trans (hb1.mono (by simp))
  have d0 := cell_new hb1 0 rfl
  have d1 := cell_new hb1 1 rfl
  have f0 : w1.frozen? ⟨w.heap.size, 0, none⟩ = false := (hb1.frozen (p := ⟨w.heap.size, 0, none⟩) (by simp)).trans (by simp [go_sem])
  have f1 : w1.frozen? ⟨w.heap.size, 1, none⟩ = false := (hb1.frozen (p := ⟨w.heap.size, 1, none⟩) (by simp)).trans (by simp [go_sem])
  have hr := ho.res
  have hbase : (w.alloc (.cells #[.int .i64 0, .slice none 0 0] 31)).heap.size = w.heap.size + 1 := by simp
  rw [hbase] at hr
  obtain ⟨a3, n3, hs3⟩ := hr.slice
  obtain ⟨m3, hm3⟩ : ∃ m, m = (sortB bs).length := ⟨_, rfl⟩
  rw [← hm3] at hs3
  clear hm3 ho hb1 hbase
  subst hs3
  go_wp2
  exact bodyPost_ret (v := .agg #[.int .i64 v, .slice a3 m3 n3]) (by simp [results, Try.results140, go_sem, *]) rfl ⟨_, rfl, (hr.kept (gb_set2 w1 w.heap.size (.int .i64 v) (.slice a3 m3 n3)) (fun r e => by cases e; exact .inl (by omega))).wide (by omega) (by simp [World.setCell]), below_set2 hbw (by omega) _ _⟩
end Go.Proofs.Ytehdpgjbmnkkiaa

namespace Go.Proofs.Ytehdpgjbmnkkiaa
open Go.RowKit Go.Maps
set_option maxRecDepth 100000 in
theorem l01Block_any (a b c : Int) (w : World) (a0 : 0 ≤ a) (a1 : a ≤ 1000) (b0 : 0 ≤ b) (b1 : b ≤ 1000) (c0 : 0 ≤ c) (c1 : c ≤ 1000) : Calls Try.prog 139 #[.int .i64 a, .int .i64 b, .int .i64 c] w (RV (bv (blk3 a b c)) w) := by
  go_enter Try.func139, Try.ntmps139
  go_wp2
  all_goals
    refine bodyPost_ret (v := bv (blk3 a b c)) ?_ rfl ⟨rfl, (Below.refl _ _).alloc (Nat.le_refl _) _⟩
    simp [results, Try.results139, go_sem, bv, blk3]
    omega
end Go.Proofs.Ytehdpgjbmnkkiaa

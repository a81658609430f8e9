
/- impl.TakeBlock answers as the plain function takeF. -/
import Derived.Test.YtlchcnngikgjjaaCommon
import Derived.Test.YtlchcnngikgjjaaMarkSys
import Derived.Test.YtlchcnngikgjjaaEqBlk
import Derived.Test.YtlchcnngikgjjaaTakeP
namespace Go.Proofs.Ytlchcnngikgjjaa
open Go.RowKit Go.Maps
/-- Two results: a system in new memory, and a code. -/
def RSys (r : Int × List Blk × Int) (w : World) (e : Ending) (w' : World) : Prop := ∃ s, e = .returned (.tuple #[.agg #[.int .i64 r.1, s], .int .i64 r.2.2]) ∧ ResR w' w.heap.size w'.heap.size s r.2.1 ∧ Below w.heap.size w w'
theorem boxes2 {w w1 : World} {v : Int} {s : Value} {T : TypeId} (hb : Below ((w.alloc (.cells #[.int .i64 v, s] T)).alloc (.cells #[.int .i64 0, .slice none 0 0] T)).heap.size ((w.alloc (.cells #[.int .i64 v, s] T)).alloc (.cells #[.int .i64 0, .slice none 0 0] T)) w1) :
    w1.cell? ⟨w.heap.size, 0, none⟩ = some (.int .i64 v) ∧ w1.cell? ⟨w.heap.size, 1, none⟩ = some s ∧ w1.cell? ⟨w.heap.size + 1, 0, none⟩ = some (.int .i64 0) ∧ w1.cell? ⟨w.heap.size + 1, 1, none⟩ = some (.slice none 0 0) ∧
    w1.frozen? ⟨w.heap.size + 1, 0, none⟩ = false ∧ w1.frozen? ⟨w.heap.size + 1, 1, none⟩ = false ∧ Below w.heap.size w w1 ∧ w.heap.size + 1 < w1.heap.size := by
  have hz := hb.size
  simp at hz
  refine ⟨?_, ?_, ?_, ?_, ?_, ?_, (((Below.refl _ _).alloc (Nat.le_refl _) _).alloc (by simp) _).trans (hb.mono (by simp; omega)), by omega⟩
  · exact (hb.cell (p := ⟨w.heap.size, 0, none⟩) (by simp; omega)).trans (by simp [go_sem])
  · exact (hb.cell (p := ⟨w.heap.size, 1, none⟩) (by simp; omega)).trans (by simp [go_sem])
  · exact (hb.cell (p := ⟨w.heap.size + 1, 0, none⟩) (by simp)).trans (by simp [go_sem])
  · exact (hb.cell (p := ⟨w.heap.size + 1, 1, none⟩) (by simp)).trans (by simp [go_sem])
  · exact (hb.frozen (p := ⟨w.heap.size + 1, 0, none⟩) (by simp)).trans (by simp [go_sem])
  · exact (hb.frozen (p := ⟨w.heap.size + 1, 1, none⟩) (by simp)).trans (by simp [go_sem])
theorem below2 (w : World) (v : Int) (s : Value) (T : TypeId) : Below w.heap.size w ((w.alloc (.cells #[.int .i64 v, s] T)).alloc (.cells #[.int .i64 0, .slice none 0 0] T)) := ((Below.refl _ _).alloc (Nat.le_refl _) _).alloc (by simp) _
theorem below_set2 {B : Nat} {a w : World} (h : Below B a w) {b : Nat} (hb : B ≤ b) (u v : Value) : Below B a ((w.setCell ⟨b, 0, none⟩ u).setCell ⟨b, 1, none⟩ v) := (h.setCell (p := ⟨b, 0, none⟩) hb u).setCell (p := ⟨b, 1, none⟩) hb v
theorem gb_set2 (w : World) (b : Nat) (u v : Value) : w.grownBy ((w.setCell ⟨b, 0, none⟩ u).setCell ⟨b, 1, none⟩ v) (some b) := only_setCell (only_setCell (only_refl w (some b)) rfl u) rfl v
set_option maxRecDepth 100000 in
theorem TakeBlock_any (v : Int) (s : Value) (bs : List Blk) (i : Int) (w : World) (h : SB w s bs) :
    Calls Try.prog 56 #[.agg #[.int .i64 v, s], .int .i64 i] w (RSys (takeF v bs i) w) := by
  have hs := h.slice
  have HI := Lib.hid fun W (hb : Below w.heap.size w W) => IsSystem_any v s bs W (h.below hb (Nat.le_refl _))
  have HSB := Lib.hid h
  have hlen := h.2.1
  clear h
  obtain ⟨a0, c0, rfl⟩ := hs
  cases hi : isSysImpl v bs with
  | false =>
    have hval : takeF v bs i = (0, [], 1) := by simp [takeF, hi]
    rw [hval]
    rw [hi] at HI
    clear hval hi HSB
    go_enter Try.func56, Try.ntmps56
    go_wp2_with (go_at_call 99; refine (HI.out _ (below2 _ _ _ _)).mono ?_; rintro e w1 ⟨rfl, hb1⟩; obtain ⟨_, _, d0, d1, f0, f1, hbw, hlt⟩ := boxes2 hb1)
    exact bodyPost_ret (v := .tuple #[.agg #[.int .i64 0, .slice none 0 0], .int .i64 1]) (by simp [results, Try.results56, go_sem, *]) rfl ⟨_, rfl, .inl ⟨rfl, _, _, rfl⟩, below_set2 hbw (by omega) _ _⟩
  | true =>
    by_cases hr : 0 ≤ i ∧ i < (bs.length : Int)
    · have hval : takeF v bs i = (v, bs.take i.toNat ++ bs.drop (i.toNat + 1), 0) := by simp [takeF, hi, hr]
      rw [hval]
      obtain ⟨j, rfl⟩ : ∃ j : Nat, i = (j : Int) := ⟨i.toNat, by omega⟩
      have hj : j < bs.length := by omega
      have hfo := filter_other (strict_nodup (sys_strict hi)) hj
      rw [Int.toNat_natCast]
      rw [← hfo]
      rw [hi] at HI
      have g0 : (0 : Int) ≤ (j : Int) := by omega
      have g1 : (j : Int) < (bs.length : Int) := by omega
      have gd : decide ((j : Int) < 0) = false := by simp
      have gd2 : decide (bs.length ≤ j) = false := by simp; omega
      clear hval hi hr hfo
      go_enter Try.func56, Try.ntmps56
      go_wp2_with fail
      refine (HI.out _ (below2 _ _ _ _)).mono ?_
      rintro e w1 ⟨rfl, hb1⟩
      obtain ⟨p0, p1, d0, d1, f0, f1, hbw, hlt⟩ := boxes2 hb1
      have hsb := HSB.out.below hbw (Nat.le_refl _)
      have HSB1 := Lib.hid hsb
      clear hb1 hsb
      go_wp2_with fail
      go_loopw [6, 26] (fun o t wr => ∃ k : Nat, k ≤ bs.length ∧ t = .int .i64 k ∧ Below w1.heap.size w1 wr ∧ OwnR wr w1.heap.size o ((bs.take k).filter fun x => !decide (x = bs[j])) ∧ ∃ a n c, o = .slice a n c) (fun _ t _ => bs.length - (intOf t).toNat)
      case atStart => exact ⟨0, Nat.zero_le _, rfl, Below.refl _ _, OwnR.nil _ _, _, _, _, rfl⟩
      case round =>
        obtain ⟨k, hk, rfl, hB, hO, hform⟩ := hrel
        have hz := hB.size
        have hz1 : w.heap.size < wr.heap.size := by omega
        have hz2 : w.heap.size + 1 < wr.heap.size := by omega
        have r0 := (hB.cell (p := ⟨w.heap.size, 0, none⟩) (by show w.heap.size < _; omega)).trans p0
        have r1 := (hB.cell (p := ⟨w.heap.size, 1, none⟩) (by show w.heap.size < _; omega)).trans p1
        have e0 := (hB.cell (p := ⟨w.heap.size + 1, 0, none⟩) (by show w.heap.size + 1 < _; omega)).trans d0
        have e1 := (hB.cell (p := ⟨w.heap.size + 1, 1, none⟩) (by show w.heap.size + 1 < _; omega)).trans d1
        have k0 := (hB.frozen (p := ⟨w.heap.size + 1, 0, none⟩) (by show w.heap.size + 1 < _; omega)).trans f0
        have k1 := (hB.frozen (p := ⟨w.heap.size + 1, 1, none⟩) (by show w.heap.size + 1 < _; omega)).trans f1
        obtain ⟨a3, n3, c3, rfl⟩ := hform
        have HO := Lib.hid hO
        clear hO
        by_cases hkl : k < bs.length
        · rcases HSB1.out.2.2 with ⟨_, _, _, hnil⟩ | ⟨b, off, cap, hv, hblt, hbl⟩
          · rw [hnil] at hkl; simp at hkl
          · simp at hv
            obtain ⟨rfl, rfl⟩ := hv
            have hz3 : b < wr.heap.size := by omega
            obtain ⟨x, hx, ex, x1, x2, x3⟩ := blks_at (hbl.below hB hblt) hkl
            obtain ⟨y, hy, ey, y1, y2, y3⟩ := blks_at (hbl.below hB hblt) hj
            have ejy : bs[j] = y := by rw [List.getElem?_eq_getElem hj] at ey; simpa using ey
            have hnx := filter_take_next (p := fun x => !decide (x = bs[j])) hkl ex
            have hq := run_neq_blk x y
            have hfl : ((bs.take k).filter fun x => !decide (x = bs[j])).length ≤ bs.length := Nat.le_trans (List.length_filter_le _ _) (by simp; omega)
            rw [ejy] at hnx hfl
            rw [ejy] at HO ⊢
            have EJ := Lib.hid ejy
            clear ejy hx hy ex ey hbl
            obtain ⟨xa, xb, xc⟩ := x
            obtain ⟨ya, yb, yc⟩ := y
            unfold bv at hq
            dsimp only at hq x1 x2 x3 y1 y2 y3 hnx
            have HNX := Lib.hid hnx
            clear hnx
            cases hd : decide ((⟨xa, xb, xc⟩ : Blk) = ⟨ya, yb, yc⟩) with
            | true =>
              rw [hd] at HNX hq
              have HN2 := Lib.hid (show (bs.take (k + 1)).filter (fun x => !decide (x = ⟨ya, yb, yc⟩)) = (bs.take k).filter (fun x => !decide (x = ⟨ya, yb, yc⟩)) by rw [HNX.out]; simp)
              simp only [Bool.not_true] at hq
              clear hd HNX
              go_wp2
              go_quiet (fail)
              go_wp2
              go_roundw
              case rel => exact ⟨k + 1, by omega, by go_num, below_drewN (hB.alloc (by omega) _) _, by rw [HN2.out]; exact HO.out.below (below_drewN ((Below.refl _ _).alloc (Nat.le_refl _) _) _) (Nat.le_refl _), _, _, _, rfl⟩
              case measure => simp [intOf]; omega
            | false =>
              rw [hd] at HNX hq
              have HN2 := Lib.hid (show (bs.take (k + 1)).filter (fun x => !decide (x = ⟨ya, yb, yc⟩)) = (bs.take k).filter (fun x => !decide (x = ⟨ya, yb, yc⟩)) ++ [⟨xa, xb, xc⟩] by rw [HNX.out]; simp)
              simp only [Bool.not_false] at hq
              clear hd HNX
              go_wp2
              go_quiet (fail)
              go_wp2_with (at_builtin; refine wpList_append_blk rfl _ _ rfl w1.heap.size _ ((bs.take k).filter fun x => !decide (x = ⟨ya, yb, yc⟩)) rfl ((HO.out.below (below_drewN ((Below.refl _ _).alloc (Nat.le_refl _) _) _) (Nat.le_refl _)).below ((Below.refl _ _).alloc (Nat.le_refl _) _) (Nat.le_refl _)) _ _ ⟨xa, xb, xc⟩ rfl (by simp [go_sem]) (by simp [go_sem]) (by simp [go_sem]) (by omega) (by simp; omega) ?_; intro g' cap' w4 hO4 hg4)
              have hrow := HO.out.row
              have hgo : wr.grownBy w4 (Value.slice a3 n3 c3).ownBlock := gb_trans (gb_below (below_drewN ((Below.refl _ _).alloc (Nat.le_refl _) _) _)) (gb_trans (World.grownBy_alloc _ _ none) hg4)
              clear hg4
              go_roundw
              case rel => exact ⟨k + 1, by omega, by go_num, hB.grown hgo hB.size (fun j e => hrow j e), by rw [HN2.out]; exact hO4, _, _, _, rfl⟩
              case measure => simp [intOf]; omega
        · have e : k = bs.length := by omega
          subst e
          rw [List.take_length] at HO
          go_wp2
          have hres := HO.out.res
          exact bodyPost_ret (v := .tuple #[.agg #[.int .i64 v, .slice a3 n3 c3], .int .i64 0]) (by simp [results, Try.results56, go_sem, *]) rfl ⟨_, rfl, (hres.kept (gb_set2 wr (w.heap.size + 1) (.int .i64 v) (.slice a3 n3 c3)) (fun r e => by cases e; exact .inl (by omega))).wide (by omega) (by simp [World.setCell]), below_set2 (hbw.trans (hB.mono (by omega))) (by omega) _ _⟩
    · have hval : takeF v bs i = (0, [], 2) := by
        simp only [takeF, hi, if_true]
        rw [if_neg (by simpa using hr)]
      rw [hval]
      rw [hi] at HI
      clear hval hi HSB
      have hd : (decide (i < 0) || decide ((bs.length : Int) ≤ i)) = true := by simp; omega
      by_cases h0 : i < 0
      · clear hr hd
        go_enter Try.func56, Try.ntmps56
        go_wp2_with (go_at_call 99; refine (HI.out _ (below2 _ _ _ _)).mono ?_; rintro e w1 ⟨rfl, hb1⟩; obtain ⟨p0, p1, d0, d1, f0, f1, hbw, hlt⟩ := boxes2 hb1)
        exact bodyPost_ret (v := .tuple #[.agg #[.int .i64 0, .slice none 0 0], .int .i64 2]) (by simp [results, Try.results56, go_sem, *]) rfl ⟨_, rfl, .inl ⟨rfl, _, _, rfl⟩, below_set2 hbw (by omega) _ _⟩
      · have h1 : (bs.length : Int) ≤ i := by omega
        have h0' : 0 ≤ i := by omega
        clear hr hd h0
        go_enter Try.func56, Try.ntmps56
        go_wp2_with (go_at_call 99; refine (HI.out _ (below2 _ _ _ _)).mono ?_; rintro e w1 ⟨rfl, hb1⟩; obtain ⟨p0, p1, d0, d1, f0, f1, hbw, hlt⟩ := boxes2 hb1)
        exact bodyPost_ret (v := .tuple #[.agg #[.int .i64 0, .slice none 0 0], .int .i64 2]) (by simp [results, Try.results56, go_sem, *]) rfl ⟨_, rfl, .inl ⟨rfl, _, _, rfl⟩, below_set2 hbw (by omega) _ _⟩
end Go.Proofs.Ytlchcnngikgjjaa

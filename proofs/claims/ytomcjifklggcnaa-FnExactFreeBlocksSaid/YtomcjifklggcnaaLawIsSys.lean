/- The law FnExactIsSystem returns true. -/
import Derived.Test.YtomcjifklggcnaaLawB
import Derived.Deep.RegionWith
namespace Go.Proofs.Ytomcjifklggcnaa
open Go.RowKit Go.Maps
/-- What is known of a slice of blocks that came in. -/
def InB (w : World) (s : Value) (bs : List Blk) : Prop :=
  (∀ x ∈ bs, WFB x) ∧ bs.length ≤ 9223372036854775807 ∧ ((∃ a c, s = .slice a 0 c ∧ bs = []) ∨ ∃ b off cap, s = .slice (some ⟨b, off, none⟩) bs.length cap ∧ b < w.heap.size ∧ Blks w b off bs)
theorem InB.slice {w : World} {s : Value} {bs : List Blk} (h : InB w s bs) : ∃ a c, s = .slice a bs.length c := by
  rcases h.2.2 with ⟨a0, c0, rfl, rfl⟩ | ⟨b, off, cap, rfl, _⟩ <;> exact ⟨_, _, rfl⟩
theorem InB.sb {w : World} {s : Value} {bs : List Blk} (h : InB w s bs) (hl : bs.length ≤ 1048576) : SB w s bs := ⟨h.1, by omega, h.2.2⟩

set_option maxRecDepth 100000 in
theorem FnExactIsSystem_long (v : Int) (s : Value) (bs : List Blk) (w : World) (h : InB w s bs) (hl : ¬ bs.length ≤ 1048576) : Calls Try.prog 3 #[.agg #[.int .i64 v, s]] w (RV (.bool true) w) := by
  have hsl := h.slice
  have hbd := h.2.1
  have hsz := szSystem_any v s bs.length hsl (by omega) 1048576 (by omega) (by omega)
  rw [if_pos (by omega)] at hsz
  have HSZ := Lib.hid hsz
  clear hsz h
  obtain ⟨a, c, rfl⟩ := hsl
  go_enter Try.func3, Try.ntmps3
  go_wp2_with (go_at_call 17; refine (HSZ.out _).mono ?_; rintro e w1 ⟨rfl, hb1⟩)
  go_ret
  exact RV_of rfl (((Below.refl _ _).alloc (Nat.le_refl _) _).trans (hb1.mono (by simp)))

set_option maxRecDepth 100000 in
set_option maxHeartbeats 1000000 in
theorem FnExactIsSystem_main (v : Int) (s : Value) (bs : List Blk) (w : World) (h : InB w s bs) (hl : bs.length ≤ 1048576) : Calls Try.prog 3 #[.agg #[.int .i64 v, s]] w (RV (.bool true) w) := by
  have hsl := h.slice
  have hbd := h.2.1
  have hsz := szSystem_any v s bs.length hsl (by omega) 1048576 (by omega) (by omega)
  · have hsb := h.sb hl
    rw [if_neg (by omega)] at hsz
    obtain ⟨m, hm⟩ : ∃ m, m = (1048576 : Int) - (bs.length : Int) := ⟨_, rfl⟩
    rw [← hm] at hsz
    have hm0 : 0 ≤ m := by omega
    have HSZ := Lib.hid hsz
    have HSB := Lib.hid hsb
    have hwf := h.1
    have HWF := Lib.hid hwf
    have HBD := Lib.hid (show bs.length ≤ 1100000 by omega)
    clear hsz hsb hm h hl hbd hwf
    obtain ⟨a, c, rfl⟩ := hsl
    go_enter Try.func3, Try.ntmps3
    go_wp2_with fail
    refine (HSZ.out _).mono ?_
    rintro e w1 ⟨rfl, hb1⟩
    have p0 := cell_new hb1 0 rfl
    have p1 := cell_new hb1 1 rfl
    have hz1 := hb1.size
    simp at hz1
    have hbw : Below w.heap.size w w1 := ((Below.refl _ _).alloc (Nat.le_refl _) _).trans (hb1.mono (by simp))
    clear hb1
    go_wp2_with fail
    refine (toSystem_any v _ bs _ (HSB.out.below hbw (Nat.le_refl _))).mono ?_
    rintro e w2 ⟨s2, rfl, ho2, hb2⟩
    have hsb2 := ho2.sb HWF.out HBD.out
    go_wp2_with fail
    refine (specIsSystem_any v _ bs _ hsb2).mono ?_
    rintro e w3 ⟨rfl, hb3⟩
    have hb13 := hb2.trans (hb3.mono hb2.size)
    have p0' := (hb13.cell (p := ⟨w.heap.size, 0, none⟩) (by show w.heap.size < _; omega)).trans p0
    have p1' := (hb13.cell (p := ⟨w.heap.size, 1, none⟩) (by show w.heap.size < _; omega)).trans p1
    have hz3 := hb13.size
    have hbw3 := hbw.trans (hb13.mono (by omega))
    clear p0 p1 hb2 hb3 hb13 ho2 hsb2 hbw
    go_wp2_with fail
    refine (toSystem_any v _ bs _ (HSB.out.below hbw3 (Nat.le_refl _))).mono ?_
    rintro e w4 ⟨s4, rfl, ho4, hb4⟩
    obtain ⟨g, cap, hs4, h41, h42, h43, h44⟩ := id ho4
    subst hs4
    have p0 := (hb4.cell (p := ⟨w.heap.size, 0, none⟩) (by show w.heap.size < _; omega)).trans p0'
    have p1 := (hb4.cell (p := ⟨w.heap.size, 1, none⟩) (by show w.heap.size < _; omega)).trans p1'
    have hz4 := hb4.size
    have hbw4 := hbw3.trans (hb4.mono (by omega))
    have hsb4 := ho4.sb HWF.out HBD.out
    clear p0' p1' hb4 hbw3 h41 h43 h44 ho4
    go_wp2_with fail
    refine (IsSystem_any v _ bs _ (hsb4.below ((Below.refl _ _).alloc (Nat.le_refl _) _) (Nat.le_refl _))).mono ?_
    rintro e w5 ⟨rfl, hb5⟩
    have q0 := cell_new hb5 0 rfl
    have q1 := cell_new hb5 1 rfl
    have p0' := (hb5.cell (p := ⟨w.heap.size, 0, none⟩) (by simp; omega)).trans (cell_past p0 (by omega))
    have p1' := (hb5.cell (p := ⟨w.heap.size, 1, none⟩) (by simp; omega)).trans (cell_past p1 (by omega))
    have hz5 := hb5.size
    simp at hz5
    have hbw5 := (hbw4.alloc hbw4.size _).trans (hb5.mono (by simp; omega))
    have hsb5 := hsb4.below (((Below.refl _ _).alloc (Nat.le_refl _) _).trans (hb5.mono (by simp))) (Nat.le_refl _)
    clear p0 p1 hb5 hbw4 hsb4
    obtain ⟨β, hβ⟩ : ∃ β, β = isSysImpl v bs := ⟨_, rfl⟩
    rw [← hβ]
    have hne : (β != β) = false := by simp
    clear hβ
    go_wp2
    go_region_with (first | (go_at_call 19; refine (toSystem_any v _ bs _ ?_).mono ?_; (exact HSB.out.below hbw5.drew (Nat.le_refl _)); rintro e w6 ⟨s6, rfl, ho6, hb6⟩; obtain ⟨g6, cap6, hs6, h61, h62, h63, h64⟩ := id ho6; subst hs6; have hsb6 := ho6.sb HWF.out HBD.out; have hsb56 := hsb5.below (Below.trans (Below.refl _ _).drew hb6) (Nat.le_refl _); have r0 := (hb6.cell (p := ⟨w4.heap.size, 0, none⟩) (by show w4.heap.size < _; simp; omega)).trans q0; have r1 := (hb6.cell (p := ⟨w4.heap.size, 1, none⟩) (by show w4.heap.size < _; simp; omega)).trans q1) | (go_at_call 21; refine (eqSystem_same v _ _ bs _ ?_ ?_).mono ?_; (exact hsb56); (exact hsb6); rintro e w7 ⟨rfl, hb7⟩))
    all_goals go_wp2
    all_goals go_ret
    all_goals exact RV_of rfl (hbw5.drew.trans ((hb6.mono (by simp; omega)).trans (hb7.mono (by have := hb6.size; simp at this; omega))))

theorem FnExactIsSystem_any (v : Int) (s : Value) (bs : List Blk) (w : World) (h : InB w s bs) : Calls Try.prog 3 #[.agg #[.int .i64 v, s]] w (RV (.bool true) w) := by
  by_cases hl : bs.length ≤ 1048576
  · exact FnExactIsSystem_main v s bs w h hl
  · exact FnExactIsSystem_long v s bs w h hl
end Go.Proofs.Ytomcjifklggcnaa


/- What a law over one system whose result is a system knows of the memory between two of its steps. The law FnExactPutBlock returns true. The dump's head word by word, cheaply: what every row asks of it. -/
import Derived.Test.YtikegdidffjoeaaJ8
import Derived.Deep.RegionWith
import Derived.Deep.DeepCutAuto
namespace Go.Proofs.Ytikegdidffjoeaa
open Go.RowKit Go.Maps
structure CS (w : World) (v p : Int) (s sW s8 sG : Value) (XW X XG i0 i1 j1 j2 k1 k2 : Nat) (LW L8 LG : List Blk) (W : World) : Prop where
  st : St1 w v s W
  o0 : w.heap.size < i0
  o1 : i0 ≤ i1
  o2 : i1 ≤ XW
  o3 : XW < j1
  o4 : j1 ≤ j2
  o5 : j2 ≤ X
  o6 : X < k1
  o7 : k1 ≤ k2
  o8 : k2 ≤ XG
  rW : ResR W i0 i1 sW LW
  vW : VarB W XW p sW
  r8 : ResR W j1 j2 s8 L8
  vX : VarB W X v s8
  rG : ResR W k1 k2 sG LG
  vG : VarB W XG p sG
section
variable {w : World} {v p : Int} {s sW s8 sG : Value} {XW X XG i0 i1 j1 j2 k1 k2 : Nat} {LW L8 LG : List Blk} {W W' : World}
theorem CS.step (h : CS w v p s sW s8 sG XW X XG i0 i1 j1 j2 k1 k2 LW L8 LG W) (hg : W.grownBy W' none) : CS w v p s sW s8 sG XW X XG i0 i1 j1 j2 k1 k2 LW L8 LG W' :=
  ⟨h.st.step hg (by simp), h.o0, h.o1, h.o2, h.o3, h.o4, h.o5, h.o6, h.o7, h.o8, h.rW.kept hg (by simp), h.vW.step hg (by simp), h.r8.kept hg (by simp), h.vX.step hg (by simp), h.rG.kept hg (by simp), h.vG.step hg (by simp)⟩
theorem CS.mark8 (h : CS w v p s sW s8 sG XW X XG i0 i1 j1 j2 k1 k2 LW L8 LG W) {row : Option Nat} (hg : W.grownBy W' row) (hr : ∀ r, row = some r → j1 ≤ r ∧ r < j2) {L : List Blk} (hn : ResR W' j1 j2 s8 L) :
    CS w v p s sW s8 sG XW X XG i0 i1 j1 j2 k1 k2 LW L LG W' := by
  obtain ⟨st, o0, o1, o2, o3, o4, o5, o6, o7, o8, rW, vW, r8, vX, rG, vG⟩ := h
  exact ⟨st.step hg (fun r e => by have := hr r e; omega), o0, o1, o2, o3, o4, o5, o6, o7, o8, rW.kept hg (fun r e => by have := hr r e; omega), vW.step hg (fun e => by have := hr _ e; omega), hn, vX.step hg (fun e => by have := hr _ e; omega), rG.kept hg (fun r e => by have := hr r e; omega), vG.step hg (fun e => by have := hr _ e; omega)⟩
theorem CS.markG (h : CS w v p s sW s8 sG XW X XG i0 i1 j1 j2 k1 k2 LW L8 LG W) {row : Option Nat} (hg : W.grownBy W' row) (hr : ∀ r, row = some r → k1 ≤ r ∧ r < k2) {L : List Blk} (hn : ResR W' k1 k2 sG L) :
    CS w v p s sW s8 sG XW X XG i0 i1 j1 j2 k1 k2 LW L8 L W' := by
  obtain ⟨st, o0, o1, o2, o3, o4, o5, o6, o7, o8, rW, vW, r8, vX, rG, vG⟩ := h
  exact ⟨st.step hg (fun r e => by have := hr r e; omega), o0, o1, o2, o3, o4, o5, o6, o7, o8, rW.kept hg (fun r e => by have := hr r e; omega), vW.step hg (fun e => by have := hr _ e; omega), r8.kept hg (fun r e => by have := hr r e; omega), vX.step hg (fun e => by have := hr _ e; omega), hn, vG.step hg (fun e => by have := hr _ e; omega)⟩
end
end Go.Proofs.Ytikegdidffjoeaa

namespace Go.Proofs.Ytikegdidffjoeaa
open Go.RowKit Go.Maps
set_option maxRecDepth 100000 in
set_option maxHeartbeats 2000000 in
theorem FnExactPutBlock_main (v0 : Int) (s0 : Value) (bs0 : List Blk) (x1 : Blk) (w : World) (h0 : InB w s0 bs0) (h1 : WFB x1) (hl : bs0.length ≤ 1048576) :
    Calls Try.prog 6 #[.agg #[.int .i64 v0, s0], bv x1] w (RV (.bool true) w) := by
  have hsl0 := h0.slice
  have hbd0 := h0.2.1
  have hsz0 := szSystem_any v0 s0 bs0.length hsl0 (by omega) 1048576 (by omega) (by omega)
  rw [if_neg (by omega)] at hsz0
  obtain ⟨m0, hm0⟩ : ∃ m, m = (1048576 : Int) - (bs0.length : Int) := ⟨_, rfl⟩
  rw [← hm0] at hsz0
  have hmp0 : 0 ≤ m0 := by omega
  have HSZ0 := Lib.hid hsz0
  have HSB0 := Lib.hid (h0.sb (by omega))
  have HWF0 := Lib.hid h0.1
  have HBD0 := Lib.hid (show bs0.length ≤ 1100000 by omega)
  have HWF1 := Lib.hid h1
  obtain ⟨p, hpp⟩ : ∃ p, p = (putF v0 bs0 x1).1 := ⟨_, rfl⟩
  obtain ⟨L, hL⟩ : ∃ L, L = (putF v0 bs0 x1).2.1 := ⟨_, rfl⟩
  obtain ⟨κ, hκ⟩ : ∃ κ, κ = (putF v0 bs0 x1).2.2 := ⟨_, rfl⟩
  have hp : putF v0 bs0 x1 = (p, L, κ) := by rw [hpp, hL, hκ]
  have LBD := Lib.hid (show L.length ≤ 1100000 by rw [hL]; exact Nat.le_trans (putF_len v0 bs0 x1) (by have := HBD0.out; omega))
  have LWF := Lib.hid (show ∀ x ∈ L, WFB x by rw [hL]; exact putF_wf v0 bs0 x1)
  have HSP := Lib.hid fun (W : World) (t0 : Value) (r0 : SC W t0 bs0) => specPutBlock_any v0 t0 bs0 x1 W r0.1
  have HIM := Lib.hid fun (W : World) (t0 : Value) (r0 : SB W t0 bs0) => PutBlock_any v0 t0 bs0 x1 W r0 HWF1.out
  rw [hp] at HSP HIM
  have hnk : (κ != κ) = false := by simp
  clear hsz0 hm0 hbd0 hpp hL hκ hp h0 h1 hl
  obtain ⟨a0, c0, rfl⟩ := hsl0
  obtain ⟨xa1, xb1, xc1⟩ := x1
  have HTB1 := Lib.hid fun W => toBlock_any ⟨xa1, xb1, xc1⟩ W
  unfold bv at HTB1 HSP HIM ⊢
  dsimp only at HTB1 HSP HIM ⊢
  go_enter Try.func6, Try.ntmps6
  have hm := (((Mem.start w).pushVar v0 (.slice a0 bs0.length c0) 36).pushArr ⟨xa1, xb1, xc1⟩ 48)
  have fA10 := (hm.arr 0 rfl).c0
  have fA11 := (hm.arr 0 rfl).c1
  have fA12 := (hm.arr 0 rfl).c2
  have fA00 := (hm.var 1 rfl).c0
  have fA01 := (hm.var 1 rfl).c1
  have HM := Lib.hid hm
  clear hm
  try simp only [World.size_alloc] at fA10 fA11 fA12 fA00 fA01
  go_wp2_with fail
  refine (HSZ0.out _).mono ?_
  rintro e w1 ⟨rfl, hbw1⟩
  have hm := HM.out.step (gb_below hbw1)
  clear fA10 fA11 fA12 fA00 fA01
  clear HM hbw1
  have fA10 := (hm.arr 0 rfl).c0
  have fA11 := (hm.arr 0 rfl).c1
  have fA12 := (hm.arr 0 rfl).c2
  have fA00 := (hm.var 1 rfl).c0
  have fA01 := (hm.var 1 rfl).c1
  have HM := Lib.hid hm
  clear hm
  try simp only [World.size_alloc] at fA10 fA11 fA12 fA00 fA01
  go_upto_region 5 with fail
  go_cut [6, 7] (fun bx kv wx => SysRel HM.out p L κ bx kv wx)
  case first =>
    have lA1 := (HM.out.arr 0 rfl).lt
    have lA0 := (HM.out.var 1 rfl).lt
    try simp only [World.size_alloc] at lA1 lA0
    go_region_held3 (fun w' => w'.cell? ⟨w.heap.size + 1, 0, none⟩ = some (.int .i64 xa1) ∧ w'.cell? ⟨w.heap.size + 1, 1, none⟩ = some (.int .i64 xb1) ∧ w'.cell? ⟨w.heap.size + 1, 2, none⟩ = some (.int .i64 xc1) ∧ w'.cell? ⟨w.heap.size, 0, none⟩ = some (.int .i64 v0) ∧ w'.cell? ⟨w.heap.size, 1, none⟩ = some (.slice a0 bs0.length c0))
      (first | exact ⟨fA10w2, fA11w2, fA12w2, fA00w2, fA01w2⟩ | exact ⟨fA10w3, fA11w3, fA12w3, fA00w3, fA01w3⟩ | exact ⟨fA10w4, fA11w4, fA12w4, fA00w4, fA01w4⟩ | exact ⟨keepset fA10w4 (by have := hstw2.size; have := hstw3.size; omega), keepset fA11w4 (by have := hstw2.size; have := hstw3.size; omega), keepset fA12w4 (by have := hstw2.size; have := hstw3.size; omega), keepset fA00w4 (by have := hstw2.size; have := hstw3.size; omega), keepset fA01w4 (by have := hstw2.size; have := hstw3.size; omega)⟩ | go_keep)
      (first
        | (go_at_call 37; refine (toSystem_any v0 _ bs0 _ ?_).mono ?_; (first | exact HSB0.out.below HM.out.below (Nat.le_refl _) | exact HSB0.out.below HM.out.below.drew (Nat.le_refl _) | exact HSB0.out.below (HM.out.below.alloc HM.out.below.size _) (Nat.le_refl _) | exact HSB0.out.below (HM.out.below.alloc HM.out.below.size _).drew (Nat.le_refl _)); rintro e w2 ⟨tw2, rfl, how2, hbw2⟩; have hstw2 : Below w1.heap.size w1 w2 := (by first | exact hbw2 | exact ((Below.refl _ _).drew).trans (hbw2.mono (by simp)) | exact ((Below.refl _ _).alloc (Nat.le_refl _) _).trans (hbw2.mono (by simp)) | exact (((Below.refl _ _).alloc (Nat.le_refl _) _).drew).trans (hbw2.mono (by simp))); have hmw2 := HM.out.step (gb_below hstw2); have fA10w2 := (hmw2.arr 0 rfl).c0; have fA11w2 := (hmw2.arr 0 rfl).c1; have fA12w2 := (hmw2.arr 0 rfl).c2; have fA00w2 := (hmw2.var 1 rfl).c0; have fA01w2 := (hmw2.var 1 rfl).c1; (try simp only [World.size_alloc] at fA10w2 fA11w2 fA12w2 fA00w2 fA01w2); (first | (have BX := Lib.hid (ZBox.kept BX.out (gb_below hstw2))) | (have BX := Lib.hid (ZBox.kept (ZBox.fresh w1) (by first | exact gb_below hbw2 | exact gb_tr (gb_drew1 _) (gb_below hbw2)))) | skip); have q0w2 := how2.sc HWF0.out HBD0.out; obtain ⟨gw2, capw2, hsw2, _⟩ := id how2; subst hsw2)
        | (go_at_call 45; refine (HTB1.out _).mono ?_; rintro e w3 ⟨rfl, hbw3⟩; have hstw3 : Below w2.heap.size w2 w3 := (by first | exact hbw3 | exact ((Below.refl _ _).drew).trans (hbw3.mono (by simp)) | exact ((Below.refl _ _).alloc (Nat.le_refl _) _).trans (hbw3.mono (by simp)) | exact (((Below.refl _ _).alloc (Nat.le_refl _) _).drew).trans (hbw3.mono (by simp))); have hmw3 := hmw2.step (gb_below hstw3); have fA10w3 := (hmw3.arr 0 rfl).c0; have fA11w3 := (hmw3.arr 0 rfl).c1; have fA12w3 := (hmw3.arr 0 rfl).c2; have fA00w3 := (hmw3.var 1 rfl).c0; have fA01w3 := (hmw3.var 1 rfl).c1; (try simp only [World.size_alloc] at fA10w3 fA11w3 fA12w3 fA00w3 fA01w3); (first | (have BX := Lib.hid (ZBox.kept BX.out (gb_below hstw3))) | (have BX := Lib.hid (ZBox.kept (ZBox.fresh w2) (by first | exact gb_below hbw3 | exact gb_tr (gb_drew1 _) (gb_below hbw3)))) | skip); have q0w3 := q0w2.below hstw3 (Nat.le_refl _))
        | (go_at_call 44; refine (HSP.out _ _ ?_).mono ?_; (first | exact q0w3 | exact (q0w3).below ((Below.refl _ _).drew) (Nat.le_refl _) | exact (q0w3).below ((Below.refl _ _).alloc (Nat.le_refl _) _) (Nat.le_refl _) | exact (q0w3).below (((Below.refl _ _).alloc (Nat.le_refl _) _).drew) (Nat.le_refl _)); rintro e w4 ⟨uw4, rfl, hrw4, hbw4⟩; obtain ⟨aw4, nw4, hsw4⟩ := hrw4.slice; subst hsw4; have hstw4 : Below w3.heap.size w3 w4 := (by first | exact hbw4 | exact ((Below.refl _ _).drew).trans (hbw4.mono (by simp)) | exact ((Below.refl _ _).alloc (Nat.le_refl _) _).trans (hbw4.mono (by simp)) | exact (((Below.refl _ _).alloc (Nat.le_refl _) _).drew).trans (hbw4.mono (by simp))); have hmw4 := hmw3.step (gb_below hstw4); have fA10w4 := (hmw4.arr 0 rfl).c0; have fA11w4 := (hmw4.arr 0 rfl).c1; have fA12w4 := (hmw4.arr 0 rfl).c2; have fA00w4 := (hmw4.var 1 rfl).c0; have fA01w4 := (hmw4.var 1 rfl).c1; (try simp only [World.size_alloc] at fA10w4 fA11w4 fA12w4 fA00w4 fA01w4); (first | (have hrel := SysRel.early (p := p) (κ := κ) HM.out (gb_below (hstw2.trans (hstw3.mono (hstw2).size))) (by first | exact Nat.le_refl _ | (have := hstw2.size; have := hstw3.size; omega)) BX.out hstw4 (hrw4.wide (by first | exact Nat.le_refl _ | (simp; omega)) (Nat.le_refl _)); obtain ⟨bz0, bz1, bz2, bz3⟩ := ZBox.kept BX.out (gb_below hstw4)) | (have hrel := SysRel.early (p := p) (κ := κ) HM.out (gb_tr (gb_below (hstw2.trans (hstw3.mono (hstw2).size))) (gb_alloc1 _ _)) (by first | exact Nat.le_refl _ | (have := hstw2.size; have := hstw3.size; omega)) (ZBox.fresh w3) (by first | exact hbw4 | exact ((Below.refl _ _).drew).trans (hbw4.mono (by simp))) (hrw4.wide (by first | exact Nat.le_refl _ | simp) (Nat.le_refl _)); obtain ⟨bz0, bz1, bz2, bz3⟩ := ZBox.kept (ZBox.fresh w3) (by first | exact gb_below hbw4 | exact gb_tr (gb_drew1 _) (gb_below hbw4))) | skip))
      )
    all_goals
      go_wp2_with fail
      go_meet
      first | exact hrel | exact hrel.drew | exact SysRel.late HM.out (gb_below (hstw2.trans (hstw3.mono (hstw2).size))) hstw4 (hrw4.wide (by first | exact Nat.le_refl _ | simp) (Nat.le_refl _)) | exact (SysRel.late HM.out (gb_below (hstw2.trans (hstw3.mono (hstw2).size))) hstw4 (hrw4.wide (by first | exact Nat.le_refl _ | simp) (Nat.le_refl _))).drew
  case rest =>
  obtain ⟨XW, loW, hiW, aW, nW, rfl, rfl, hm⟩ := hcut
  obtain ⟨yW, rfl⟩ : ∃ W, W = wc := ⟨_, rfl⟩
  clear fA10 fA11 fA12 fA00 fA01
  clear HM
  have fVW0 := (hm.var 0 rfl).c0
  have fVW1 := (hm.var 0 rfl).c1
  have fA10 := (hm.arr 2 rfl).c0
  have fA11 := (hm.arr 2 rfl).c1
  have fA12 := (hm.arr 2 rfl).c2
  have fA00 := (hm.var 3 rfl).c0
  have fA01 := (hm.var 3 rfl).c1
  have HM := Lib.hid hm
  clear hm
  try simp only [World.size_alloc] at fVW0 fVW1 fA10 fA11 fA12 fA00 fA01
  go_wp2_with fail
  refine (toSystem_any v0 _ bs0 _ (HSB0.out.below HM.out.below (Nat.le_refl _))).mono ?_
  rintro e w5 ⟨tw5, rfl, how5, hbw5⟩
  have hrw5 := how5.res
  obtain ⟨gw5, capw5, hsw5, _⟩ := id how5
  subst hsw5
  have hm := (HM.out.pushB hbw5 hrw5).pushVar v0 (.slice (some ⟨gw5, 0, none⟩) bs0.length capw5) 26
  clear fVW0 fVW1 fA10 fA11 fA12 fA00 fA01
  clear HM hbw5 hrw5 how5
  have fVX00 := (hm.var 0 rfl).c0
  have fVX01 := (hm.var 0 rfl).c1
  have fVW0 := (hm.var 2 rfl).c0
  have fVW1 := (hm.var 2 rfl).c1
  have fA10 := (hm.arr 4 rfl).c0
  have fA11 := (hm.arr 4 rfl).c1
  have fA12 := (hm.arr 4 rfl).c2
  have fA00 := (hm.var 5 rfl).c0
  have fA01 := (hm.var 5 rfl).c1
  have HM := Lib.hid hm
  clear hm
  try simp only [World.size_alloc] at fVX00 fVX01 fVW0 fVW1 fA10 fA11 fA12 fA00 fA01
  go_upto_region 7 with fail
  obtain ⟨yx0, hyx⟩ : ∃ y, (w5.alloc (.cells #[.int .i64 v0, .slice (some ⟨gw5, 0, none⟩) bs0.length capw5] 26)) = y := ⟨_, rfl⟩
  rw [hyx] at HM fVX00 fVX01 fVW0 fVW1 fA10 fA11 fA12 fA00 fA01 ⊢
  clear hyx
  go_cut [9, 10] (fun bx kv wx => SysRel HM.out p L κ bx kv wx)
  case first =>
    have lVX0 := (HM.out.var 0 rfl).lt
    have lVW := (HM.out.var 2 rfl).lt
    have lA1 := (HM.out.arr 4 rfl).lt
    have lA0 := (HM.out.var 5 rfl).lt
    try simp only [World.size_alloc] at lVX0 lVW lA1 lA0
    go_region_held3 (fun w' => w'.cell? ⟨w5.heap.size, 0, none⟩ = some (.int .i64 v0) ∧ w'.cell? ⟨w5.heap.size, 1, none⟩ = some (.slice (some ⟨gw5, 0, none⟩) bs0.length capw5) ∧ w'.cell? ⟨XW, 0, none⟩ = some (.int .i64 p) ∧ w'.cell? ⟨XW, 1, none⟩ = some (.slice aW L.length nW) ∧ w'.cell? ⟨w.heap.size + 1, 0, none⟩ = some (.int .i64 xa1) ∧ w'.cell? ⟨w.heap.size + 1, 1, none⟩ = some (.int .i64 xb1) ∧ w'.cell? ⟨w.heap.size + 1, 2, none⟩ = some (.int .i64 xc1) ∧ w'.cell? ⟨w.heap.size, 0, none⟩ = some (.int .i64 v0) ∧ w'.cell? ⟨w.heap.size, 1, none⟩ = some (.slice a0 bs0.length c0))
      (first | exact ⟨fVX00w6, fVX01w6, fVW0w6, fVW1w6, fA10w6, fA11w6, fA12w6, fA00w6, fA01w6⟩ | exact ⟨fVX00w7, fVX01w7, fVW0w7, fVW1w7, fA10w7, fA11w7, fA12w7, fA00w7, fA01w7⟩ | exact ⟨keepset fVX00w7 (by have := hstw6.size; omega), keepset fVX01w7 (by have := hstw6.size; omega), keepset fVW0w7 (by have := hstw6.size; omega), keepset fVW1w7 (by have := hstw6.size; omega), keepset fA10w7 (by have := hstw6.size; omega), keepset fA11w7 (by have := hstw6.size; omega), keepset fA12w7 (by have := hstw6.size; omega), keepset fA00w7 (by have := hstw6.size; omega), keepset fA01w7 (by have := hstw6.size; omega)⟩ | go_keep)
      (first
        | (go_at_call 45; refine (HTB1.out _).mono ?_; rintro e w6 ⟨rfl, hbw6⟩; have hstw6 : Below yx0.heap.size yx0 w6 := (by first | exact hbw6 | exact ((Below.refl _ _).drew).trans (hbw6.mono (by simp)) | exact ((Below.refl _ _).alloc (Nat.le_refl _) _).trans (hbw6.mono (by simp)) | exact (((Below.refl _ _).alloc (Nat.le_refl _) _).drew).trans (hbw6.mono (by simp))); have hmw6 := HM.out.step (gb_below hstw6); have fVX00w6 := (hmw6.var 0 rfl).c0; have fVX01w6 := (hmw6.var 0 rfl).c1; have fVW0w6 := (hmw6.var 2 rfl).c0; have fVW1w6 := (hmw6.var 2 rfl).c1; have fA10w6 := (hmw6.arr 4 rfl).c0; have fA11w6 := (hmw6.arr 4 rfl).c1; have fA12w6 := (hmw6.arr 4 rfl).c2; have fA00w6 := (hmw6.var 5 rfl).c0; have fA01w6 := (hmw6.var 5 rfl).c1; (try simp only [World.size_alloc] at fVX00w6 fVX01w6 fVW0w6 fVW1w6 fA10w6 fA11w6 fA12w6 fA00w6 fA01w6); (first | (have BX := Lib.hid (ZBox.kept BX.out (gb_below hstw6))) | (have BX := Lib.hid (ZBox.kept (ZBox.fresh yx0) (by first | exact gb_below hbw6 | exact gb_tr (gb_drew1 _) (gb_below hbw6)))) | skip))
        | (go_at_call 46; refine (HIM.out _ _ ?_).mono ?_; (first | exact ((hmw6.blks 1 rfl).sb HWF0.out HBD0.out) | exact (((hmw6.blks 1 rfl).sb HWF0.out HBD0.out)).below ((Below.refl _ _).drew) (Nat.le_refl _) | exact (((hmw6.blks 1 rfl).sb HWF0.out HBD0.out)).below ((Below.refl _ _).alloc (Nat.le_refl _) _) (Nat.le_refl _) | exact (((hmw6.blks 1 rfl).sb HWF0.out HBD0.out)).below (((Below.refl _ _).alloc (Nat.le_refl _) _).drew) (Nat.le_refl _)); rintro e w7 ⟨uw7, rfl, hrw7, hbw7⟩; obtain ⟨aw7, nw7, hsw7⟩ := hrw7.slice; subst hsw7; have hstw7 : Below w6.heap.size w6 w7 := (by first | exact hbw7 | exact ((Below.refl _ _).drew).trans (hbw7.mono (by simp)) | exact ((Below.refl _ _).alloc (Nat.le_refl _) _).trans (hbw7.mono (by simp)) | exact (((Below.refl _ _).alloc (Nat.le_refl _) _).drew).trans (hbw7.mono (by simp))); have hmw7 := hmw6.step (gb_below hstw7); have fVX00w7 := (hmw7.var 0 rfl).c0; have fVX01w7 := (hmw7.var 0 rfl).c1; have fVW0w7 := (hmw7.var 2 rfl).c0; have fVW1w7 := (hmw7.var 2 rfl).c1; have fA10w7 := (hmw7.arr 4 rfl).c0; have fA11w7 := (hmw7.arr 4 rfl).c1; have fA12w7 := (hmw7.arr 4 rfl).c2; have fA00w7 := (hmw7.var 5 rfl).c0; have fA01w7 := (hmw7.var 5 rfl).c1; (try simp only [World.size_alloc] at fVX00w7 fVX01w7 fVW0w7 fVW1w7 fA10w7 fA11w7 fA12w7 fA00w7 fA01w7); (first | (have hrel := SysRel.early (p := p) (κ := κ) HM.out (gb_below hstw6) (by first | exact Nat.le_refl _ | (have := hstw6.size; omega)) BX.out hstw7 (hrw7.wide (by first | exact Nat.le_refl _ | (simp; omega)) (Nat.le_refl _)); obtain ⟨bz0, bz1, bz2, bz3⟩ := ZBox.kept BX.out (gb_below hstw7)) | (have hrel := SysRel.early (p := p) (κ := κ) HM.out (gb_tr (gb_below hstw6) (gb_alloc1 _ _)) (by first | exact Nat.le_refl _ | (have := hstw6.size; omega)) (ZBox.fresh w6) (by first | exact hbw7 | exact ((Below.refl _ _).drew).trans (hbw7.mono (by simp))) (hrw7.wide (by first | exact Nat.le_refl _ | simp) (Nat.le_refl _)); obtain ⟨bz0, bz1, bz2, bz3⟩ := ZBox.kept (ZBox.fresh w6) (by first | exact gb_below hbw7 | exact gb_tr (gb_drew1 _) (gb_below hbw7))) | skip))
      )
    all_goals
      go_wp2_with fail
      go_meet
      first | exact hrel | exact hrel.drew | exact SysRel.late HM.out (gb_below hstw6) hstw7 (hrw7.wide (by first | exact Nat.le_refl _ | simp) (Nat.le_refl _)) | exact (SysRel.late HM.out (gb_below hstw6) hstw7 (hrw7.wide (by first | exact Nat.le_refl _ | simp) (Nat.le_refl _))).drew
  case rest =>
  obtain ⟨XG, loG, hiG, aG, nG, rfl, rfl, hm⟩ := hcut
  obtain ⟨yG, rfl⟩ : ∃ W, W = wc := ⟨_, rfl⟩
  clear fVX00 fVX01 fVW0 fVW1 fA10 fA11 fA12 fA00 fA01
  clear HM
  have fVG0 := (hm.var 0 rfl).c0
  have fVG1 := (hm.var 0 rfl).c1
  have fVX00 := (hm.var 2 rfl).c0
  have fVX01 := (hm.var 2 rfl).c1
  have fVW0 := (hm.var 4 rfl).c0
  have fVW1 := (hm.var 4 rfl).c1
  have fA10 := (hm.arr 6 rfl).c0
  have fA11 := (hm.arr 6 rfl).c1
  have fA12 := (hm.arr 6 rfl).c2
  have fA00 := (hm.var 7 rfl).c0
  have fA01 := (hm.var 7 rfl).c1
  have HM := Lib.hid hm
  clear hm
  try simp only [World.size_alloc] at fVG0 fVG1 fVX00 fVX01 fVW0 fVW1 fA10 fA11 fA12 fA00 fA01
  go_wp2_with fail
  refine (eqSystem_same p _ _ L _ ((HM.out.blks 1 rfl).sb LWF.out LBD.out) ((HM.out.blks 5 rfl).sb LWF.out LBD.out)).mono ?_
  rintro e w8 ⟨rfl, hbw8⟩
  have hm := HM.out.step (gb_below hbw8)
  clear fVG0 fVG1 fVX00 fVX01 fVW0 fVW1 fA10 fA11 fA12 fA00 fA01
  clear HM hbw8
  have fVG0 := (hm.var 0 rfl).c0
  have fVG1 := (hm.var 0 rfl).c1
  have fVX00 := (hm.var 2 rfl).c0
  have fVX01 := (hm.var 2 rfl).c1
  have fVW0 := (hm.var 4 rfl).c0
  have fVW1 := (hm.var 4 rfl).c1
  have fA10 := (hm.arr 6 rfl).c0
  have fA11 := (hm.arr 6 rfl).c1
  have fA12 := (hm.arr 6 rfl).c2
  have fA00 := (hm.var 7 rfl).c0
  have fA01 := (hm.var 7 rfl).c1
  have HM := Lib.hid hm
  clear hm
  try simp only [World.size_alloc] at fVG0 fVG1 fVX00 fVX01 fVW0 fVW1 fA10 fA11 fA12 fA00 fA01
  go_upto_region 10 with fail
  go_cut [51] (fun sq wx => sq = .bool false ∧ MemOf HM.out wx)
  case first =>
    go_region_with (first | (go_at_call 37; refine (toSystem_any v0 _ bs0 _ ?_).mono ?_; (exact HSB0.out.below HM.out.below.drew (Nat.le_refl _)); rintro e w9 ⟨tw9, rfl, how9, hbw9⟩; have hmx := (HM.out.step (gb_drew1 _)).step (gb_below hbw9); have ec0 := (hmx.var 2 rfl).c0; have ec1 := (hmx.var 2 rfl).c1; have HMX := Lib.hid hmx; clear hmx; have hsbw9 := how9.sb HWF0.out HBD0.out; obtain ⟨gw9, capw9, hsw9, _⟩ := id how9; subst hsw9) | (go_at_call 30; refine (eqSystem_same v0 _ _ bs0 _ ?_ ?_).mono ?_; (exact ((HMX.out.blks 3 rfl).sb HWF0.out HBD0.out)); (exact hsbw9); rintro e w10 ⟨rfl, hbw10⟩))
    all_goals
      go_wp2_with fail
      go_meet
      exact ⟨rfl, HMX.out.step (gb_below hbw10)⟩
  case rest =>
  obtain ⟨rfl, hm⟩ := hcut
  unfold MemOf at hm
  obtain ⟨yc0, rfl⟩ : ∃ W, W = wc := ⟨_, rfl⟩
  clear fVG0 fVG1 fVX00 fVX01 fVW0 fVW1 fA10 fA11 fA12 fA00 fA01
  clear HM
  have fVG0 := (hm.var 0 rfl).c0
  have fVG1 := (hm.var 0 rfl).c1
  have fVX00 := (hm.var 2 rfl).c0
  have fVX01 := (hm.var 2 rfl).c1
  have fVW0 := (hm.var 4 rfl).c0
  have fVW1 := (hm.var 4 rfl).c1
  have fA10 := (hm.arr 6 rfl).c0
  have fA11 := (hm.arr 6 rfl).c1
  have fA12 := (hm.arr 6 rfl).c2
  have fA00 := (hm.var 7 rfl).c0
  have fA01 := (hm.var 7 rfl).c1
  have HM := Lib.hid hm
  clear hm
  try simp only [World.size_alloc] at fVG0 fVG1 fVX00 fVX01 fVW0 fVW1 fA10 fA11 fA12 fA00 fA01
  go_wp2_with fail
  refine (markSystem_any _ _ v0 _ bs0 1 _ (HM.out.blks 3 rfl) HBD0.out (by omega) (by omega)).mono ?_
  rintro e w11 ⟨rfl, hww11, hrw11⟩
  have hm := HM.out.markB 3 rfl hww11 hrw11
  clear fVG0 fVG1 fVX00 fVX01 fVW0 fVW1 fA10 fA11 fA12 fA00 fA01
  clear HM hww11 hrw11
  have fVG0 := (hm.var 0 rfl).c0
  have fVG1 := (hm.var 0 rfl).c1
  have fVX00 := (hm.var 2 rfl).c0
  have fVX01 := (hm.var 2 rfl).c1
  have fVW0 := (hm.var 4 rfl).c0
  have fVW1 := (hm.var 4 rfl).c1
  have fA10 := (hm.arr 6 rfl).c0
  have fA11 := (hm.arr 6 rfl).c1
  have fA12 := (hm.arr 6 rfl).c2
  have fA00 := (hm.var 7 rfl).c0
  have fA01 := (hm.var 7 rfl).c1
  have HM := Lib.hid hm
  clear hm
  try simp only [World.size_alloc] at fVG0 fVG1 fVX00 fVX01 fVW0 fVW1 fA10 fA11 fA12 fA00 fA01
  obtain ⟨kw11, hkw11⟩ : ∃ m, m = 1 + 3 * (bs0.length : Int) := ⟨_, rfl⟩
  rw [← hkw11]
  have h0kw11 : 0 ≤ kw11 := by have := HBD0.out; omega
  have h1kw11 : kw11 ≤ 3300001 := by have := HBD0.out; omega
  clear hkw11
  go_wp2_with fail
  refine (eqSystem_same p _ _ L _ ((HM.out.blks 1 rfl).sb LWF.out LBD.out) ((HM.out.blks 5 rfl).sb LWF.out LBD.out)).mono ?_
  rintro e w12 ⟨rfl, hbw12⟩
  have hm := HM.out.step (gb_below hbw12)
  clear fVG0 fVG1 fVX00 fVX01 fVW0 fVW1 fA10 fA11 fA12 fA00 fA01
  clear HM hbw12
  have fVG0 := (hm.var 0 rfl).c0
  have fVG1 := (hm.var 0 rfl).c1
  have fVX00 := (hm.var 2 rfl).c0
  have fVX01 := (hm.var 2 rfl).c1
  have fVW0 := (hm.var 4 rfl).c0
  have fVW1 := (hm.var 4 rfl).c1
  have fA10 := (hm.arr 6 rfl).c0
  have fA11 := (hm.arr 6 rfl).c1
  have fA12 := (hm.arr 6 rfl).c2
  have fA00 := (hm.var 7 rfl).c0
  have fA01 := (hm.var 7 rfl).c1
  have HM := Lib.hid hm
  clear hm
  try simp only [World.size_alloc] at fVG0 fVG1 fVX00 fVX01 fVW0 fVW1 fA10 fA11 fA12 fA00 fA01
  go_wp2_with fail
  refine (markSystem_any _ _ p _ L 1 _ (HM.out.blks 1 rfl) LBD.out (by omega) (by omega)).mono ?_
  rintro e w13 ⟨rfl, hww13, hrw13⟩
  have hm := HM.out.markB 1 rfl hww13 hrw13
  clear fVG0 fVG1 fVX00 fVX01 fVW0 fVW1 fA10 fA11 fA12 fA00 fA01
  clear HM hww13 hrw13
  have fVG0 := (hm.var 0 rfl).c0
  have fVG1 := (hm.var 0 rfl).c1
  have fVX00 := (hm.var 2 rfl).c0
  have fVX01 := (hm.var 2 rfl).c1
  have fVW0 := (hm.var 4 rfl).c0
  have fVW1 := (hm.var 4 rfl).c1
  have fA10 := (hm.arr 6 rfl).c0
  have fA11 := (hm.arr 6 rfl).c1
  have fA12 := (hm.arr 6 rfl).c2
  have fA00 := (hm.var 7 rfl).c0
  have fA01 := (hm.var 7 rfl).c1
  have HM := Lib.hid hm
  clear hm
  try simp only [World.size_alloc] at fVG0 fVG1 fVX00 fVX01 fVW0 fVW1 fA10 fA11 fA12 fA00 fA01
  have hheld := fun lo hi W (h : ResR W lo hi (Value.slice aG L.length nG) (markL 1 L.length)) => heldSystem_any lo hi p (.slice aG L.length nG) L.length 1 W h LBD.out (by omega) (by omega)
  obtain ⟨m5, hm5⟩ : ∃ m5, m5 = 1 + 3 * (L.length : Int) := ⟨_, rfl⟩
  rw [← hm5] at hheld ⊢
  have HHELD := Lib.hid hheld
  have m50 : 0 ≤ m5 := by omega
  have hn5 : (m5 != m5) = false := by simp
  clear hm5 hheld
  go_wp2_with fail
  refine (HHELD.out _ _ _ (HM.out.blks 1 rfl)).mono ?_
  rintro e w14 ⟨rfl, hbw14⟩
  have hm := HM.out.step (gb_below hbw14)
  clear fVG0 fVG1 fVX00 fVX01 fVW0 fVW1 fA10 fA11 fA12 fA00 fA01
  clear HM hbw14
  have fVG0 := (hm.var 0 rfl).c0
  have fVG1 := (hm.var 0 rfl).c1
  have fVX00 := (hm.var 2 rfl).c0
  have fVX01 := (hm.var 2 rfl).c1
  have fVW0 := (hm.var 4 rfl).c0
  have fVW1 := (hm.var 4 rfl).c1
  have fA10 := (hm.arr 6 rfl).c0
  have fA11 := (hm.arr 6 rfl).c1
  have fA12 := (hm.arr 6 rfl).c2
  have fA00 := (hm.var 7 rfl).c0
  have fA01 := (hm.var 7 rfl).c1
  have HM := Lib.hid hm
  clear hm
  try simp only [World.size_alloc] at fVG0 fVG1 fVX00 fVX01 fVW0 fVW1 fA10 fA11 fA12 fA00 fA01
  go_upto_region 24 with fail
  go_cut [14, 15] (fun bx kv wx => SysRel HM.out p L κ bx kv wx)
  case first =>
    have lVG := (HM.out.var 0 rfl).lt
    have lVX0 := (HM.out.var 2 rfl).lt
    have lVW := (HM.out.var 4 rfl).lt
    have lA1 := (HM.out.arr 6 rfl).lt
    have lA0 := (HM.out.var 7 rfl).lt
    try simp only [World.size_alloc] at lVG lVX0 lVW lA1 lA0
    go_region_held3 (fun w' => w'.cell? ⟨XG, 0, none⟩ = some (.int .i64 p) ∧ w'.cell? ⟨XG, 1, none⟩ = some (.slice aG L.length nG) ∧ w'.cell? ⟨w5.heap.size, 0, none⟩ = some (.int .i64 v0) ∧ w'.cell? ⟨w5.heap.size, 1, none⟩ = some (.slice (some ⟨gw5, 0, none⟩) bs0.length capw5) ∧ w'.cell? ⟨XW, 0, none⟩ = some (.int .i64 p) ∧ w'.cell? ⟨XW, 1, none⟩ = some (.slice aW L.length nW) ∧ w'.cell? ⟨w.heap.size + 1, 0, none⟩ = some (.int .i64 xa1) ∧ w'.cell? ⟨w.heap.size + 1, 1, none⟩ = some (.int .i64 xb1) ∧ w'.cell? ⟨w.heap.size + 1, 2, none⟩ = some (.int .i64 xc1) ∧ w'.cell? ⟨w.heap.size, 0, none⟩ = some (.int .i64 v0) ∧ w'.cell? ⟨w.heap.size, 1, none⟩ = some (.slice a0 bs0.length c0))
      (first | exact ⟨fVG0w15, fVG1w15, fVX00w15, fVX01w15, fVW0w15, fVW1w15, fA10w15, fA11w15, fA12w15, fA00w15, fA01w15⟩ | exact ⟨fVG0w16, fVG1w16, fVX00w16, fVX01w16, fVW0w16, fVW1w16, fA10w16, fA11w16, fA12w16, fA00w16, fA01w16⟩ | exact ⟨fVG0w17, fVG1w17, fVX00w17, fVX01w17, fVW0w17, fVW1w17, fA10w17, fA11w17, fA12w17, fA00w17, fA01w17⟩ | exact ⟨keepset fVG0w17 (by have := hstw15.size; have := hstw16.size; omega), keepset fVG1w17 (by have := hstw15.size; have := hstw16.size; omega), keepset fVX00w17 (by have := hstw15.size; have := hstw16.size; omega), keepset fVX01w17 (by have := hstw15.size; have := hstw16.size; omega), keepset fVW0w17 (by have := hstw15.size; have := hstw16.size; omega), keepset fVW1w17 (by have := hstw15.size; have := hstw16.size; omega), keepset fA10w17 (by have := hstw15.size; have := hstw16.size; omega), keepset fA11w17 (by have := hstw15.size; have := hstw16.size; omega), keepset fA12w17 (by have := hstw15.size; have := hstw16.size; omega), keepset fA00w17 (by have := hstw15.size; have := hstw16.size; omega), keepset fA01w17 (by have := hstw15.size; have := hstw16.size; omega)⟩ | go_keep)
      (first
        | (go_at_call 37; refine (toSystem_any v0 _ bs0 _ ?_).mono ?_; (first | exact HSB0.out.below HM.out.below (Nat.le_refl _) | exact HSB0.out.below HM.out.below.drew (Nat.le_refl _) | exact HSB0.out.below (HM.out.below.alloc HM.out.below.size _) (Nat.le_refl _) | exact HSB0.out.below (HM.out.below.alloc HM.out.below.size _).drew (Nat.le_refl _)); rintro e w15 ⟨tw15, rfl, how15, hbw15⟩; have hstw15 : Below w14.heap.size w14 w15 := (by first | exact hbw15 | exact ((Below.refl _ _).drew).trans (hbw15.mono (by simp)) | exact ((Below.refl _ _).alloc (Nat.le_refl _) _).trans (hbw15.mono (by simp)) | exact (((Below.refl _ _).alloc (Nat.le_refl _) _).drew).trans (hbw15.mono (by simp))); have hmw15 := HM.out.step (gb_below hstw15); have fVG0w15 := (hmw15.var 0 rfl).c0; have fVG1w15 := (hmw15.var 0 rfl).c1; have fVX00w15 := (hmw15.var 2 rfl).c0; have fVX01w15 := (hmw15.var 2 rfl).c1; have fVW0w15 := (hmw15.var 4 rfl).c0; have fVW1w15 := (hmw15.var 4 rfl).c1; have fA10w15 := (hmw15.arr 6 rfl).c0; have fA11w15 := (hmw15.arr 6 rfl).c1; have fA12w15 := (hmw15.arr 6 rfl).c2; have fA00w15 := (hmw15.var 7 rfl).c0; have fA01w15 := (hmw15.var 7 rfl).c1; (try simp only [World.size_alloc] at fVG0w15 fVG1w15 fVX00w15 fVX01w15 fVW0w15 fVW1w15 fA10w15 fA11w15 fA12w15 fA00w15 fA01w15); (first | (have BX := Lib.hid (ZBox.kept BX.out (gb_below hstw15))) | (have BX := Lib.hid (ZBox.kept (ZBox.fresh w14) (by first | exact gb_below hbw15 | exact gb_tr (gb_drew1 _) (gb_below hbw15)))) | skip); have q0w15 := how15.sb HWF0.out HBD0.out; obtain ⟨gw15, capw15, hsw15, _⟩ := id how15; subst hsw15)
        | (go_at_call 45; refine (HTB1.out _).mono ?_; rintro e w16 ⟨rfl, hbw16⟩; have hstw16 : Below w15.heap.size w15 w16 := (by first | exact hbw16 | exact ((Below.refl _ _).drew).trans (hbw16.mono (by simp)) | exact ((Below.refl _ _).alloc (Nat.le_refl _) _).trans (hbw16.mono (by simp)) | exact (((Below.refl _ _).alloc (Nat.le_refl _) _).drew).trans (hbw16.mono (by simp))); have hmw16 := hmw15.step (gb_below hstw16); have fVG0w16 := (hmw16.var 0 rfl).c0; have fVG1w16 := (hmw16.var 0 rfl).c1; have fVX00w16 := (hmw16.var 2 rfl).c0; have fVX01w16 := (hmw16.var 2 rfl).c1; have fVW0w16 := (hmw16.var 4 rfl).c0; have fVW1w16 := (hmw16.var 4 rfl).c1; have fA10w16 := (hmw16.arr 6 rfl).c0; have fA11w16 := (hmw16.arr 6 rfl).c1; have fA12w16 := (hmw16.arr 6 rfl).c2; have fA00w16 := (hmw16.var 7 rfl).c0; have fA01w16 := (hmw16.var 7 rfl).c1; (try simp only [World.size_alloc] at fVG0w16 fVG1w16 fVX00w16 fVX01w16 fVW0w16 fVW1w16 fA10w16 fA11w16 fA12w16 fA00w16 fA01w16); (first | (have BX := Lib.hid (ZBox.kept BX.out (gb_below hstw16))) | (have BX := Lib.hid (ZBox.kept (ZBox.fresh w15) (by first | exact gb_below hbw16 | exact gb_tr (gb_drew1 _) (gb_below hbw16)))) | skip); have q0w16 := q0w15.below hstw16 (Nat.le_refl _))
        | (go_at_call 46; refine (HIM.out _ _ ?_).mono ?_; (first | exact q0w16 | exact (q0w16).below ((Below.refl _ _).drew) (Nat.le_refl _) | exact (q0w16).below ((Below.refl _ _).alloc (Nat.le_refl _) _) (Nat.le_refl _) | exact (q0w16).below (((Below.refl _ _).alloc (Nat.le_refl _) _).drew) (Nat.le_refl _)); rintro e w17 ⟨uw17, rfl, hrw17, hbw17⟩; obtain ⟨aw17, nw17, hsw17⟩ := hrw17.slice; subst hsw17; have hstw17 : Below w16.heap.size w16 w17 := (by first | exact hbw17 | exact ((Below.refl _ _).drew).trans (hbw17.mono (by simp)) | exact ((Below.refl _ _).alloc (Nat.le_refl _) _).trans (hbw17.mono (by simp)) | exact (((Below.refl _ _).alloc (Nat.le_refl _) _).drew).trans (hbw17.mono (by simp))); have hmw17 := hmw16.step (gb_below hstw17); have fVG0w17 := (hmw17.var 0 rfl).c0; have fVG1w17 := (hmw17.var 0 rfl).c1; have fVX00w17 := (hmw17.var 2 rfl).c0; have fVX01w17 := (hmw17.var 2 rfl).c1; have fVW0w17 := (hmw17.var 4 rfl).c0; have fVW1w17 := (hmw17.var 4 rfl).c1; have fA10w17 := (hmw17.arr 6 rfl).c0; have fA11w17 := (hmw17.arr 6 rfl).c1; have fA12w17 := (hmw17.arr 6 rfl).c2; have fA00w17 := (hmw17.var 7 rfl).c0; have fA01w17 := (hmw17.var 7 rfl).c1; (try simp only [World.size_alloc] at fVG0w17 fVG1w17 fVX00w17 fVX01w17 fVW0w17 fVW1w17 fA10w17 fA11w17 fA12w17 fA00w17 fA01w17); (first | (have hrel := SysRel.early (p := p) (κ := κ) HM.out (gb_below (hstw15.trans (hstw16.mono (hstw15).size))) (by first | exact Nat.le_refl _ | (have := hstw15.size; have := hstw16.size; omega)) BX.out hstw17 (hrw17.wide (by first | exact Nat.le_refl _ | (simp; omega)) (Nat.le_refl _)); obtain ⟨bz0, bz1, bz2, bz3⟩ := ZBox.kept BX.out (gb_below hstw17)) | (have hrel := SysRel.early (p := p) (κ := κ) HM.out (gb_tr (gb_below (hstw15.trans (hstw16.mono (hstw15).size))) (gb_alloc1 _ _)) (by first | exact Nat.le_refl _ | (have := hstw15.size; have := hstw16.size; omega)) (ZBox.fresh w16) (by first | exact hbw17 | exact ((Below.refl _ _).drew).trans (hbw17.mono (by simp))) (hrw17.wide (by first | exact Nat.le_refl _ | simp) (Nat.le_refl _)); obtain ⟨bz0, bz1, bz2, bz3⟩ := ZBox.kept (ZBox.fresh w16) (by first | exact gb_below hbw17 | exact gb_tr (gb_drew1 _) (gb_below hbw17))) | skip))
      )
    all_goals
      go_wp2_with fail
      go_meet
      first | exact hrel | exact hrel.drew | exact SysRel.late HM.out (gb_below (hstw15.trans (hstw16.mono (hstw15).size))) hstw17 (hrw17.wide (by first | exact Nat.le_refl _ | simp) (Nat.le_refl _)) | exact (SysRel.late HM.out (gb_below (hstw15.trans (hstw16.mono (hstw15).size))) hstw17 (hrw17.wide (by first | exact Nat.le_refl _ | simp) (Nat.le_refl _))).drew
  case rest =>
  obtain ⟨XH, loH, hiH, aH, nH, rfl, rfl, hm⟩ := hcut
  obtain ⟨yH, rfl⟩ : ∃ W, W = wc := ⟨_, rfl⟩
  clear fVG0 fVG1 fVX00 fVX01 fVW0 fVW1 fA10 fA11 fA12 fA00 fA01
  clear HM
  have fVH0 := (hm.var 0 rfl).c0
  have fVH1 := (hm.var 0 rfl).c1
  have fVG0 := (hm.var 2 rfl).c0
  have fVG1 := (hm.var 2 rfl).c1
  have fVX00 := (hm.var 4 rfl).c0
  have fVX01 := (hm.var 4 rfl).c1
  have fVW0 := (hm.var 6 rfl).c0
  have fVW1 := (hm.var 6 rfl).c1
  have fA10 := (hm.arr 8 rfl).c0
  have fA11 := (hm.arr 8 rfl).c1
  have fA12 := (hm.arr 8 rfl).c2
  have fA00 := (hm.var 9 rfl).c0
  have fA01 := (hm.var 9 rfl).c1
  have HM := Lib.hid hm
  clear hm
  try simp only [World.size_alloc] at fVH0 fVH1 fVG0 fVG1 fVX00 fVX01 fVW0 fVW1 fA10 fA11 fA12 fA00 fA01
  go_wp2_with fail
  refine (eqSystem_same p _ _ L _ ((HM.out.blks 1 rfl).sb LWF.out LBD.out) ((HM.out.blks 7 rfl).sb LWF.out LBD.out)).mono ?_
  rintro e w18 ⟨rfl, hbw18⟩
  have hm := HM.out.step (gb_below hbw18)
  clear fVH0 fVH1 fVG0 fVG1 fVX00 fVX01 fVW0 fVW1 fA10 fA11 fA12 fA00 fA01
  clear HM hbw18
  have fVH0 := (hm.var 0 rfl).c0
  have fVH1 := (hm.var 0 rfl).c1
  have fVG0 := (hm.var 2 rfl).c0
  have fVG1 := (hm.var 2 rfl).c1
  have fVX00 := (hm.var 4 rfl).c0
  have fVX01 := (hm.var 4 rfl).c1
  have fVW0 := (hm.var 6 rfl).c0
  have fVW1 := (hm.var 6 rfl).c1
  have fA10 := (hm.arr 8 rfl).c0
  have fA11 := (hm.arr 8 rfl).c1
  have fA12 := (hm.arr 8 rfl).c2
  have fA00 := (hm.var 9 rfl).c0
  have fA01 := (hm.var 9 rfl).c1
  have HM := Lib.hid hm
  clear hm
  try simp only [World.size_alloc] at fVH0 fVH1 fVG0 fVG1 fVX00 fVX01 fVW0 fVW1 fA10 fA11 fA12 fA00 fA01
  go_wp2_with fail
  refine (HHELD.out _ _ _ (HM.out.blks 3 rfl)).mono ?_
  rintro e w19 ⟨rfl, hbw19⟩
  have hm := HM.out.step (gb_below hbw19)
  clear fVH0 fVH1 fVG0 fVG1 fVX00 fVX01 fVW0 fVW1 fA10 fA11 fA12 fA00 fA01
  clear HM hbw19
  have fVH0 := (hm.var 0 rfl).c0
  have fVH1 := (hm.var 0 rfl).c1
  have fVG0 := (hm.var 2 rfl).c0
  have fVG1 := (hm.var 2 rfl).c1
  have fVX00 := (hm.var 4 rfl).c0
  have fVX01 := (hm.var 4 rfl).c1
  have fVW0 := (hm.var 6 rfl).c0
  have fVW1 := (hm.var 6 rfl).c1
  have fA10 := (hm.arr 8 rfl).c0
  have fA11 := (hm.arr 8 rfl).c1
  have fA12 := (hm.arr 8 rfl).c2
  have fA00 := (hm.var 9 rfl).c0
  have fA01 := (hm.var 9 rfl).c1
  have HM := Lib.hid hm
  clear hm
  try simp only [World.size_alloc] at fVH0 fVH1 fVG0 fVG1 fVX00 fVX01 fVW0 fVW1 fA10 fA11 fA12 fA00 fA01
  go_wp2
  go_ret
  exact RV_of rfl HM.out.below
set_option maxRecDepth 100000 in
theorem FnExactPutBlock_long0 (v0 : Int) (s0 : Value) (bs0 : List Blk) (x1 : Blk) (w : World) (h0 : InB w s0 bs0) (h1 : WFB x1)  (hl : ¬ bs0.length ≤ 1048576) : Calls Try.prog 6 #[.agg #[.int .i64 v0, s0], bv x1] w (RV (.bool true) w) := by
  have hsl0 := h0.slice
  have hbd0 := h0.2.1
  have hsz0 := szSystem_any v0 s0 bs0.length hsl0 (by omega) (1048576) (by omega) (by omega)
  rw [if_pos (by omega)] at hsz0
  have HSZ0 := Lib.hid hsz0
  clear hl h0 h1 hsz0 hbd0
  obtain ⟨a0, c0, rfl⟩ := hsl0
  obtain ⟨xa1, xb1, xc1⟩ := x1
  unfold bv
  dsimp only
  go_enter Try.func6, Try.ntmps6
  go_wp2_with fail
  refine (HSZ0.out _).mono ?_
  rintro e y0 ⟨rfl, hy0⟩
  go_wp2
  go_ret
  exact RV_of rfl ((((Below.refl _ _).alloc (by simp <;> omega) _).alloc (by simp <;> omega) _).trans (hy0.mono (by first | (simp <;> omega) | (have := (((Below.refl _ _).alloc (by simp <;> omega) _).alloc (by simp <;> omega) _).size; omega))))
theorem FnExactPutBlock_any (v0 : Int) (s0 : Value) (bs0 : List Blk) (x1 : Blk) (w : World) (h0 : InB w s0 bs0) (h1 : WFB x1) : Calls Try.prog 6 #[.agg #[.int .i64 v0, s0], bv x1] w (RV (.bool true) w) := by
  by_cases hs0 : bs0.length ≤ 1048576
  case neg => exact FnExactPutBlock_long0 v0 s0 bs0 x1 w h0 h1   hs0
  exact FnExactPutBlock_main v0 s0 bs0 x1 w h0 h1 hs0 
end Go.Proofs.Ytikegdidffjoeaa

namespace Go.Proofs.Ytikegdidffjoeaa
set_option maxRecDepth 100000 in
noncomputable def iniP : { L : List Char // Try.prog.initOrder = String.ofList L } := ⟨_, by unfold Try.prog; rfl⟩
theorem iniL : Try.prog.initOrder.toList = iniP.1 := (congrArg String.toList iniP.2).trans String.toList_ofList
theorem words_cons (c : Char) (r : List Char) (h : c ≠ Char.ofNat 32) : wordsSigns (c :: r) = match wordsSigns r with | w :: ws => (c :: w) :: ws | [] => [[c]] := by
  rw [wordsSigns]
  all_goals first | rfl | exact h | (intro e; exact h e)
theorem words_word : ∀ (a b : List Char), (a.all fun c => c != Char.ofNat 32) = true → wordsSigns (a ++ Char.ofNat 32 :: b) = a :: wordsSigns b
  | [], b, _ => rfl
  | c :: a, b, h => by
    simp only [List.all_cons, Bool.and_eq_true, bne_iff_ne, ne_eq] at h
    rw [List.cons_append, words_cons _ _ h.1, words_word a b (by simpa using h.2)]
set_option maxRecDepth 100000 in
theorem split1 : iniP.1 = iniP.1.take 7 ++ Char.ofNat 32 :: iniP.1.drop 8 := by kernel_rfl
set_option maxRecDepth 100000 in
theorem split2 : iniP.1.drop 8 = (iniP.1.drop 8).take 64 ++ Char.ofNat 32 :: iniP.1.drop 73 := by kernel_rfl
set_option maxRecDepth 100000 in
theorem split3 : iniP.1.drop 73 = (iniP.1.drop 73).take 3 ++ Char.ofNat 32 :: iniP.1.drop 77 := by kernel_rfl
theorem isCut : (iniP.1.drop 73).take 3 = "cut".toList := by kernel_rfl
set_option maxRecDepth 100000 in
theorem isHead : ((iniP.1.take 7 == "harness".toList || iniP.1.take 7 == "ownmain".toList) && isSumSigns ((iniP.1.drop 8).take 64)) = true := by kernel_rfl
theorem wordsL : wordsSigns iniP.1 = iniP.1.take 7 :: (iniP.1.drop 8).take 64 :: "cut".toList :: wordsSigns (iniP.1.drop 77) := by
  rw [← isCut]
  conv => lhs; rw [split1]
  rw [words_word _ _ (by kernel_rfl)]
  conv => lhs; rw [split2]
  rw [words_word _ _ (by kernel_rfl)]
  conv => lhs; rw [split3]
  rw [words_word _ _ (by kernel_rfl)]
theorem behindL : behindMainWord (wordsSigns Try.prog.initOrder.toList) = "cut".toList :: wordsSigns (iniP.1.drop 77) := by
  rw [iniL, wordsL]
  unfold behindMainWord
  simp only [isHead, if_true]
theorem stripL (ws : List (List Char)) : stripLifts liftWords ("cut".toList :: ws) = ([], "cut".toList :: ws) := by kernel_rfl
section
variable (P : Program) (ws : List (List Char)) (h : behindMainWord (wordsSigns P.initOrder.toList) = "cut".toList :: ws)
include h
theorem head_of : P.headLifts = [] := by
  unfold Program.headLifts
  rw [h]
  simp only [stripL]
  kernel_rfl
theorem make_of : P.make = some .cut := by
  unfold Program.make
  rw [h, head_of P ws h]
  kernel_rfl
theorem lifts_of : P.liftsFinal = false := by
  unfold Program.liftsFinal
  rw [h, head_of P ws h]
  kernel_rfl
theorem enter_of (h1 : P.laysLater = false) (h2 : P.bearsReflect = false) (h3 : P.doorFits [] = true) : P.mayEnter = true := by
  unfold Program.mayEnter
  rw [h]
  simp only [stripL]
  rw [h1, h2, h3]
  kernel_rfl
end
theorem mayE : Try.pinned.checked.prog.mayEnter = true := enter_of _ _ behindL (by kernel_rfl) (by kernel_rfl) (by kernel_rfl)
theorem liftsF : Try.pinned.checked.prog.liftsFinal = false := lifts_of _ _ behindL
theorem makeF : Try.pinned.checked.prog.make = some .cut := make_of _ _ behindL
theorem both {a b : Bool} (h : a = true) (k : b = true) : (a && b) = true := by rw [h, k]; rfl
end Go.Proofs.Ytikegdidffjoeaa


/- The law FnExactFindRenumbering returns true. The dump's head word by word, cheaply: what every row asks of it. -/
import Derived.Test.YtoicdfdfajfopaaJ18
import Derived.Deep.RegionHeld3
import Derived.Deep.RegionWith
import Derived.Deep.DeepCutAuto


namespace Go.Proofs.Ytoicdfdfajfopaa
open Go.RowKit Go.Maps
set_option maxRecDepth 100000 in
set_option maxHeartbeats 2000000 in
theorem FnExactFindRenumbering_main (v0 : Int) (s0 : Value) (bs0 : List Blk) (v1 : Int) (s1 : Value) (bs1 : List Blk) (w : World) (h0 : InB w s0 bs0) (h1 : InB w s1 bs1) (hl : bs0.length + bs1.length ≤ 1048576) :
    Calls Try.prog 4 #[.agg #[.int .i64 v0, s0], .agg #[.int .i64 v1, s1]] w (RV (.bool true) w) := by
  have hsl0 := h0.slice
  have hbd0 := h0.2.1
  have hsz0 := szSystem_any v0 s0 bs0.length hsl0 (by omega) 1048576 (by omega) (by omega)
  rw [if_neg (by omega)] at hsz0
  obtain ⟨m0, hm0⟩ : ∃ m, m = (1048576 : Int) - (bs0.length : Int) := ⟨_, rfl⟩
  rw [← hm0] at hsz0
  have hmp0 : 0 ≤ m0 := by omega
  have hsl1 := h1.slice
  have hbd1 := h1.2.1
  have hsz1 := szSystem_any v1 s1 bs1.length hsl1 (by omega) (m0) (by omega) (by omega)
  rw [if_neg (by omega)] at hsz1
  obtain ⟨m1, hm1⟩ : ∃ m, m = (m0 : Int) - (bs1.length : Int) := ⟨_, rfl⟩
  rw [← hm1] at hsz1
  have hmp1 : 0 ≤ m1 := by omega
  have HSZ0 := Lib.hid hsz0
  have HSB0 := Lib.hid (h0.sb (by omega))
  have HBD0 := Lib.hid (show bs0.length ≤ 1100000 by omega)
  have HWF0 := Lib.hid h0.1
  have HSZ1 := Lib.hid hsz1
  have HSB1 := Lib.hid (h1.sb (by omega))
  have HBD1 := Lib.hid (show bs1.length ≤ 1100000 by omega)
  have HWF1 := Lib.hid h1.1
  obtain ⟨L, hL⟩ : ∃ L, L = (finF v0 bs0 v1 bs1).1 := ⟨_, rfl⟩
  obtain ⟨κ, hκ⟩ : ∃ κ, κ = (finF v0 bs0 v1 bs1).2 := ⟨_, rfl⟩
  have hp : finF v0 bs0 v1 bs1 = (L, κ) := by rw [hL, hκ]
  have LBD := Lib.hid (show L.length ≤ 1100000 by rw [hL]; exact Nat.le_trans (finF_len v0 bs0 v1 bs1) (by omega))
  have HSP := Lib.hid fun (W : World) (t0 : Value) (r0 : SC W t0 bs0) (t1 : Value) (r1 : SC W t1 bs1) => specFind_any v0 v1 t0 t1 bs0 bs1 W r0.1 r1.1
  have HIM := Lib.hid fun (W : World) (t0 : Value) (r0 : SB W t0 bs0) (t1 : Value) (r1 : SB W t1 bs1) => Find_any v0 v1 t0 t1 bs0 bs1 W r0 r1
  rw [hp] at HSP HIM
  have hnk : (κ != κ) = false := by simp
  clear hsz0 hm0 hbd0 hsz1 hm1 hbd1 hL hκ hp h0 h1 hl
  obtain ⟨a0, c0, rfl⟩ := hsl0
  obtain ⟨a1, c1, rfl⟩ := hsl1
  go_enter Try.func4, Try.ntmps4
  have hm := (((Mem.start w).pushVar v0 (.slice a0 bs0.length c0) 24).pushVar v1 (.slice a1 bs1.length c1) 24)
  have fA10 := (hm.var 0 rfl).c0
  have fA11 := (hm.var 0 rfl).c1
  have fA00 := (hm.var 1 rfl).c0
  have fA01 := (hm.var 1 rfl).c1
  have HM := Lib.hid hm
  clear hm
  try simp only [World.size_alloc] at fA10 fA11 fA00 fA01
  go_wp2_with fail
  refine (HSZ0.out _).mono ?_
  rintro e w1 ⟨rfl, hbw1⟩
  have hm := HM.out.step (gb_below hbw1)
  clear fA10 fA11 fA00 fA01
  clear HM hbw1
  have fA10 := (hm.var 0 rfl).c0
  have fA11 := (hm.var 0 rfl).c1
  have fA00 := (hm.var 1 rfl).c0
  have fA01 := (hm.var 1 rfl).c1
  have HM := Lib.hid hm
  clear hm
  try simp only [World.size_alloc] at fA10 fA11 fA00 fA01
  go_wp2_with fail
  refine (HSZ1.out _).mono ?_
  rintro e w2 ⟨rfl, hbw2⟩
  have hm := HM.out.step (gb_below hbw2)
  clear fA10 fA11 fA00 fA01
  clear HM hbw2
  have fA10 := (hm.var 0 rfl).c0
  have fA11 := (hm.var 0 rfl).c1
  have fA00 := (hm.var 1 rfl).c0
  have fA01 := (hm.var 1 rfl).c1
  have HM := Lib.hid hm
  clear hm
  try simp only [World.size_alloc] at fA10 fA11 fA00 fA01
  go_upto_region 8 with fail
  go_cut [6, 7] (fun bx kv wx => IntRel HM.out L κ bx kv wx)
  case first =>
    have lA1 := (HM.out.var 0 rfl).lt
    have lA0 := (HM.out.var 1 rfl).lt
    try simp only [World.size_alloc] at lA1 lA0
    go_region_held3 (fun w' => w'.cell? ⟨w.heap.size + 1, 0, none⟩ = some (.int .i64 v1) ∧ w'.cell? ⟨w.heap.size + 1, 1, none⟩ = some (.slice a1 bs1.length c1) ∧ w'.cell? ⟨w.heap.size, 0, none⟩ = some (.int .i64 v0) ∧ w'.cell? ⟨w.heap.size, 1, none⟩ = some (.slice a0 bs0.length c0))
      (first | exact ⟨fA10w3, fA11w3, fA00w3, fA01w3⟩ | exact ⟨fA10w4, fA11w4, fA00w4, fA01w4⟩ | exact ⟨fA10w5, fA11w5, fA00w5, fA01w5⟩ | go_keep)
      (first
        | (go_at_call_of 17 (Value.slice a0 bs0.length c0); refine (toSystem_any v0 _ bs0 _ ?_).mono ?_; (first | exact HSB0.out.below HM.out.below (Nat.le_refl _) | exact HSB0.out.below HM.out.below.drew (Nat.le_refl _) | exact HSB0.out.below (HM.out.below.alloc HM.out.below.size _) (Nat.le_refl _) | exact HSB0.out.below (HM.out.below.alloc HM.out.below.size _).drew (Nat.le_refl _)); rintro e w3 ⟨tw3, rfl, how3, hbw3⟩; have hstw3 : Below w2.heap.size w2 w3 := (by first | exact hbw3 | exact ((Below.refl _ _).drew).trans (hbw3.mono (by simp)) | exact ((Below.refl _ _).alloc (Nat.le_refl _) _).trans (hbw3.mono (by simp)) | exact (((Below.refl _ _).alloc (Nat.le_refl _) _).drew).trans (hbw3.mono (by simp))); have hmw3 := HM.out.step (gb_below hstw3); have fA10w3 := (hmw3.var 0 rfl).c0; have fA11w3 := (hmw3.var 0 rfl).c1; have fA00w3 := (hmw3.var 1 rfl).c0; have fA01w3 := (hmw3.var 1 rfl).c1; (try simp only [World.size_alloc] at fA10w3 fA11w3 fA00w3 fA01w3); have q0w3 := how3.sc HWF0.out HBD0.out; obtain ⟨gw3, capw3, hsw3, _⟩ := id how3; subst hsw3)
        | (go_at_call_of 17 (Value.slice a1 bs1.length c1); refine (toSystem_any v1 _ bs1 _ ?_).mono ?_; (first | exact HSB1.out.below hmw3.below (Nat.le_refl _) | exact HSB1.out.below hmw3.below.drew (Nat.le_refl _) | exact HSB1.out.below (hmw3.below.alloc hmw3.below.size _) (Nat.le_refl _) | exact HSB1.out.below (hmw3.below.alloc hmw3.below.size _).drew (Nat.le_refl _)); rintro e w4 ⟨tw4, rfl, how4, hbw4⟩; have hstw4 : Below w3.heap.size w3 w4 := (by first | exact hbw4 | exact ((Below.refl _ _).drew).trans (hbw4.mono (by simp)) | exact ((Below.refl _ _).alloc (Nat.le_refl _) _).trans (hbw4.mono (by simp)) | exact (((Below.refl _ _).alloc (Nat.le_refl _) _).drew).trans (hbw4.mono (by simp))); have hmw4 := hmw3.step (gb_below hstw4); have fA10w4 := (hmw4.var 0 rfl).c0; have fA11w4 := (hmw4.var 0 rfl).c1; have fA00w4 := (hmw4.var 1 rfl).c0; have fA01w4 := (hmw4.var 1 rfl).c1; (try simp only [World.size_alloc] at fA10w4 fA11w4 fA00w4 fA01w4); have q0w4 := q0w3.below hstw4 (Nat.le_refl _); have q1w4 := how4.sc HWF1.out HBD1.out; obtain ⟨gw4, capw4, hsw4, _⟩ := id how4; subst hsw4)
        | (go_at_call 22; refine (HSP.out _ _ ?_ _ ?_).mono ?_; (first | exact q0w4 | exact (q0w4).below ((Below.refl _ _).drew) (Nat.le_refl _) | exact (q0w4).below ((Below.refl _ _).alloc (Nat.le_refl _) _) (Nat.le_refl _) | exact (q0w4).below (((Below.refl _ _).alloc (Nat.le_refl _) _).drew) (Nat.le_refl _)); (first | exact q1w4 | exact (q1w4).below ((Below.refl _ _).drew) (Nat.le_refl _) | exact (q1w4).below ((Below.refl _ _).alloc (Nat.le_refl _) _) (Nat.le_refl _) | exact (q1w4).below (((Below.refl _ _).alloc (Nat.le_refl _) _).drew) (Nat.le_refl _)); rintro e w5 ⟨uw5, rfl, hrow5, hbw5⟩; have hrw5 := hrow5.res LBD.out; obtain ⟨aw5, nw5, hsw5⟩ := hrw5.slice; subst hsw5; have hstw5 : Below w4.heap.size w4 w5 := (by first | exact hbw5 | exact ((Below.refl _ _).drew).trans (hbw5.mono (by simp)) | exact ((Below.refl _ _).alloc (Nat.le_refl _) _).trans (hbw5.mono (by simp)) | exact (((Below.refl _ _).alloc (Nat.le_refl _) _).drew).trans (hbw5.mono (by simp))); have hmw5 := hmw4.step (gb_below hstw5); have fA10w5 := (hmw5.var 0 rfl).c0; have fA11w5 := (hmw5.var 0 rfl).c1; have fA00w5 := (hmw5.var 1 rfl).c0; have fA01w5 := (hmw5.var 1 rfl).c1; (try simp only [World.size_alloc] at fA10w5 fA11w5 fA00w5 fA01w5))
      )
    all_goals
      go_wp2_with fail
      go_meet
      first | exact IntRel.mk' hmw4 hstw5 (hrw5.wide (by first | exact Nat.le_refl _ | simp) (Nat.le_refl _)) | exact (IntRel.mk' hmw4 hstw5 (hrw5.wide (by first | exact Nat.le_refl _ | simp) (Nat.le_refl _))).drew
  case rest =>
  obtain ⟨loW, hiW, aW, nW, rfl, rfl, hm⟩ := hcut
  obtain ⟨yW, rfl⟩ : ∃ W, W = wc := ⟨_, rfl⟩
  clear fA10 fA11 fA00 fA01
  clear HM
  have fA10 := (hm.var 1 rfl).c0
  have fA11 := (hm.var 1 rfl).c1
  have fA00 := (hm.var 2 rfl).c0
  have fA01 := (hm.var 2 rfl).c1
  have HM := Lib.hid hm
  clear hm
  try simp only [World.size_alloc] at fA10 fA11 fA00 fA01
  go_wp2_with fail
  refine (toSystem_any v0 _ bs0 _ (HSB0.out.below HM.out.below (Nat.le_refl _))).mono ?_
  rintro e w6 ⟨tw6, rfl, how6, hbw6⟩
  have hrw6 := how6.res
  obtain ⟨gw6, capw6, hsw6, _⟩ := id how6
  subst hsw6
  have hm := (HM.out.pushB hbw6 hrw6).pushVar v0 (.slice (some ⟨gw6, 0, none⟩) bs0.length capw6) 31
  clear fA10 fA11 fA00 fA01
  clear HM hbw6 hrw6 how6
  have fVX00 := (hm.var 0 rfl).c0
  have fVX01 := (hm.var 0 rfl).c1
  have fA10 := (hm.var 3 rfl).c0
  have fA11 := (hm.var 3 rfl).c1
  have fA00 := (hm.var 4 rfl).c0
  have fA01 := (hm.var 4 rfl).c1
  have HM := Lib.hid hm
  clear hm
  try simp only [World.size_alloc] at fVX00 fVX01 fA10 fA11 fA00 fA01
  go_wp2_with fail
  refine (toSystem_any v1 _ bs1 _ (HSB1.out.below HM.out.below (Nat.le_refl _))).mono ?_
  rintro e w7 ⟨tw7, rfl, how7, hbw7⟩
  have hrw7 := how7.res
  obtain ⟨gw7, capw7, hsw7, _⟩ := id how7
  subst hsw7
  have hm := (HM.out.pushB hbw7 hrw7).pushVar v1 (.slice (some ⟨gw7, 0, none⟩) bs1.length capw7) 31
  clear fVX00 fVX01 fA10 fA11 fA00 fA01
  clear HM hbw7 hrw7 how7
  have fVX10 := (hm.var 0 rfl).c0
  have fVX11 := (hm.var 0 rfl).c1
  have fVX00 := (hm.var 2 rfl).c0
  have fVX01 := (hm.var 2 rfl).c1
  have fA10 := (hm.var 5 rfl).c0
  have fA11 := (hm.var 5 rfl).c1
  have fA00 := (hm.var 6 rfl).c0
  have fA01 := (hm.var 6 rfl).c1
  have HM := Lib.hid hm
  clear hm
  try simp only [World.size_alloc] at fVX10 fVX11 fVX00 fVX01 fA10 fA11 fA00 fA01
  go_wp2_with fail
  refine (HIM.out _ _ ((HM.out.blks 3 rfl).sb HWF0.out HBD0.out) _ ((HM.out.blks 1 rfl).sb HWF1.out HBD1.out)).mono ?_
  rintro e w8 ⟨uw8, rfl, hrow8, hbw8⟩
  have hrw8 := hrow8.res LBD.out
  clear hrow8
  obtain ⟨aG, nG, hsw8⟩ := hrw8.slice
  subst hsw8
  have hm := (HM.out.pushI hbw8 hrw8)
  clear fVX10 fVX11 fVX00 fVX01 fA10 fA11 fA00 fA01
  clear HM hbw8 hrw8
  have fVX10 := (hm.var 1 rfl).c0
  have fVX11 := (hm.var 1 rfl).c1
  have fVX00 := (hm.var 3 rfl).c0
  have fVX01 := (hm.var 3 rfl).c1
  have fA10 := (hm.var 6 rfl).c0
  have fA11 := (hm.var 6 rfl).c1
  have fA00 := (hm.var 7 rfl).c0
  have fA01 := (hm.var 7 rfl).c1
  have HM := Lib.hid hm
  clear hm
  try simp only [World.size_alloc] at fVX10 fVX11 fVX00 fVX01 fA10 fA11 fA00 fA01
  go_wp2_with fail
  refine (eqInt64S_same _ _ L _ ((HM.out.ints 0 rfl).ib LBD.out) ((HM.out.ints 5 rfl).ib LBD.out)).mono ?_
  rintro e w9 ⟨rfl, hbw9⟩
  have hm := HM.out.step (gb_below hbw9)
  clear fVX10 fVX11 fVX00 fVX01 fA10 fA11 fA00 fA01
  clear HM hbw9
  have fVX10 := (hm.var 1 rfl).c0
  have fVX11 := (hm.var 1 rfl).c1
  have fVX00 := (hm.var 3 rfl).c0
  have fVX01 := (hm.var 3 rfl).c1
  have fA10 := (hm.var 6 rfl).c0
  have fA11 := (hm.var 6 rfl).c1
  have fA00 := (hm.var 7 rfl).c0
  have fA01 := (hm.var 7 rfl).c1
  have HM := Lib.hid hm
  clear hm
  try simp only [World.size_alloc] at fVX10 fVX11 fVX00 fVX01 fA10 fA11 fA00 fA01
  go_upto_region 14 with fail
  go_cut [58] (fun sq wx => sq = .bool false ∧ MemOf HM.out wx)
  case first =>
    go_region_with (first | (go_at_call 17; refine (toSystem_any v0 _ bs0 _ ?_).mono ?_; (exact HSB0.out.below HM.out.below.drew (Nat.le_refl _)); rintro e w10 ⟨tw10, rfl, how10, hbw10⟩; have hmx := (HM.out.step (gb_drew1 _)).step (gb_below hbw10); have ec0 := (hmx.var 3 rfl).c0; have ec1 := (hmx.var 3 rfl).c1; have HMX := Lib.hid hmx; clear hmx; have hsbw10 := how10.sb HWF0.out HBD0.out; obtain ⟨gw10, capw10, hsw10, _⟩ := id how10; subst hsw10) | (go_at_call 20; refine (eqSystem_same v0 _ _ bs0 _ ?_ ?_).mono ?_; (exact ((HMX.out.blks 4 rfl).sb HWF0.out HBD0.out)); (exact hsbw10); rintro e w11 ⟨rfl, hbw11⟩))
    all_goals
      go_wp2_with fail
      go_meet
      exact ⟨rfl, HMX.out.step (gb_below hbw11)⟩
  case rest =>
  obtain ⟨rfl, hm⟩ := hcut
  unfold MemOf at hm
  obtain ⟨yc0, rfl⟩ : ∃ W, W = wc := ⟨_, rfl⟩
  clear fVX10 fVX11 fVX00 fVX01 fA10 fA11 fA00 fA01
  clear HM
  have fVX10 := (hm.var 1 rfl).c0
  have fVX11 := (hm.var 1 rfl).c1
  have fVX00 := (hm.var 3 rfl).c0
  have fVX01 := (hm.var 3 rfl).c1
  have fA10 := (hm.var 6 rfl).c0
  have fA11 := (hm.var 6 rfl).c1
  have fA00 := (hm.var 7 rfl).c0
  have fA01 := (hm.var 7 rfl).c1
  have HM := Lib.hid hm
  clear hm
  try simp only [World.size_alloc] at fVX10 fVX11 fVX00 fVX01 fA10 fA11 fA00 fA01
  go_upto_region 16 with fail
  go_cut [63] (fun sq wx => sq = .bool false ∧ MemOf HM.out wx)
  case first =>
    go_region_with (first | (go_at_call 17; refine (toSystem_any v1 _ bs1 _ ?_).mono ?_; (exact HSB1.out.below HM.out.below.drew (Nat.le_refl _)); rintro e w12 ⟨tw12, rfl, how12, hbw12⟩; have hmx := (HM.out.step (gb_drew1 _)).step (gb_below hbw12); have ec0 := (hmx.var 1 rfl).c0; have ec1 := (hmx.var 1 rfl).c1; have HMX := Lib.hid hmx; clear hmx; have hsbw12 := how12.sb HWF1.out HBD1.out; obtain ⟨gw12, capw12, hsw12, _⟩ := id how12; subst hsw12) | (go_at_call 20; refine (eqSystem_same v1 _ _ bs1 _ ?_ ?_).mono ?_; (exact ((HMX.out.blks 2 rfl).sb HWF1.out HBD1.out)); (exact hsbw12); rintro e w13 ⟨rfl, hbw13⟩))
    all_goals
      go_wp2_with fail
      go_meet
      exact ⟨rfl, HMX.out.step (gb_below hbw13)⟩
  case rest =>
  obtain ⟨rfl, hm⟩ := hcut
  unfold MemOf at hm
  obtain ⟨yc1, rfl⟩ : ∃ W, W = wc := ⟨_, rfl⟩
  clear fVX10 fVX11 fVX00 fVX01 fA10 fA11 fA00 fA01
  clear HM
  have fVX10 := (hm.var 1 rfl).c0
  have fVX11 := (hm.var 1 rfl).c1
  have fVX00 := (hm.var 3 rfl).c0
  have fVX01 := (hm.var 3 rfl).c1
  have fA10 := (hm.var 6 rfl).c0
  have fA11 := (hm.var 6 rfl).c1
  have fA00 := (hm.var 7 rfl).c0
  have fA01 := (hm.var 7 rfl).c1
  have HM := Lib.hid hm
  clear hm
  try simp only [World.size_alloc] at fVX10 fVX11 fVX00 fVX01 fA10 fA11 fA00 fA01
  go_wp2_with fail
  refine (markSystem_any _ _ v0 _ bs0 1 _ (HM.out.blks 4 rfl) HBD0.out (by omega) (by omega)).mono ?_
  rintro e w14 ⟨rfl, hww14, hrw14⟩
  have hm := HM.out.markB 4 rfl hww14 hrw14
  clear fVX10 fVX11 fVX00 fVX01 fA10 fA11 fA00 fA01
  clear HM hww14 hrw14
  have fVX10 := (hm.var 1 rfl).c0
  have fVX11 := (hm.var 1 rfl).c1
  have fVX00 := (hm.var 3 rfl).c0
  have fVX01 := (hm.var 3 rfl).c1
  have fA10 := (hm.var 6 rfl).c0
  have fA11 := (hm.var 6 rfl).c1
  have fA00 := (hm.var 7 rfl).c0
  have fA01 := (hm.var 7 rfl).c1
  have HM := Lib.hid hm
  clear hm
  try simp only [World.size_alloc] at fVX10 fVX11 fVX00 fVX01 fA10 fA11 fA00 fA01
  obtain ⟨kw14, hkw14⟩ : ∃ m, m = 1 + 3 * (bs0.length : Int) := ⟨_, rfl⟩
  rw [← hkw14]
  have h0kw14 : 0 ≤ kw14 := by have := HBD0.out; omega
  have h1kw14 : kw14 ≤ 3300001 := by have := HBD0.out; omega
  clear hkw14
  go_wp2_with fail
  refine (markSystem_any _ _ v1 _ bs1 kw14 _ (HM.out.blks 2 rfl) HBD1.out (by omega) (by omega)).mono ?_
  rintro e w15 ⟨rfl, hww15, hrw15⟩
  have hm := HM.out.markB 2 rfl hww15 hrw15
  clear fVX10 fVX11 fVX00 fVX01 fA10 fA11 fA00 fA01
  clear HM hww15 hrw15
  have fVX10 := (hm.var 1 rfl).c0
  have fVX11 := (hm.var 1 rfl).c1
  have fVX00 := (hm.var 3 rfl).c0
  have fVX01 := (hm.var 3 rfl).c1
  have fA10 := (hm.var 6 rfl).c0
  have fA11 := (hm.var 6 rfl).c1
  have fA00 := (hm.var 7 rfl).c0
  have fA01 := (hm.var 7 rfl).c1
  have HM := Lib.hid hm
  clear hm
  try simp only [World.size_alloc] at fVX10 fVX11 fVX00 fVX01 fA10 fA11 fA00 fA01
  obtain ⟨kw15, hkw15⟩ : ∃ m, m = kw14 + 3 * (bs1.length : Int) := ⟨_, rfl⟩
  rw [← hkw15]
  have h0kw15 : 0 ≤ kw15 := by have := HBD1.out; omega
  have h1kw15 : kw15 ≤ 6600001 := by have := HBD1.out; omega
  clear hkw15
  go_wp2_with fail
  refine (eqInt64S_same _ _ L _ ((HM.out.ints 0 rfl).ib LBD.out) ((HM.out.ints 5 rfl).ib LBD.out)).mono ?_
  rintro e w16 ⟨rfl, hbw16⟩
  have hm := HM.out.step (gb_below hbw16)
  clear fVX10 fVX11 fVX00 fVX01 fA10 fA11 fA00 fA01
  clear HM hbw16
  have fVX10 := (hm.var 1 rfl).c0
  have fVX11 := (hm.var 1 rfl).c1
  have fVX00 := (hm.var 3 rfl).c0
  have fVX01 := (hm.var 3 rfl).c1
  have fA10 := (hm.var 6 rfl).c0
  have fA11 := (hm.var 6 rfl).c1
  have fA00 := (hm.var 7 rfl).c0
  have fA01 := (hm.var 7 rfl).c1
  have HM := Lib.hid hm
  clear hm
  try simp only [World.size_alloc] at fVX10 fVX11 fVX00 fVX01 fA10 fA11 fA00 fA01
  go_wp2_with fail
  refine (markJ _ _ _ L 1 _ (HM.out.ints 0 rfl) LBD.out (by omega) (by omega)).mono ?_
  rintro e w17 ⟨rfl, hww17, hrw17⟩
  have hm := HM.out.markI 0 rfl hww17 hrw17
  clear fVX10 fVX11 fVX00 fVX01 fA10 fA11 fA00 fA01
  clear HM hww17 hrw17
  have fVX10 := (hm.var 1 rfl).c0
  have fVX11 := (hm.var 1 rfl).c1
  have fVX00 := (hm.var 3 rfl).c0
  have fVX01 := (hm.var 3 rfl).c1
  have fA10 := (hm.var 6 rfl).c0
  have fA11 := (hm.var 6 rfl).c1
  have fA00 := (hm.var 7 rfl).c0
  have fA01 := (hm.var 7 rfl).c1
  have HM := Lib.hid hm
  clear hm
  try simp only [World.size_alloc] at fVX10 fVX11 fVX00 fVX01 fA10 fA11 fA00 fA01
  have hheld := fun lo hi W (h : ResI W lo hi (Value.slice aG L.length nG) (markI 1 L.length)) => heldJ lo hi (.slice aG L.length nG) L.length 1 W h LBD.out (by omega) (by omega)
  obtain ⟨m5, hm5⟩ : ∃ m5, m5 = 1 + (L.length : Int) := ⟨_, rfl⟩
  rw [← hm5] at hheld ⊢
  have HHELD := Lib.hid hheld
  have m50 : 0 ≤ m5 := by omega
  have hn5 : (m5 != m5) = false := by simp
  clear hm5 hheld
  go_wp2_with fail
  refine (HHELD.out _ _ _ (HM.out.ints 0 rfl)).mono ?_
  rintro e w18 ⟨rfl, rfl⟩
  go_upto_region 31 with fail
  go_cut [15, 16] (fun bx kv wx => IntRel HM.out L κ bx kv wx)
  case first =>
    have lVX1 := (HM.out.var 1 rfl).lt
    have lVX0 := (HM.out.var 3 rfl).lt
    have lA1 := (HM.out.var 6 rfl).lt
    have lA0 := (HM.out.var 7 rfl).lt
    try simp only [World.size_alloc] at lVX1 lVX0 lA1 lA0
    go_region_held3 (fun w' => w'.cell? ⟨w7.heap.size, 0, none⟩ = some (.int .i64 v1) ∧ w'.cell? ⟨w7.heap.size, 1, none⟩ = some (.slice (some ⟨gw7, 0, none⟩) bs1.length capw7) ∧ w'.cell? ⟨w6.heap.size, 0, none⟩ = some (.int .i64 v0) ∧ w'.cell? ⟨w6.heap.size, 1, none⟩ = some (.slice (some ⟨gw6, 0, none⟩) bs0.length capw6) ∧ w'.cell? ⟨w.heap.size + 1, 0, none⟩ = some (.int .i64 v1) ∧ w'.cell? ⟨w.heap.size + 1, 1, none⟩ = some (.slice a1 bs1.length c1) ∧ w'.cell? ⟨w.heap.size, 0, none⟩ = some (.int .i64 v0) ∧ w'.cell? ⟨w.heap.size, 1, none⟩ = some (.slice a0 bs0.length c0))
      (first | exact ⟨fVX10w19, fVX11w19, fVX00w19, fVX01w19, fA10w19, fA11w19, fA00w19, fA01w19⟩ | exact ⟨fVX10w20, fVX11w20, fVX00w20, fVX01w20, fA10w20, fA11w20, fA00w20, fA01w20⟩ | exact ⟨fVX10w21, fVX11w21, fVX00w21, fVX01w21, fA10w21, fA11w21, fA00w21, fA01w21⟩ | go_keep)
      (first
        | (go_at_call_of 17 (Value.slice a0 bs0.length c0); refine (toSystem_any v0 _ bs0 _ ?_).mono ?_; (first | exact HSB0.out.below HM.out.below (Nat.le_refl _) | exact HSB0.out.below HM.out.below.drew (Nat.le_refl _) | exact HSB0.out.below (HM.out.below.alloc HM.out.below.size _) (Nat.le_refl _) | exact HSB0.out.below (HM.out.below.alloc HM.out.below.size _).drew (Nat.le_refl _)); rintro e w19 ⟨tw19, rfl, how19, hbw19⟩; have hstw19 : Below w17.heap.size w17 w19 := (by first | exact hbw19 | exact ((Below.refl _ _).drew).trans (hbw19.mono (by simp)) | exact ((Below.refl _ _).alloc (Nat.le_refl _) _).trans (hbw19.mono (by simp)) | exact (((Below.refl _ _).alloc (Nat.le_refl _) _).drew).trans (hbw19.mono (by simp))); have hmw19 := HM.out.step (gb_below hstw19); have fVX10w19 := (hmw19.var 1 rfl).c0; have fVX11w19 := (hmw19.var 1 rfl).c1; have fVX00w19 := (hmw19.var 3 rfl).c0; have fVX01w19 := (hmw19.var 3 rfl).c1; have fA10w19 := (hmw19.var 6 rfl).c0; have fA11w19 := (hmw19.var 6 rfl).c1; have fA00w19 := (hmw19.var 7 rfl).c0; have fA01w19 := (hmw19.var 7 rfl).c1; (try simp only [World.size_alloc] at fVX10w19 fVX11w19 fVX00w19 fVX01w19 fA10w19 fA11w19 fA00w19 fA01w19); have q0w19 := how19.sb HWF0.out HBD0.out; obtain ⟨gw19, capw19, hsw19, _⟩ := id how19; subst hsw19)
        | (go_at_call_of 17 (Value.slice a1 bs1.length c1); refine (toSystem_any v1 _ bs1 _ ?_).mono ?_; (first | exact HSB1.out.below hmw19.below (Nat.le_refl _) | exact HSB1.out.below hmw19.below.drew (Nat.le_refl _) | exact HSB1.out.below (hmw19.below.alloc hmw19.below.size _) (Nat.le_refl _) | exact HSB1.out.below (hmw19.below.alloc hmw19.below.size _).drew (Nat.le_refl _)); rintro e w20 ⟨tw20, rfl, how20, hbw20⟩; have hstw20 : Below w19.heap.size w19 w20 := (by first | exact hbw20 | exact ((Below.refl _ _).drew).trans (hbw20.mono (by simp)) | exact ((Below.refl _ _).alloc (Nat.le_refl _) _).trans (hbw20.mono (by simp)) | exact (((Below.refl _ _).alloc (Nat.le_refl _) _).drew).trans (hbw20.mono (by simp))); have hmw20 := hmw19.step (gb_below hstw20); have fVX10w20 := (hmw20.var 1 rfl).c0; have fVX11w20 := (hmw20.var 1 rfl).c1; have fVX00w20 := (hmw20.var 3 rfl).c0; have fVX01w20 := (hmw20.var 3 rfl).c1; have fA10w20 := (hmw20.var 6 rfl).c0; have fA11w20 := (hmw20.var 6 rfl).c1; have fA00w20 := (hmw20.var 7 rfl).c0; have fA01w20 := (hmw20.var 7 rfl).c1; (try simp only [World.size_alloc] at fVX10w20 fVX11w20 fVX00w20 fVX01w20 fA10w20 fA11w20 fA00w20 fA01w20); have q0w20 := q0w19.below hstw20 (Nat.le_refl _); have q1w20 := how20.sb HWF1.out HBD1.out; obtain ⟨gw20, capw20, hsw20, _⟩ := id how20; subst hsw20)
        | (go_at_call 23; refine (HIM.out _ _ ?_ _ ?_).mono ?_; (first | exact q0w20 | exact (q0w20).below ((Below.refl _ _).drew) (Nat.le_refl _) | exact (q0w20).below ((Below.refl _ _).alloc (Nat.le_refl _) _) (Nat.le_refl _) | exact (q0w20).below (((Below.refl _ _).alloc (Nat.le_refl _) _).drew) (Nat.le_refl _)); (first | exact q1w20 | exact (q1w20).below ((Below.refl _ _).drew) (Nat.le_refl _) | exact (q1w20).below ((Below.refl _ _).alloc (Nat.le_refl _) _) (Nat.le_refl _) | exact (q1w20).below (((Below.refl _ _).alloc (Nat.le_refl _) _).drew) (Nat.le_refl _)); rintro e w21 ⟨uw21, rfl, hrow21, hbw21⟩; have hrw21 := hrow21.res LBD.out; obtain ⟨aw21, nw21, hsw21⟩ := hrw21.slice; subst hsw21; have hstw21 : Below w20.heap.size w20 w21 := (by first | exact hbw21 | exact ((Below.refl _ _).drew).trans (hbw21.mono (by simp)) | exact ((Below.refl _ _).alloc (Nat.le_refl _) _).trans (hbw21.mono (by simp)) | exact (((Below.refl _ _).alloc (Nat.le_refl _) _).drew).trans (hbw21.mono (by simp))); have hmw21 := hmw20.step (gb_below hstw21); have fVX10w21 := (hmw21.var 1 rfl).c0; have fVX11w21 := (hmw21.var 1 rfl).c1; have fVX00w21 := (hmw21.var 3 rfl).c0; have fVX01w21 := (hmw21.var 3 rfl).c1; have fA10w21 := (hmw21.var 6 rfl).c0; have fA11w21 := (hmw21.var 6 rfl).c1; have fA00w21 := (hmw21.var 7 rfl).c0; have fA01w21 := (hmw21.var 7 rfl).c1; (try simp only [World.size_alloc] at fVX10w21 fVX11w21 fVX00w21 fVX01w21 fA10w21 fA11w21 fA00w21 fA01w21))
      )
    all_goals
      go_wp2_with fail
      go_meet
      first | exact IntRel.mk' hmw20 hstw21 (hrw21.wide (by first | exact Nat.le_refl _ | simp) (Nat.le_refl _)) | exact (IntRel.mk' hmw20 hstw21 (hrw21.wide (by first | exact Nat.le_refl _ | simp) (Nat.le_refl _))).drew
  case rest =>
  obtain ⟨loH, hiH, aH, nH, rfl, rfl, hm⟩ := hcut
  obtain ⟨yH, rfl⟩ : ∃ W, W = wc := ⟨_, rfl⟩
  clear fVX10 fVX11 fVX00 fVX01 fA10 fA11 fA00 fA01
  clear HM
  have fVX10 := (hm.var 2 rfl).c0
  have fVX11 := (hm.var 2 rfl).c1
  have fVX00 := (hm.var 4 rfl).c0
  have fVX01 := (hm.var 4 rfl).c1
  have fA10 := (hm.var 7 rfl).c0
  have fA11 := (hm.var 7 rfl).c1
  have fA00 := (hm.var 8 rfl).c0
  have fA01 := (hm.var 8 rfl).c1
  have HM := Lib.hid hm
  clear hm
  try simp only [World.size_alloc] at fVX10 fVX11 fVX00 fVX01 fA10 fA11 fA00 fA01
  go_wp2_with fail
  refine (eqInt64S_same _ _ L _ ((HM.out.ints 0 rfl).ib LBD.out) ((HM.out.ints 6 rfl).ib LBD.out)).mono ?_
  rintro e w22 ⟨rfl, hbw22⟩
  have hm := HM.out.step (gb_below hbw22)
  clear fVX10 fVX11 fVX00 fVX01 fA10 fA11 fA00 fA01
  clear HM hbw22
  have fVX10 := (hm.var 2 rfl).c0
  have fVX11 := (hm.var 2 rfl).c1
  have fVX00 := (hm.var 4 rfl).c0
  have fVX01 := (hm.var 4 rfl).c1
  have fA10 := (hm.var 7 rfl).c0
  have fA11 := (hm.var 7 rfl).c1
  have fA00 := (hm.var 8 rfl).c0
  have fA01 := (hm.var 8 rfl).c1
  have HM := Lib.hid hm
  clear hm
  try simp only [World.size_alloc] at fVX10 fVX11 fVX00 fVX01 fA10 fA11 fA00 fA01
  go_wp2_with fail
  refine (HHELD.out _ _ _ (HM.out.ints 1 rfl)).mono ?_
  rintro e w23 ⟨rfl, rfl⟩
  go_wp2
  go_ret
  exact RV_of rfl HM.out.below
set_option maxRecDepth 100000 in
theorem FnExactFindRenumbering_long0 (v0 : Int) (s0 : Value) (bs0 : List Blk) (v1 : Int) (s1 : Value) (bs1 : List Blk) (w : World) (h0 : InB w s0 bs0) (h1 : InB w s1 bs1)  (hl : ¬ bs0.length ≤ 1048576) : Calls Try.prog 4 #[.agg #[.int .i64 v0, s0], .agg #[.int .i64 v1, s1]] w (RV (.bool true) w) := by
  have hsl0 := h0.slice
  have hbd0 := h0.2.1
  have hsz0 := szSystem_any v0 s0 bs0.length hsl0 (by omega) (1048576) (by omega) (by omega)
  rw [if_pos (by omega)] at hsz0
  have HSZ0 := Lib.hid hsz0
  have hsl1 := h1.slice
  clear hl h0 h1 hsz0 hbd0
  obtain ⟨a0, c0, rfl⟩ := hsl0
  obtain ⟨a1, c1, rfl⟩ := hsl1
  have HM := Lib.hid (((Mem.start w).pushVar v0 (.slice a0 bs0.length c0) 24).pushVar v1 (.slice a1 bs1.length c1) 24)
  go_enter Try.func4, Try.ntmps4
  go_wp2_with fail
  refine (HSZ0.out _).mono ?_
  rintro e y0 ⟨rfl, hy0⟩
  have hm := HM.out.step (gb_below hy0)
  have fb10 := (hm.var 0 rfl).c0
  have fb11 := (hm.var 0 rfl).c1
  have fb00 := (hm.var 1 rfl).c0
  have fb01 := (hm.var 1 rfl).c1
  try simp only [World.size_alloc] at fb10 fb11 fb00 fb01
  clear HM hy0
  have HM := Lib.hid hm
  clear hm
  go_wp2
  go_ret
  exact RV_of rfl HM.out.below
set_option maxRecDepth 100000 in
theorem FnExactFindRenumbering_long1 (v0 : Int) (s0 : Value) (bs0 : List Blk) (v1 : Int) (s1 : Value) (bs1 : List Blk) (w : World) (h0 : InB w s0 bs0) (h1 : InB w s1 bs1)  (hp : bs0.length ≤ 1048576) (hl : ¬ bs0.length + bs1.length ≤ 1048576) : Calls Try.prog 4 #[.agg #[.int .i64 v0, s0], .agg #[.int .i64 v1, s1]] w (RV (.bool true) w) := by
  have hsl0 := h0.slice
  have hbd0 := h0.2.1
  have hsz0 := szSystem_any v0 s0 bs0.length hsl0 (by omega) (1048576) (by omega) (by omega)
  rw [if_neg (by omega)] at hsz0
  have HSZ0 := Lib.hid hsz0
  have hsl1 := h1.slice
  have hbd1 := h1.2.1
  have hsz1 := szSystem_any v1 s1 bs1.length hsl1 (by omega) (1048576 - (bs0.length : Int)) (by omega) (by omega)
  rw [if_pos (by omega)] at hsz1
  have HSZ1 := Lib.hid hsz1
  have hdp : 0 ≤ 1048576 - (bs0.length : Int) := by omega
  clear hl h0 h1 hsz0 hbd0 hsz1 hbd1
  obtain ⟨a0, c0, rfl⟩ := hsl0
  obtain ⟨a1, c1, rfl⟩ := hsl1
  have HM := Lib.hid (((Mem.start w).pushVar v0 (.slice a0 bs0.length c0) 24).pushVar v1 (.slice a1 bs1.length c1) 24)
  go_enter Try.func4, Try.ntmps4
  go_wp2_with fail
  refine (HSZ0.out _).mono ?_
  rintro e y0 ⟨rfl, hy0⟩
  have hm := HM.out.step (gb_below hy0)
  have fb10 := (hm.var 0 rfl).c0
  have fb11 := (hm.var 0 rfl).c1
  have fb00 := (hm.var 1 rfl).c0
  have fb01 := (hm.var 1 rfl).c1
  try simp only [World.size_alloc] at fb10 fb11 fb00 fb01
  clear HM hy0
  have HM := Lib.hid hm
  clear hm
  go_wp2_with fail
  refine (HSZ1.out _).mono ?_
  rintro e y1 ⟨rfl, hy1⟩
  have hm := HM.out.step (gb_below hy1)
  clear fb10 fb11 fb00 fb01
  have fb10 := (hm.var 0 rfl).c0
  have fb11 := (hm.var 0 rfl).c1
  have fb00 := (hm.var 1 rfl).c0
  have fb01 := (hm.var 1 rfl).c1
  try simp only [World.size_alloc] at fb10 fb11 fb00 fb01
  clear HM hy1
  have HM := Lib.hid hm
  clear hm
  go_wp2
  go_ret
  exact RV_of rfl HM.out.below
theorem FnExactFindRenumbering_any (v0 : Int) (s0 : Value) (bs0 : List Blk) (v1 : Int) (s1 : Value) (bs1 : List Blk) (w : World) (h0 : InB w s0 bs0) (h1 : InB w s1 bs1) : Calls Try.prog 4 #[.agg #[.int .i64 v0, s0], .agg #[.int .i64 v1, s1]] w (RV (.bool true) w) := by
  by_cases hs0 : bs0.length ≤ 1048576
  case neg => exact FnExactFindRenumbering_long0 v0 s0 bs0 v1 s1 bs1 w h0 h1   hs0
  by_cases hs1 : bs0.length + bs1.length ≤ 1048576
  case neg => exact FnExactFindRenumbering_long1 v0 s0 bs0 v1 s1 bs1 w h0 h1  hs0 hs1
  exact FnExactFindRenumbering_main v0 s0 bs0 v1 s1 bs1 w h0 h1 hs1 
end Go.Proofs.Ytoicdfdfajfopaa

namespace Go.Proofs.Ytoicdfdfajfopaa
set_option maxRecDepth 100000 in
noncomputable def iniP : { L : List Char // Try.prog.initOrder = String.ofList L } := ⟨_, by unfold Try.prog; rfl⟩
theorem iniL : Try.prog.initOrder.toList = iniP.1 := (congrArg String.toList iniP.2).trans String.toList_ofList
theorem words_cons (c : Char) (r : List Char) (h : c ≠ Char.ofNat 32) : wordsSigns (c :: r) = match wordsSigns r with | w :: ws => (c :: w) :: ws | [] => [[c]] := by
  rw [wordsSigns]
  all_goals first | rfl | exact h | (intro e; exact h e)
theorem words_word : ∀ (a b : List Char), (a.all fun c => c != Char.ofNat 32) = true → wordsSigns (a ++ Char.ofNat 32 :: b) = a :: wordsSigns b
  | [], b, _ => rfl
  | c :: a, b, h => by
    simp only [List.all_cons, Bool.and_eq_true, bne_iff_ne, ne_eq] at h
    rw [List.cons_append, words_cons _ _ h.1, words_word a b (by simpa using h.2)]
set_option maxRecDepth 100000 in
theorem split1 : iniP.1 = iniP.1.take 7 ++ Char.ofNat 32 :: iniP.1.drop 8 := by kernel_rfl
set_option maxRecDepth 100000 in
theorem split2 : iniP.1.drop 8 = (iniP.1.drop 8).take 64 ++ Char.ofNat 32 :: iniP.1.drop 73 := by kernel_rfl
set_option maxRecDepth 100000 in
theorem split3 : iniP.1.drop 73 = (iniP.1.drop 73).take 3 ++ Char.ofNat 32 :: iniP.1.drop 77 := by kernel_rfl
theorem isCut : (iniP.1.drop 73).take 3 = "cut".toList := by kernel_rfl
set_option maxRecDepth 100000 in
theorem isHead : ((iniP.1.take 7 == "harness".toList || iniP.1.take 7 == "ownmain".toList) && isSumSigns ((iniP.1.drop 8).take 64)) = true := by kernel_rfl
theorem wordsL : wordsSigns iniP.1 = iniP.1.take 7 :: (iniP.1.drop 8).take 64 :: "cut".toList :: wordsSigns (iniP.1.drop 77) := by
  rw [← isCut]
  conv => lhs; rw [split1]
  rw [words_word _ _ (by kernel_rfl)]
  conv => lhs; rw [split2]
  rw [words_word _ _ (by kernel_rfl)]
  conv => lhs; rw [split3]
  rw [words_word _ _ (by kernel_rfl)]
theorem behindL : behindMainWord (wordsSigns Try.prog.initOrder.toList) = "cut".toList :: wordsSigns (iniP.1.drop 77) := by
  rw [iniL, wordsL]
  unfold behindMainWord
  simp only [isHead, if_true]
theorem stripL (ws : List (List Char)) : stripLifts liftWords ("cut".toList :: ws) = ([], "cut".toList :: ws) := by kernel_rfl
section
variable (P : Program) (ws : List (List Char)) (h : behindMainWord (wordsSigns P.initOrder.toList) = "cut".toList :: ws)
include h
theorem head_of : P.headLifts = [] := by
  unfold Program.headLifts
  rw [h]
  simp only [stripL]
  kernel_rfl
theorem make_of : P.make = some .cut := by
  unfold Program.make
  rw [h, head_of P ws h]
  kernel_rfl
theorem lifts_of : P.liftsFinal = false := by
  unfold Program.liftsFinal
  rw [h, head_of P ws h]
  kernel_rfl
theorem enter_of (h1 : P.laysLater = false) (h2 : P.bearsReflect = false) (h3 : P.doorFits [] = true) : P.mayEnter = true := by
  unfold Program.mayEnter
  rw [h]
  simp only [stripL]
  rw [h1, h2, h3]
  kernel_rfl
end
theorem mayE : Try.pinned.checked.prog.mayEnter = true := enter_of _ _ behindL (by kernel_rfl) (by kernel_rfl) (by kernel_rfl)
theorem liftsF : Try.pinned.checked.prog.liftsFinal = false := lifts_of _ _ behindL
theorem makeF : Try.pinned.checked.prog.make = some .cut := make_of _ _ behindL
theorem both {a b : Bool} (h : a = true) (k : b = true) : (a && b) = true := by rw [h, k]; rfl
end Go.Proofs.Ytoicdfdfajfopaa

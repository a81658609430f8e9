
/- The model's search for renumberings, where all images are known. The model's table of third points. The model's search for renumberings. -/
import Derived.Test.YtoicdfdfajfopaaJ16
import Derived.Handy
import Derived.Deep.RegionWith
namespace Go.Proofs.Ytoicdfdfajfopaa
open Go.RowKit Go.Maps
theorem tabV_of {W w2 w3 : World} {lo : Nat} {u : Value} {us : List Value} {Rs : List (List Int)} {v : Value} {zs : List Int} (h : TabL W lo u us Rs) (hlo : lo ≤ W.heap.size) (hb : Below W.heap.size W w2) (hv : OwnJ w2 W.heap.size v zs) (hb3 : Below w2.heap.size w2 w3) : TabV w3 lo u us Rs v zs := by
  have hz := hb.size
  refine TabV.below ⟨h.below hb, ownsRow_base hv hlo, fun r e e2 => ?_, fun x hx r e e2 => ?_⟩ hb3
  · have := (hv.blkP r e).1; have := (h.own.blkP r e2).2; omega
  · obtain ⟨k, hk⟩ := List.mem_iff_getElem?.1 hx
    have := (hv.blkP r e).1; have := ((h.row k x hk).blkP r e2).2; omega
/-- Behind the append the new list is put into the box. -/
theorem leaf_end {W w2 w3 : World} {P g1 g2 n most lo g2' cap2 g3 cap3 : Nat} {u : Value} {ar : Bool} {us : List Value} {fd : List (List Nat)} {l : List Nat} {o : Obj}
    (hS : SeaS W P g1 g2 n most u ar) (hPu : u.ownBlock ≠ some P) (hPx : ∀ x ∈ us, x.ownBlock ≠ some P) (_hT : TabL W lo u us (fd.map castN)) (_ : True) (hb : Below W.heap.size W w2) (ho : OwnJ w2 W.heap.size (.slice (some ⟨g2', 0, none⟩) (castN l).length cap2) (castN l))
    (hg : (w2.alloc o).grownBy w3 u.ownBlock) (hT3 : TabL w3 lo (.slice (some ⟨g3, 0, none⟩) ((fd.map castN).length + 1) cap3) (us ++ [.slice (some ⟨g2', 0, none⟩) (castN l).length cap2]) (fd.map castN ++ [castN l])) (hG : u.ownBlock = some g3 ∨ (w2.alloc o).heap.size ≤ g3) :
    w3.cell? ⟨P, 4, none⟩ = some u ∧ w3.frozen? ⟨P, 4, none⟩ = false ∧ SeaR W P g1 g2 n most lo u ar (fd ++ [l]) (w3.setCell ⟨P, 4, none⟩ (.slice (some ⟨g3, 0, none⟩) (fd.length + 1) cap3)) := by
  rw [List.length_map] at hT3
  have hP := hS.lt
  have hz := hb.size
  have hb1 : Below W.heap.size W (w2.alloc o) := hb.alloc hz _
  have hS3 : SeaS w3 P g1 g2 n most u ar := (hS.below hb1).grown hg hPu
  obtain ⟨_, _, _, _, c4, _, f4⟩ := hS3.cells
  have hz1 : (w2.alloc o).heap.size = w2.heap.size + 1 := by simp
  have hgP : g3 ≠ P := by
    rcases hG with e | e
    · exact fun e2 => hPu (e2 ▸ e)
    · omega
  have hg2P : W.heap.size ≤ g2' := (ho.blkP g2' rfl).1
  have hx3 : ∀ x ∈ us ++ [Value.slice (some ⟨g2', 0, none⟩) (castN l).length cap2], x.ownBlock ≠ some P := fun x hx => by
    rcases List.mem_append.1 hx with hx | hx
    · exact hPx x hx
    · obtain rfl := List.mem_singleton.1 hx
      intro e
      have : g2' = P := by simpa [Value.ownBlock] using e
      omega
  refine ⟨c4, f4, _, _, hS3.set _, ?_, ?_, hx3, ⟨_, _, _, rfl, by simp⟩, ?_⟩
  · rw [List.map_append, List.map_singleton]
    exact hT3.kept (only_setCell (only_refl w3 (some P)) rfl _) (fun r e => by cases e; intro e2; exact hgP (by simpa [Value.ownBlock] using e2)) (fun x hx r e => by cases e; exact hx3 x hx)
  · intro e
    exact hgP (by simpa [Value.ownBlock] using e)
  · refine ((Kps.of_below hb1 P u).trans (Kps.of_grown hg fun r e => ?_)).trans (Kps.of_setCell P _ w3 4 _)
    have e : g3 = r := by simpa [Value.ownBlock] using e
    exact e ▸ hG
set_option maxRecDepth 100000 in
set_option maxHeartbeats 2000000 in
theorem goLeaf (P g1 g2 n most lo : Nat) (u s : Value) (ar β : Bool) (us : List Value) (fd : List (List Nat)) (l : List Nat) (q : Int) (W : World) (hn : n ≤ 15) (hl : l.length = n) (hS : SeaS W P g1 g2 n most u ar) (hT : TabL W lo u us (fd.map castN)) (hPu : u.ownBlock ≠ some P) (hPx : ∀ x ∈ us, x.ownBlock ≠ some P)
    (hu : ∃ a m c, u = .slice a m c ∧ m = fd.length) (hL : LstI P u W s (castN l)) (hlo : lo ≤ W.heap.size) (hfd : fd.length < most) (hmost : most ≤ 1000000)
    (hA : (ar = false ∧ β = true) ∨ (ar = true ∧ ∀ W', Below W.heap.size W W' → Calls Try.prog 118 #[s] W' (RV (.bool β) W'))) :
    Calls Try.prog 98 #[.pointer (some ⟨P, 0, none⟩), s, .int .i64 q] W (fun e W' => (∃ v, e = .returned v) ∧ SeaR W P g1 g2 n most lo u ar (if β then fd ++ [l] else fd) W') := by
  have hcl : (castN l).length = n := by simp [castN, hl]
  have HOW := Lib.hid fun W' (hb : Below W.heap.size W W') => l01Own_any s (castN l) W' (hL.ia.below hb (Nat.le_refl _)) (by omega)
  have HS6 := Lib.hid hS
  have HT6 := Lib.hid hT
  have HPU := Lib.hid hPu
  have HPX := Lib.hid hPx
  have HLO := Lib.hid hlo
  have HUF := Lib.hid hu
  obtain ⟨b, off, cap, rfl, _⟩ := hL
  rw [hcl] at HOW ⊢ hA
  obtain ⟨cc0, cc1, cc2, cc3, cc4, cc5, cf4⟩ := hS.cells
  have heq : ((n : Int) == (n : Int)) = true := by simp
  have HCL := Lib.hid hcl
  clear hS hT hPu hPx hlo hcl hu
  rcases hA with ⟨rfl, rfl⟩ | ⟨rfl, hA⟩
  · rw [if_pos rfl]
    go_enter Try.func98, Try.ntmps98
    go_wp2
    have HBV := Lib.hid (Below.refl W.heap.size W)
    refine wp_region_B (S := (fun w' : World => w'.cell? ⟨P, 4, none⟩ = some u)) 12 (by kernel_rfl) (by kernel_rfl) ?_
    have hS0 : (fun w' : World => w'.cell? ⟨P, 4, none⟩ = some u) W.drew := (HS6.out.below HBV.out).cells.2.2.2.2.1
    refine wpAnyB_take (i := 0) (v := ?vv0) rfl (by kernel_rfl) (by kernel_rfl) (by kernel_rfl) (by kernel_rfl) (fun _ _ _ h => h) (Or.inl ⟨by rfl, ?yy0⟩) hS0 ?rr0
    case yy0 =>
      intro wq hSw
      go_simp
      try with_reducible rfl
    simp only [Act.put, List.setIfInBounds_toArray, List.set_cons_zero, List.set_cons_succ]
    refine wpAnyB_take (i := 1) (v := ?vv1) rfl (by kernel_rfl) (by kernel_rfl) (by kernel_rfl) (by kernel_rfl) (fun _ _ _ h => h) (Or.inl ⟨by rfl, ?yy1⟩) hS0 ?rr1
    case yy1 =>
      intro wq hSw
      go_simp
      try with_reducible rfl
    simp only [Act.put, List.setIfInBounds_toArray, List.set_cons_zero, List.set_cons_succ]
    refine wpAnyB_take (i := 2) (v := ?vv2) rfl (by kernel_rfl) (by kernel_rfl) (by kernel_rfl) (by kernel_rfl) (fun _ _ _ h => h) (Or.inl ⟨by rfl, ?yy2⟩) hS0 ?rr2
    case yy2 =>
      intro wq hSw
      go_simp
      try with_reducible rfl
    simp only [Act.put, List.setIfInBounds_toArray, List.set_cons_zero, List.set_cons_succ]
    refine wpAnyB_take (i := 3) (v := ?vv3) rfl (by kernel_rfl) (by kernel_rfl) (by kernel_rfl) (by kernel_rfl) (fun _ _ _ h => h) (Or.inl ⟨by rfl, ?yy3⟩) hS0 ?rr3
    case yy3 =>
      intro wq hSw
      go_simp
      try with_reducible rfl
    simp only [Act.put, List.setIfInBounds_toArray, List.set_cons_zero, List.set_cons_succ]
    refine wpAnyB_take (i := 4) (v := ?vv4) rfl (by kernel_rfl) (by kernel_rfl) (by kernel_rfl) (by kernel_rfl) (fun _ _ _ h => h) (Or.inl ⟨by rfl, ?yy4⟩) hS0 ?rr4
    case yy4 =>
      intro wq hSw
      go_simp
      try with_reducible rfl
    simp only [Act.put, List.setIfInBounds_toArray, List.set_cons_zero, List.set_cons_succ]
    refine wpAnyB_take (i := 5) (v := ?vv5) rfl (by kernel_rfl) (by kernel_rfl) (by kernel_rfl) (by kernel_rfl) (fun _ _ _ h => h) (Or.inl ⟨by rfl, ?yy5⟩) hS0 ?rr5
    case yy5 =>
      intro wq hSw
      go_simp
      try with_reducible rfl
    simp only [Act.put, List.setIfInBounds_toArray, List.set_cons_zero, List.set_cons_succ]
    refine wpAnyB_ready (rs := [6]) (by kernel_rfl) (by simp) ?_
    refine (AllReadyB.cons rfl (fun K1 hK1 => ?_) AllReadyB.nil)
    go_simp
    go_at_call 119
    refine (HOW.out _ (HBV.out.drew)).mono ?_
    rintro e w2 ⟨g2', cap2, rfl, ho2, hb2⟩
    have hB2 : Below W.heap.size W w2 := HBV.out.drew.trans (hb2.mono HBV.out.size)
    have HS2 := Lib.hid (HS6.out.below hB2)
    have HO2 := Lib.hid (show OwnJ w2 W.heap.size (.slice (some ⟨g2', 0, none⟩) n cap2) (castN l) from ownsRow_base ho2 HBV.out.size)
    clear ho2 hb2
    go_wp2_with fail
    refine hK1.out _ _ (HS2.out.cells.2.2.2.2.1) (fun hS1 => ?_)
    clear hK1 K1
    try simp only [Act.put, List.setIfInBounds_toArray, List.set_cons_zero, List.set_cons_succ]
    refine wpAnyB_ready (rs := [7]) (by kernel_rfl) (by simp) ?_
    refine (AllReadyB.cons rfl (fun K2 hK2 => ?_) AllReadyB.nil)
    go_simp
    refine hK2.out _ _ ((HS2.out.below ((Below.refl _ _).alloc (Nat.le_refl _) _)).cells.2.2.2.2.1) (fun hS2 => ?_)
    clear hK2 K2
    try simp only [Act.put, List.setIfInBounds_toArray, List.set_cons_zero, List.set_cons_succ]
    refine wpAnyB_ready (rs := [8]) (by kernel_rfl) (by simp) ?_
    refine (AllReadyB.cons rfl (fun K3 hK3 => ?_) AllReadyB.nil)
    refine step_append_tab2 rfl (.tmp 33) (.tmp 36) rfl lo u us (fd.map castN) (some ⟨g2', 0, none⟩) n cap2 (castN l) (by simp [Act.eval]) (tabV_of HT6.out HLO.out hB2 HO2.out ((Below.refl _ _).alloc (Nat.le_refl _) _)) (by have := HLO.out; have := hB2.size; simp; omega) w2.heap.size 1 (by simp [Act.eval]) (by simp [go_sem]) (by rw [List.length_map]; omega) ?_
    intro g3 cap3 w3 hT3 hg3 hG3
    have HSF := Lib.hid (leaf_end HS6.out HPU.out HPX.out HT6.out trivial hB2 (HCL.out.symm ▸ HO2.out) hg3 (HCL.out.symm ▸ hT3) hG3)
    have C4 := HSF.out.1
    have F4 := HSF.out.2.1
    clear hT3 hg3 hG3
    refine hK3.out _ _ (HSF.out.1) (fun hS3 => ?_)
    clear hK3 K3
    try simp only [Act.put, List.setIfInBounds_toArray, List.set_cons_zero, List.set_cons_succ]
    refine wpAnyB_take (i := 9) (v := ?vv9) rfl (by kernel_rfl) (by kernel_rfl) (by kernel_rfl) (by kernel_rfl) (fun _ _ _ h => h) (Or.inl ⟨by rfl, ?yy9⟩) hS3 ?rr9
    case yy9 =>
      intro wq hSw
      go_simp
      try with_reducible rfl
    simp only [Act.put, List.setIfInBounds_toArray, List.set_cons_zero, List.set_cons_succ]
    refine wpAnyB_take (i := 10) (v := ?vv10) rfl (by kernel_rfl) (by kernel_rfl) (by kernel_rfl) (by kernel_rfl) (fun _ _ _ h => h) (Or.inl ⟨by rfl, ?yy10⟩) hS3 ?rr10
    case yy10 =>
      intro wq hSw
      go_simp
      try with_reducible rfl
    simp only [Act.put, List.setIfInBounds_toArray, List.set_cons_zero, List.set_cons_succ]
    refine wpAnyB_ready (rs := [11]) (by kernel_rfl) (by simp) ?_
    refine AllReadyB.last rfl (by kernel_rfl) (by kernel_rfl) (fun K4 hK4 => ?_)
    go_simp
    refine hK4.out _ _ ?_
    clear hK4 K4
    go_wp2
    go_returns
    exact ⟨⟨_, rfl⟩, HSF.out.2.2⟩
  · have HA := Lib.hid hA
    clear hA
    cases β with
    | true =>
      rw [if_pos rfl]
      go_enter Try.func98, Try.ntmps98
      go_wp2_with fail
      refine (HA.out _ (Below.refl _ _)).mono ?_
      rintro e V ⟨rfl, hbv⟩
      have HBV := Lib.hid hbv
      have hzv := hbv.size
      clear hbv cc0 cc1 cc2 cc3 cc4 cc5 cf4
      go_wp2
      refine wp_region_B (S := (fun w' : World => w'.cell? ⟨P, 4, none⟩ = some u)) 12 (by kernel_rfl) (by kernel_rfl) ?_
      have hS0 : (fun w' : World => w'.cell? ⟨P, 4, none⟩ = some u) V.drew := (HS6.out.below HBV.out).cells.2.2.2.2.1
      refine wpAnyB_take (i := 0) (v := ?vvx0) rfl (by kernel_rfl) (by kernel_rfl) (by kernel_rfl) (by kernel_rfl) (fun _ _ _ h => h) (Or.inl ⟨by rfl, ?yyx0⟩) hS0 ?rrx0
      case yyx0 =>
        intro wq hSw
        go_simp
        try with_reducible rfl
      simp only [Act.put, List.setIfInBounds_toArray, List.set_cons_zero, List.set_cons_succ]
      refine wpAnyB_take (i := 1) (v := ?vvx1) rfl (by kernel_rfl) (by kernel_rfl) (by kernel_rfl) (by kernel_rfl) (fun _ _ _ h => h) (Or.inl ⟨by rfl, ?yyx1⟩) hS0 ?rrx1
      case yyx1 =>
        intro wq hSw
        go_simp
        try with_reducible rfl
      simp only [Act.put, List.setIfInBounds_toArray, List.set_cons_zero, List.set_cons_succ]
      refine wpAnyB_take (i := 2) (v := ?vvx2) rfl (by kernel_rfl) (by kernel_rfl) (by kernel_rfl) (by kernel_rfl) (fun _ _ _ h => h) (Or.inl ⟨by rfl, ?yyx2⟩) hS0 ?rrx2
      case yyx2 =>
        intro wq hSw
        go_simp
        try with_reducible rfl
      simp only [Act.put, List.setIfInBounds_toArray, List.set_cons_zero, List.set_cons_succ]
      refine wpAnyB_take (i := 3) (v := ?vvx3) rfl (by kernel_rfl) (by kernel_rfl) (by kernel_rfl) (by kernel_rfl) (fun _ _ _ h => h) (Or.inl ⟨by rfl, ?yyx3⟩) hS0 ?rrx3
      case yyx3 =>
        intro wq hSw
        go_simp
        try with_reducible rfl
      simp only [Act.put, List.setIfInBounds_toArray, List.set_cons_zero, List.set_cons_succ]
      refine wpAnyB_take (i := 4) (v := ?vvx4) rfl (by kernel_rfl) (by kernel_rfl) (by kernel_rfl) (by kernel_rfl) (fun _ _ _ h => h) (Or.inl ⟨by rfl, ?yyx4⟩) hS0 ?rrx4
      case yyx4 =>
        intro wq hSw
        go_simp
        try with_reducible rfl
      simp only [Act.put, List.setIfInBounds_toArray, List.set_cons_zero, List.set_cons_succ]
      refine wpAnyB_take (i := 5) (v := ?vvx5) rfl (by kernel_rfl) (by kernel_rfl) (by kernel_rfl) (by kernel_rfl) (fun _ _ _ h => h) (Or.inl ⟨by rfl, ?yyx5⟩) hS0 ?rrx5
      case yyx5 =>
        intro wq hSw
        go_simp
        try with_reducible rfl
      simp only [Act.put, List.setIfInBounds_toArray, List.set_cons_zero, List.set_cons_succ]
      refine wpAnyB_ready (rs := [6]) (by kernel_rfl) (by simp) ?_
      refine (AllReadyB.cons rfl (fun K1 hK1 => ?_) AllReadyB.nil)
      go_simp
      go_at_call 119
      refine (HOW.out _ (HBV.out.drew)).mono ?_
      rintro e w2 ⟨g2', cap2, rfl, ho2, hb2⟩
      have hB2 : Below W.heap.size W w2 := HBV.out.drew.trans (hb2.mono HBV.out.size)
      have HS2 := Lib.hid (HS6.out.below hB2)
      have HO2 := Lib.hid (show OwnJ w2 W.heap.size (.slice (some ⟨g2', 0, none⟩) n cap2) (castN l) from ownsRow_base ho2 HBV.out.size)
      clear ho2 hb2
      go_wp2_with fail
      refine hK1.out _ _ (HS2.out.cells.2.2.2.2.1) (fun hS1 => ?_)
      clear hK1 K1
      try simp only [Act.put, List.setIfInBounds_toArray, List.set_cons_zero, List.set_cons_succ]
      refine wpAnyB_ready (rs := [7]) (by kernel_rfl) (by simp) ?_
      refine (AllReadyB.cons rfl (fun K2 hK2 => ?_) AllReadyB.nil)
      go_simp
      refine hK2.out _ _ ((HS2.out.below ((Below.refl _ _).alloc (Nat.le_refl _) _)).cells.2.2.2.2.1) (fun hS2 => ?_)
      clear hK2 K2
      try simp only [Act.put, List.setIfInBounds_toArray, List.set_cons_zero, List.set_cons_succ]
      refine wpAnyB_ready (rs := [8]) (by kernel_rfl) (by simp) ?_
      refine (AllReadyB.cons rfl (fun K3 hK3 => ?_) AllReadyB.nil)
      refine step_append_tab2 rfl (.tmp 33) (.tmp 36) rfl lo u us (fd.map castN) (some ⟨g2', 0, none⟩) n cap2 (castN l) (by simp [Act.eval]) (tabV_of HT6.out HLO.out hB2 HO2.out ((Below.refl _ _).alloc (Nat.le_refl _) _)) (by have := HLO.out; have := hB2.size; simp; omega) w2.heap.size 1 (by simp [Act.eval]) (by simp [go_sem]) (by rw [List.length_map]; omega) ?_
      intro g3 cap3 w3 hT3 hg3 hG3
      have HSF := Lib.hid (leaf_end HS6.out HPU.out HPX.out HT6.out trivial hB2 (HCL.out.symm ▸ HO2.out) hg3 (HCL.out.symm ▸ hT3) hG3)
      have C4 := HSF.out.1
      have F4 := HSF.out.2.1
      clear hT3 hg3 hG3
      refine hK3.out _ _ (HSF.out.1) (fun hS3 => ?_)
      clear hK3 K3
      try simp only [Act.put, List.setIfInBounds_toArray, List.set_cons_zero, List.set_cons_succ]
      refine wpAnyB_take (i := 9) (v := ?vvx9) rfl (by kernel_rfl) (by kernel_rfl) (by kernel_rfl) (by kernel_rfl) (fun _ _ _ h => h) (Or.inl ⟨by rfl, ?yyx9⟩) hS3 ?rrx9
      case yyx9 =>
        intro wq hSw
        go_simp
        try with_reducible rfl
      simp only [Act.put, List.setIfInBounds_toArray, List.set_cons_zero, List.set_cons_succ]
      refine wpAnyB_take (i := 10) (v := ?vvx10) rfl (by kernel_rfl) (by kernel_rfl) (by kernel_rfl) (by kernel_rfl) (fun _ _ _ h => h) (Or.inl ⟨by rfl, ?yyx10⟩) hS3 ?rrx10
      case yyx10 =>
        intro wq hSw
        go_simp
        try with_reducible rfl
      simp only [Act.put, List.setIfInBounds_toArray, List.set_cons_zero, List.set_cons_succ]
      refine wpAnyB_ready (rs := [11]) (by kernel_rfl) (by simp) ?_
      refine AllReadyB.last rfl (by kernel_rfl) (by kernel_rfl) (fun K4 hK4 => ?_)
      go_simp
      refine hK4.out _ _ ?_
      clear hK4 K4
      go_wp2
      go_returns
      exact ⟨⟨_, rfl⟩, HSF.out.2.2⟩
    | false =>
      go_enter Try.func98, Try.ntmps98
      go_wp2_with fail
      refine (HA.out _ (Below.refl _ _)).mono ?_
      rintro e V ⟨rfl, hbv⟩
      go_wp2
      go_returns
      exact ⟨⟨_, rfl⟩, _, us, HS6.out.below hbv, HT6.out.below hbv, HPU.out, HPX.out, HUF.out, Kps.of_below hbv P u⟩
end Go.Proofs.Ytoicdfdfajfopaa

namespace Go.Proofs.Ytoicdfdfajfopaa
open Go.RowKit Go.Maps
theorem mkRow6 (n : Nat) (hn : n ≤ 1100000) (W : World) : (Instr.makeSlice 25 (.int .i64 (n : Int)) (.int .i64 (n : Int))).run Try.prog W = .ok (.slice (some ⟨W.heap.size, 0, none⟩) n n) (W.alloc (.cells (madeCells #[.int .i64 0] n) 2)) := by
  obtain ⟨i0, hi, hz0, hz1, hz2⟩ := info_parts infoInt64
  have hr := run_make (P := Try.prog) W 25 2 i0 (.int .i64 0) Try.underlying25 hi hz0 .i64 .i64 n n (by omega) (by omega) (by rw [hz2]; omega) (by omega)
  simp only [Int.toNat_natCast, hz1, Nat.mul_one] at hr
  exact hr
def negL (k : Nat) : List Int := List.replicate k (-1) ++ List.replicate (256 - k) 0
theorem negL_len {k : Nat} (h : k ≤ 256) : (negL k).length = 256 := by simp [negL]; omega
theorem negL_set {k : Nat} (h : k < 256) : (negL k).set k (-1) = negL (k + 1) := by
  unfold negL
  rw [show 256 - k = (256 - (k + 1)) + 1 by omega, List.replicate_succ, List.set_append_right _ _ (by simp), List.length_replicate, Nat.sub_self, List.set_cons_zero, List.replicate_succ', List.append_assoc]
  rfl
set_option maxRecDepth 100000 in
set_option maxHeartbeats 2000000 in
theorem l06Table_any (n : Nat) (s : Value) (bs : List Blk) (w : World) (h : SB w s bs) (hi : isSysImpl (n : Int) bs = true) :
    Calls Try.prog 97 #[.agg #[.int .i64 (n : Int), s]] w (fun e w' => ∃ g, e = .returned (.slice (some ⟨g, 0, none⟩) 256 256) ∧ OwnJ w' w.heap.size (.slice (some ⟨g, 0, none⟩) 256 256) (tabT bs) ∧ Below w.heap.size w w') := by
  have HI := Lib.hid hi
  have hn15 : n ≤ 15 := by have := (sys_size hi).2.1; omega
  have HS := Lib.hid h
  have hlb := h.2.1
  obtain ⟨a0, c0, rfl⟩ := h.slice
  have hmk : ∀ W : World, (Instr.makeSlice 25 (.int .i64 256) (.int .i64 256)).run Try.prog W = .ok (.slice (some ⟨W.heap.size, 0, none⟩) 256 256) (W.alloc (.cells (madeCells #[.int .i64 0] 256) 2)) := fun W => mkRow6 256 (by omega) W
  clear h hi
  go_enter Try.func97, Try.ntmps97
  go_wp2
  obtain ⟨w1, hw1⟩ : ∃ w1, w1 = w.alloc (.cells #[.int .i64 n, .slice a0 bs.length c0] 31) := ⟨_, rfl⟩
  have hz1 : w1.heap.size = w.heap.size + 1 := by rw [hw1]; simp
  have hB01 : Below w.heap.size w w1 := by rw [hw1]; exact (Below.refl _ _).alloc (Nat.le_refl _) _
  have p1 : w1.cell? ⟨w.heap.size, 1, none⟩ = some (.slice a0 bs.length c0) := by rw [hw1]; exact new_at 1 rfl
  have ho0 := OwnJ.made0 w1 (base := w1.heap.size) 256 (by omega) (Nat.le_refl _)
  have hB1 : Below w1.heap.size w1 (w1.alloc (.cells (madeCells #[.int .i64 0] 256) 2)) := (Below.refl _ _).alloc (Nat.le_refl _) _
  rw [hz1] at ho0 hB1
  rw [← hw1]
  clear hw1 hmk
  have HO0 := Lib.hid ho0
  have HB1 := Lib.hid hB1
  clear ho0 hB1
  go_loopw [4] (fun i wr => ∃ k : Nat, k ≤ 256 ∧ i = .int .i64 k ∧ Below (w.heap.size + 1) w1 wr ∧ OwnJ wr (w.heap.size + 1) (.slice (some ⟨w.heap.size + 1, 0, none⟩) 256 256) (negL k)) (fun i _ => 256 - (intOf i).toNat)
  case atStart => exact ⟨0, by omega, rfl, HB1.out, HO0.out⟩
  case round =>
    clear HO0 HB1
    obtain ⟨k, hk, rfl, hB, hO⟩ := hrel
    have hz := hB.size
    by_cases hkl : k < 256
    · obtain ⟨c1, c2, c3, c4, c5⟩ := hO.at_ (i := k) (by rw [negL_len hk]; exact hkl)
      obtain ⟨hset, hg⟩ := hO.setT (i := k) (x := -1) (by rw [negL_len hk]; exact hkl)
      rw [negL_set hkl] at hset
      have hB2 := hB.grown hg (by omega) (fun r e => by cases e; omega)
      have HFIN := Lib.hid (And.intro hB2 hset)
      have g0 : (0 : Int) ≤ (k : Int) := by omega
      have g1 : (k : Int) < 256 := by omega
      clear c4 hset hg hB2 hO
      go_wp2
      go_roundw
      case rel => exact ⟨k + 1, by omega, by go_num, HFIN.out.1, HFIN.out.2⟩
      case measure => simp [intOf]; omega
    · have e : k = 256 := by omega
      subst e
      have hO1 : OwnJ wr (w.heap.size + 1) (.slice (some ⟨w.heap.size + 1, 0, none⟩) 256 256) (tabT []) := by
        have e : negL 256 = tabT [] := by unfold negL tabT; rw [Nat.sub_self, List.replicate_zero, List.append_nil]; rfl
        rw [← e]; exact hO
      have HO1 := Lib.hid hO1
      clear hO hO1
      go_wp2
      obtain ⟨W0, hW0⟩ : ∃ W0, W0 = wr := ⟨_, rfl⟩
      rw [← hW0] at hB hz HO1 ⊢
      clear hW0
      have HB := Lib.hid hB
      go_loopw [5] (fun i wx => ∃ k : Nat, k ≤ bs.length ∧ i = .int .i64 k ∧ Below (w.heap.size + 1) w1 wx ∧ OwnJ wx (w.heap.size + 1) (.slice (some ⟨w.heap.size + 1, 0, none⟩) 256 256) (tabT (bs.take k))) (fun i _ => bs.length - (intOf i).toNat)
      case atStart => exact ⟨0, Nat.zero_le _, rfl, HB.out, HO1.out⟩
      case round =>
        clear hk hkl HB HO1 hB hz
        obtain ⟨k, hk, rfl, hB, hO⟩ := hrel
        have hz := hB.size
        have p2 := (hB.cell (p := ⟨w.heap.size, 1, none⟩) (by simp)).trans p1
        by_cases hkl : k < bs.length
        · rcases HS.out.2.2 with ⟨_, _, _, hnil⟩ | ⟨b, off, cap, hval, hblt, hbl⟩
          · rw [hnil] at hkl; simp at hkl
          simp at hval
          obtain ⟨rfl, rfl⟩ := hval
          obtain ⟨x, hx, ex, x1, x2, x3⟩ := blks_at hbl hkl
          obtain ⟨p, q, r, rfl, h1, h2, h3⟩ := blk_nat HI.out hx
          have hsn := tabT_snoc (bs.take k) ⟨(p : Int), (q : Int), (r : Int)⟩
          have e : bs[k] = ⟨(p : Int), (q : Int), (r : Int)⟩ := by
            rw [List.getElem?_eq_getElem hkl] at ex
            simpa using ex
          rw [← e, ← List.take_succ_eq_append_getElem hkl, e] at hsn
          have hlz := tabT_len (bs.take k)
          obtain ⟨zs, hzs⟩ : ∃ zs, zs = tabT (bs.take k) := ⟨_, rfl⟩
          rw [← hzs] at hsn hO hlz
          have hp15 : p ≤ 15 := by omega
          have hq15 : q ≤ 15 := by omega
          have hr15 : r ≤ 15 := by omega
          have HSN := Lib.hid hsn
          have HLZ := Lib.hid hlz
          have HO2 := Lib.hid hO
          have HB2 := Lib.hid hB
          dsimp only at x1 x2 x3
          have g0 : (0 : Int) ≤ (k : Int) := by omega
          have g1 : (k : Int) < (bs.length : Int) := by omega
          clear hx ex hbl e hsn hzs hlz hB hO
          go_wp2
          go_loopw [6] (fun i wx => ∃ j : Nat, j ≤ 3 ∧ i = .int .i64 j ∧ Below (w.heap.size + 1) w1 wx ∧ OwnJ wx (w.heap.size + 1) (.slice (some ⟨w.heap.size + 1, 0, none⟩) 256 256) (tabX zs ⟨(p : Int), (q : Int), (r : Int)⟩ j)) (fun i _ => 3 - (intOf i).toNat)
          case atStart => exact ⟨0, by omega, rfl, HB2.out, HO2.out⟩
          case round =>
            clear HB2 HO2 hz
            obtain ⟨wx, hwx⟩ : ∃ wx, wx = wr := ⟨_, rfl⟩
            obtain ⟨j, hj, rfl, hB, hO⟩ := hrel
            rw [← hwx] at hB hO ⊢
            clear hwx
            have hz := hB.size
            have hlz := HLZ.out
            have hBw : Below w.heap.size w wx := hB01.trans (hB.mono (by omega))
            have p2 := (hB.cell (p := ⟨w.heap.size, 1, none⟩) (by simp)).trans p1
            have y1 := (hBw.cell (p := ⟨b, off + k * 3, none⟩) hblt).trans x1
            have y2 := (hBw.cell (p := ⟨b, off + k * 3 + 1, none⟩) hblt).trans x2
            have y3 := (hBw.cell (p := ⟨b, off + k * 3 + 2, none⟩) hblt).trans x3
            clear hBw
            by_cases hj3 : j < 3
            · obtain rfl | rfl | rfl : j = 0 ∨ j = 1 ∨ j = 2 := by omega
              · obtain ⟨m1, hm1⟩ : ∃ m : Nat, (16 : Int) * (p : Int) + (q : Int) = (m : Int) := ⟨16 * p + q, by omega⟩
                obtain ⟨m2, hm2⟩ : ∃ m : Nat, (16 : Int) * (q : Int) + (p : Int) = (m : Int) := ⟨16 * q + p, by omega⟩
                have hl1 : m1 < 256 := by omega
                have hl2 : m2 < 256 := by omega
                obtain ⟨_, _, _, e4, e5⟩ := hO.at_ (i := m2) (by rw [tabX_len, hlz]; exact hl2)
                obtain ⟨c1, c2, c3, c4, c5⟩ := hO.at_ (i := m1) (by rw [tabX_len, hlz]; exact hl1)
                have e2 : ((tabX zs ⟨(p : Int), (q : Int), (r : Int)⟩ 0).set m1 (r : Int)).set m2 (r : Int) = tabX zs ⟨(p : Int), (q : Int), (r : Int)⟩ 1 := by
                  show _ = tab1 (tabX zs ⟨(p : Int), (q : Int), (r : Int)⟩ 0) (p : Int) (q : Int) (r : Int)
                  unfold tab1
                  rw [hm1, hm2, Int.toNat_natCast, Int.toNat_natCast]
                have hfin : ∀ nq, Below (w.heap.size + 1) w1 (((wx.drewN nq).setCell ⟨w.heap.size + 1, m1, none⟩ (.int .i64 (r : Int))).setCell ⟨w.heap.size + 1, m2, none⟩ (.int .i64 (r : Int))) ∧ OwnJ (((wx.drewN nq).setCell ⟨w.heap.size + 1, m1, none⟩ (.int .i64 (r : Int))).setCell ⟨w.heap.size + 1, m2, none⟩ (.int .i64 (r : Int))) (w.heap.size + 1) (.slice (some ⟨w.heap.size + 1, 0, none⟩) 256 256) (tabX zs ⟨(p : Int), (q : Int), (r : Int)⟩ 1) := fun nq => by
                  have hq : OwnJ (wx.drewN nq) (w.heap.size + 1) (.slice (some ⟨w.heap.size + 1, 0, none⟩) 256 256) (tabX zs ⟨(p : Int), (q : Int), (r : Int)⟩ 0) := hO
                  obtain ⟨s1, t1⟩ := hq.setT (i := m1) (x := (r : Int)) (by rw [tabX_len, hlz]; exact hl1)
                  obtain ⟨s2, t2⟩ := s1.setT (i := m2) (x := (r : Int)) (by rw [List.length_set, tabX_len, hlz]; exact hl2)
                  rw [e2] at s2
                  exact ⟨((below_drewN hB nq).setCell (p := ⟨w.heap.size + 1, m1, none⟩) (Nat.le_refl _) _).setCell (p := ⟨w.heap.size + 1, m2, none⟩) (Nat.le_refl _) _, s2⟩
                have HFIN := Lib.hid hfin
                have g2 : (0 : Int) ≤ (m1 : Int) := by omega
                have g3 : (m1 : Int) < 256 := by omega
                have g4 : (0 : Int) ≤ (m2 : Int) := by omega
                have g5 : (m2 : Int) < 256 := by omega
                clear e4 c4 e2 hfin hO hB
                go_wp2
                go_quiet (fail)
                go_wp2
                go_roundw
                case rel => exact ⟨1, by omega, by go_num, (HFIN.out _).1, (HFIN.out _).2⟩
                case measure => simp [intOf]
              · obtain ⟨m1, hm1⟩ : ∃ m : Nat, (16 : Int) * (q : Int) + (r : Int) = (m : Int) := ⟨16 * q + r, by omega⟩
                obtain ⟨m2, hm2⟩ : ∃ m : Nat, (16 : Int) * (r : Int) + (q : Int) = (m : Int) := ⟨16 * r + q, by omega⟩
                have hl1 : m1 < 256 := by omega
                have hl2 : m2 < 256 := by omega
                obtain ⟨_, _, _, e4, e5⟩ := hO.at_ (i := m2) (by rw [tabX_len, hlz]; exact hl2)
                obtain ⟨c1, c2, c3, c4, c5⟩ := hO.at_ (i := m1) (by rw [tabX_len, hlz]; exact hl1)
                have e2 : ((tabX zs ⟨(p : Int), (q : Int), (r : Int)⟩ 1).set m1 (p : Int)).set m2 (p : Int) = tabX zs ⟨(p : Int), (q : Int), (r : Int)⟩ 2 := by
                  show _ = tab1 (tabX zs ⟨(p : Int), (q : Int), (r : Int)⟩ 1) (q : Int) (r : Int) (p : Int)
                  unfold tab1
                  rw [hm1, hm2, Int.toNat_natCast, Int.toNat_natCast]
                have hfin : ∀ nq, Below (w.heap.size + 1) w1 (((wx.drewN nq).setCell ⟨w.heap.size + 1, m1, none⟩ (.int .i64 (p : Int))).setCell ⟨w.heap.size + 1, m2, none⟩ (.int .i64 (p : Int))) ∧ OwnJ (((wx.drewN nq).setCell ⟨w.heap.size + 1, m1, none⟩ (.int .i64 (p : Int))).setCell ⟨w.heap.size + 1, m2, none⟩ (.int .i64 (p : Int))) (w.heap.size + 1) (.slice (some ⟨w.heap.size + 1, 0, none⟩) 256 256) (tabX zs ⟨(p : Int), (q : Int), (r : Int)⟩ 2) := fun nq => by
                  have hq : OwnJ (wx.drewN nq) (w.heap.size + 1) (.slice (some ⟨w.heap.size + 1, 0, none⟩) 256 256) (tabX zs ⟨(p : Int), (q : Int), (r : Int)⟩ 1) := hO
                  obtain ⟨s1, t1⟩ := hq.setT (i := m1) (x := (p : Int)) (by rw [tabX_len, hlz]; exact hl1)
                  obtain ⟨s2, t2⟩ := s1.setT (i := m2) (x := (p : Int)) (by rw [List.length_set, tabX_len, hlz]; exact hl2)
                  rw [e2] at s2
                  exact ⟨((below_drewN hB nq).setCell (p := ⟨w.heap.size + 1, m1, none⟩) (Nat.le_refl _) _).setCell (p := ⟨w.heap.size + 1, m2, none⟩) (Nat.le_refl _) _, s2⟩
                have HFIN := Lib.hid hfin
                have g2 : (0 : Int) ≤ (m1 : Int) := by omega
                have g3 : (m1 : Int) < 256 := by omega
                have g4 : (0 : Int) ≤ (m2 : Int) := by omega
                have g5 : (m2 : Int) < 256 := by omega
                clear e4 c4 e2 hfin hO hB
                go_wp2
                go_quiet (fail)
                go_wp2
                go_roundw
                case rel => exact ⟨2, by omega, by go_num, (HFIN.out _).1, (HFIN.out _).2⟩
                case measure => simp [intOf]
              · obtain ⟨m1, hm1⟩ : ∃ m : Nat, (16 : Int) * (r : Int) + (p : Int) = (m : Int) := ⟨16 * r + p, by omega⟩
                obtain ⟨m2, hm2⟩ : ∃ m : Nat, (16 : Int) * (p : Int) + (r : Int) = (m : Int) := ⟨16 * p + r, by omega⟩
                have hl1 : m1 < 256 := by omega
                have hl2 : m2 < 256 := by omega
                obtain ⟨_, _, _, e4, e5⟩ := hO.at_ (i := m2) (by rw [tabX_len, hlz]; exact hl2)
                obtain ⟨c1, c2, c3, c4, c5⟩ := hO.at_ (i := m1) (by rw [tabX_len, hlz]; exact hl1)
                have e2 : ((tabX zs ⟨(p : Int), (q : Int), (r : Int)⟩ 2).set m1 (q : Int)).set m2 (q : Int) = tabX zs ⟨(p : Int), (q : Int), (r : Int)⟩ 3 := by
                  show _ = tab1 (tabX zs ⟨(p : Int), (q : Int), (r : Int)⟩ 2) (r : Int) (p : Int) (q : Int)
                  unfold tab1
                  rw [hm1, hm2, Int.toNat_natCast, Int.toNat_natCast]
                have hfin : ∀ nq, Below (w.heap.size + 1) w1 (((wx.drewN nq).setCell ⟨w.heap.size + 1, m1, none⟩ (.int .i64 (q : Int))).setCell ⟨w.heap.size + 1, m2, none⟩ (.int .i64 (q : Int))) ∧ OwnJ (((wx.drewN nq).setCell ⟨w.heap.size + 1, m1, none⟩ (.int .i64 (q : Int))).setCell ⟨w.heap.size + 1, m2, none⟩ (.int .i64 (q : Int))) (w.heap.size + 1) (.slice (some ⟨w.heap.size + 1, 0, none⟩) 256 256) (tabX zs ⟨(p : Int), (q : Int), (r : Int)⟩ 3) := fun nq => by
                  have hq : OwnJ (wx.drewN nq) (w.heap.size + 1) (.slice (some ⟨w.heap.size + 1, 0, none⟩) 256 256) (tabX zs ⟨(p : Int), (q : Int), (r : Int)⟩ 2) := hO
                  obtain ⟨s1, t1⟩ := hq.setT (i := m1) (x := (q : Int)) (by rw [tabX_len, hlz]; exact hl1)
                  obtain ⟨s2, t2⟩ := s1.setT (i := m2) (x := (q : Int)) (by rw [List.length_set, tabX_len, hlz]; exact hl2)
                  rw [e2] at s2
                  exact ⟨((below_drewN hB nq).setCell (p := ⟨w.heap.size + 1, m1, none⟩) (Nat.le_refl _) _).setCell (p := ⟨w.heap.size + 1, m2, none⟩) (Nat.le_refl _) _, s2⟩
                have HFIN := Lib.hid hfin
                have g2 : (0 : Int) ≤ (m1 : Int) := by omega
                have g3 : (m1 : Int) < 256 := by omega
                have g4 : (0 : Int) ≤ (m2 : Int) := by omega
                have g5 : (m2 : Int) < 256 := by omega
                clear e4 c4 e2 hfin hO hB
                go_wp2
                go_quiet (fail)
                go_wp2
                go_roundw
                case rel => exact ⟨3, by omega, by go_num, (HFIN.out _).1, (HFIN.out _).2⟩
                case measure => simp [intOf]
            · have e : j = 3 := by omega
              subst e
              rw [← HSN.out] at hO
              have HFIN := Lib.hid (And.intro hB hO)
              clear hB hO y1 y2 y3 p2
              go_wp2
              go_roundw
              case rel => exact ⟨k + 1, by omega, by go_num, HFIN.out.1, HFIN.out.2⟩
              case measure => simp [intOf]; omega
        · have e : k = bs.length := by omega
          subst e
          rw [List.take_length] at hO
          go_wp2
          go_ret
          exact ⟨_, rfl, ownsRow_base hO (by omega), hB01.trans (hB.mono (by omega))⟩
end Go.Proofs.Ytoicdfdfajfopaa

namespace Go.Proofs.Ytoicdfdfajfopaa
open Go.RowKit Go.Maps
def tstM (T1 T2 : Nat → Nat → Nat) (l : List Nat) (i q : Nat) : Bool := if T1 l.length q < l.length then decide (l[T1 l.length q]?.getD 0 = T2 i (l[q]?.getD 0)) else !decide (T2 i (l[q]?.getD 0) ∈ l)
theorem fitM_tst (T1 T2 : Nat → Nat → Nat) (l : List Nat) (i : Nat) : fitM T1 T2 l i = (List.range l.length).all (tstM T1 T2 l i) := rfl
theorem all_range_succ (f : Nat → Bool) (q : Nat) : (List.range (q + 1)).all f = ((List.range q).all f && f q) := by rw [List.range_succ, List.all_append]; simp
theorem all_range_false {f : Nat → Bool} {q p : Nat} (hq : q ≤ p) (h : (List.range q).all f = false) : (List.range p).all f = false := by
  rw [List.all_eq_false] at h ⊢
  obtain ⟨x, hx, hf⟩ := h
  exact ⟨x, by have := List.mem_range.1 hx; exact List.mem_range.2 (by omega), hf⟩
section
variable {most : Nat} {step : Nat → List (List Nat) → List (List Nat)}
theorem goF_app (is js : List Nat) (fd : List (List Nat)) : goF most step (is ++ js) fd = goF most step js (goF most step is fd) := by unfold goF; rw [List.foldl_append]
theorem goF_stop : ∀ (is : List Nat) (fd : List (List Nat)), most ≤ fd.length → goF most step is fd = fd
  | [], _, _ => rfl
  | i :: is, fd, h => by
    show goF most step is (if fd.length < most then step i fd else fd) = fd
    rw [if_neg (by omega)]
    exact goF_stop is fd h
theorem goF_next (i : Nat) (fd : List (List Nat)) : goF most step (List.range (i + 1)) fd = if (goF most step (List.range i) fd).length < most then step i (goF most step (List.range i) fd) else goF most step (List.range i) fd := by
  rw [List.range_succ, goF_app]
  rfl
theorem goF_end {i n : Nat} (hi : i ≤ n) (fd : List (List Nat)) (h : most ≤ (goF most step (List.range i) fd).length) : goF most step (List.range n) fd = goF most step (List.range i) fd := by
  have e : n = i + (n - i) := by omega
  rw [e, List.range_add, goF_app, goF_stop _ _ h]
end
theorem castN_get (l : List Nat) {q : Nat} (h : q < l.length) : (castN l)[q]?.getD 0 = ((l[q]?.getD 0 : Nat) : Int) := by simp [castN, h]
theorem castN_len (l : List Nat) : (castN l).length = l.length := by simp [castN]
theorem castN_snoc (l : List Nat) (i : Nat) : castN (l ++ [i]) = castN l ++ [(i : Int)] := by simp [castN]
theorem SeaR.later {W W1 W2 : World} {P g1 g2 n most lo : Nat} {u : Value} {ar : Bool} {fd : List (List Nat)} (h : SeaR W P g1 g2 n most lo u ar fd W1) (hb : Below W1.heap.size W1 W2) : SeaR W P g1 g2 n most lo u ar fd W2 := by
  obtain ⟨u', us', h1, h2, h3, h4, h5, h6⟩ := h
  exact ⟨u', us', h1.below hb, h2.below hb, h3, h4, h5, h6.trans (Kps.of_below hb P u')⟩
theorem LstI.get {P : Nat} {u : Value} {W : World} {b off cap : Nat} {zs : List Int} {m : Nat} (h : LstI P u W (.slice (some ⟨b, off, none⟩) m cap) zs) {q : Nat} (hq : q < zs.length) : W.cell? ⟨b, off + q, none⟩ = some (.int .i64 (zs[q]?.getD 0)) := by
  obtain ⟨b', off', cap', e, _, _, _, h4⟩ := h
  simp at e
  obtain ⟨⟨rfl, rfl⟩, _⟩ := e
  exact h4 q hq
theorem wrap2 {i : Nat} (h : i < 15) : wrap64 (2 ^ i) = 2 ^ i := by
  have h2 : 2 ^ i < 32768 := Nat.lt_of_lt_of_le (Nat.pow_lt_pow_right (by decide) h) (by decide)
  have e : (2 : Int) ^ i = ((2 ^ i : Nat) : Int) := by simp
  rw [e]
  generalize 2 ^ i = m at h2
  unfold wrap64
  omega
theorem SeaR.chain {W W1 W2 : World} {P g1 g2 n most lo : Nat} {u u1 : Value} {ar : Bool} {fd : List (List Nat)} (h : SeaR W1 P g1 g2 n most lo u1 ar fd W2) (k : Kps P u u1 W W1) : SeaR W P g1 g2 n most lo u ar fd W2 := by
  obtain ⟨u', us', h1, h2, h3, h4, h5, h6⟩ := h
  exact ⟨u', us', h1, h2, h3, h4, h5, k.trans h6⟩
theorem LstI.own {P : Nat} {u : Value} {w : World} {base g m cap : Nat} {zs : List Int} (h : OwnJ w base (.slice (some ⟨g, 0, none⟩) m cap) zs) (hl : zs.length ≤ 1100000) (hP : P < base) (hu : ∀ r, u.ownBlock = some r → r < base) : LstI P u w (.slice (some ⟨g, 0, none⟩) m cap) zs := by
  obtain ⟨i1, i2, i3, _⟩ := h.ints0 hl
  have hb := (h.blkP g rfl).1
  exact ⟨g, 0, cap, by rw [i2], i3, by omega, fun e => by have := hu g e; omega, i1⟩
set_option maxRecDepth 100000 in
set_option maxHeartbeats 4000000 in
theorem l06Go_any (P g1 g2 n most lo : Nat) (bs1 bs2 : List Blk) (ar : Bool) (PP : List Nat → Bool) (hn : n ≤ 15) (h1 : isSysImpl (n : Int) bs1 = true) (f1 : fullB (n : Int) bs1 = true) (h2 : isSysImpl (n : Int) bs2 = true) (f2 : fullB (n : Int) bs2 = true) (hmost : most ≤ 1000000)
    (hPP : (ar = false ∧ ∀ l, PP l = true) ∨ (ar = true ∧ ∀ (l : List Nat) s W, l.length = n → (∀ i ∈ l, i < n) → IA W s (castN l) → Calls Try.prog 118 #[s] W (RV (.bool (PP l)) W))) :
    ∀ (d : Nat) (l : List Nat) (s u : Value) (us : List Value) (fd : List (List Nat)) (W : World), l.length + d = n → (∀ i ∈ l, i < n) → SeaS W P g1 g2 n most u ar → TabL W lo u us (fd.map castN) → u.ownBlock ≠ some P → (∀ x ∈ us, x.ownBlock ≠ some P) → (∃ a m c, u = .slice a m c ∧ m = fd.length) →
      LstI P u W s (castN l) → LstI P u W (.slice (some ⟨g1, 0, none⟩) 256 256) (tabT bs1) → LstI P u W (.slice (some ⟨g2, 0, none⟩) 256 256) (tabT bs2) → lo ≤ W.heap.size → fd.length < most →
      Calls Try.prog 98 #[.pointer (some ⟨P, 0, none⟩), s, .int .i64 (mkN l : Int)] W (fun e W' => (∃ v, e = .returned v) ∧ SeaR W P g1 g2 n most lo u ar (goS n (T3 bs1) (T3 bs2) PP most d l fd) W') := by
  intro d
  induction d with
  | zero =>
    intro l s u us fd W hl hin hS hT hPu hPx hu hL _ _ hlo hfd
    refine goLeaf P g1 g2 n most lo u s ar (PP l) us fd l (mkN l) W hn (by omega) hS hT hPu hPx hu hL hlo hfd hmost ?_
    rcases hPP with ⟨e, h⟩ | ⟨e, h⟩
    · exact .inl ⟨e, h l⟩
    · exact .inr ⟨e, fun W' hb => h l s W' (by omega) hin (hL.ia.below hb (Nat.le_refl _))⟩
  | succ d ih =>
    intro l s u us fd W hl hin hS hT hPu hPx hu hL hG1 hG2 hlo hfd
    have IH := Lib.hid ih
    have HS := Lib.hid hS
    have HL := Lib.hid hL
    have HG1 := Lib.hid hG1
    have HG2 := Lib.hid hG2
    have HIN := Lib.hid hin
    have HPP := Lib.hid hPP
    have H1 := Lib.hid h1
    have F1 := Lib.hid f1
    have H2 := Lib.hid h2
    have F2 := Lib.hid f2
    have HLO := Lib.hid hlo
    have hR0 : SeaR W P g1 g2 n most lo u ar (goF most (fun i fd => if i ∈ l then fd else if fitM (T3 bs1) (T3 bs2) l i then goS n (T3 bs1) (T3 bs2) PP most d (l ++ [i]) fd else fd) (List.range 0) fd) W := ⟨u, us, hS, hT, hPu, hPx, hu, Kps.refl P u W⟩
    have HR0 := Lib.hid hR0
    obtain ⟨stp, hstp⟩ : ∃ stp, stp = (fun i fd => if i ∈ l then fd else if fitM (T3 bs1) (T3 bs2) l i then goS n (T3 bs1) (T3 bs2) PP most d (l ++ [i]) fd else fd) := ⟨_, rfl⟩
    have HST := Lib.hid (show ∀ i fd, stp i fd = if i ∈ l then fd else if fitM (T3 bs1) (T3 bs2) l i then goS n (T3 bs1) (T3 bs2) PP most d (l ++ [i]) fd else fd by rw [hstp]; intro i fd; rfl)
    have HGS := Lib.hid (show goS n (T3 bs1) (T3 bs2) PP most (d + 1) l fd = goF most stp (List.range n) fd by rw [hstp]; rfl)
    rw [← hstp] at HR0
    have hne : ((l.length : Int) == (n : Int)) = false := by simp; omega
    have hpn : l.length < n := by omega
    have hp15 : l.length < 15 := by omega
    have HBIT := Lib.hid fun k => mkN_bit (l := l) (fun i hi => by have := hin i hi; omega) k
    have HOR := Lib.hid fun k (hk : k < 15) => mkN_or (l := l) (fun i hi => by have := hin i hi; omega) hk
    have hM := mkN_lt (l := l) (fun i hi => by have := hin i hi; omega)
    obtain ⟨M, hMe⟩ : ∃ M, M = mkN l := ⟨_, rfl⟩
    rw [← hMe] at HBIT HOR hM ⊢
    have HCL := Lib.hid (castN_len l)
    obtain ⟨cc0, cc1, cc2, cc3, cc4, cc5, cf4⟩ := hS.cells
    obtain ⟨b, off, cap, hsl, hbl, hbP, hbu, hbi⟩ := hL
    rw [castN_len] at hsl
    subst hsl
    rw [HGS.out]
    obtain ⟨p, hp⟩ : ∃ p, p = l.length := ⟨_, rfl⟩
    have HP := Lib.hid hp
    have HD := Lib.hid hl
    rw [← hp] at hne hpn hp15 ⊢
    clear ih hS hT hPu hPx hu hG1 hG2 hin hPP h1 f1 h2 f2 hlo hR0 hstp hMe hbl hbP hbu hbi hp hl cf4
    go_enter Try.func98, Try.ntmps98
    go_wp2
    clear cc0 cc1 cc2 cc3 cc4 cc5
    go_loopw [7] (fun t wr => ∃ i : Nat, i ≤ n ∧ t = .int .i64 i ∧ Hid (SeaR W P g1 g2 n most lo u ar (goF most stp (List.range i) fd) wr)) (fun t _ => n - (intOf t).toNat)
    case atStart => exact ⟨0, Nat.zero_le _, rfl, HR0⟩
    case round =>
      obtain ⟨i, hi, rfl, HR⟩ := hrel
      obtain ⟨u1, us1, hS1, hT1, hPu1, hPx1, ⟨a1, m1, c1, hu1, hm1⟩, hK1⟩ := HR.out
      obtain ⟨k0, k1, k2, k3, k4, k5, kf⟩ := hS1.cells
      rw [hu1, hm1] at k4
      have HK1 := Lib.hid hK1
      have HS1 := Lib.hid hS1
      have HT1 := Lib.hid hT1
      have HPU1 := Lib.hid hPu1
      have HPX1 := Lib.hid hPx1
      have HU1 := Lib.hid (show ∃ a m c, u1 = .slice a m c ∧ m = (goF most stp (List.range i) fd).length from ⟨a1, m1, c1, hu1, hm1⟩)
      obtain ⟨fdi, hfdi⟩ : ∃ fdi, fdi = goF most stp (List.range i) fd := ⟨_, rfl⟩
      have HFI := Lib.hid hfdi
      rw [← hfdi] at k4 HT1 HU1
      have hi15 : i ≤ 15 := by omega
      clear hS1 hT1 hPu1 hPx1 hK1 hu1 hm1 hfdi
      by_cases hin : i < n
      · by_cases hfl : fdi.length < most
        · go_wp2
          go_quiet (fail)
          obtain ⟨V, hV⟩ : ∃ V, V = wr.drewN nq := ⟨_, rfl⟩
          have hBV : Below wr.heap.size wr V := by rw [hV]; exact below_drewN (Below.refl _ _) _
          rw [← hV]
          clear hV
          have HBV := Lib.hid hBV
          have hltP := HS1.out.lt
          have y0 := (hBV.cell (p := ⟨P, 0, none⟩) hltP).trans k0
          have y1 := (hBV.cell (p := ⟨P, 1, none⟩) hltP).trans k1
          have hbit := HBIT.out i
          have i0 : (0 : Int) ≤ (i : Int) := by omega
          have i64 : (i : Int) ≤ 64 := by omega
          have HNX := Lib.hid (show goF most stp (List.range (i + 1)) fd = stp i fdi by rw [goF_next, ← HFI.out, if_pos hfl])
          clear k0 k1 k2 k3 k4 k5 kf hBV
          by_cases hmem : i ∈ l
          · rw [if_pos hmem] at hbit
            have HRN := Lib.hid (show SeaR W P g1 g2 n most lo u ar (goF most stp (List.range (i + 1)) fd) V by rw [HNX.out, HST.out, if_pos hmem, HFI.out]; exact HR.out.later HBV.out)
            clear hmem
            go_wp2
            go_roundw
            case rel => exact ⟨i + 1, by omega, by go_num, HRN⟩
            case measure => simp [intOf]; omega
          · rw [if_neg hmem] at hbit
            have HMEM := Lib.hid hmem
            have HG1V := Lib.hid ((HG1.out.kept HK1.out).kept (Kps.of_below HBV.out P u1))
            have HG2V := Lib.hid ((HG2.out.kept HK1.out).kept (Kps.of_below HBV.out P u1))
            have HLV := Lib.hid ((HL.out.kept HK1.out).kept (Kps.of_below HBV.out P u1))
            clear hmem
            go_wp2
            go_loopw [8, 9] (fun f t wx => ∃ q : Nat, q ≤ p ∧ t = .int .i64 q ∧ f = .bool ((List.range q).all (tstM (T3 bs1) (T3 bs2) l i)) ∧ ∃ k, wx = V.drewN k) (fun _ t _ => p - (intOf t).toNat)
            case atStart => exact ⟨0, Nat.zero_le _, rfl, rfl, 0, rfl⟩
            case round =>
              obtain ⟨q, hq, rfl, rfl, kk, rfl⟩ := hrel
              by_cases hqp : q < p
              · cases hβ : (List.range q).all (tstM (T3 bs1) (T3 bs2) l i) with
                | false =>
                  have HRN := Lib.hid (show SeaR W P g1 g2 n most lo u ar (goF most stp (List.range (i + 1)) fd) (V.drewN kk) by
                    rw [HNX.out, HST.out, if_neg HMEM.out, fitM_tst, all_range_false (by rw [← HP.out]; exact hq) hβ, if_neg (by decide), HFI.out]
                    exact HR.out.later (HBV.out.trans ((below_drewN (Below.refl _ _) _).mono HBV.out.size)))
                  clear hβ
                  go_wp2
                  go_roundw
                  case rel => exact ⟨i + 1, by omega, by go_num, HRN⟩
                  case measure => simp [intOf]; omega
                | true =>
                  have hpl : p = l.length := HP.out
                  obtain ⟨lq, hlq⟩ : ∃ lq, lq = l[q]?.getD 0 := ⟨_, rfl⟩
                  have hlqm : lq ∈ l := by rw [hlq]; exact getD_mem (by omega)
                  have hlqn : lq < n := HIN.out lq hlqm
                  have hlqi : i ≠ lq := fun e => HMEM.out (e ▸ hlqm)
                  obtain ⟨r, hr⟩ : ∃ r, r = T3 bs1 p q := ⟨_, rfl⟩
                  obtain ⟨o, ho⟩ : ∃ o, o = T3 bs2 i lq := ⟨_, rfl⟩
                  have hrn : r < n := by rw [hr]; exact (T3_cast H1.out F1.out hpn (by omega) (by omega)).2.1
                  have hon : o < n := by rw [ho]; exact (T3_cast H2.out F2.out hin hlqn hlqi).2.1
                  have e1 := tabT_at H1.out F1.out hn hpn (show q < n by omega) (show p ≠ q by omega)
                  have e2 := tabT_at H2.out F2.out hn hin hlqn hlqi
                  rw [← hr] at e1
                  rw [← ho] at e2
                  have z1 := HG1V.out.get (q := 16 * p + q) (by rw [tabT_len]; omega)
                  have z2 := HG2V.out.get (q := 16 * i + lq) (by rw [tabT_len]; omega)
                  rw [e1, Option.getD_some, Nat.zero_add] at z1
                  rw [e2, Option.getD_some, Nat.zero_add] at z2
                  have z3 := HLV.out.get (q := q) (by rw [castN_len]; omega)
                  rw [castN_get l (by omega), ← hlq] at z3
                  obtain ⟨m1, hm1⟩ : ∃ m : Nat, (16 : Int) * (p : Int) + (q : Int) = (m : Int) := ⟨16 * p + q, by omega⟩
                  obtain ⟨m2, hm2⟩ : ∃ m : Nat, (16 : Int) * (i : Int) + (lq : Int) = (m : Int) := ⟨16 * i + lq, by omega⟩
                  rw [show 16 * p + q = m1 by omega] at z1
                  rw [show 16 * i + lq = m2 by omega] at z2
                  have hl1 : m1 < 256 := by omega
                  have hl2 : m2 < 256 := by omega
                  have hq15 : q ≤ 15 := by omega
                  have hlq15 : lq ≤ 15 := by omega
                  have hr15 : r ≤ 15 := by omega
                  have ho15 : o ≤ 15 := by omega
                  have o64 : (o : Int) ≤ 64 := by omega
                  have q0 : (0 : Int) ≤ (q : Int) := by omega
                  have q1 : (q : Int) < (p : Int) := by omega
                  have hsu : (List.range (q + 1)).all (tstM (T3 bs1) (T3 bs2) l i) = tstM (T3 bs1) (T3 bs2) l i q := by rw [all_range_succ, hβ, Bool.true_and]
                  have htst : tstM (T3 bs1) (T3 bs2) l i q = if r < p then decide (l[r]?.getD 0 = o) else !decide (o ∈ l) := by unfold tstM; rw [← hpl, ← hr, ← hlq, ← ho]
                  have HSU := Lib.hid (hsu.trans htst)
                  have hbo := HBIT.out o
                  by_cases hrp : r < p
                  · have z4 := HLV.out.get (q := r) (by rw [castN_len]; omega)
                    rw [castN_get l (by omega)] at z4
                    obtain ⟨lr, hlr⟩ : ∃ lr, lr = l[r]?.getD 0 := ⟨_, rfl⟩
                    rw [← hlr] at z4
                    rw [if_pos hrp, ← hlr] at HSU
                    have r0 : (0 : Int) ≤ (r : Int) := by omega
                    have r1 : (r : Int) < (p : Int) := by omega
                    have HTE := Lib.hid (show ((lr : Int) == (o : Int)) = decide (lr = o) by rw [Bool.eq_iff_iff, beq_iff_eq, decide_eq_true_eq]; omega)
                    clear hbo hbit hsu htst e1 e2 hlr hr ho hlq hlqm hpl hβ
                    go_wp2
                    go_quiet (fail)
                    go_wp2
                    go_roundw
                    case rel => exact ⟨q + 1, by omega, by go_num, by rw [HSU.out, ← HTE.out], _, rfl⟩
                    case measure => simp [intOf]; omega
                  · rw [if_neg hrp] at HSU
                    by_cases hol : o ∈ l
                    · rw [if_pos hol] at hbo
                      rw [decide_eq_true hol] at HSU
                      clear hbit hsu htst e1 e2 hr ho hlq hlqm hpl hβ hol
                      go_wp2
                      go_quiet (fail)
                      go_wp2
                      go_roundw
                      case rel => exact ⟨q + 1, by omega, by go_num, by rw [HSU.out]; rfl, _, rfl⟩
                      case measure => simp [intOf]; omega
                    · rw [if_neg hol] at hbo
                      rw [decide_eq_false hol] at HSU
                      clear hbit hsu htst e1 e2 hr ho hlq hlqm hpl hβ hol
                      go_wp2
                      go_quiet (fail)
                      go_wp2
                      go_roundw
                      case rel => exact ⟨q + 1, by omega, by go_num, by rw [HSU.out]; rfl, _, rfl⟩
                      case measure => simp [intOf]; omega
              · have e : q = p := by omega
                subst e
                cases hβ : (List.range q).all (tstM (T3 bs1) (T3 bs2) l i) with
                | false =>
                  have HRN := Lib.hid (show SeaR W P g1 g2 n most lo u ar (goF most stp (List.range (i + 1)) fd) (V.drewN kk) by
                    rw [HNX.out, HST.out, if_neg HMEM.out, fitM_tst, ← HP.out, hβ, if_neg (by decide), HFI.out]
                    exact HR.out.later (HBV.out.trans ((below_drewN (Below.refl _ _) _).mono HBV.out.size)))
                  clear hβ
                  go_wp2
                  go_roundw
                  case rel => exact ⟨i + 1, by omega, by go_num, HRN⟩
                  case measure => simp [intOf]; omega
                | true =>
                  have HFT := Lib.hid (show stp i fdi = goS n (T3 bs1) (T3 bs2) PP most d (l ++ [i]) fdi by rw [HST.out, if_neg HMEM.out, fitM_tst, ← HP.out, hβ, if_pos rfl])
                  clear hβ
                  obtain ⟨W5, hW5⟩ : ∃ W5, W5 = V.drewN kk := ⟨_, rfl⟩
                  have hB5 := HBV.out.trans ((show Below V.heap.size V W5 by rw [hW5]; exact below_drewN (Below.refl _ _) _).mono HBV.out.size)
                  rw [← hW5]
                  have hBV5 : Below V.heap.size V W5 := by rw [hW5]; exact below_drewN (Below.refl _ _) _
                  have HL5 := Lib.hid (HLV.out.kept (Kps.of_below hBV5 P u1))
                  have HB5 := Lib.hid hB5
                  have HBV5 := Lib.hid hBV5
                  have hpl : q = l.length := HP.out
                  have HOWN := Lib.hid (l01Own_any _ (castN l) W5 HL5.out.ia (by rw [castN_len]; omega))
                  rw [castN_len, ← hpl] at HOWN
                  have hor := HOR.out i (by omega)
                  have hi14 : i ≤ 14 := by omega
                  clear hW5 hB5 hBV5 hpl
                  go_wp2_with fail
                  refine HOWN.out.mono ?_
                  rintro e w6 ⟨g6, cap6, rfl, ho6, hb6⟩
                  have HO6 := Lib.hid ho6
                  have HB6 := Lib.hid hb6
                  have hz6 := hb6.size
                  clear ho6 hb6
                  go_wp2_with (at_builtin; refine wpList_append_int rfl _ _ rfl W5.heap.size _ (castN l) rfl (HO6.out.below ((Below.refl _ _).alloc (Nat.le_refl _) _) (Nat.le_refl _)) _ _ (i : Int) rfl (by simp [go_sem]) (by rw [castN_len, ← HP.out]; omega) (by simp; omega) ?_; intro g7 cap7 w7 hO7 hg7)
                  have hB7 : Below W5.heap.size W5 w7 := (HB6.out.alloc hz6 _).grown hg7 (by simp; omega) (fun r e => (HO6.out.blkP r e).1)
                  have hBw7 := HB5.out.trans (hB7.mono HB5.out.size)
                  have hK7 := HK1.out.trans (Kps.of_below hBw7 P u1)
                  have hub : ∀ r, u1.ownBlock = some r → r < W5.heap.size := fun r e => by have := (HT1.out.own.blkP r e).2; have := HB5.out.size; omega
                  have hPb : P < W5.heap.size := by have := HB5.out.size; omega
                  have hln : (castN l ++ [(i : Int)]).length = q + 1 := by rw [List.length_append, castN_len, ← HP.out]; rfl
                  rw [castN_len, ← HP.out] at hO7
                  rw [castN_len, ← HP.out]
                  have hl7 := LstI.own (P := P) (u := u1) hO7 (by rw [hln]; omega) hPb hub
                  rw [← castN_snoc] at hl7
                  have hin2 : ∀ j ∈ l ++ [i], j < n := fun j hj => by
                    rcases List.mem_append.1 hj with hj | hj
                    · exact HIN.out j hj
                    · obtain rfl := List.mem_singleton.1 hj
                      exact hin
                  have HC := Lib.hid (IH.out (l ++ [i]) _ u1 us1 fdi w7 (by have := HD.out; simp only [List.length_append, List.length_cons, List.length_nil]; omega) hin2 (HS1.out.below hBw7) (HT1.out.below hBw7) HPU1.out HPX1.out HU1.out hl7 ((HG1V.out.kept (Kps.of_below HBV5.out P u1)).kept (Kps.of_below hB7 P u1)) ((HG2V.out.kept (Kps.of_below HBV5.out P u1)).kept (Kps.of_below hB7 P u1)) (by have := HLO.out; have := hK7.size; omega) hfl)
                  have HK7 := Lib.hid hK7
                  clear hB7 hBw7 hK7 hub hPb hln hO7 hl7 hin2 hg7
                  go_wp2_with fail
                  rw [wrap2 (by omega), hor]
                  refine HC.out.mono ?_
                  rintro e w8 ⟨⟨v8, rfl⟩, hR8⟩
                  have HRN := Lib.hid (show SeaR W P g1 g2 n most lo u ar (goF most stp (List.range (i + 1)) fd) w8 by rw [HNX.out, HFT.out]; exact hR8.chain HK7.out)
                  clear hR8
                  go_wp2
                  go_roundw
                  case rel => exact ⟨i + 1, by omega, by go_num, HRN⟩
                  case measure => simp [intOf]; omega
        · have HEND := Lib.hid (show SeaR W P g1 g2 n most lo u ar (goF most stp (List.range n) fd) wr by
            rw [goF_end (most := most) (step := stp) hi fd (by rw [← HFI.out]; omega)]; exact HR.out)
          have hge : ¬ ((fdi.length : Int) < (most : Int)) := by omega
          go_wp2
          go_quiet (fail)
          go_wp2
          go_returns
          exact ⟨⟨_, rfl⟩, HEND.out.later (below_drewN (Below.refl _ _) _)⟩
      · have e : i = n := by omega
        subst e
        have HEND := Lib.hid HR.out
        go_wp2
        go_quiet (fail)
        go_wp2
        go_returns
        exact ⟨⟨_, rfl⟩, HEND.out.later (below_drewN (Below.refl _ _) _)⟩
end Go.Proofs.Ytoicdfdfajfopaa

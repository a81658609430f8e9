
/- The model's TakeBlock. -/
import Derived.Test.YtlchcnngikgjjaaTakeF
import Derived.Test.YtlchcnngikgjjaaAppMany
import Derived.Test.YtlchcnngikgjjaaSpecIs
import Derived.Deep.RegionHeld3
import Derived.IntWalk
namespace Go.Proofs.Ytlchcnngikgjjaa
open Go.RowKit Go.Maps
theorem Blks.take {w : World} {b off : Nat} {bs : List Blk} (h : Blks w b off bs) (j : Nat) : Blks w b off (bs.take j) := fun k hk => by
  rw [List.length_take] at hk
  have := h k (by omega)
  rwa [List.getElem?_take_of_lt (by omega)]
theorem Blks.drop {w : World} {b off : Nat} {bs : List Blk} (h : Blks w b off bs) (j : Nat) : Blks w b (off + j * 3) (bs.drop j) := fun k hk => by
  rw [List.length_drop] at hk
  have := h (j + k) (by omega)
  rw [List.getElem?_drop, show off + j * 3 + k * 3 = off + (j + k) * 3 by omega]
  exact this
theorem lit_own (W : World) : OwnR (W.alloc (.cells #[] 62)) W.heap.size (.slice (some ⟨W.heap.size, 0, none⟩) 0 0) [] :=
  ⟨rfl, .inr ⟨W.heap.size, 0, #[], rfl, Nat.le_refl _, (MapKept.heap_alloc W (.cells #[] 62)).1, Nat.le_refl _, by unfold maxLen; omega, rfl, rfl⟩⟩
theorem OwnR.drew {w : World} {base : Nat} {v : Value} {bs : List Blk} (h : OwnR w base v bs) : OwnR w.drew base v bs := h
theorem SX.drew {w : World} {v : Value} {bs : List Blk} (h : SX w v bs) : SX w.drew v bs := h
theorem Blks.drew {w : World} {b off : Nat} {bs : List Blk} (h : Blks w b off bs) : Blks w.drew b off bs := h
theorem Blks.kept {w w' : World} {b off : Nat} {bs : List Blk} {row : Option Nat} (h : Blks w b off bs) (hg : w.grownBy w' row) (hne : some b ≠ row) : Blks w' b off bs := fun k hk => by
  obtain ⟨h1, h2, h3⟩ := h k hk
  exact ⟨hg.cell h1 hne, hg.cell h2 hne, hg.cell h3 hne⟩
theorem keep_cell {w w' : World} {row : Option Nat} {b o : Nat} {u : Value} (h : w.cell? ⟨b, o, none⟩ = some u) (hg : w.grownBy w' row) (hne : ∀ r, row = some r → b < r) : w'.cell? ⟨b, o, none⟩ = some u :=
  hg.cell h (fun e => by have := hne _ e.symm; simp at this)
theorem keep_frozen {w w' : World} {row : Option Nat} {b o : Nat} {u : Value} (hc : w.cell? ⟨b, o, none⟩ = some u) (h : w.frozen? ⟨b, o, none⟩ = false) (hg : w.grownBy w' row) (hne : ∀ r, row = some r → b < r) : w'.frozen? ⟨b, o, none⟩ = false :=
  (World.frozen?_of_block (w := w) (a := ⟨b, o, none⟩) (hg.block b (block_lt_of_cell hc) (fun e => by have := hne _ e.symm; omega))).trans h
theorem keep_some {w w' : World} {row : Option Nat} {b o : Nat} (h : (w.cell? ⟨b, o, none⟩).isSome = true) (hg : w.grownBy w' row) (hne : ∀ r, row = some r → b < r) : (w'.cell? ⟨b, o, none⟩).isSome = true := by
  obtain ⟨u, hu⟩ := Option.isSome_iff_exists.1 h
  rw [keep_cell hu hg hne]
  rfl
theorem keep_free {w w' : World} {row : Option Nat} {b o : Nat} (h : (w.cell? ⟨b, o, none⟩).isSome = true) (hf : w.frozen? ⟨b, o, none⟩ = false) (hg : w.grownBy w' row) (hne : ∀ r, row = some r → b < r) : w'.frozen? ⟨b, o, none⟩ = false := by
  obtain ⟨u, hu⟩ := Option.isSome_iff_exists.1 h
  exact keep_frozen hu hf hg hne
def Six (w' : World) (b : Nat) (v : Int) (s : Value) : Prop := w'.cell? ⟨b, 0, none⟩ = some (.int .i64 v) ∧ w'.cell? ⟨b, 1, none⟩ = some s ∧ w'.cell? ⟨b + 1, 0, none⟩ = some (.int .i64 0) ∧ w'.cell? ⟨b + 1, 1, none⟩ = some (.slice none 0 0) ∧ w'.frozen? ⟨b + 1, 0, none⟩ = false ∧ w'.frozen? ⟨b + 1, 1, none⟩ = false
theorem keep6 {w w' : World} {b : Nat} {v : Int} {s : Value} {row : Option Nat} (h : Six w b v s) (hg : w.grownBy w' row) (hr : ∀ r, row = some r → b + 1 < r) : Six w' b v s := by
  obtain ⟨h0, h1, h2, h3, h4, h5⟩ := h
  exact ⟨keep_cell h0 hg (fun r e => by have := hr r e; omega), keep_cell h1 hg (fun r e => by have := hr r e; omega), keep_cell h2 hg hr, keep_cell h3 hg hr, keep_frozen h2 h4 hg hr, keep_frozen h3 h5 hg hr⟩
theorem gb_drewL {w w' : World} {row : Option Nat} (h : w.drew.grownBy w' row) : w.grownBy w' row := ⟨h.os, h.tape, h.output, h.size, h.block⟩
theorem run_slice_drop (b off n cap j : Nat) (h1 : j ≤ n) (h2 : n ≤ cap) : ∃ x, (∀ W : World, (Instr.slice 24 (.slice (some ⟨b, off, none⟩) n cap) (some (.int .i64 (j : Int))) none none).run Try.prog W = .ok x W) ∧ ∀ (W : World) (bs : List Blk), bs.length = n → b < W.heap.size → Blks W b off bs → SX W x (bs.drop j) := by
  have hj0 : (0 : Int) ≤ (j : Int) := by omega
  have hj1 : (j : Int) ≤ (n : Int) := by omega
  by_cases hc : j = cap
  · refine ⟨.slice (some ⟨b, off, none⟩) 0 0, fun W => ?_, fun W bs e _ _ => .inl ⟨_, _, rfl, List.drop_eq_nil_of_le (by omega)⟩⟩
    have e1 : n = j := by omega
    subst e1
    subst hc
    simp [Instr.slice, Instr.sliceBounds, Instr.sliceBound, run_underlying Try.underlying24, go_sem, hj0]
  · refine ⟨.slice (some ⟨b, off + j * 3, none⟩) (n - j) (cap - j), fun W => ?_, fun W bs e h1 h2 => .inr ⟨b, off + j * 3, cap - j, by rw [List.length_drop, e], h1, h2.drop j⟩⟩
    have hc' : ¬ cap = j := fun e => hc e.symm
    simp [Instr.slice, Instr.sliceBounds, Instr.sliceBound, run_underlying Try.underlying24, go_sem, hj0, h1, hc', addr_at]
set_option maxRecDepth 100000 in
set_option maxHeartbeats 1000000 in
theorem l01Without_any (v : Int) (b off cap : Nat) (bs : List Blk) (j : Nat) (w : World) (hlen : bs.length ≤ 1100000) (hbl : Blks w b off bs) (hb : b < w.heap.size) (hj : j < bs.length) (hc : bs.length ≤ cap) :
    Calls Try.prog 118 #[.agg #[.int .i64 v, .slice (some ⟨b, off, none⟩) bs.length cap], .int .i64 j] w fun e w' => ∃ s, e = .returned (.agg #[.int .i64 v, s]) ∧ ResR w' w.heap.size w'.heap.size s (bs.take j ++ bs.drop (j + 1)) ∧ Below w.heap.size w w' := by
  obtain ⟨x, hx1, hx2⟩ := run_slice_drop b off bs.length cap (j + 1) hj hc
  rw [show ((j + 1 : Nat) : Int) = (j : Int) + 1 by omega] at hx1
  have HX2 := Lib.hid hx2
  have g0 : (0 : Int) ≤ (j : Int) := by omega
  have g1 : (j : Int) ≤ (bs.length : Int) := by omega
  have g3 : j ≤ cap := by omega
  have hwr : IntKind.i64.wrap ((j : Int) + 1) = (j : Int) + 1 := IntWalk.i64_in _ (by omega)
  have B0 : Below w.heap.size w ((((w.alloc (.cells #[.int .i64 v, .slice (some ⟨b, off, none⟩) bs.length cap] 26)).alloc (.cells #[.int .i64 0, .slice none 0 0] 26)).alloc (.cells #[] 62))) := (((Below.refl _ _).alloc (Nat.le_refl _) _).alloc (by simp) _).alloc (by simp; omega) _
  have ho := lit_own ((w.alloc (.cells #[.int .i64 v, .slice (some ⟨b, off, none⟩) bs.length cap] 26)).alloc (.cells #[.int .i64 0, .slice none 0 0] 26))
  simp only [World.size_alloc] at ho
  have hbl0 := hbl.below B0 hb
  have hs1 : SX ((((w.alloc (.cells #[.int .i64 v, .slice (some ⟨b, off, none⟩) bs.length cap] 26)).alloc (.cells #[.int .i64 0, .slice none 0 0] 26)).alloc (.cells #[] 62))) (.slice (some ⟨b, off, none⟩) j cap) (bs.take j) :=
    .inr ⟨b, off, cap, by rw [List.length_take, Nat.min_eq_left (by omega)], by simp; omega, hbl0.take j⟩
  have HBL := Lib.hid hbl0
  have HF := Lib.hid (show ∀ i, (((((w.alloc (.cells #[.int .i64 v, .slice (some ⟨b, off, none⟩) bs.length cap] 26)).alloc (.cells #[.int .i64 0, .slice none 0 0] 26)).alloc (.cells #[] 62)))).frozen? ⟨w.heap.size + 1, i, none⟩ = false from fun i => by
    rw [World.frozen?_alloc_past _ _ _ (by simp)]
    simp [go_sem])
  have HC := Lib.hid (show (((((w.alloc (.cells #[.int .i64 v, .slice (some ⟨b, off, none⟩) bs.length cap] 26)).alloc (.cells #[.int .i64 0, .slice none 0 0] 26)).alloc (.cells #[] 62)))).cell? ⟨w.heap.size, 0, none⟩ = some (.int .i64 v) ∧ (((((w.alloc (.cells #[.int .i64 v, .slice (some ⟨b, off, none⟩) bs.length cap] 26)).alloc (.cells #[.int .i64 0, .slice none 0 0] 26)).alloc (.cells #[] 62)))).cell? ⟨w.heap.size, 1, none⟩ = some (.slice (some ⟨b, off, none⟩) bs.length cap) ∧ (((((w.alloc (.cells #[.int .i64 v, .slice (some ⟨b, off, none⟩) bs.length cap] 26)).alloc (.cells #[.int .i64 0, .slice none 0 0] 26)).alloc (.cells #[] 62)))).cell? ⟨w.heap.size + 1, 0, none⟩ = some (.int .i64 0) ∧ (((((w.alloc (.cells #[.int .i64 v, .slice (some ⟨b, off, none⟩) bs.length cap] 26)).alloc (.cells #[.int .i64 0, .slice none 0 0] 26)).alloc (.cells #[] 62)))).cell? ⟨w.heap.size + 1, 1, none⟩ = some (.slice none 0 0) by
    refine ⟨?_, ?_, ?_, ?_⟩ <;> (rw [World.cell?_alloc_past _ _ _ (by simp <;> omega)]; simp [go_sem]))
  have HO := Lib.hid ho
  have HS1 := Lib.hid hs1
  have hlt : (bs.take j).length = j := by rw [List.length_take, Nat.min_eq_left (by omega)]
  have HLT := Lib.hid hlt
  have l0 : ([] : List Blk).length + (bs.take j).length ≤ 2200000 := by simp; omega
  have l1 : ([] ++ bs.take j : List Blk).length + (bs.drop (j + 1)).length ≤ 2200000 := by simp; omega
  have HK1 := Lib.hid fun w1 (hg : (((((w.alloc (.cells #[.int .i64 v, .slice (some ⟨b, off, none⟩) bs.length cap] 26)).alloc (.cells #[.int .i64 0, .slice none 0 0] 26)).alloc (.cells #[] 62)))).grownBy w1 (Value.slice (some ⟨w.heap.size + 1 + 1, 0, none⟩) 0 0).ownBlock) => keep6 (s := .slice (some ⟨b, off, none⟩) bs.length cap) (v := v) ⟨HC.out.1, HC.out.2.1, HC.out.2.2.1, HC.out.2.2.2, HF.out 0, HF.out 1⟩ hg (fun r e => by simp [Value.ownBlock] at e; omega)
  have HN1 := Lib.hid fun w1 (hg : (((((w.alloc (.cells #[.int .i64 v, .slice (some ⟨b, off, none⟩) bs.length cap] 26)).alloc (.cells #[.int .i64 0, .slice none 0 0] 26)).alloc (.cells #[] 62)))).grownBy w1 (Value.slice (some ⟨w.heap.size + 1 + 1, 0, none⟩) 0 0).ownBlock) => show SX w1 x (bs.drop (j + 1)) ∧ w.heap.size + 1 + 1 ≤ w1.heap.size from ⟨HX2.out w1 bs rfl (by have := hg.size; simp at this; omega) (HBL.out.kept hg (fun e => by simp [Value.ownBlock] at e; omega)), by have := hg.size; simp at this; omega⟩
  have HB1 := Lib.hid fun w1 (hg : (((((w.alloc (.cells #[.int .i64 v, .slice (some ⟨b, off, none⟩) bs.length cap] 26)).alloc (.cells #[.int .i64 0, .slice none 0 0] 26)).alloc (.cells #[] 62)))).grownBy w1 (Value.slice (some ⟨w.heap.size + 1 + 1, 0, none⟩) 0 0).ownBlock) => B0.grown hg B0.size (fun r e => by simp [Value.ownBlock] at e; omega)
  have HRES := Lib.hid fun (w2 : World) a2 c2 (h : OwnR w2 (w.heap.size + 1 + 1) (.slice a2 (([] ++ bs.take j : List Blk).length + (bs.drop (j + 1)).length) c2) ([] ++ bs.take j ++ bs.drop (j + 1))) => show ResR w2 (w.heap.size + 1 + 1) w2.heap.size (.slice a2 (min j bs.length + (bs.length - (j + 1))) c2) (bs.take j ++ bs.drop (j + 1)) from by
    have := h.res
    simpa using this
  clear hx2 hbl hbl0 ho hs1 B0 hlt
  go_enter Try.func118, Try.ntmps118
  go_wp2_with fail
  go_region_held3 (fun w' => w'.cell? ⟨w.heap.size, 0, none⟩ = some (.int .i64 v) ∧ w'.cell? ⟨w.heap.size, 1, none⟩ = some (.slice (some ⟨b, off, none⟩) bs.length cap))
    (first
      | exact ⟨f0, f1⟩
      | exact ⟨e0, e1⟩
      | go_keep)
    (first | (refine step_append_many rfl (.tmp 7) (.tmp 11) rfl (w.heap.size + 1 + 1) (.slice (some ⟨w.heap.size + 1 + 1, 0, none⟩) 0 0) [] (by simp [Act.eval]) (by first | exact HO.out | exact HO.out.drew | exact HO.out.drew.drew) (.slice (some ⟨b, off, none⟩) j cap) (bs.take j) (by simp [Act.eval]) (by first | exact HS1.out | exact HS1.out.drew | exact HS1.out.drew.drew) l0 (by simp) ?_; intro a1 c1 w1 ho1 hg1; obtain ⟨e0, e1, e2, e3, e4, e5⟩ := HK1.out w1 (by first | exact hg1 | exact gb_drewL hg1); have hn1 := HN1.out w1 (by first | exact hg1 | exact gb_drewL hg1); have hB1 := HB1.out w1 (by first | exact hg1 | exact gb_drewL hg1)) | (refine step_append_many rfl (.tmp 12) (.tmp 17) rfl (w.heap.size + 1 + 1) (.slice a1 (([] : List Blk).length + (bs.take j).length) c1) ([] ++ bs.take j) (by simp [Act.eval]) (by first | exact ho1 | exact ho1.drew | exact ho1.drew.drew) x (bs.drop (j + 1)) (by simp [Act.eval]) (by first | exact hn1.1 | exact hn1.1.drew) l1 (by exact hn1.2) ?_; intro a2 c2 w2 ho2 hg2; obtain ⟨f0, f1, f2, f3, f4, f5⟩ := keep6 ⟨e0, e1, e2, e3, e4, e5⟩ hg2 (fun r e => by have := ho1.row r e; omega); have hB2 := hB1.grown (by first | exact hg2 | exact gb_drewL hg2) hB1.size (fun r e => by have := ho1.row r e; omega); have hr2 := HRES.out w2 a2 c2 ho2))
  all_goals go_wp2
  all_goals exact bodyPost_ret (v := .agg #[.int .i64 v, .slice a2 (min j bs.length + (bs.length - (j + 1))) c2]) (by simp [results, Try.results118, go_sem, *]) rfl ⟨_, rfl, (hr2.kept (gb_set2 w2 (w.heap.size + 1) (.int .i64 v) (.slice a2 (min j bs.length + (bs.length - (j + 1))) c2)) (fun r e => by cases e; exact .inl (by omega))).wide (by omega) (by simp [World.setCell]), below_set2 hB2 (by omega) _ _⟩
/-- .. and the slice is no longer than its capacity. -/
def SC (w : World) (s : Value) (bs : List Blk) : Prop := SB w s bs ∧ ∀ a n c, s = .slice a n c → n ≤ c
theorem SC.below {w w' : World} {s : Value} {bs : List Blk} (h : SC w s bs) {B : Nat} (hb : Below B w w') (hB : w.heap.size ≤ B) : SC w' s bs := ⟨h.1.below hb hB, h.2⟩
theorem OwnB.sc {w : World} {lo : Nat} {s : Value} {bs : List Blk} (h : OwnB w lo s bs) (hwf : ∀ x ∈ bs, WFB x) (hl : bs.length ≤ 1100000) : SC w s bs := by
  refine ⟨h.sb hwf hl, fun a n c e => ?_⟩
  obtain ⟨g, cap, rfl, _, _, _, _, hc⟩ := h
  cases e
  exact hc
theorem l01In_out (n lo hi : Int) (W : World) (β : Bool) (hβ : (decide (lo ≤ n) && decide (n ≤ hi)) = β) : Calls Try.prog 102 #[.int .i64 n, .int .i64 lo, .int .i64 hi] W (RS (.bool β) W) := by
  rw [← hβ]
  exact l01In_any n lo hi W
set_option maxRecDepth 100000 in
theorem specTakeBlock_any (v : Int) (s : Value) (bs : List Blk) (i : Int) (w : World) (h : SC w s bs) :
    Calls Try.prog 55 #[.agg #[.int .i64 v, s], .int .i64 i] w (RSys (takeF v bs i) w) := by
  obtain ⟨h, hcap⟩ := h
  have hs := h.slice
  have HI := Lib.hid fun W (hb : Below w.heap.size w W) => l01Is_any v s bs W (h.below hb (Nat.le_refl _))
  have HSB := Lib.hid h
  have hlen := h.2.1
  clear h
  obtain ⟨a0, c0, rfl⟩ := hs
  have hcp := hcap _ _ _ rfl
  clear hcap
  cases hi : isSysImpl v bs with
  | false =>
    have hval : takeF v bs i = (0, [], 1) := by simp [takeF, hi]
    rw [hval]
    rw [hi] at HI
    clear hval hi HSB
    go_enter Try.func55, Try.ntmps55
    go_wp2_with (go_at_call 89; refine (HI.out _ (below2 _ _ _ _)).mono ?_; rintro e w1 ⟨rfl, hb1⟩; obtain ⟨_, _, d0, d1, f0, f1, hbw, hlt⟩ := boxes2 hb1)
    exact bodyPost_ret (v := .tuple #[.agg #[.int .i64 0, .slice none 0 0], .int .i64 1]) (by simp [results, Try.results55, go_sem, *]) rfl ⟨_, rfl, .inl ⟨rfl, _, _, rfl⟩, below_set2 hbw (by omega) _ _⟩
  | true =>
    by_cases hr : 0 ≤ i ∧ i < (bs.length : Int)
    · have hval : takeF v bs i = (v, bs.take i.toNat ++ bs.drop (i.toNat + 1), 0) := by simp [takeF, hi, hr]
      rw [hval]
      obtain ⟨j, rfl⟩ : ∃ j : Nat, i = (j : Int) := ⟨i.toNat, by omega⟩
      have hj : j < bs.length := by omega
      rw [Int.toNat_natCast]
      rw [hi] at HI
      have HIN := Lib.hid fun W => l01In_out (j : Int) 0 ((bs.length : Int) - 1) W true (by simp; omega)
      have HWO := Lib.hid fun (W : World) (hb : Below w.heap.size w W) => show Calls Try.prog 118 #[.agg #[.int .i64 v, .slice a0 bs.length c0], .int .i64 j] W fun e w' => ∃ s, e = .returned (.agg #[.int .i64 v, s]) ∧ ResR w' W.heap.size w'.heap.size s (bs.take j ++ bs.drop (j + 1)) ∧ Below W.heap.size W w' from by
        rcases (HSB.out.below hb (Nat.le_refl _)).2.2 with ⟨_, _, _, hnil⟩ | ⟨b, off, cap, hv, hblt, hbl⟩
        · rw [hnil] at hj; simp at hj
        · simp at hv
          obtain ⟨rfl, rfl⟩ := hv
          exact l01Without_any v b off c0 bs j W hlen hbl hblt hj hcp
      have g0 : (0 : Int) ≤ (bs.length : Int) - 1 := by omega
      clear hval hi hr HSB
      go_enter Try.func55, Try.ntmps55
      go_wp2_with fail
      refine (HI.out _ (below2 _ _ _ _)).mono ?_
      rintro e w1 ⟨rfl, hb1⟩
      obtain ⟨p0, p1, d0, d1, f0, f1, hbw, hlt⟩ := boxes2 hb1
      clear hb1
      go_wp2_with fail
      refine (HIN.out _).mono ?_
      rintro e w2 ⟨rfl, rfl⟩
      go_wp2_with fail
      refine (HWO.out _ hbw).mono ?_
      rintro e w3 ⟨s3, rfl, hr3, hb3⟩
      have d0' := (hb3.cell (p := ⟨w.heap.size + 1, 0, none⟩) hlt).trans d0
      have d1' := (hb3.cell (p := ⟨w.heap.size + 1, 1, none⟩) hlt).trans d1
      have f0' := (hb3.frozen (p := ⟨w.heap.size + 1, 0, none⟩) hlt).trans f0
      have f1' := (hb3.frozen (p := ⟨w.heap.size + 1, 1, none⟩) hlt).trans f1
      have hz3 := hb3.size
      obtain ⟨a3, n3, hs3⟩ : ∃ a n, s3 = .slice a (bs.take j ++ bs.drop (j + 1)).length n := hr3.slice
      have HS3 := Lib.hid hs3
      obtain ⟨m3, hm3⟩ : ∃ m, m = (bs.take j ++ bs.drop (j + 1)).length := ⟨_, rfl⟩
      rw [← hm3] at hs3
      clear hm3 HS3
      subst hs3
      go_wp2
      exact bodyPost_ret (v := .tuple #[.agg #[.int .i64 v, .slice a3 m3 n3], .int .i64 0]) (by simp [results, Try.results55, go_sem, *]) rfl ⟨_, rfl, (hr3.kept (gb_set2 w3 (w.heap.size + 1) (.int .i64 v) (.slice a3 m3 n3)) (fun r e => by cases e; exact .inl (by omega))).wide (by omega) (by simp [World.setCell]), below_set2 (hbw.trans (hb3.mono (by omega))) (by omega) _ _⟩
    · have hval : takeF v bs i = (0, [], 2) := by
        simp only [takeF, hi, if_true]
        rw [if_neg (by simpa using hr)]
      rw [hval]
      rw [hi] at HI
      have HIN := Lib.hid fun W => l01In_out i 0 ((bs.length : Int) - 1) W false (by
        rw [Bool.and_eq_false_iff]
        by_cases h0 : 0 ≤ i
        · right; simp; omega
        · left; simp; omega)
      clear hval hi HSB hr
      go_enter Try.func55, Try.ntmps55
      go_wp2_with (first | (go_at_call 89; refine (HI.out _ (below2 _ _ _ _)).mono ?_; rintro e w1 ⟨rfl, hb1⟩; obtain ⟨p0, p1, d0, d1, f0, f1, hbw, hlt⟩ := boxes2 hb1) | (go_at_call 102; refine (HIN.out _).mono ?_; rintro e w2 ⟨rfl, rfl⟩))
      exact bodyPost_ret (v := .tuple #[.agg #[.int .i64 0, .slice none 0 0], .int .i64 2]) (by simp [results, Try.results55, go_sem, *]) rfl ⟨_, rfl, .inl ⟨rfl, _, _, rfl⟩, below_set2 hbw (by omega) _ _⟩
end Go.Proofs.Ytlchcnngikgjjaa

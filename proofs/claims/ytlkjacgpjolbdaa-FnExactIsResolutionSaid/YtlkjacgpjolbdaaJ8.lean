
/- The model's TakeBlock. IsResolution of the program. IsResolution of the program: whole. spec.l02Triple, the first cases. spec.l02Triple, the other cases. Masks of small numbers. Squares and masks: plain. Masks of disjoint blocks: plain. -/
import Derived.Test.YtlkjacgpjolbdaaJ7
import Derived.Deep.RegionHeld3
import Derived.IntWalk
import Derived.Laws.BitsLemmas
namespace Go.Proofs.Ytlkjacgpjolbdaa
open Go.RowKit Go.Maps
theorem Blks.take {w : World} {b off : Nat} {bs : List Blk} (h : Blks w b off bs) (j : Nat) : Blks w b off (bs.take j) := fun k hk => by
  rw [List.length_take] at hk
  have := h k (by omega)
  rwa [List.getElem?_take_of_lt (by omega)]
theorem Blks.drop {w : World} {b off : Nat} {bs : List Blk} (h : Blks w b off bs) (j : Nat) : Blks w b (off + j * 3) (bs.drop j) := fun k hk => by
  rw [List.length_drop] at hk
  have := h (j + k) (by omega)
  rw [List.getElem?_drop, show off + j * 3 + k * 3 = off + (j + k) * 3 by omega]
  exact this
theorem lit_own (W : World) : OwnR (W.alloc (.cells #[] 70)) W.heap.size (.slice (some ⟨W.heap.size, 0, none⟩) 0 0) [] :=
  ⟨rfl, .inr ⟨W.heap.size, 0, #[], rfl, Nat.le_refl _, (MapKept.heap_alloc W (.cells #[] 70)).1, Nat.le_refl _, by unfold maxLen; omega, rfl, rfl⟩⟩
theorem OwnR.drew {w : World} {base : Nat} {v : Value} {bs : List Blk} (h : OwnR w base v bs) : OwnR w.drew base v bs := h
theorem SX.drew {w : World} {v : Value} {bs : List Blk} (h : SX w v bs) : SX w.drew v bs := h
theorem Blks.drew {w : World} {b off : Nat} {bs : List Blk} (h : Blks w b off bs) : Blks w.drew b off bs := h
theorem Blks.kept {w w' : World} {b off : Nat} {bs : List Blk} {row : Option Nat} (h : Blks w b off bs) (hg : w.grownBy w' row) (hne : some b ≠ row) : Blks w' b off bs := fun k hk => by
  obtain ⟨h1, h2, h3⟩ := h k hk
  exact ⟨hg.cell h1 hne, hg.cell h2 hne, hg.cell h3 hne⟩
theorem keep_cell {w w' : World} {row : Option Nat} {b o : Nat} {u : Value} (h : w.cell? ⟨b, o, none⟩ = some u) (hg : w.grownBy w' row) (hne : ∀ r, row = some r → b < r) : w'.cell? ⟨b, o, none⟩ = some u :=
  hg.cell h (fun e => by have := hne _ e.symm; simp at this)
theorem keep_frozen {w w' : World} {row : Option Nat} {b o : Nat} {u : Value} (hc : w.cell? ⟨b, o, none⟩ = some u) (h : w.frozen? ⟨b, o, none⟩ = false) (hg : w.grownBy w' row) (hne : ∀ r, row = some r → b < r) : w'.frozen? ⟨b, o, none⟩ = false :=
  (World.frozen?_of_block (w := w) (a := ⟨b, o, none⟩) (hg.block b (block_lt_of_cell hc) (fun e => by have := hne _ e.symm; omega))).trans h
theorem keep_some {w w' : World} {row : Option Nat} {b o : Nat} (h : (w.cell? ⟨b, o, none⟩).isSome = true) (hg : w.grownBy w' row) (hne : ∀ r, row = some r → b < r) : (w'.cell? ⟨b, o, none⟩).isSome = true := by
  obtain ⟨u, hu⟩ := Option.isSome_iff_exists.1 h
  rw [keep_cell hu hg hne]
  rfl
theorem keep_free {w w' : World} {row : Option Nat} {b o : Nat} (h : (w.cell? ⟨b, o, none⟩).isSome = true) (hf : w.frozen? ⟨b, o, none⟩ = false) (hg : w.grownBy w' row) (hne : ∀ r, row = some r → b < r) : w'.frozen? ⟨b, o, none⟩ = false := by
  obtain ⟨u, hu⟩ := Option.isSome_iff_exists.1 h
  exact keep_frozen hu hf hg hne
def Six (w' : World) (b : Nat) (v : Int) (s : Value) : Prop := w'.cell? ⟨b, 0, none⟩ = some (.int .i64 v) ∧ w'.cell? ⟨b, 1, none⟩ = some s ∧ w'.cell? ⟨b + 1, 0, none⟩ = some (.int .i64 0) ∧ w'.cell? ⟨b + 1, 1, none⟩ = some (.slice none 0 0) ∧ w'.frozen? ⟨b + 1, 0, none⟩ = false ∧ w'.frozen? ⟨b + 1, 1, none⟩ = false
theorem keep6 {w w' : World} {b : Nat} {v : Int} {s : Value} {row : Option Nat} (h : Six w b v s) (hg : w.grownBy w' row) (hr : ∀ r, row = some r → b + 1 < r) : Six w' b v s := by
  obtain ⟨h0, h1, h2, h3, h4, h5⟩ := h
  exact ⟨keep_cell h0 hg (fun r e => by have := hr r e; omega), keep_cell h1 hg (fun r e => by have := hr r e; omega), keep_cell h2 hg hr, keep_cell h3 hg hr, keep_frozen h2 h4 hg hr, keep_frozen h3 h5 hg hr⟩
theorem gb_drewL {w w' : World} {row : Option Nat} (h : w.drew.grownBy w' row) : w.grownBy w' row := ⟨h.os, h.tape, h.output, h.size, h.block⟩
theorem run_slice_drop (b off n cap j : Nat) (h1 : j ≤ n) (h2 : n ≤ cap) : ∃ x, (∀ W : World, (Instr.slice 26 (.slice (some ⟨b, off, none⟩) n cap) (some (.int .i64 (j : Int))) none none).run Try.prog W = .ok x W) ∧ ∀ (W : World) (bs : List Blk), bs.length = n → b < W.heap.size → Blks W b off bs → SX W x (bs.drop j) := by
  have hj0 : (0 : Int) ≤ (j : Int) := by omega
  have hj1 : (j : Int) ≤ (n : Int) := by omega
  by_cases hc : j = cap
  · refine ⟨.slice (some ⟨b, off, none⟩) 0 0, fun W => ?_, fun W bs e _ _ => .inl ⟨_, _, rfl, List.drop_eq_nil_of_le (by omega)⟩⟩
    have e1 : n = j := by omega
    subst e1
    subst hc
    simp [Instr.slice, Instr.sliceBounds, Instr.sliceBound, run_underlying Try.underlying26, go_sem, hj0]
  · refine ⟨.slice (some ⟨b, off + j * 3, none⟩) (n - j) (cap - j), fun W => ?_, fun W bs e h1 h2 => .inr ⟨b, off + j * 3, cap - j, by rw [List.length_drop, e], h1, h2.drop j⟩⟩
    have hc' : ¬ cap = j := fun e => hc e.symm
    simp [Instr.slice, Instr.sliceBounds, Instr.sliceBound, run_underlying Try.underlying26, go_sem, hj0, h1, hc', addr_at]
set_option maxRecDepth 100000 in
set_option maxHeartbeats 1000000 in
theorem l01Without_any (v : Int) (b off cap : Nat) (bs : List Blk) (j : Nat) (w : World) (hlen : bs.length ≤ 1100000) (hbl : Blks w b off bs) (hb : b < w.heap.size) (hj : j < bs.length) (hc : bs.length ≤ cap) :
    Calls Try.prog 68 #[.agg #[.int .i64 v, .slice (some ⟨b, off, none⟩) bs.length cap], .int .i64 j] w fun e w' => ∃ s, e = .returned (.agg #[.int .i64 v, s]) ∧ ResR w' w.heap.size w'.heap.size s (bs.take j ++ bs.drop (j + 1)) ∧ Below w.heap.size w w' := by
  obtain ⟨x, hx1, hx2⟩ := run_slice_drop b off bs.length cap (j + 1) hj hc
  rw [show ((j + 1 : Nat) : Int) = (j : Int) + 1 by omega] at hx1
  have HX2 := Lib.hid hx2
  have g0 : (0 : Int) ≤ (j : Int) := by omega
  have g1 : (j : Int) ≤ (bs.length : Int) := by omega
  have g3 : j ≤ cap := by omega
  have hwr : IntKind.i64.wrap ((j : Int) + 1) = (j : Int) + 1 := IntWalk.i64_in _ (by omega)
  have B0 : Below w.heap.size w ((((w.alloc (.cells #[.int .i64 v, .slice (some ⟨b, off, none⟩) bs.length cap] 28)).alloc (.cells #[.int .i64 0, .slice none 0 0] 28)).alloc (.cells #[] 70))) := (((Below.refl _ _).alloc (Nat.le_refl _) _).alloc (by simp) _).alloc (by simp; omega) _
  have ho := lit_own ((w.alloc (.cells #[.int .i64 v, .slice (some ⟨b, off, none⟩) bs.length cap] 28)).alloc (.cells #[.int .i64 0, .slice none 0 0] 28))
  simp only [World.size_alloc] at ho
  have hbl0 := hbl.below B0 hb
  have hs1 : SX ((((w.alloc (.cells #[.int .i64 v, .slice (some ⟨b, off, none⟩) bs.length cap] 28)).alloc (.cells #[.int .i64 0, .slice none 0 0] 28)).alloc (.cells #[] 70))) (.slice (some ⟨b, off, none⟩) j cap) (bs.take j) :=
    .inr ⟨b, off, cap, by rw [List.length_take, Nat.min_eq_left (by omega)], by simp; omega, hbl0.take j⟩
  have HBL := Lib.hid hbl0
  have HF := Lib.hid (show ∀ i, (((((w.alloc (.cells #[.int .i64 v, .slice (some ⟨b, off, none⟩) bs.length cap] 28)).alloc (.cells #[.int .i64 0, .slice none 0 0] 28)).alloc (.cells #[] 70)))).frozen? ⟨w.heap.size + 1, i, none⟩ = false from fun i => by
    rw [World.frozen?_alloc_past _ _ _ (by simp)]
    simp [go_sem])
  have HC := Lib.hid (show (((((w.alloc (.cells #[.int .i64 v, .slice (some ⟨b, off, none⟩) bs.length cap] 28)).alloc (.cells #[.int .i64 0, .slice none 0 0] 28)).alloc (.cells #[] 70)))).cell? ⟨w.heap.size, 0, none⟩ = some (.int .i64 v) ∧ (((((w.alloc (.cells #[.int .i64 v, .slice (some ⟨b, off, none⟩) bs.length cap] 28)).alloc (.cells #[.int .i64 0, .slice none 0 0] 28)).alloc (.cells #[] 70)))).cell? ⟨w.heap.size, 1, none⟩ = some (.slice (some ⟨b, off, none⟩) bs.length cap) ∧ (((((w.alloc (.cells #[.int .i64 v, .slice (some ⟨b, off, none⟩) bs.length cap] 28)).alloc (.cells #[.int .i64 0, .slice none 0 0] 28)).alloc (.cells #[] 70)))).cell? ⟨w.heap.size + 1, 0, none⟩ = some (.int .i64 0) ∧ (((((w.alloc (.cells #[.int .i64 v, .slice (some ⟨b, off, none⟩) bs.length cap] 28)).alloc (.cells #[.int .i64 0, .slice none 0 0] 28)).alloc (.cells #[] 70)))).cell? ⟨w.heap.size + 1, 1, none⟩ = some (.slice none 0 0) by
    refine ⟨?_, ?_, ?_, ?_⟩ <;> (rw [World.cell?_alloc_past _ _ _ (by simp <;> omega)]; simp [go_sem]))
  have HO := Lib.hid ho
  have HS1 := Lib.hid hs1
  have hlt : (bs.take j).length = j := by rw [List.length_take, Nat.min_eq_left (by omega)]
  have HLT := Lib.hid hlt
  have l0 : ([] : List Blk).length + (bs.take j).length ≤ 2200000 := by simp; omega
  have l1 : ([] ++ bs.take j : List Blk).length + (bs.drop (j + 1)).length ≤ 2200000 := by simp; omega
  have HK1 := Lib.hid fun w1 (hg : (((((w.alloc (.cells #[.int .i64 v, .slice (some ⟨b, off, none⟩) bs.length cap] 28)).alloc (.cells #[.int .i64 0, .slice none 0 0] 28)).alloc (.cells #[] 70)))).grownBy w1 (Value.slice (some ⟨w.heap.size + 1 + 1, 0, none⟩) 0 0).ownBlock) => keep6 (s := .slice (some ⟨b, off, none⟩) bs.length cap) (v := v) ⟨HC.out.1, HC.out.2.1, HC.out.2.2.1, HC.out.2.2.2, HF.out 0, HF.out 1⟩ hg (fun r e => by simp [Value.ownBlock] at e; omega)
  have HN1 := Lib.hid fun w1 (hg : (((((w.alloc (.cells #[.int .i64 v, .slice (some ⟨b, off, none⟩) bs.length cap] 28)).alloc (.cells #[.int .i64 0, .slice none 0 0] 28)).alloc (.cells #[] 70)))).grownBy w1 (Value.slice (some ⟨w.heap.size + 1 + 1, 0, none⟩) 0 0).ownBlock) => show SX w1 x (bs.drop (j + 1)) ∧ w.heap.size + 1 + 1 ≤ w1.heap.size from ⟨HX2.out w1 bs rfl (by have := hg.size; simp at this; omega) (HBL.out.kept hg (fun e => by simp [Value.ownBlock] at e; omega)), by have := hg.size; simp at this; omega⟩
  have HB1 := Lib.hid fun w1 (hg : (((((w.alloc (.cells #[.int .i64 v, .slice (some ⟨b, off, none⟩) bs.length cap] 28)).alloc (.cells #[.int .i64 0, .slice none 0 0] 28)).alloc (.cells #[] 70)))).grownBy w1 (Value.slice (some ⟨w.heap.size + 1 + 1, 0, none⟩) 0 0).ownBlock) => B0.grown hg B0.size (fun r e => by simp [Value.ownBlock] at e; omega)
  have HRES := Lib.hid fun (w2 : World) a2 c2 (h : OwnR w2 (w.heap.size + 1 + 1) (.slice a2 (([] ++ bs.take j : List Blk).length + (bs.drop (j + 1)).length) c2) ([] ++ bs.take j ++ bs.drop (j + 1))) => show ResR w2 (w.heap.size + 1 + 1) w2.heap.size (.slice a2 (min j bs.length + (bs.length - (j + 1))) c2) (bs.take j ++ bs.drop (j + 1)) from by
    have := h.res
    simpa using this
  clear hx2 hbl hbl0 ho hs1 B0 hlt
  go_enter Try.func68, Try.ntmps68
  go_wp2_with fail
  go_region_held3 (fun w' => w'.cell? ⟨w.heap.size, 0, none⟩ = some (.int .i64 v) ∧ w'.cell? ⟨w.heap.size, 1, none⟩ = some (.slice (some ⟨b, off, none⟩) bs.length cap))
    (first
      | exact ⟨f0, f1⟩
      | exact ⟨e0, e1⟩
      | go_keep)
    (first | (refine step_append_many rfl (.tmp 7) (.tmp 11) rfl (w.heap.size + 1 + 1) (.slice (some ⟨w.heap.size + 1 + 1, 0, none⟩) 0 0) [] (by simp [Act.eval]) (by first | exact HO.out | exact HO.out.drew | exact HO.out.drew.drew) (.slice (some ⟨b, off, none⟩) j cap) (bs.take j) (by simp [Act.eval]) (by first | exact HS1.out | exact HS1.out.drew | exact HS1.out.drew.drew) l0 (by simp) ?_; intro a1 c1 w1 ho1 hg1; obtain ⟨e0, e1, e2, e3, e4, e5⟩ := HK1.out w1 (by first | exact hg1 | exact gb_drewL hg1); have hn1 := HN1.out w1 (by first | exact hg1 | exact gb_drewL hg1); have hB1 := HB1.out w1 (by first | exact hg1 | exact gb_drewL hg1)) | (refine step_append_many rfl (.tmp 12) (.tmp 17) rfl (w.heap.size + 1 + 1) (.slice a1 (([] : List Blk).length + (bs.take j).length) c1) ([] ++ bs.take j) (by simp [Act.eval]) (by first | exact ho1 | exact ho1.drew | exact ho1.drew.drew) x (bs.drop (j + 1)) (by simp [Act.eval]) (by first | exact hn1.1 | exact hn1.1.drew) l1 (by exact hn1.2) ?_; intro a2 c2 w2 ho2 hg2; obtain ⟨f0, f1, f2, f3, f4, f5⟩ := keep6 ⟨e0, e1, e2, e3, e4, e5⟩ hg2 (fun r e => by have := ho1.row r e; omega); have hB2 := hB1.grown (by first | exact hg2 | exact gb_drewL hg2) hB1.size (fun r e => by have := ho1.row r e; omega); have hr2 := HRES.out w2 a2 c2 ho2))
  all_goals go_wp2
  all_goals exact bodyPost_ret (v := .agg #[.int .i64 v, .slice a2 (min j bs.length + (bs.length - (j + 1))) c2]) (by simp [results, Try.results68, go_sem, *]) rfl ⟨_, rfl, (hr2.kept (gb_set2 w2 (w.heap.size + 1) (.int .i64 v) (.slice a2 (min j bs.length + (bs.length - (j + 1))) c2)) (fun r e => by cases e; exact .inl (by omega))).wide (by omega) (by simp [World.setCell]), below_set2 hB2 (by omega) _ _⟩
/-- .. and the slice is no longer than its capacity. -/
def SC (w : World) (s : Value) (bs : List Blk) : Prop := SB w s bs ∧ ∀ a n c, s = .slice a n c → n ≤ c
theorem SC.below {w w' : World} {s : Value} {bs : List Blk} (h : SC w s bs) {B : Nat} (hb : Below B w w') (hB : w.heap.size ≤ B) : SC w' s bs := ⟨h.1.below hb hB, h.2⟩
theorem OwnB.sc {w : World} {lo : Nat} {s : Value} {bs : List Blk} (h : OwnB w lo s bs) (hwf : ∀ x ∈ bs, WFB x) (hl : bs.length ≤ 1100000) : SC w s bs := by
  refine ⟨h.sb hwf hl, fun a n c e => ?_⟩
  obtain ⟨g, cap, rfl, _, _, _, _, hc⟩ := h
  cases e
  exact hc
theorem l01In_out (n lo hi : Int) (W : World) (β : Bool) (hβ : (decide (lo ≤ n) && decide (n ≤ hi)) = β) : Calls Try.prog 67 #[.int .i64 n, .int .i64 lo, .int .i64 hi] W (RS (.bool β) W) := by
  rw [← hβ]
  exact l01In_any n lo hi W
set_option maxRecDepth 100000 in
theorem specTakeBlock_any (v : Int) (s : Value) (bs : List Blk) (i : Int) (w : World) (h : SC w s bs) :
    Calls Try.prog 20 #[.agg #[.int .i64 v, s], .int .i64 i] w (RSys (takeF v bs i) w) := by
  obtain ⟨h, hcap⟩ := h
  have hs := h.slice
  have HI := Lib.hid fun W (hb : Below w.heap.size w W) => l01Is_any v s bs W (h.below hb (Nat.le_refl _))
  have HSB := Lib.hid h
  have hlen := h.2.1
  clear h
  obtain ⟨a0, c0, rfl⟩ := hs
  have hcp := hcap _ _ _ rfl
  clear hcap
  cases hi : isSysImpl v bs with
  | false =>
    have hval : takeF v bs i = (0, [], 1) := by simp [takeF, hi]
    rw [hval]
    rw [hi] at HI
    clear hval hi HSB
    go_enter Try.func20, Try.ntmps20
    go_wp2_with (go_at_call 66; refine (HI.out _ (below2 _ _ _ _)).mono ?_; rintro e w1 ⟨rfl, hb1⟩; obtain ⟨_, _, d0, d1, f0, f1, hbw, hlt⟩ := boxes2 hb1)
    exact bodyPost_ret (v := .tuple #[.agg #[.int .i64 0, .slice none 0 0], .int .i64 1]) (by simp [results, Try.results20, go_sem, *]) rfl ⟨_, rfl, .inl ⟨rfl, _, _, rfl⟩, below_set2 hbw (by omega) _ _⟩
  | true =>
    by_cases hr : 0 ≤ i ∧ i < (bs.length : Int)
    · have hval : takeF v bs i = (v, bs.take i.toNat ++ bs.drop (i.toNat + 1), 0) := by simp [takeF, hi, hr]
      rw [hval]
      obtain ⟨j, rfl⟩ : ∃ j : Nat, i = (j : Int) := ⟨i.toNat, by omega⟩
      have hj : j < bs.length := by omega
      rw [Int.toNat_natCast]
      rw [hi] at HI
      have HIN := Lib.hid fun W => l01In_out (j : Int) 0 ((bs.length : Int) - 1) W true (by simp; omega)
      have HWO := Lib.hid fun (W : World) (hb : Below w.heap.size w W) => show Calls Try.prog 68 #[.agg #[.int .i64 v, .slice a0 bs.length c0], .int .i64 j] W fun e w' => ∃ s, e = .returned (.agg #[.int .i64 v, s]) ∧ ResR w' W.heap.size w'.heap.size s (bs.take j ++ bs.drop (j + 1)) ∧ Below W.heap.size W w' from by
        rcases (HSB.out.below hb (Nat.le_refl _)).2.2 with ⟨_, _, _, hnil⟩ | ⟨b, off, cap, hv, hblt, hbl⟩
        · rw [hnil] at hj; simp at hj
        · simp at hv
          obtain ⟨rfl, rfl⟩ := hv
          exact l01Without_any v b off c0 bs j W hlen hbl hblt hj hcp
      have g0 : (0 : Int) ≤ (bs.length : Int) - 1 := by omega
      clear hval hi hr HSB
      go_enter Try.func20, Try.ntmps20
      go_wp2_with fail
      refine (HI.out _ (below2 _ _ _ _)).mono ?_
      rintro e w1 ⟨rfl, hb1⟩
      obtain ⟨p0, p1, d0, d1, f0, f1, hbw, hlt⟩ := boxes2 hb1
      clear hb1
      go_wp2_with fail
      refine (HIN.out _).mono ?_
      rintro e w2 ⟨rfl, rfl⟩
      go_wp2_with fail
      refine (HWO.out _ hbw).mono ?_
      rintro e w3 ⟨s3, rfl, hr3, hb3⟩
      have d0' := (hb3.cell (p := ⟨w.heap.size + 1, 0, none⟩) hlt).trans d0
      have d1' := (hb3.cell (p := ⟨w.heap.size + 1, 1, none⟩) hlt).trans d1
      have f0' := (hb3.frozen (p := ⟨w.heap.size + 1, 0, none⟩) hlt).trans f0
      have f1' := (hb3.frozen (p := ⟨w.heap.size + 1, 1, none⟩) hlt).trans f1
      have hz3 := hb3.size
      obtain ⟨a3, n3, hs3⟩ : ∃ a n, s3 = .slice a (bs.take j ++ bs.drop (j + 1)).length n := hr3.slice
      have HS3 := Lib.hid hs3
      obtain ⟨m3, hm3⟩ : ∃ m, m = (bs.take j ++ bs.drop (j + 1)).length := ⟨_, rfl⟩
      rw [← hm3] at hs3
      clear hm3 HS3
      subst hs3
      go_wp2
      exact bodyPost_ret (v := .tuple #[.agg #[.int .i64 v, .slice a3 m3 n3], .int .i64 0]) (by simp [results, Try.results20, go_sem, *]) rfl ⟨_, rfl, (hr3.kept (gb_set2 w3 (w.heap.size + 1) (.int .i64 v) (.slice a3 m3 n3)) (fun r e => by cases e; exact .inl (by omega))).wide (by omega) (by simp [World.setCell]), below_set2 (hbw.trans (hb3.mono (by omega))) (by omega) _ _⟩
    · have hval : takeF v bs i = (0, [], 2) := by
        simp only [takeF, hi, if_true]
        rw [if_neg (by simpa using hr)]
      rw [hval]
      rw [hi] at HI
      have HIN := Lib.hid fun W => l01In_out i 0 ((bs.length : Int) - 1) W false (by
        rw [Bool.and_eq_false_iff]
        by_cases h0 : 0 ≤ i
        · right; simp; omega
        · left; simp; omega)
      clear hval hi HSB hr
      go_enter Try.func20, Try.ntmps20
      go_wp2_with (first | (go_at_call 66; refine (HI.out _ (below2 _ _ _ _)).mono ?_; rintro e w1 ⟨rfl, hb1⟩; obtain ⟨p0, p1, d0, d1, f0, f1, hbw, hlt⟩ := boxes2 hb1) | (go_at_call 67; refine (HIN.out _).mono ?_; rintro e w2 ⟨rfl, rfl⟩))
      exact bodyPost_ret (v := .tuple #[.agg #[.int .i64 0, .slice none 0 0], .int .i64 2]) (by simp [results, Try.results20, go_sem, *]) rfl ⟨_, rfl, .inl ⟨rfl, _, _, rfl⟩, below_set2 hbw (by omega) _ _⟩
end Go.Proofs.Ytlkjacgpjolbdaa

namespace Go.Proofs.Ytlkjacgpjolbdaa
open Go.RowKit Go.Maps
set_option maxRecDepth 100000 in
theorem blockNumbers_any (v : Int) (s : Value) (bs : List Blk) (w : World) (h : SB w s bs) :
    Calls Try.prog 136 #[.agg #[.int .i64 v, s]] w (fun e w' => ∃ u, e = .returned u ∧ OwnJ w' w.heap.size u (numL bs.length) ∧ Below w.heap.size w w') := by
  have hs := h.slice
  have hl := h.2.1
  clear h
  obtain ⟨a0, c0, rfl⟩ := hs
  obtain ⟨N, hN⟩ : ∃ N, N = bs.length := ⟨_, rfl⟩
  rw [← hN] at hl ⊢
  clear hN
  have hb0 : Below w.heap.size w (w.alloc (.cells #[.int .i64 v, .slice a0 N c0] 28)) := (Below.refl _ _).alloc (Nat.le_refl _) _
  have HB0 := Lib.hid hb0
  clear hb0
  go_enter Try.func136, Try.ntmps136
  go_wp2_with fail
  go_loopw [3, 8] (fun o i wr => ∃ k : Nat, k ≤ N ∧ i = .int .i64 k ∧ Below w.heap.size w wr ∧ OwnJ wr w.heap.size o (numL k) ∧ ∃ a n c, o = .slice a n c) (fun _ i _ => N - (intOf i).toNat)
  case atStart => exact ⟨0, Nat.zero_le _, rfl, HB0.out, OwnJ.nil _ _, _, _, _, rfl⟩
  case round =>
    obtain ⟨k, hk, rfl, hB, hO, hform⟩ := hrel
    have hz := hB.size
    obtain ⟨a3, n3, c3, rfl⟩ := hform
    have HO := Lib.hid hO
    have hln := numL_len k
    have HSU := Lib.hid (numL_succ k)
    have hle : (numL k).length ≤ 1100000 := by omega
    clear hO hln
    by_cases hkl : k < N
    · go_wp2_with (at_builtin; refine wpList_append_int rfl _ _ rfl w.heap.size _ (numL k) rfl (HO.out.below ((Below.refl _ _).alloc (Nat.le_refl _) _) (Nat.le_refl _)) _ _ (k : Int) rfl (by simp [go_sem]) hle (by simp; omega) ?_; intro g' cap' w4 hO4 hg4)
      have hrow := HO.out.row
      have hgo := gb_trans (World.grownBy_alloc _ _ none) hg4
      clear hg4
      go_roundw
      case rel => exact ⟨k + 1, by omega, by go_num, hB.grown hgo hz (fun j e => hrow j e), by rw [HSU.out]; exact hO4, _, _, _, rfl⟩
      case measure => simp [intOf]; omega
    · have e : k = N := by omega
      subst e
      go_wp2
      go_ret
      exact ⟨_, rfl, HO.out, hB⟩
theorem OwnJ.slice {w : World} {base : Nat} {u : Value} {zs : List Int} (h : OwnJ w base u zs) : ∃ a c, u = .slice a zs.length c := by
  rcases h.2 with ⟨rfl, h0⟩ | ⟨g, cap, cur, rfl, _⟩
  · exact ⟨none, 0, by rw [h0]⟩
  · exact ⟨_, _, rfl⟩
set_option maxRecDepth 100000 in
set_option maxHeartbeats 2000000 in
theorem isResolution_any (v : Int) (s : Value) (bs : List Blk) (t : Value) (n : Nat) (F : Nat → List Int) (w : World) (h : SB w s bs) (ht : SSB w t n F) (hi : isSysImpl v bs = true) (hin : ∀ k, k < n → ∀ z ∈ F k, 0 ≤ z ∧ z < (bs.length : Int)) (htot : tot F n ≤ 1100000) :
    Calls Try.prog 95 #[.agg #[.int .i64 v, s], t] w (RV (.bool (rstB v bs n F)) w) := by
  have hs := h.slice
  have hn := ht.1
  have hv3 := (sys_size hi).1
  have HSB := Lib.hid h
  have HSS := Lib.hid ht
  have HIN := Lib.hid hin
  obtain ⟨a, c, rfl⟩ := ht.slice
  have HROW := Lib.hid ht.rows
  have HIB := Lib.hid fun k (hk : k < n) => (show ∃ b off a' c', a = some ⟨b, off, none⟩ ∧ b < w.heap.size ∧ w.cell? ⟨b, off + k, none⟩ = some (.slice a' (F k).length c') ∧ IB w (.slice a' (F k).length c') (F k) from by
    obtain ⟨b, off, a', c', e, hlt, hc, hib⟩ := HROW.out k hk
    exact ⟨b, off, a', c', e, hlt, hc, hib⟩)
  have HTOT := Lib.hid htot
  have hlen := h.2.1
  clear h ht hin htot hi
  obtain ⟨a0, c0, rfl⟩ := hs
  have hb0 : Below w.heap.size w (w.alloc (.cells #[.int .i64 v, .slice a0 bs.length c0] 28)) := (Below.refl _ _).alloc (Nat.le_refl _) _
  have HB0 := Lib.hid hb0
  clear hb0 HROW
  go_enter Try.func95, Try.ntmps95
  go_wp2_with fail
  obtain ⟨W0, rfl⟩ : ∃ W0, W0 = w := ⟨_, rfl⟩
  go_loopw [10] (fun i wr => ∃ k : Nat, k ≤ n ∧ i = .int .i64 k ∧ Below W0.heap.size W0 wr ∧ W0.heap.size < wr.heap.size ∧ wr.cell? ⟨W0.heap.size, 0, none⟩ = some (.int .i64 v) ∧ wr.cell? ⟨W0.heap.size, 1, none⟩ = some (.slice a0 bs.length c0) ∧ Hid (rowsR v bs k F = true)) (fun i _ => n - (intOf i).toNat)
  case atStart => exact ⟨0, Nat.zero_le _, rfl, HB0.out, by simp, by simp, by simp, Lib.hid rfl⟩
  case round =>
    obtain ⟨k, hk, rfl, hB, hlt, p0, p1, HK⟩ := hrel
    have hz := hB.size
    by_cases hkl : k < n
    · obtain ⟨b, off, a', c', rfl, hltb, hc, hib⟩ := HIB.out k hkl
      have q := (hB.cell (p := ⟨b, off + k, none⟩) hltb).trans hc
      have HC := Lib.hid (isClass_any v _ bs _ (F k) wr (HSB.out.below hB (Nat.le_refl _)) (hib.below hB (Nat.le_refl _)) (HIN.out k hkl))
      have HIBK := Lib.hid hib
      have HROWK := Lib.hid (show rowR v bs F k = (clsB v (blksAt bs (F k)) && (decide (k = 0) || lexL (F (k - 1)) (F k))) from rfl)
      have hpos : clsB v (blksAt bs (F k)) = true → 0 < (F k).length := fun e => by
        unfold clsB at e
        simp only [Bool.and_eq_true, decide_eq_true_eq, blksAt_len] at e
        omega
      have HPOS := Lib.hid hpos
      have g0 : (0 : Int) ≤ (k : Int) := by omega
      have g1 : (k : Int) < (n : Int) := by omega
      clear hc hib hpos
      obtain ⟨m, hm⟩ : ∃ m, m = (F k).length := ⟨_, rfl⟩
      rw [← hm] at q HC HIBK HPOS
      have HM := Lib.hid hm
      clear hm
      cases hcl : clsB v (blksAt bs (F k)) with
      | false =>
        rw [hcl] at HC HROWK
        have HR := Lib.hid (show rstB v bs n F = false by unfold rstB; rw [rowsR_false hkl (by rw [HROWK.out]; rfl)]; rfl)
        clear hcl
        go_wp2_with fail
        refine HC.out.mono ?_
        rintro e w2 ⟨rfl, hb2⟩
        have HB2 := Lib.hid (hB.trans (hb2.mono hz))
        clear hb2
        go_wp2
        go_ret
        exact RV_of (bool_eq (by rw [HR.out])) HB2.out
      | true =>
        rw [hcl] at HC HROWK
        have hm0 := HPOS.out hcl
        clear hcl
        by_cases hk0 : k = 0
        · subst hk0
          have HR := Lib.hid (show rowsR v bs (0 + 1) F = true by rw [rowsR_succ, HK.out, HROWK.out]; rfl)
          have gd : decide ((0 : Int) < ((0 : Nat) : Int)) = false := by decide
          have q' : wr.cell? ⟨b, off, none⟩ = some (.slice a' m c') := by simpa using q
          clear q
          go_wp2_with fail
          refine HC.out.mono ?_
          rintro e w2 ⟨rfl, hb2⟩
          have HB2 := Lib.hid (hB.trans (hb2.mono hz))
          have hz2 := hb2.size
          have p0' := (hb2.cell (p := ⟨W0.heap.size, 0, none⟩) hlt).trans p0
          have p1' := (hb2.cell (p := ⟨W0.heap.size, 1, none⟩) hlt).trans p1
          clear hb2 p0 p1
          go_wp2
          go_roundw
          case rel => exact ⟨1, by omega, by go_num, HB2.out, by omega, p0', p1', HR⟩
          case measure => simp [intOf]; omega
        · obtain ⟨j, rfl⟩ : ∃ j, k = j + 1 := ⟨k - 1, by omega⟩
          obtain ⟨b', off', a'', c'', hbe, hltb', hc', hib'⟩ := HIB.out j (by omega)
          simp at hbe
          obtain ⟨rfl, rfl⟩ := hbe
          have hposj := row_len hv3 (rowsR_at (show j < j + 1 by omega) HK.out)
          have qj := (hB.cell (p := ⟨b, off + j, none⟩) hltb).trans hc'
          have HIBJ := Lib.hid hib'
          obtain ⟨m', hm'⟩ : ∃ m', m' = (F j).length := ⟨_, rfl⟩
          rw [← hm'] at qj HIBJ hposj
          have HM' := Lib.hid hm'
          have gd : decide ((0 : Int) < ((j + 1 : Nat) : Int)) = true := by simp <;> omega
          have gi : (0 : Int) < (j : Int) + 1 := by omega
          have gj0 : (0 : Int) ≤ (j : Int) := by omega
          have gj1 : (j : Int) < (n : Int) := by omega
          have ej : ((j + 1 : Nat) : Int) - 1 = (j : Int) := by omega
          have hcmp := cmpL_lex (F j) (F (j + 1))
          have HROWJ := Lib.hid (show rowR v bs F (j + 1) = lexL (F j) (F (j + 1)) by rw [HROWK.out]; simp)
          obtain ⟨κ, hκ⟩ : ∃ κ, κ = cmpL (F j) (F (j + 1)) := ⟨_, rfl⟩
          have HCMP := Lib.hid fun (W : World) (hb : Below W0.heap.size W0 W) => (show Calls Try.prog 132 #[.slice a'' m' c'', .slice a' m c'] W (RS (.int .i64 κ) W) from by
            rcases (HIBJ.out.below hb (Nat.le_refl _)).2 with ⟨_, _, e1, hnil⟩ | ⟨b1, o1, k1, e1, hl1, hI1⟩
            · rw [HM'.out, hnil] at hposj; simp at hposj
            rcases (HIBK.out.below hb (Nat.le_refl _)).2 with ⟨_, _, e2, hnil⟩ | ⟨b2, o2, k2, e2, hl2, hI2⟩
            · rw [HM.out, hnil] at hm0; simp at hm0
            rw [e1, e2, hκ]
            exact Compare_any _ _ _ _ _ _ _ _ _ hI1 hI2 (by have := HIBJ.out.1; omega) (by have := HIBK.out.1; omega))
          rw [← hκ] at hcmp
          clear hκ hc' hib' hk0 hm'
          cases hlx : lexL (F j) (F (j + 1)) with
          | true =>
            rw [hlx] at hcmp HROWJ
            have hd : decide (0 ≤ κ) = false := by simpa using hcmp
            have HR := Lib.hid (show rowsR v bs (j + 1 + 1) F = true by rw [rowsR_succ, HK.out, HROWJ.out]; rfl)
            clear hcmp hlx
            go_wp2_with fail
            refine HC.out.mono ?_
            rintro e w2 ⟨rfl, hb2⟩
            have HB2 := Lib.hid (hB.trans (hb2.mono hz))
            have hz2 := hb2.size
            have p0' := (hb2.cell (p := ⟨W0.heap.size, 0, none⟩) hlt).trans p0
            have p1' := (hb2.cell (p := ⟨W0.heap.size, 1, none⟩) hlt).trans p1
            have qj' := (hb2.cell (p := ⟨b, off + j, none⟩) (by show b < _; omega)).trans qj
            clear hb2 p0 p1 qj q
            go_wp2_with fail
            refine (HCMP.out _ HB2.out).mono ?_
            rintro e w3 ⟨rfl, rfl⟩
            go_wp2
            go_roundw
            case rel => exact ⟨j + 1 + 1, by omega, by go_num, HB2.out, by omega, p0', p1', HR⟩
            case measure => simp [intOf]; omega
          | false =>
            rw [hlx] at hcmp HROWJ
            have hd : decide (0 ≤ κ) = true := by simpa using hcmp
            have HR := Lib.hid (show rstB v bs n F = false by unfold rstB; rw [rowsR_false hkl HROWJ.out]; rfl)
            clear hcmp hlx
            go_wp2_with fail
            refine HC.out.mono ?_
            rintro e w2 ⟨rfl, hb2⟩
            have HB2 := Lib.hid (hB.trans (hb2.mono hz))
            have hz2 := hb2.size
            have qj' := (hb2.cell (p := ⟨b, off + j, none⟩) (by show b < _; omega)).trans qj
            clear hb2 qj q
            go_wp2_with fail
            refine (HCMP.out _ HB2.out).mono ?_
            rintro e w3 ⟨rfl, rfl⟩
            go_wp2
            go_ret
            exact RV_of (bool_eq (by rw [HR.out])) HB2.out
    · have e : k = n := by omega
      subst e
      clear hkl hk
      have HC := Lib.hid (concatS_any _ k F wr (HSS.out.below hB (Nat.le_refl _)) (fun j hj => row_len hv3 (rowsR_at hj HK.out)) HTOT.out)
      have HV := Lib.hid (show rstB v bs k F = decide (ascS (catF k F) = numL bs.length) by
        unfold rstB
        rw [HK.out, sorted_all (cat_in HIN.out)]
        rfl)
      have hcl : (catF k F).length ≤ 1100000 := by rw [catF_tot]; exact HTOT.out
      have HCL := Lib.hid hcl
      obtain ⟨C, hC⟩ : ∃ C, C = catF k F := ⟨_, rfl⟩
      rw [← hC] at HC HV HCL hcl
      clear hC
      go_wp2_with fail
      refine HC.out.mono ?_
      rintro e w2 ⟨u, rfl, ho2, hb2⟩
      have HB2 := Lib.hid (hB.trans (hb2.mono hz))
      have hz2 := hb2.size
      have p0' := (hb2.cell (p := ⟨W0.heap.size, 0, none⟩) hlt).trans p0
      have p1' := (hb2.cell (p := ⟨W0.heap.size, 1, none⟩) hlt).trans p1
      have hrow := ho2.row
      have HO2 := Lib.hid ho2
      obtain ⟨au, cu, hu⟩ := ho2.slice
      subst hu
      clear hb2 p0 p1 ho2 HC
      go_wp2_with fail
      refine (sortS_any wr.heap.size _ C w2 HO2.out (by omega)).mono ?_
      rintro e w3 ⟨rfl, hg3, ho3⟩
      have hz3 := hg3.size
      have p0'' := keep_cell p0' hg3 (fun r e => by have := hrow r e; omega)
      have p1'' := keep_cell p1' hg3 (fun r e => by have := hrow r e; omega)
      have HB3 := Lib.hid (HB2.out.grown hg3 HB2.out.size (fun j e => by have := hrow j e; omega))
      have HO3 := Lib.hid ho3
      have HN := Lib.hid (blockNumbers_any v _ bs w3 (HSB.out.below HB3.out (Nat.le_refl _)))
      clear p0' p1' hg3 ho3 hrow
      go_wp2_with fail
      refine HN.out.mono ?_
      rintro e w4 ⟨u4, rfl, ho4, hb4⟩
      have HB4 := Lib.hid (HB3.out.trans (hb4.mono HB3.out.size))
      have hl4 : (numL bs.length).length ≤ 1100000 := by rw [numL_len]; exact hlen
      have HE := Lib.hid (EqualZ_any _ u4 (ascS C) (numL bs.length) w4 ((HO3.out.below hb4 (Nat.le_refl _)).ib (by rw [ascS_len]; exact HCL.out)) (ho4.ib hl4))
      obtain ⟨a4, c4, hu4⟩ := ho4.slice
      subst hu4
      clear hb4 ho4
      go_wp2_with fail
      refine HE.out.mono ?_
      rintro e w5 ⟨rfl, hb5⟩
      have hb6 := HB4.out.trans (hb5.mono HB4.out.size)
      clear hb5
      go_wp2
      go_ret
      exact RV_of (bool_eq (by rw [HV.out])) hb6
end Go.Proofs.Ytlkjacgpjolbdaa

namespace Go.Proofs.Ytlkjacgpjolbdaa
open Go.RowKit Go.Maps
set_option maxRecDepth 100000 in
theorem IsResolutionB_any (B0 B1 : Nat) (v : Int) (s : Value) (bs : List Blk) (t : Value) (n : Nat) (F : Nat → List Int) (w : World) (h0 : w.cell? ⟨B0, 0, none⟩ = some (.int .i64 v)) (h1 : w.cell? ⟨B0, 1, none⟩ = some s) (h2 : w.cell? ⟨B1, 0, none⟩ = some t) (h : SB w s bs) (ht : SSB w t n F) (htot : tot F n ≤ 1100000) :
    Calls Try.prog 94 #[.pointer (some ⟨B0, 0, none⟩), .pointer (some ⟨B1, 0, none⟩)] w (fun e w' => (if chkF v bs n F = 0 then e = .returned (.bool (rstB v bs n F)) else e = .panicked [codeP (chkF v bs n F)]) ∧ Below w.heap.size w w') := by
  have HC := Lib.hid (checkSets_any v s bs t n F w h ht)
  have HD := Lib.hid fun (hk : chkF v bs n F = 0) W (hb : Below w.heap.size w W) => isResolution_any v s bs t n F W (h.below hb (Nat.le_refl _)) (ht.below hb (Nat.le_refl _)) (chk_rows hk).1 (chk_rows hk).2 htot
  have hlt0 := block_lt_of_cell h0
  have hlt1 := block_lt_of_cell h2
  obtain ⟨κ, hκ⟩ : ∃ κ, κ = chkF v bs n F := ⟨_, rfl⟩
  rw [← hκ] at HC HD ⊢
  have hts := ht.slice
  have hs := h.slice
  clear hκ h ht
  obtain ⟨a0, c0, rfl⟩ := hs
  obtain ⟨a1, c1, rfl⟩ := hts
  by_cases hk : κ = 0
  · have HD0 := Lib.hid (HD.out hk)
    simp only [if_pos hk]
    subst hk
    clear HD
    go_enter Try.func94, Try.ntmps94
    go_wp2_with fail
    refine HC.out.mono ?_
    rintro e w1 ⟨he, hb1⟩
    simp only [if_true] at he
    subst he
    have hb2 := hb1
    have k0 := (hb2.cell (p := ⟨B0, 0, none⟩) hlt0).trans h0
    have k1 := (hb2.cell (p := ⟨B0, 1, none⟩) hlt0).trans h1
    have k2 := (hb2.cell (p := ⟨B1, 0, none⟩) hlt1).trans h2
    have HB2 := Lib.hid hb2
    have hz := hb2.size
    clear hb1 hb2 h0 h1 h2 HC
    go_wp2_with fail
    refine (HD0.out _ HB2.out).mono ?_
    rintro e w2 ⟨rfl, hb3⟩
    go_wp2
    go_ret
    exact ⟨rfl, HB2.out.trans (hb3.mono hz)⟩
  · simp only [if_neg hk]
    go_enter Try.func94, Try.ntmps94
    go_wp2_with fail
    refine HC.out.mono ?_
    rintro e w1 ⟨he, hb1⟩
    rw [if_neg hk] at he
    subst he
    go_wp2_with fail
    exact ⟨rfl, rfl, hb1⟩
set_option maxRecDepth 100000 in
set_option maxHeartbeats 1000000 in
theorem IsResolution_any (v : Int) (s : Value) (bs : List Blk) (t : Value) (n : Nat) (F : Nat → List Int) (w : World) (h : SB w s bs) (ht : SSB w t n F) (htot : tot F n ≤ 1100000) :
    Calls Try.prog 41 #[.agg #[.int .i64 v, s], t] w (RV (boolCode (resF v bs n F).1 (resF v bs n F).2) w) := by
  have hmf : ∀ (fn : Fn) (first cap : Array Value) (w : World), (Instr.makeFunc fn first cap).run Try.prog w = .ok (.func fn first cap) w := fun _ _ _ _ => rfl
  have hb0 : Below w.heap.size w (((w.alloc (.cells #[.int .i64 v, s] 28)).alloc (.cells #[t] 45)).alloc (.cells #[.int .i64 1] 2)) := (((Below.refl _ _).alloc (Nat.le_refl _) _).alloc (by simp) _).alloc (by simp; omega) _
  have hB := IsResolutionB_any w.heap.size (w.heap.size + 1) v s bs t n F (((w.alloc (.cells #[.int .i64 v, s] 28)).alloc (.cells #[t] 45)).alloc (.cells #[.int .i64 1] 2)) (by simp [go_sem]) (by simp [go_sem]) (by simp [go_sem]) (h.below hb0 (Nat.le_refl _)) (ht.below hb0 (Nat.le_refl _)) htot
  have hp : (resF v bs n F) = (rstB v bs n F && decide (chkF v bs n F = 0), chkF v bs n F) := rfl
  have hts := ht.slice
  have hs := h.slice
  rw [hp]
  obtain ⟨κ, hκ⟩ : ∃ κ, κ = chkF v bs n F := ⟨_, rfl⟩
  rw [← hκ] at hB ⊢
  clear hκ h ht hb0 hp
  obtain ⟨a0, c0, rfl⟩ := hs
  obtain ⟨a1, c1, rfl⟩ := hts
  by_cases hk : κ = 0
  · have HD := Lib.hid (doorIsResolution_ok #[.pointer (some ⟨w.heap.size, 0, none⟩), .pointer (some ⟨w.heap.size + 1, 0, none⟩)] (rstB v bs n F) ((w.alloc (.cells #[.int .i64 v, .slice a0 bs.length c0] 28)).alloc (.cells #[.slice a1 n c1] 45)) (hB.mono fun e w' ⟨he, hb⟩ => ⟨by rwa [if_pos hk] at he, by simpa using hb⟩))
    have HG := Lib.hid (show (rstB v bs n F && decide (κ = 0)) = (rstB v bs n F) by rw [show decide (κ = 0) = true from decide_eq_true hk, Bool.and_true])
    rw [HG.out]
    subst hk
    clear hB
    go_enter Try.func41, Try.ntmps41
    go_wp2_with fail
    refine HD.out.mono ?_
    rintro e w1 ⟨rfl, hb1⟩
    have hb2 := below_new (below_new hb1)
    clear hb1
    go_wp2
    go_ret2
    exact ⟨rfl, hb2⟩
  · have HD := Lib.hid (doorIsResolution_no #[.pointer (some ⟨w.heap.size, 0, none⟩), .pointer (some ⟨w.heap.size + 1, 0, none⟩)] κ ((w.alloc (.cells #[.int .i64 v, .slice a0 bs.length c0] 28)).alloc (.cells #[.slice a1 n c1] 45)) (hB.mono fun e w' ⟨he, hb⟩ => ⟨by rwa [if_neg hk] at he, by simpa using hb⟩))
    have HG := Lib.hid (show (rstB v bs n F && decide (κ = 0)) = false by rw [show decide (κ = 0) = false from decide_eq_false hk, Bool.and_false])
    rw [HG.out]
    clear hB hk
    go_enter Try.func41, Try.ntmps41
    go_wp2_with fail
    refine HD.out.mono ?_
    rintro e w1 ⟨rfl, hb1⟩
    have hb2 := below_new (below_new hb1)
    clear hb1
    go_wp2
    go_ret2
    exact ⟨rfl, hb2⟩
end Go.Proofs.Ytlkjacgpjolbdaa

namespace Go.Proofs.Ytlkjacgpjolbdaa
open Go.RowKit Go.Maps
/-- Returns v; only draws. -/
def RQ (v : Value) (w : World) (e : Ending) (w' : World) : Prop := e = .returned v ∧ ∃ n, w' = w.drewN n
end Go.Proofs.Ytlkjacgpjolbdaa

namespace Go.Proofs.Ytlkjacgpjolbdaa
open Go.RowKit Go.Maps
end Go.Proofs.Ytlkjacgpjolbdaa

namespace Go.Proofs.Ytlkjacgpjolbdaa
open Go.RowKit Go.Maps
def msk (L : List Int) : Nat := L.foldl (fun m d => m ||| 2 ^ d.toNat) 0
theorem msk_snoc (L : List Int) (d : Int) : msk (L ++ [d]) = msk L ||| 2 ^ d.toNat := by simp [msk, List.foldl_append]
theorem foldM_test (t : Nat) : ∀ (L : List Int) (m : Nat), (L.foldl (fun m d => m ||| 2 ^ d.toNat) m).testBit t = (m.testBit t || L.any fun d => decide (d.toNat = t))
  | [], m => by simp
  | d :: L, m => by
    rw [List.foldl_cons, foldM_test t L, Nat.testBit_or, Nat.testBit_two_pow, List.any_cons, Bool.or_assoc]
theorem msk_test (L : List Int) (t : Nat) : (msk L).testBit t = L.any fun d => decide (d.toNat = t) := by
  rw [msk, foldM_test]; simp
theorem foldM_lt : ∀ (L : List Int) (m : Nat), m < 256 → (∀ d ∈ L, 1 ≤ d ∧ d ≤ 7) → L.foldl (fun m d => m ||| 2 ^ d.toNat) m < 256
  | [], m, h, _ => h
  | d :: L, m, h, hd => by
    rw [List.foldl_cons]
    have hq := hd d (List.mem_cons_self)
    refine foldM_lt L _ ?_ fun e he => hd e (List.mem_cons_of_mem _ he)
    refine Nat.or_lt_two_pow (n := 8) h ?_
    exact Nat.pow_lt_pow_right (by decide) (by omega)
theorem msk_lt {L : List Int} (h : ∀ d ∈ L, 1 ≤ d ∧ d ≤ 7) : msk L < 256 := foldM_lt L 0 (by decide) h
theorem bits_small : ∀ t : Fin 8, ∀ u : Fin 256, bits .and .i64 (u.val : Int) ((2 ^ t.val : Nat) : Int) = ((u.val &&& 2 ^ t.val : Nat) : Int) ∧ bits .or .i64 (u.val : Int) ((2 ^ t.val : Nat) : Int) = ((u.val ||| 2 ^ t.val : Nat) : Int) := by
  decide +kernel
theorem and_pow_ne : ∀ t : Fin 8, ∀ u : Fin 256, decide (u.val &&& 2 ^ t.val ≠ 0) = u.val.testBit t.val := by
  decide +kernel
/-- Is d among L: the bit says it. -/
theorem bit_in {L : List Int} (h : ∀ d ∈ L, 1 ≤ d ∧ d ≤ 7) {d : Int} (h1 : 1 ≤ d) (h7 : d ≤ 7) : (bits .and .i64 (msk L : Int) ((2 ^ d.toNat : Nat) : Int) != 0) = decide (d ∈ L) ∧ bits .or .i64 (msk L : Int) ((2 ^ d.toNat : Nat) : Int) = (msk (L ++ [d]) : Int) := by
  have hb := bits_small ⟨d.toNat, by omega⟩ ⟨msk L, msk_lt h⟩
  simp only at hb
  refine ⟨?_, by rw [hb.2, msk_snoc]⟩
  rw [hb.1, Bool.eq_iff_iff]
  simp only [bne_iff_ne, ne_eq, decide_eq_true_eq]
  have e1 : (¬ ((msk L &&& 2 ^ d.toNat : Nat) : Int) = 0) ↔ (msk L &&& 2 ^ d.toNat ≠ 0) := by omega
  have e2 := and_pow_ne ⟨d.toNat, by omega⟩ ⟨msk L, msk_lt h⟩
  simp only at e2
  rw [e1, ← decide_eq_true_iff (p := msk L &&& 2 ^ d.toNat ≠ 0), e2, msk_test, List.any_eq_true]
  constructor
  · rintro ⟨e, he, hq⟩
    have := h e he
    simp at hq
    have : e = d := by omega
    exact this ▸ he
  · intro hd
    exact ⟨d, hd, by simp⟩
end Go.Proofs.Ytlkjacgpjolbdaa

namespace Go.Proofs.Ytlkjacgpjolbdaa
open Go.RowKit
theorem rnGo_iff {v : Int} : ∀ {l seen : List Int}, rnGo v seen l = true ↔ (∀ a ∈ l, 0 ≤ a ∧ a < v) ∧ l.Nodup ∧ ∀ a ∈ l, a ∉ seen
  | [], seen => by simp [rnGo]
  | b :: r, seen => by
    simp only [rnGo, Bool.and_eq_true, rnGo_iff (l := r), inP, decide_eq_true_eq, Bool.not_eq_true', decide_eq_false_iff_not, List.forall_mem_cons, List.nodup_cons, List.mem_append, List.mem_singleton, not_or]
    constructor
    · rintro ⟨⟨h1, h2⟩, h3, h4, h5⟩
      exact ⟨⟨h1, h3⟩, ⟨fun e => (h5 b e).2 rfl, h4⟩, h2, fun a ha => (h5 a ha).1⟩
    · rintro ⟨⟨h1, h3⟩, ⟨h6, h4⟩, h2, h5⟩
      exact ⟨⟨h1, h2⟩, h3, h4, fun a ha => ⟨h5 a ha, fun e => h6 (e ▸ ha)⟩⟩
theorem isRen_iff {n : Nat} {p : List Int} : isRen (n : Int) p = true ↔ p.length = n ∧ (∀ a ∈ p, 0 ≤ a ∧ a < (n : Int)) ∧ p.Nodup := by
  simp only [isRen, Bool.and_eq_true, decide_eq_true_eq, rnGo_iff]
  constructor
  · rintro ⟨h1, h2, h3, _⟩
    exact ⟨by omega, h2, h3⟩
  · rintro ⟨h1, h2, h3⟩
    exact ⟨by omega, h2, h3, by simp⟩
theorem nodup_of_cover {α : Type} [DecidableEq α] {l m : List α} (hn : l.Nodup) (hs : ∀ x ∈ l, x ∈ m) (hl : m.length ≤ l.length) : m.Nodup := by
  apply Classical.byContradiction
  intro hnot
  rw [List.Nodup, List.pairwise_iff_getElem] at hnot
  have ⟨i, j, hi, hj, hij, he⟩ : ∃ i j, ∃ (hi : i < m.length) (hj : j < m.length), i < j ∧ m[i] = m[j] := by
    apply Classical.byContradiction
    intro hc
    exact hnot fun i j hi hj hij he => hc ⟨i, j, hi, hj, hij, he⟩
  have h := List.Nodup.length_le_of_subset (l₂ := m.eraseIdx j) hn fun x hx => by
    obtain ⟨k, hk, rfl⟩ := List.getElem_of_mem (hs x hx)
    rw [List.mem_eraseIdx_iff_getElem]
    by_cases e : k = j
    · subst e
      exact ⟨i, hi, by omega, he⟩
    · exact ⟨k, hk, e, rfl⟩
  rw [List.length_eraseIdx, if_pos hj] at h
  omega
theorem msk_lt' {L : List Int} (h : ∀ d ∈ L, 0 ≤ d ∧ d ≤ 7) : msk L < 256 := by
  suffices ∀ (L : List Int) (m : Nat), m < 256 → (∀ d ∈ L, 0 ≤ d ∧ d ≤ 7) → L.foldl (fun m d => m ||| 2 ^ d.toNat) m < 256 from this L 0 (by decide) h
  intro L
  induction L with
  | nil => exact fun m hm _ => hm
  | cons d L ih =>
    intro m hm hd
    rw [List.foldl_cons]
    have hq := hd d (List.mem_cons_self)
    refine ih _ ?_ fun e he => hd e (List.mem_cons_of_mem _ he)
    refine Nat.or_lt_two_pow (n := 8) hm ?_
    exact Nat.pow_lt_pow_right (by decide) (by omega)
theorem bit_or {L : List Int} (h : ∀ d ∈ L, 0 ≤ d ∧ d ≤ 7) {d : Int} (h1 : 0 ≤ d) (h7 : d ≤ 7) : bits .or .i64 (msk L : Int) ((2 ^ d.toNat : Nat) : Int) = (msk (L ++ [d]) : Int) := by
  have hb := bits_small ⟨d.toNat, by omega⟩ ⟨msk L, msk_lt' h⟩
  simp only at hb
  rw [hb.2, msk_snoc]
theorem isRen_msk {n : Nat} {p : List Int} (hl : p.length = n) (hr : ∀ a ∈ p, 0 ≤ a ∧ a < (n : Int)) : isRen (n : Int) p = decide (msk p = 2 ^ n - 1) := by
  have hR : ((List.range n).map fun (k : Nat) => (k : Int)).Nodup := by
    rw [List.Nodup, List.pairwise_map]
    exact List.nodup_range.imp fun h e => h (by omega)
  rw [Bool.eq_iff_iff, isRen_iff, decide_eq_true_eq]
  have hm : msk p = 2 ^ n - 1 ↔ ∀ k : Nat, k < n → (k : Int) ∈ p := by
    constructor
    · intro h k hk
      have ht : (msk p).testBit k = true := by rw [h, Nat.testBit_two_pow_sub_one]; simpa using hk
      rw [msk_test, List.any_eq_true] at ht
      obtain ⟨d, hd, e⟩ := ht
      have := hr d hd
      simp at e
      have : d = (k : Int) := by omega
      exact this ▸ hd
    · intro h
      apply Nat.eq_of_testBit_eq
      intro k
      rw [msk_test, Nat.testBit_two_pow_sub_one, Bool.eq_iff_iff, List.any_eq_true, decide_eq_true_eq]
      constructor
      · rintro ⟨d, hd, e⟩
        have := hr d hd
        simp at e
        omega
      · intro hk
        exact ⟨_, h k hk, by simp⟩
  rw [hm]
  constructor
  · rintro ⟨_, _, hn⟩ k hk
    refine sub_back hn (m := (List.range n).map fun (k : Nat) => (k : Int)) (fun x hx => ?_) (by simp [hl]) _ (List.mem_map.2 ⟨k, List.mem_range.2 hk, rfl⟩)
    have := hr x hx
    exact List.mem_map.2 ⟨x.toNat, List.mem_range.2 (by omega), by omega⟩
  · intro h
    refine ⟨hl, hr, nodup_of_cover hR (fun x hx => ?_) (by simp [hl])⟩
    obtain ⟨k, hk, rfl⟩ := List.mem_map.1 hx
    exact h k (List.mem_range.1 hk)
end Go.Proofs.Ytlkjacgpjolbdaa

namespace Go.Proofs.Ytlkjacgpjolbdaa
open Go.RowKit
def ptsB (x : Blk) : List Int := [x.a, x.b, x.c]
def allP (L : List Blk) : List Int := L.flatMap ptsB
theorem touch_iff {x y : Blk} : touch x y = true ↔ ∃ z ∈ ptsB x, z ∈ ptsB y := by
  unfold touch comP ptsB hasB
  obtain ⟨a, b, c⟩ := x
  obtain ⟨d, e, f⟩ := y
  dsimp only
  constructor
  · intro h
    split at h
    · exact ⟨a, by simp, by simp_all; omega⟩
    · split at h
      · exact ⟨b, by simp, by simp_all; omega⟩
      · split at h
        · exact ⟨c, by simp, by simp_all; omega⟩
        · simp at h
  · rintro ⟨z, hz, hy⟩
    simp only [List.mem_cons, List.not_mem_nil, or_false] at hz hy
    split
    · rfl
    · split
      · rfl
      · split
        · rfl
        · simp_all
          omega
/-- Good blocks of at most 15 points. -/
def okB (x : Blk) : Prop := 0 ≤ x.a ∧ x.a < x.b ∧ x.b < x.c ∧ x.c < 15
theorem okB_small {x : Blk} (h : okB x) : ∀ z ∈ ptsB x, 0 ≤ z ∧ z < 15 := fun z hz => by
  obtain ⟨h1, h2, h3, h4⟩ := h
  simp only [ptsB, List.mem_cons, List.not_mem_nil, or_false] at hz
  omega
theorem allP_small {L : List Blk} (h : ∀ x ∈ L, okB x) : ∀ z ∈ allP L, 0 ≤ z ∧ z < 15 := fun z hz => by
  obtain ⟨x, hx, hz⟩ := List.mem_flatMap.1 hz
  exact okB_small (h x hx) z hz
def dmk (L : List Blk) : Nat := msk (allP L)
def mkB (x : Blk) : Nat := 2 ^ x.a.toNat + 2 ^ x.b.toNat + 2 ^ x.c.toNat
theorem pow3 : ∀ a b c : Fin 15, a < b → b < c → 2 ^ a.val + 2 ^ b.val + 2 ^ c.val = 2 ^ a.val ||| 2 ^ b.val ||| 2 ^ c.val := by decide +kernel
theorem mkB_msk {x : Blk} (h : okB x) : mkB x = msk (ptsB x) := by
  obtain ⟨h1, h2, h3, h4⟩ := h
  have := pow3 ⟨x.a.toNat, by omega⟩ ⟨x.b.toNat, by omega⟩ ⟨x.c.toNat, by omega⟩ (by simp [Fin.lt_def]; omega) (by simp [Fin.lt_def]; omega)
  simpa [mkB, msk, ptsB] using this
theorem msk_lt15 {L : List Int} (h : ∀ d ∈ L, 0 ≤ d ∧ d < 15) : msk L < 32768 := by
  suffices ∀ (L : List Int) (m : Nat), m < 32768 → (∀ d ∈ L, 0 ≤ d ∧ d < 15) → L.foldl (fun m d => m ||| 2 ^ d.toNat) m < 32768 from this L 0 (by decide) h
  intro L
  induction L with
  | nil => exact fun m hm _ => hm
  | cons d L ih =>
    intro m hm hd
    rw [List.foldl_cons]
    have hq := hd d (List.mem_cons_self)
    refine ih _ ?_ fun e he => hd e (List.mem_cons_of_mem _ he)
    refine Nat.or_lt_two_pow (n := 15) hm ?_
    exact Nat.pow_lt_pow_right (by decide) (by omega)
theorem msk_mem {L : List Int} (h : ∀ d ∈ L, 0 ≤ d) {t : Nat} : (msk L).testBit t = true ↔ (t : Int) ∈ L := by
  rw [msk_test, List.any_eq_true]
  constructor
  · rintro ⟨e, he, hq⟩
    have := h e he
    simp at hq
    have : e = (t : Int) := by omega
    exact this ▸ he
  · intro ht
    exact ⟨_, ht, by simp⟩
theorem msk_append (L M : List Int) : msk (L ++ M) = msk L ||| msk M := by
  apply Nat.eq_of_testBit_eq
  intro t
  rw [Nat.testBit_or, msk_test, msk_test, msk_test, List.any_append]
theorem dmk_snoc (L : List Blk) (x : Blk) : dmk (L ++ [x]) = dmk L ||| msk (ptsB x) := by
  simp [dmk, allP, msk_append]
theorem dmk_and {L : List Blk} {x : Blk} (hL : ∀ y ∈ L, okB y) (hx : okB x) : (dmk L &&& mkB x ≠ 0) ↔ L.any (touch x) = true := by
  rw [mkB_msk hx, List.any_eq_true]
  have hs : ∀ d ∈ allP L, 0 ≤ d := fun d hd => (allP_small hL d hd).1
  have hsx : ∀ d ∈ ptsB x, 0 ≤ d := fun d hd => (okB_small hx d hd).1
  constructor
  · intro h
    obtain ⟨t, ht⟩ : ∃ t, (dmk L &&& msk (ptsB x)).testBit t = true := Nat.exists_testBit_of_ne_zero h
    rw [Nat.testBit_and, Bool.and_eq_true] at ht
    have h1 := (msk_mem hs).1 ht.1
    have h2 := (msk_mem hsx).1 ht.2
    obtain ⟨y, hy, hz⟩ := List.mem_flatMap.1 h1
    exact ⟨y, hy, touch_iff.2 ⟨_, h2, hz⟩⟩
  · rintro ⟨y, hy, ht⟩ e
    obtain ⟨z, hz, hzy⟩ := touch_iff.1 ht
    have hz0 := hsx z hz
    have h1 : (dmk L).testBit z.toNat = true := (msk_mem hs).2 (by rw [Int.toNat_of_nonneg hz0]; exact List.mem_flatMap.2 ⟨y, hy, hzy⟩)
    have h2 : (msk (ptsB x)).testBit z.toNat = true := (msk_mem hsx).2 (by rw [Int.toNat_of_nonneg hz0]; exact hz)
    have : (dmk L &&& msk (ptsB x)).testBit z.toNat = true := by rw [Nat.testBit_and, h1, h2]; rfl
    rw [e] at this
    simp at this
theorem bits15 {x y : Nat} (hx : x < 32768) (hy : y < 32768) : bits .and .i64 (x : Int) (y : Int) = ((x &&& y : Nat) : Int) ∧ bits .or .i64 (x : Int) (y : Int) = ((x ||| y : Nat) : Int) := by
  have h := bits_nat .i64 63 (by decide) (fun n h0 h1 => IntWalk.i64_in _ (by omega)) x y (by omega) (by omega)
  exact h
/-- What the model's loop does with one block more. -/
theorem dmk_step {L : List Blk} {x : Blk} (hL : ∀ y ∈ L, okB y) (hx : okB x) : (bits .and .i64 (dmk L : Int) (mkB x : Int) != 0) = L.any (touch x) ∧ bits .or .i64 (dmk L : Int) (mkB x : Int) = (dmk (L ++ [x]) : Int) := by
  have h1 : dmk L < 32768 := msk_lt15 (allP_small hL)
  have h2 : mkB x < 32768 := by rw [mkB_msk hx]; exact msk_lt15 (okB_small hx)
  obtain ⟨e1, e2⟩ := bits15 h1 h2
  refine ⟨?_, by rw [e2, dmk_snoc, mkB_msk hx]⟩
  rw [e1, Bool.eq_iff_iff, ← dmk_and hL hx]
  simp only [bne_iff_ne, ne_eq]
  omega
end Go.Proofs.Ytlkjacgpjolbdaa

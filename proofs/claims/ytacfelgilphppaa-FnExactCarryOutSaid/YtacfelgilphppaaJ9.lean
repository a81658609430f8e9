
/- The model's TakeBlock. impl.DoubleSystem answers as the plain function dblF. The contract of slices.Grow, laid at the blocks and at []int64. slices.Grow of nil and slices.Concat of two lists of blocks. impl.CarryOut. The model's insertion sort. -/
import Derived.Test.YtacfelgilphppaaJ8
import Derived.Deep.RegionHeld3
import Derived.IntWalk
import Derived.Shelf.Spec.SlicesGrow
import Derived.Ground.Names8Prog
import Derived.Test.YtacfelgilphppaaProg
namespace Go.Proofs.Ytacfelgilphppaa
open Go.RowKit Go.Maps
theorem Blks.take {w : World} {b off : Nat} {bs : List Blk} (h : Blks w b off bs) (j : Nat) : Blks w b off (bs.take j) := fun k hk => by
  rw [List.length_take] at hk
  have := h k (by omega)
  rwa [List.getElem?_take_of_lt (by omega)]
theorem Blks.drop {w : World} {b off : Nat} {bs : List Blk} (h : Blks w b off bs) (j : Nat) : Blks w b (off + j * 3) (bs.drop j) := fun k hk => by
  rw [List.length_drop] at hk
  have := h (j + k) (by omega)
  rw [List.getElem?_drop, show off + j * 3 + k * 3 = off + (j + k) * 3 by omega]
  exact this
theorem lit_own (W : World) : OwnR (W.alloc (.cells #[] 93)) W.heap.size (.slice (some ⟨W.heap.size, 0, none⟩) 0 0) [] :=
  ⟨rfl, .inr ⟨W.heap.size, 0, #[], rfl, Nat.le_refl _, (MapKept.heap_alloc W (.cells #[] 93)).1, Nat.le_refl _, by unfold maxLen; omega, rfl, rfl⟩⟩
theorem OwnR.drew {w : World} {base : Nat} {v : Value} {bs : List Blk} (h : OwnR w base v bs) : OwnR w.drew base v bs := h
theorem SX.drew {w : World} {v : Value} {bs : List Blk} (h : SX w v bs) : SX w.drew v bs := h
theorem Blks.drew {w : World} {b off : Nat} {bs : List Blk} (h : Blks w b off bs) : Blks w.drew b off bs := h
theorem Blks.kept {w w' : World} {b off : Nat} {bs : List Blk} {row : Option Nat} (h : Blks w b off bs) (hg : w.grownBy w' row) (hne : some b ≠ row) : Blks w' b off bs := fun k hk => by
  obtain ⟨h1, h2, h3⟩ := h k hk
  exact ⟨hg.cell h1 hne, hg.cell h2 hne, hg.cell h3 hne⟩
theorem keep_cell {w w' : World} {row : Option Nat} {b o : Nat} {u : Value} (h : w.cell? ⟨b, o, none⟩ = some u) (hg : w.grownBy w' row) (hne : ∀ r, row = some r → b < r) : w'.cell? ⟨b, o, none⟩ = some u :=
  hg.cell h (fun e => by have := hne _ e.symm; simp at this)
theorem keep_frozen {w w' : World} {row : Option Nat} {b o : Nat} {u : Value} (hc : w.cell? ⟨b, o, none⟩ = some u) (h : w.frozen? ⟨b, o, none⟩ = false) (hg : w.grownBy w' row) (hne : ∀ r, row = some r → b < r) : w'.frozen? ⟨b, o, none⟩ = false :=
  (World.frozen?_of_block (w := w) (a := ⟨b, o, none⟩) (hg.block b (block_lt_of_cell hc) (fun e => by have := hne _ e.symm; omega))).trans h
theorem keep_some {w w' : World} {row : Option Nat} {b o : Nat} (h : (w.cell? ⟨b, o, none⟩).isSome = true) (hg : w.grownBy w' row) (hne : ∀ r, row = some r → b < r) : (w'.cell? ⟨b, o, none⟩).isSome = true := by
  obtain ⟨u, hu⟩ := Option.isSome_iff_exists.1 h
  rw [keep_cell hu hg hne]
  rfl
theorem keep_free {w w' : World} {row : Option Nat} {b o : Nat} (h : (w.cell? ⟨b, o, none⟩).isSome = true) (hf : w.frozen? ⟨b, o, none⟩ = false) (hg : w.grownBy w' row) (hne : ∀ r, row = some r → b < r) : w'.frozen? ⟨b, o, none⟩ = false := by
  obtain ⟨u, hu⟩ := Option.isSome_iff_exists.1 h
  exact keep_frozen hu hf hg hne
def Six (w' : World) (b : Nat) (v : Int) (s : Value) : Prop := w'.cell? ⟨b, 0, none⟩ = some (.int .i64 v) ∧ w'.cell? ⟨b, 1, none⟩ = some s ∧ w'.cell? ⟨b + 1, 0, none⟩ = some (.int .i64 0) ∧ w'.cell? ⟨b + 1, 1, none⟩ = some (.slice none 0 0) ∧ w'.frozen? ⟨b + 1, 0, none⟩ = false ∧ w'.frozen? ⟨b + 1, 1, none⟩ = false
theorem keep6 {w w' : World} {b : Nat} {v : Int} {s : Value} {row : Option Nat} (h : Six w b v s) (hg : w.grownBy w' row) (hr : ∀ r, row = some r → b + 1 < r) : Six w' b v s := by
  obtain ⟨h0, h1, h2, h3, h4, h5⟩ := h
  exact ⟨keep_cell h0 hg (fun r e => by have := hr r e; omega), keep_cell h1 hg (fun r e => by have := hr r e; omega), keep_cell h2 hg hr, keep_cell h3 hg hr, keep_frozen h2 h4 hg hr, keep_frozen h3 h5 hg hr⟩
theorem gb_drewL {w w' : World} {row : Option Nat} (h : w.drew.grownBy w' row) : w.grownBy w' row := ⟨h.os, h.tape, h.output, h.size, h.block⟩
theorem run_slice_drop (b off n cap j : Nat) (h1 : j ≤ n) (h2 : n ≤ cap) : ∃ x, (∀ W : World, (Instr.slice 29 (.slice (some ⟨b, off, none⟩) n cap) (some (.int .i64 (j : Int))) none none).run Try.prog W = .ok x W) ∧ ∀ (W : World) (bs : List Blk), bs.length = n → b < W.heap.size → Blks W b off bs → SX W x (bs.drop j) := by
  have hj0 : (0 : Int) ≤ (j : Int) := by omega
  have hj1 : (j : Int) ≤ (n : Int) := by omega
  by_cases hc : j = cap
  · refine ⟨.slice (some ⟨b, off, none⟩) 0 0, fun W => ?_, fun W bs e _ _ => .inl ⟨_, _, rfl, List.drop_eq_nil_of_le (by omega)⟩⟩
    have e1 : n = j := by omega
    subst e1
    subst hc
    simp [Instr.slice, Instr.sliceBounds, Instr.sliceBound, run_underlying Try.underlying29, go_sem, hj0]
  · refine ⟨.slice (some ⟨b, off + j * 3, none⟩) (n - j) (cap - j), fun W => ?_, fun W bs e h1 h2 => .inr ⟨b, off + j * 3, cap - j, by rw [List.length_drop, e], h1, h2.drop j⟩⟩
    have hc' : ¬ cap = j := fun e => hc e.symm
    simp [Instr.slice, Instr.sliceBounds, Instr.sliceBound, run_underlying Try.underlying29, go_sem, hj0, h1, hc', addr_at]
/-- .. and the slice is no longer than its capacity. -/
def SC (w : World) (s : Value) (bs : List Blk) : Prop := SB w s bs ∧ ∀ a n c, s = .slice a n c → n ≤ c
theorem SC.below {w w' : World} {s : Value} {bs : List Blk} (h : SC w s bs) {B : Nat} (hb : Below B w w') (hB : w.heap.size ≤ B) : SC w' s bs := ⟨h.1.below hb hB, h.2⟩
theorem OwnB.sc {w : World} {lo : Nat} {s : Value} {bs : List Blk} (h : OwnB w lo s bs) (hwf : ∀ x ∈ bs, WFB x) (hl : bs.length ≤ 1100000) : SC w s bs := by
  refine ⟨h.sb hwf hl, fun a n c e => ?_⟩
  obtain ⟨g, cap, rfl, _, _, _, _, hc⟩ := h
  cases e
  exact hc
theorem l01In_out (n lo hi : Int) (W : World) (β : Bool) (hβ : (decide (lo ≤ n) && decide (n ≤ hi)) = β) : Calls Try.prog 155 #[.int .i64 n, .int .i64 lo, .int .i64 hi] W (RS (.bool β) W) := by
  rw [← hβ]
  exact l01In_any n lo hi W
end Go.Proofs.Ytacfelgilphppaa

namespace Go.Proofs.Ytacfelgilphppaa
open Go.RowKit Go.Maps
def dblF (v : Int) (bs : List Blk) : Int × List Blk × Int :=
  if isSysImpl v bs then (if fullB v bs then (if 2 * v + 1 ≤ 15 then (2 * v + 1, sortB (dblL v bs), 0) else (0, [], 3)) else (0, [], 5)) else (0, [], 1)
def fullC (v : Int) (bs : List Blk) : Int := if isSysImpl v bs then (if fullB v bs then 0 else 5) else 1
theorem fullV_cases (v : Int) (bs : List Blk) : (fullV v bs = boolCode true 0 ∧ fullC v bs = 0) ∨ (fullV v bs = boolCode false 0 ∧ fullC v bs = 5) ∨ (fullV v bs = boolCode false 1 ∧ fullC v bs = 1) := by
  unfold fullV fullC
  cases isSysImpl v bs
  · right; right; simp
  · cases fullB v bs
    · right; left; simp
    · left; simp
set_option maxRecDepth 100000 in
theorem fullCode_one (B : Nat) (v : Int) (s : Value) (bs : List Blk) (w : World) (h : SB w s bs) (c0 : w.cell? ⟨B, 0, none⟩ = some (.int .i64 v)) (c1 : w.cell? ⟨B, 1, none⟩ = some s) :
    Calls Try.prog 203 #[.slice (some ⟨B, 0, none⟩) 1 1] w (RV (.int .i64 (fullC v bs)) w) := by
  have hs := h.slice
  have HI := Lib.hid (IsFull_any v s bs (w.alloc (.cells #[.int .i64 v, s] 31)) (h.below ((Below.refl _ _).alloc (Nat.le_refl _) _) (Nat.le_refl _)))
  clear h
  obtain ⟨a, c, rfl⟩ := hs
  rcases fullV_cases v bs with ⟨e1, e2⟩ | ⟨e1, e2⟩ | ⟨e1, e2⟩
  all_goals
    rw [e1] at HI
    rw [e2]
    unfold boolCode at HI
    clear e1 e2
    go_enter Try.func203, Try.ntmps203
    go_wp2
    refine wp_loop_rounds 2 ?_
    rw [rounds_succ]
    go_wp2_with (go_at_call 242; refine HI.out.mono ?_; rintro e w1 ⟨rfl, hb1⟩)
  · rw [rounds_succ]
    go_wp2
    go_ret
    exact RV_of rfl (((Below.refl _ _).alloc (Nat.le_refl _) _).trans (hb1.mono (by simp)))
  · rw [rounds_succ]
    go_wp2
    go_ret
    exact RV_of rfl (((Below.refl _ _).alloc (Nat.le_refl _) _).trans (hb1.mono (by simp)))
  · go_ret
    exact RV_of rfl (((Below.refl _ _).alloc (Nat.le_refl _) _).trans (hb1.mono (by simp)))
/-- Returns a slice of its own with these blocks. -/
def RO (bs : List Blk) (w : World) (e : Ending) (w' : World) : Prop := ∃ u, e = .returned u ∧ OwnR w' w.heap.size u bs ∧ Below w.heap.size w w'
set_option maxRecDepth 100000 in
/-- slices.Clone: the same blocks in memory of its own. -/
theorem cloneB_any (s : Value) (bs : List Blk) (w : World) (h : SX w s bs) (hl : bs.length ≤ 1100000) :
    Calls Try.prog 131 #[s] w (RO bs w) := by
  have hs : ∃ a c, s = .slice a bs.length c := by rcases h with ⟨a0, c0, rfl, rfl⟩ | ⟨b, off, cap, rfl, _⟩ <;> exact ⟨_, _, rfl⟩
  have HS := Lib.hid h
  clear h
  obtain ⟨a, c, rfl⟩ := hs
  cases a with
  | none =>
    have e : bs = [] := by
      rcases HS.out with ⟨_, _, _, h⟩ | ⟨b, off, cap, h, _⟩
      · exact h
      · cases h
    subst e
    have hq : ∀ w, (binOp .eql 29 (.slice none 0 c) (.slice none 0 0)).run Try.prog w = .ok (.bool true) w := fun _ => by kernel_rfl
    go_enter Try.func131, Try.ntmps131
    go_wp2
    go_ret
    exact ⟨_, rfl, OwnR.nil _ _, Below.refl _ _⟩
  | some ad =>
    have ho0 := lit_own w
    have HO0 := Lib.hid ho0
    clear ho0
    have hq : ∀ w, (binOp .eql 29 (.slice (some ad) bs.length c) (.slice none 0 0)).run Try.prog w = .ok (.bool false) w := fun _ => by kernel_rfl
    go_enter Try.func131, Try.ntmps131
    go_wp2_with (at_builtin; refine wpList_append_many rfl _ _ rfl w.heap.size (.slice (some ⟨w.heap.size, 0, none⟩) 0 0) [] rfl HO0.out (.slice (some ad) bs.length c) bs rfl (HS.out.below ((Below.refl _ _).alloc (Nat.le_refl _) _) (Nat.le_refl _)) (by simp; omega) (by simp) ?_; intro a' c' w' ho hg)
    go_ret
    exact ⟨_, rfl, by simpa using ho, ((Below.refl _ _).alloc (Nat.le_refl _) _).grown hg (by simp) (fun r e => by simp [Value.ownBlock] at e; omega)⟩
theorem sx_three (W : World) (x y z : Blk) (T : TypeId) : SX (W.alloc (.cells #[.int .i64 x.a, .int .i64 x.b, .int .i64 x.c, .int .i64 y.a, .int .i64 y.b, .int .i64 y.c, .int .i64 z.a, .int .i64 z.b, .int .i64 z.c] T)) (.slice (some ⟨W.heap.size, 0, none⟩) 3 3) [x, y, z] :=
  .inr ⟨W.heap.size, 0, 3, rfl, by simp, fun k hk => by
    match k, hk with
    | 0, _ => simp
    | 1, _ => simp
    | 2, _ => simp⟩
theorem dbl_bounds {v : Int} {x : Blk} (hg : goodB v x = true) (h15 : v ≤ 15) : 0 ≤ x.a ∧ x.a < x.b ∧ x.b < x.c ∧ x.c < v ∧ v ≤ 15 := by
  have := goodB_iff.1 hg
  omega
end Go.Proofs.Ytacfelgilphppaa

namespace Go.Proofs
open Go.Shelf
def Try.growB_ren : Go.Shelf.Ren := ⟨fun | 4 => 196 | n => n, fun | 22 => 29 | 25 => 93 | 3 => 3 | 4 => 4 | 9 => 9 | 20 => 20 | 0 => 0 | n => n, fun | n => n⟩
theorem Try.growB : Go.Proofs.Lays8.n4 Try.prog Try.growB_ren := {
  mixed := by kernel_rfl
  f4 := ⟨Try.f196.name, by decide, Try.func196.trans (congrArg some (by kernel_rfl))⟩
  t0 := Try.underlying0
  a0 := Try.isAgg0
  z0 := Try.sizeOf0
  v0 := Try.zeroValue0
  t3 := Try.underlying3
  a3 := Try.isAgg3
  z3 := Try.sizeOf3
  v3 := Try.zeroValue3
  t4 := Try.underlying4
  a4 := Try.isAgg4
  z4 := Try.sizeOf4
  v4 := Try.zeroValue4
  t9 := Try.underlying9
  a9 := Try.isAgg9
  z9 := Try.sizeOf9
  v9 := Try.zeroValue9
  t20 := Try.underlying20
  a20 := Try.isAgg20
  z20 := Try.sizeOf20
  v20 := Try.zeroValue20
  t22 := Try.underlying29
  a22 := Try.isAgg29
  z22 := Try.sizeOf29
  v22 := Try.zeroValue29 }
def Try.growI_ren : Go.Shelf.Ren := ⟨fun | 4 => 179 | n => n, fun | 22 => 26 | 25 => 2 | 3 => 3 | 4 => 4 | 9 => 9 | 20 => 20 | 0 => 0 | n => n, fun | n => n⟩
theorem Try.growI : Go.Proofs.Lays8.n4 Try.prog Try.growI_ren := {
  mixed := by kernel_rfl
  f4 := ⟨Try.f179.name, by decide, Try.func179.trans (congrArg some (by kernel_rfl))⟩
  t0 := Try.underlying0
  a0 := Try.isAgg0
  z0 := Try.sizeOf0
  v0 := Try.zeroValue0
  t3 := Try.underlying3
  a3 := Try.isAgg3
  z3 := Try.sizeOf3
  v3 := Try.zeroValue3
  t4 := Try.underlying4
  a4 := Try.isAgg4
  z4 := Try.sizeOf4
  v4 := Try.zeroValue4
  t9 := Try.underlying9
  a9 := Try.isAgg9
  z9 := Try.sizeOf9
  v9 := Try.zeroValue9
  t20 := Try.underlying20
  a20 := Try.isAgg20
  z20 := Try.sizeOf20
  v20 := Try.zeroValue20
  t22 := Try.underlying26
  a22 := Try.isAgg26
  z22 := Try.sizeOf26
  v22 := Try.zeroValue26 }
end Go.Proofs

namespace Go.Proofs.Ytacfelgilphppaa
open Go.RowKit Go.Maps Go.Shelf
theorem growB_any (n : Nat) (hn : n ≤ 1000000) (w : World) : Calls Try.prog 196 #[.slice none 0 0, .int .i64 (n : Int)] w (RO [] w) := by
  by_cases h0 : n = 0
  · subst h0
    refine Calls.mono (Any8.slices_Grow_room Try.growB none 0 0 0 w (by omega) (by omega) (by omega) (by omega)) ?_
    rintro e w' ⟨rfl, rfl⟩
    exact ⟨_, rfl, OwnR.nil _ _, Below.refl _ _⟩
  · obtain ⟨i0, hi, hz0, hz1, hz2⟩ := info_parts infoBlock
    refine Calls.mono (Any8.slices_Grow_grow Try.growB i0 _ hi hz0 (by rw [hz1]; omega) none 0 0 n [] w (by omega) (by omega) (by rw [hz2]; omega) (by omega) (by simp) (fun _ => rfl) (by simp)) ?_
    rintro e w' ⟨rfl, rfl⟩
    have hge := grownCap_ge w (0 + n) 0 (Try.growB_ren.t 25)
    have hle := grownCap_le_maxLen w (0 + n) 0 (Try.growB_ren.t 25) (by unfold maxLen; omega)
    refine ⟨_, rfl, World.ownsRow_made w.drew _ _ (Nat.le_refl _) hle ?_, (Below.refl _ _).drew.alloc (Nat.le_refl _) _⟩
    obtain ⟨cap, hcap⟩ : ∃ cap, cap = grownCap w (0 + n) 0 (Try.growB_ren.t 25) := ⟨_, rfl⟩
    rw [← hcap] at hge ⊢
    simp only [Array.size_append, List.size_toArray, List.length_nil, size_zeroCells, Value.cells]
    show 0 + (0 + n - 0) * 3 + (cap - (0 + n)) * 3 = cap * 3
    omega
set_option maxRecDepth 100000 in
set_option maxHeartbeats 1000000 in
/-- slices.Concat of two lists: both, in memory of its own. -/
theorem concat2_any (H : Nat) (s t : Value) (bs cs : List Blk) (w : World) (h0 : w.cell? ⟨H, 0, none⟩ = some s) (h1 : w.cell? ⟨H, 1, none⟩ = some t) (hs : SX w s bs) (ht : SX w t cs) (hb : bs.length ≤ 400000) (hc : cs.length ≤ 400000) :
    Calls Try.prog 136 #[.slice (some ⟨H, 0, none⟩) 2 2] w (RO (bs ++ cs) w) := by
  have hH : H < w.heap.size := World.block_lt_of_cell? w ⟨H, 0, none⟩ h0
  have HG := Lib.hid (growB_any (bs.length + cs.length) (by omega) w)
  have fs : ∃ a c, s = .slice a bs.length c := by rcases hs with ⟨a0, c0, rfl, rfl⟩ | ⟨b, off, cap, rfl, _⟩ <;> exact ⟨_, _, rfl⟩
  have ft : ∃ a c, t = .slice a cs.length c := by rcases ht with ⟨a0, c0, rfl, rfl⟩ | ⟨b, off, cap, rfl, _⟩ <;> exact ⟨_, _, rfl⟩
  have HS := Lib.hid hs
  have HT := Lib.hid ht
  clear hs ht
  obtain ⟨a1, c1, rfl⟩ := fs
  obtain ⟨a2, c2, rfl⟩ := ft
  obtain ⟨n1, hn1⟩ : ∃ n, n = bs.length := ⟨_, rfl⟩
  obtain ⟨n2, hn2⟩ : ∃ n, n = cs.length := ⟨_, rfl⟩
  rw [← hn1] at h0 HG HS
  rw [← hn2] at h1 HG HT
  have HN := Lib.hid (And.intro hn1 hn2)
  have b1 : n1 ≤ 400000 := by omega
  have b2 : n2 ≤ 400000 := by omega
  clear hn1 hn2 hb hc
  go_enter Try.func136, Try.ntmps136
  go_wp2_with fail
  refine wp_loop_rounds 3 ?_
  rw [rounds_succ]
  go_wp2
  rw [rounds_succ]
  go_wp2
  rw [rounds_succ]
  go_wp2_with fail
  rw [← Int.natCast_add]
  refine HG.out.mono ?_
  rintro e w1 ⟨u, rfl, ho, hb1⟩
  obtain ⟨a3, c3, hu⟩ := ho.form
  subst hu
  have p0 := (hb1.cell (p := ⟨H, 0, none⟩) hH).trans h0
  have p1 := (hb1.cell (p := ⟨H, 1, none⟩) hH).trans h1
  have HO := Lib.hid ho
  have HS1 := Lib.hid (HS.out.below hb1 (Nat.le_refl _))
  have HT1 := Lib.hid (HT.out.below hb1 (Nat.le_refl _))
  have hz1 := hb1.size
  have HB1 := Lib.hid hb1
  clear h0 h1 HG ho hb1
  go_wp2
  refine wp_loop_rounds 3 ?_
  rw [rounds_succ]
  go_wp2_with (at_builtin; refine wpList_append_many rfl _ _ rfl w.heap.size (.slice a3 ([] : List Blk).length c3) [] rfl HO.out (.slice a1 n1 c1) bs rfl HS1.out (by have := HN.out; simp; omega) hz1 ?_; intro a4 c4 w4 ho4 hg4)
  have hne : ∀ r, (Value.slice a3 ([] : List Blk).length c3).ownBlock = some r → w.heap.size ≤ r := HO.out.row
  have q0 := hg4.cell p0 (fun e => by have := hne _ e.symm; simp at this; omega)
  have q1 := hg4.cell p1 (fun e => by have := hne _ e.symm; simp at this; omega)
  have hB4 := HB1.out.grown hg4 HB1.out.size (fun j e => hne j e)
  have hz4 := hB4.size
  simp only [List.length_nil, Nat.zero_add, List.nil_append] at ho4
  have HO4 := Lib.hid ho4
  have HT4 := Lib.hid (HT.out.below hB4 (Nat.le_refl _))
  have HB4 := Lib.hid hB4
  clear p0 p1 hne ho4 hg4 hB4
  have l4 : bs.length ≤ 1000000 := by have := HN.out; omega
  rw [rounds_succ]
  go_wp2_with (at_builtin; refine wpList_append_many rfl _ _ rfl w.heap.size (.slice a4 bs.length c4) bs rfl HO4.out (.slice a2 n2 c2) cs rfl HT4.out (by have := HN.out; simp; omega) hz4 ?_; intro a5 c5 w5 ho5 hg5)
  have hne : ∀ r, (Value.slice a4 bs.length c4).ownBlock = some r → w.heap.size ≤ r := HO4.out.row
  have hB5 := HB4.out.grown hg5 HB4.out.size (fun j e => hne j e)
  rw [rounds_succ]
  go_wp2
  go_ret
  exact ⟨_, rfl, ho5, hB5⟩
end Go.Proofs.Ytacfelgilphppaa

namespace Go.Proofs.Ytacfelgilphppaa
open Go.RowKit Go.Maps
theorem trd_parts' {v : Int} {bo bi : List Blk} (h : trdB v bo bi = true) : isSysImpl v bo = true ∧ isSysImpl v bi = true := by
  simp only [trdB, Bool.and_eq_true] at h
  exact ⟨h.1.1, h.1.2⟩
def carryF (v : Int) (bs : List Blk) (u : Int) (bo bi : List Blk) : Int × List Blk × Int :=
  if isSysImpl v bs && trdB u bo bi then (if fitB v bs u bo then (v, sortB (lessL bs bo ++ bi), 0) else (0, [], 5)) else (0, [], 1)
/-- The boxes of a system, of a trade and of the result. -/
structure BoxSTS (w' : World) (b : Nat) (v : Int) (s : Value) (u : Int) (so si : Value) : Prop where
  st : BoxST w' b v s u so si
  lt : b + 1 + 1 < w'.heap.size
  z0 : w'.cell? ⟨b + 1 + 1, 0, none⟩ = some (.int .i64 0)
  z1 : w'.cell? ⟨b + 1 + 1, 1, none⟩ = some (.slice none 0 0)
  f0 : w'.frozen? ⟨b + 1 + 1, 0, none⟩ = false
  f1 : w'.frozen? ⟨b + 1 + 1, 1, none⟩ = false
def wSTS (w : World) (v : Int) (s : Value) (u : Int) (so si : Value) : World := (wST w v s u so si).alloc (.cells #[.int .i64 0, .slice none 0 0] 31)
theorem BoxSTS.new (w : World) (v : Int) (s : Value) (u : Int) (so si : Value) : BoxSTS (wSTS w v s u so si) w.heap.size v s u so si := by
  refine ⟨(BoxST.new w v s u so si).below ((Below.refl _ _).alloc (Nat.le_refl _) _), ?_, ?_, ?_, ?_, ?_⟩ <;> unfold wSTS wST <;> simp [go_sem]
theorem wSTS_below (w : World) (v : Int) (s : Value) (u : Int) (so si : Value) : Below w.heap.size w (wSTS w v s u so si) := (wST_below w v s u so si).alloc (wST_below w v s u so si).size _
theorem BoxSTS.kept {w w' : World} {b : Nat} {v : Int} {s : Value} {u : Int} {so si : Value} {row : Option Nat} (h : BoxSTS w b v s u so si) (hg : w.grownBy w' row) (hr : ∀ r, row = some r → b + 1 + 1 < r) : BoxSTS w' b v s u so si := by
  have hl := h.lt
  have hb := hg.block (b + 1 + 1) hl (fun e => by have := hr _ e.symm; omega)
  exact ⟨⟨Nat.lt_of_lt_of_le h.st.lt hg.size, hg.cell h.st.x0 (fun e => by have := hr _ e.symm; simp at this; omega), hg.cell h.st.x1 (fun e => by have := hr _ e.symm; simp at this; omega), hg.cell h.st.y0 (fun e => by have := hr _ e.symm; simp at this; omega), hg.cell h.st.y1 (fun e => by have := hr _ e.symm; simp at this; omega), hg.cell h.st.y2 (fun e => by have := hr _ e.symm; simp at this; omega)⟩,
    Nat.lt_of_lt_of_le hl hg.size, hg.cell h.z0 (fun e => by have := hr _ e.symm; simp at this), hg.cell h.z1 (fun e => by have := hr _ e.symm; simp at this), (World.frozen?_of_block (a := ⟨b + 1 + 1, 0, none⟩) hb).trans h.f0, (World.frozen?_of_block (a := ⟨b + 1 + 1, 1, none⟩) hb).trans h.f1⟩
theorem BoxSTS.below {w w' : World} {b : Nat} {v : Int} {s : Value} {u : Int} {so si : Value} (h : BoxSTS w b v s u so si) (hb : Below w.heap.size w w') : BoxSTS w' b v s u so si := h.kept (gb_below hb) (by simp)
set_option maxRecDepth 100000 in
set_option maxHeartbeats 4000000 in
theorem CarryOut_any (v : Int) (s : Value) (bs : List Blk) (u : Int) (so : Value) (bo : List Blk) (si : Value) (bi : List Blk) (w : World) (h : SB w s bs) (k : TB w so bo si bi) :
    Calls Try.prog 76 #[.agg #[.int .i64 v, s], .agg #[.int .i64 u, so, si]] w (RSys (carryF v bs u bo bi) w) := by
  have hs := h.slice
  have h1 := k.1.slice
  have h2 := k.2.slice
  have HF := Lib.hid fun W (hb : Below w.heap.size w W) => FitsSystem_any v s bs u so bo si bi W (h.below hb (Nat.le_refl _)) (k.below hb (Nat.le_refl _))
  have HSB := Lib.hid h
  have KSB := Lib.hid k
  clear h k
  obtain ⟨a, c, rfl⟩ := hs
  obtain ⟨a1, c1, rfl⟩ := h1
  obtain ⟨a2, c2, rfl⟩ := h2
  have HB := Lib.hid (BoxSTS.new w v (.slice a bs.length c) u (.slice a1 bo.length c1) (.slice a2 bi.length c2))
  have HBW := Lib.hid (wSTS_below w v (.slice a bs.length c) u (.slice a1 bo.length c1) (.slice a2 bi.length c2))
  have hend : ∀ (c : Int) (W : World), Below w.heap.size w W → carryF v bs u bo bi = (0, [], c) → RSys (carryF v bs u bo bi) w (.returned (.tuple #[.agg #[.int .i64 0, .slice none 0 0], .int .i64 c])) ((W.setCell ⟨w.heap.size + 1 + 1, 0, none⟩ (.int .i64 0)).setCell ⟨w.heap.size + 1 + 1, 1, none⟩ (.slice none 0 0)) := fun c W hW e => by
    rw [e]
    exact ⟨_, rfl, .inl ⟨rfl, _, _, rfl⟩, below_set2 hW (by omega) _ _⟩
  have HEND := Lib.hid hend
  clear hend
  cases hi : isSysImpl v bs && trdB u bo bi with
  | false =>
    have HV := Lib.hid (show carryF v bs u bo bi = (0, [], 1) by simp only [carryF, hi]; rfl)
    have hf : fitF v bs u bo bi = (false, 1) := by simp only [fitF, hi]; rfl
    rw [hf] at HF
    unfold boolCode at HF
    dsimp only at HF
    clear hi hf HSB KSB
    go_enter Try.func76, Try.ntmps76
    go_wp2_with fail
    refine (HF.out (wSTS w v (.slice a bs.length c) u (.slice a1 bo.length c1) (.slice a2 bi.length c2)) HBW.out).mono ?_
    rintro e w1 ⟨rfl, hb1⟩
    obtain ⟨_, _, z0, z1, f0, f1⟩ := HB.out.below hb1
    have hB1 := HBW.out.trans (hb1.mono HBW.out.size)
    clear hb1
    go_wp2
    exact bodyPost_ret (v := .tuple #[.agg #[.int .i64 0, .slice none 0 0], .int .i64 1]) (by simp [results, Try.results76, go_sem, *]) rfl (HEND.out 1 _ hB1 HV.out)
  | true =>
    have hf : fitF v bs u bo bi = (fitB v bs u bo, 0) := by simp only [fitF, hi]; rfl
    rw [hf] at HF
    unfold boolCode at HF
    dsimp only at HF
    cases ht : fitB v bs u bo with
    | false =>
      have HV := Lib.hid (show carryF v bs u bo bi = (0, [], 5) by simp only [carryF, hi, ht]; rfl)
      rw [ht] at HF
      clear hi hf ht HSB KSB
      go_enter Try.func76, Try.ntmps76
      go_wp2_with fail
      refine (HF.out (wSTS w v (.slice a bs.length c) u (.slice a1 bo.length c1) (.slice a2 bi.length c2)) HBW.out).mono ?_
      rintro e w1 ⟨rfl, hb1⟩
      obtain ⟨_, _, z0, z1, f0, f1⟩ := HB.out.below hb1
      have hB1 := HBW.out.trans (hb1.mono HBW.out.size)
      clear hb1
      go_wp2
      exact bodyPost_ret (v := .tuple #[.agg #[.int .i64 0, .slice none 0 0], .int .i64 5]) (by simp [results, Try.results76, go_sem, *]) rfl (HEND.out 5 _ hB1 HV.out)
    | true =>
      have HV := Lib.hid (show carryF v bs u bo bi = (v, sortB (lessL bs bo ++ bi), 0) by simp only [carryF, hi, ht]; rfl)
      rw [ht] at HF
      have hsz : bs.length ≤ 35 ∧ bo.length ≤ 35 ∧ bi.length ≤ 35 := by
        simp only [Bool.and_eq_true] at hi
        have p := trd_parts' hi.2
        exact ⟨(sys_size hi.1).2.2, (sys_size p.1).2.2, (sys_size p.2).2.2⟩
      obtain ⟨l1, l2, l3⟩ := hsz
      clear hi hf ht HEND
      go_enter Try.func76, Try.ntmps76
      go_wp2_with fail
      refine (HF.out (wSTS w v (.slice a bs.length c) u (.slice a1 bo.length c1) (.slice a2 bi.length c2)) HBW.out).mono ?_
      rintro e w1 ⟨rfl, hb1⟩
      have hbx1 := HB.out.below hb1
      have x1 := hbx1.st.x1
      have y1 := hbx1.st.y1
      have HBX1 := Lib.hid hbx1
      have HB1 := Lib.hid (HBW.out.trans (hb1.mono HBW.out.size))
      clear hb1 hbx1
      go_upto_region 6 with fail
      go_cut [8] (fun o wx => BoxSTS wx w.heap.size v (.slice a bs.length c) u (.slice a1 bo.length c1) (.slice a2 bi.length c2) ∧ Below w.heap.size w wx ∧ OwnR wx w1.heap.size o (lessL bs bo) ∧ w1.heap.size ≤ wx.heap.size ∧ ∃ p q, o = .slice p (lessL bs bo).length q)
      case first =>
        go_region_with (first | (go_at_call 98; refine (setOf_any _ bo _ ?_).mono ?_; (exact KSB.out.1.below HB1.out.drew (Nat.le_refl _)); rintro e w3 ⟨rfl, hS3, hb3⟩; have hbx3 := HBX1.out.below (((Below.refl _ _).drew).trans hb3); have q1 := hbx3.st.x1; have HBX3 := Lib.hid hbx3; clear hbx3; have HB3 := Lib.hid (HB1.out.drew.trans (hb3.mono HB1.out.size)); have hz3 : w1.heap.size ≤ w3.heap.size := hb3.size) | (go_at_call 133; refine (blocksWithout_any _ bs _ _ bo _ ?_ hS3).mono ?_; (exact HSB.out.below HB3.out (Nat.le_refl _)); rintro e w4 ⟨u4, rfl, hO4, hb4⟩))
        all_goals
          go_wp2_with fail
          go_meet
          exact ⟨HBX3.out.below hb4, HB3.out.trans (hb4.mono HB3.out.size), ownsRow_base hO4 hz3, Nat.le_trans hz3 hb4.size, hO4.res.slice⟩
      case rest =>
      obtain ⟨hbx6, hB6, hO6, hz6, p6, q6, rfl⟩ := hcut
      obtain ⟨w6, hw6⟩ : ∃ W, W = wc := ⟨_, rfl⟩
      rw [← hw6] at hbx6 hB6 hO6 hz6 ⊢
      clear hw6 x1 y1
      have HBX6 := Lib.hid hbx6
      have HB6 := Lib.hid hB6
      have HSX := Lib.hid hO6.sx
      have hlt6 := hbx6.lt
      obtain ⟨x0, x1, y0, y1, y2⟩ : _ ∧ _ ∧ _ ∧ _ ∧ _ := ⟨hbx6.st.x0, hbx6.st.x1, hbx6.st.y0, hbx6.st.y1, hbx6.st.y2⟩
      obtain ⟨L, hL⟩ : ∃ L, L = lessL bs bo ++ bi := ⟨_, rfl⟩
      have hll := lessL_length bs bo
      have hLl : L.length ≤ 1100000 := by rw [hL, List.length_append]; omega
      have HC := Lib.hid fun (H : Nat) W (h0 : W.cell? ⟨H, 0, none⟩ = some (.slice p6 (lessL bs bo).length q6)) (h1 : W.cell? ⟨H, 1, none⟩ = some (.slice a2 bi.length c2)) (hs : SX W (.slice p6 (lessL bs bo).length q6) (lessL bs bo)) (ht : SX W (.slice a2 bi.length c2) bi) => concat2_any H _ _ (lessL bs bo) bi W h0 h1 hs ht (by omega) (by omega)
      have HV1 := HV.out
      rw [← hL] at HC HV1
      have HV2 := Lib.hid HV1
      have KSX := Lib.hid (KSB.out.2.below HB6.out (Nat.le_refl _)).sx
      clear HV hL HV1 hbx6 hB6 hO6 HF HSB KSB HB1 HBX1 hll
      go_upto_region 7 with fail
      go_region_held3 (fun w' => w'.cell? ⟨w.heap.size, 0, none⟩ = some (.int .i64 v) ∧ w'.cell? ⟨w.heap.size + 1, 2, none⟩ = some (.slice a2 bi.length c2))
        (first | exact ⟨E0, E4⟩ | exact ⟨F0, F4⟩ | exact ⟨G0, G4⟩ | go_keep)
        (first
          | (go_at_call 136; refine (HC.out w6.heap.size _ (by simp [go_sem]) (by simp [go_sem]) (HSX.out.below (((Below.refl _ _).alloc (Nat.le_refl _) _).drew) (Nat.le_refl _)) (KSX.out.below (((Below.refl _ _).alloc (Nat.le_refl _) _).drew) (Nat.le_refl _))).mono ?_; rintro e w7 ⟨u7, rfl, ho7, hb7⟩; obtain ⟨a7, c7, hu⟩ := ho7.form; subst hu; have hB7 : Below w6.heap.size w6 w7 := (((Below.refl _ _).alloc (Nat.le_refl _) _).drew).trans (hb7.mono (by simp)); have BX7 := HBX6.out.below hB7; have E0 := BX7.st.x0; have E4 := BX7.st.y2; have HO7 := Lib.hid (show OwnR w7 w6.heap.size (.slice a7 L.length c7) L from ownsRow_base ho7 (by simp)); have HR7 := Lib.hid HO7.out.row; have hz7 := hB7.size)
          | (go_at_call 135; refine (systemFrom_any v w6.heap.size _ L _ ?_ hLl ?_).mono ?_; (first | exact HO7.out | exact HO7.out.below ((Below.refl _ _).drew) (Nat.le_refl _)); (first | exact hz7 | (simp; omega)); rintro e w8 ⟨rfl, ho8, hg8⟩; have hg8' : w7.grownBy w8 (Value.slice a7 L.length c7).ownBlock := (by first | exact hg8 | exact gb_drewL hg8); have BX8 := BX7.kept hg8' (fun r e => by have := HR7.out r e; omega); have F0 := BX8.st.x0; have F4 := BX8.st.y2; obtain ⟨_, _, d0, d1, f0, f1⟩ := id BX8; have gset := gb_set2 w8 (w.heap.size + 1 + 1) (.int .i64 v) (.slice a7 L.length c7); have G0 := gset.cell F0 (by simp; omega); have G4 := gset.cell F4 (by simp)))
      all_goals
        have hB8 : Below w.heap.size w w8 := (HB6.out.trans (hB7.mono (by omega))).grown hg8' (by omega) (fun j e => by have := HR7.out j e; omega)
        have hres := ho8.res
        have hfin := (hres.kept (gb_set2 w8 (w.heap.size + 1 + 1) (.int .i64 v) (.slice a7 L.length c7)) (fun r e => by cases e; exact .inl (by omega))).wide (lo' := w.heap.size) (by omega) (gb_set2 w8 (w.heap.size + 1 + 1) (.int .i64 v) (.slice a7 L.length c7)).size
        go_wp2
        exact bodyPost_ret (v := .tuple #[.agg #[.int .i64 v, .slice a7 L.length c7], .int .i64 0]) (by simp [results, Try.results76, go_sem, *]) rfl (by rw [HV2.out]; exact ⟨_, rfl, hfin, below_set2 hB8 (by omega) _ _⟩)
end Go.Proofs.Ytacfelgilphppaa

namespace Go.Proofs.Ytacfelgilphppaa
open Go.RowKit Go.Maps
theorem ins_start (x : Blk) (l : List Blk) : l ++ [x] = l.take l.length ++ x :: l.drop l.length := by simp
theorem ins_round (l : List Blk) {m : Nat} (hm : m < l.length) (y : Blk) : (l.take (m + 1) ++ y :: l.drop (m + 1)).set (m + 1) (l[m]?.getD default) = l.take m ++ (l[m]?.getD default) :: l.drop m := by
  have h1 : (l.take (m + 1)).length = m + 1 := by simp; omega
  rw [List.set_append_right _ _ (by omega), h1, Nat.sub_self, List.set_cons_zero]
  rw [List.getElem?_eq_getElem hm, Option.getD_some, List.take_succ_eq_append_getElem hm, List.append_assoc]
  congr 1
  rw [List.singleton_append, List.drop_eq_getElem_cons hm]
theorem ins_end (l : List Blk) {m : Nat} (hm : m ≤ l.length) (x y : Blk) : (l.take m ++ y :: l.drop m).set m x = l.take m ++ x :: l.drop m := by
  have h1 : (l.take m).length = m := by simp; omega
  rw [List.set_append_right _ _ (by omega), h1, Nat.sub_self, List.set_cons_zero]
theorem ins_len (l : List Blk) {m : Nat} (hm : m ≤ l.length) (y : Blk) : (l.take m ++ y :: l.drop m).length = l.length + 1 := by
  simp; omega
theorem ins_at (l : List Blk) {m : Nat} (hm : m < l.length) (y : Blk) : (l.take (m + 1) ++ y :: l.drop (m + 1))[m]?.getD default = l[m]?.getD default := by
  rw [List.getElem?_append_left (by simp; omega), List.getElem?_take_of_lt (by omega)]
set_option maxRecDepth 100000 in
set_option maxHeartbeats 1000000 in
theorem l01Sort_any (s : Value) (bs : List Blk) (w : World) (h : SX w s bs) (hl : bs.length ≤ 100000) :
    Calls Try.prog 166 #[s] w fun e w' => ∃ u, e = .returned u ∧ OwnR w' w.heap.size u (sortB bs) ∧ Below w.heap.size w w' := by
  have hs : ∃ a c, s = .slice a bs.length c := by rcases h with ⟨a0, c0, rfl, rfl⟩ | ⟨b, off, cap, rfl, _⟩ <;> exact ⟨_, _, rfl⟩
  have HSX := Lib.hid h
  clear h
  obtain ⟨a0, c0, rfl⟩ := hs
  go_enter Try.func166, Try.ntmps166
  go_wp2
  have ho0 := lit_own w
  obtain ⟨w0, hw0⟩ : ∃ w0, w.alloc (.cells #[] 93) = w0 := ⟨_, rfl⟩
  have hB0 : Below w.heap.size w w0 := by rw [← hw0]; exact (Below.refl _ _).alloc (Nat.le_refl _) _
  have hz0 : w.heap.size < w0.heap.size := by rw [← hw0]; simp
  rw [hw0] at ho0 ⊢
  have HO0 := Lib.hid ho0
  clear hw0 ho0
  go_loopw [3, 4] (fun o i wr => ∃ k : Nat, k ≤ bs.length ∧ i = .int .i64 k ∧ Below w.heap.size w wr ∧ OwnR wr w.heap.size o (sortB (bs.take k)) ∧ ∃ a c, o = .slice a k c) (fun _ i _ => bs.length - (intOf i).toNat)
  case atStart => exact ⟨0, Nat.zero_le _, rfl, hB0, by simpa [sortB] using HO0.out, _, _, rfl⟩
  case round =>
    obtain ⟨k, hk, rfl, hB, hO, a3, c3, rfl⟩ := hrel
    have hz := hB.size
    by_cases hkl : k < bs.length
    · rcases HSX.out with ⟨_, _, _, hnil⟩ | ⟨b, off, cap, hv, hblt, hbl⟩
      · rw [hnil] at hkl; simp at hkl
      · simp at hv
        obtain ⟨rfl, rfl⟩ := hv
        have HBL := Lib.hid hbl
        obtain ⟨x, hx, ex, x1, x2, x3⟩ := blks_at (hbl.below hB hblt) hkl
        obtain ⟨l, hl1⟩ : ∃ l, l = sortB (bs.take k) := ⟨_, rfl⟩
        have hll : l.length = k := by rw [hl1, sortB_length]; simp; omega
        have hnext : sortB (bs.take (k + 1)) = insB x l := by
          rw [List.getElem?_eq_getElem hkl] at ex
          have ex' : bs[k] = x := by simpa using ex
          rw [take_next hkl, ex', sortB_snoc, hl1]
        rw [← hl1] at hO
        have HO := Lib.hid hO
        have HNX := Lib.hid hnext
        have HLL := Lib.hid hll
        have hlen2 : l.length ≤ 100000 := by omega
        have g0 : (0 : Int) ≤ (k : Int) := by omega
        have g1 : (k : Int) < (bs.length : Int) := by omega
        have HEX := Lib.hid ex
        clear hx ex hl1 hO hnext hll hbl
        go_wp2_with (at_builtin; refine wpList_append_blk rfl _ _ rfl w.heap.size _ l rfl (HO.out.below ((Below.refl _ _).alloc (Nat.le_refl _) _) (Nat.le_refl _)) _ _ x rfl (by simp [go_sem]) (by simp [go_sem]) (by simp [go_sem]) (by omega) (by simp; omega) ?_; intro g' cap' w4 hO4 hg4)
        have hB4 : Below w.heap.size w w4 := (hB.alloc (by omega) _).grown hg4 (by simp; omega) (fun r e => HO.out.row r e)
        have HBR := Lib.hid (l01Before_any x)
        have HX := Lib.hid (show bs[k]?.getD default = x by rw [HEX.out]; rfl)
        clear hg4 x1 x2 x3
        go_loopw [5] (fun t wr2 => ∃ m : Nat, m ≤ k ∧ t = .int .i64 m ∧ Below w.heap.size w wr2 ∧ (∃ y, OwnR wr2 w.heap.size (.slice (some ⟨g', 0, none⟩) (l.length + 1) cap') (l.take m ++ y :: l.drop m)) ∧ Hid (posB x l l.length = posB x l m)) (fun t _ => (intOf t).toNat)
        case atStart => exact ⟨k, Nat.le_refl _, rfl, hB4, ⟨x, by have := hO4; rw [ins_start, HLL.out] at this; rw [HLL.out]; exact this⟩, Lib.hid (by rw [HLL.out])⟩
        case round =>
          obtain ⟨m, hm, rfl, hB2, ⟨y, hO2⟩, HP⟩ := hrel
          obtain ⟨hn0, hgb, hat⟩ := hO2.at_
          clear hn0
          have hxx := (HBL.out.below hB2 hblt) k hkl
          rw [HX.out] at hxx
          obtain ⟨x1, x2, x3⟩ := hxx
          have hglt := hat.lt
          have hz2 := hB2.size
          have hblt2 : b < wr.heap.size := by omega
          have hfree := hat.free
          have HO2 := Lib.hid hO2
          rcases m with _ | m
          · rw [show ((0 : Nat) : Int) = 0 from rfl]
            have gl1 : (0 : Int) < ((l.length + 1 : Nat) : Int) := by omega
            have gl2 : (0 : Int) < (l.length : Int) + 1 := by omega
            obtain ⟨c1, c2, c3'⟩ := hat.at_ 0 (by rw [ins_len l (Nat.zero_le _) y]; omega)
            simp only [Nat.zero_mul, Nat.zero_add] at c1 c2 c3'
            have hnew := HO2.out.set3 (i := 0) (by rw [ins_len l (Nat.zero_le _) y]; omega) x
            rw [ins_end l (Nat.zero_le _) x y] at hnew
            have hins : insB x l = l.take 0 ++ x :: l.drop 0 := by unfold insB; rw [HP.out]; rfl
            rw [← hins, ← HNX.out] at hnew
            simp only [Nat.zero_mul, Nat.zero_add] at hnew
            have HN := Lib.hid hnew
            clear hO2 hat hnew hins
            go_wp2
            go_quiet (fail)
            go_wp2
            go_roundw
            case rel => exact ⟨k + 1, by omega, by go_num, (((below_drewN hB2 _).setCell (p := ⟨g', 0, none⟩) hgb _).setCell (p := ⟨g', 1, none⟩) hgb _).setCell (p := ⟨g', 2, none⟩) hgb _, HN.out, _, _, by rw [HLL.out]⟩
            case measure => simp [intOf]; omega
          · have hml : m < l.length := by rw [HLL.out]; omega
            have hm1 : m + 1 ≤ l.length := by omega
            have gl1 : (m : Int) + 1 < ((l.length + 1 : Nat) : Int) := by omega
            have gl2 : (m : Int) + 1 < (l.length : Int) + 1 := by omega
            have gl3 : (m : Int) < ((l.length + 1 : Nat) : Int) := by omega
            have gl4 : (m : Int) < (l.length : Int) + 1 := by omega
            have gl5 : (0 : Int) < (m : Int) + 1 := by omega
            have gl6 : (0 : Int) ≤ (m : Int) := by omega
            have gl7 : (m : Int) ≤ 100000 := by omega
            have hatm := hat.at_ m (by rw [ins_len l hm1 y]; omega)
            rw [ins_at l hml y, Nat.zero_add] at hatm
            obtain ⟨c1, c2, c3'⟩ := hat.at_ (m + 1) (by rw [ins_len l hm1 y]; omega)
            rw [Nat.zero_add] at c1 c2 c3'
            obtain ⟨z, hz⟩ : ∃ z, z = l[m]?.getD default := ⟨_, rfl⟩
            have hpos : posB x l (m + 1) = if befB x (l[m]?.getD default) then posB x l m else m + 1 := rfl
            rw [← hz] at hatm hpos
            have HZ := Lib.hid hz
            have HPP := Lib.hid hpos
            obtain ⟨q1, q2, q3⟩ := hatm
            have hbr := HBR.out z
            clear hO2 hat hpos hz
            have r1 := cell_regrown x1
            have r2 := cell_regrown x2
            have r3 := cell_regrown x3
            have s1 := cell_regrown q1
            have s2 := cell_regrown q2
            have s3 := cell_regrown q3
            have t1 := cell_regrown c1
            have t2 := cell_regrown c2
            have t3 := cell_regrown c3'
            have rf : ∀ d os o, (Sort.grow (redrawn wr d) os).frozen? ⟨g', o, none⟩ = false := fun d os o => ((below_regrown wr d os).frozen (p := ⟨g', o, none⟩) hglt).trans (hfree o)
            obtain ⟨za, zb, zc⟩ := z
            obtain ⟨xa, xb, xc⟩ := x
            unfold bv at hbr
            dsimp only at hbr x1 x2 x3 q1 q2 q3 r1 r2 r3 s1 s2 s3
            cases hbe : befB ⟨xa, xb, xc⟩ ⟨za, zb, zc⟩ with
            | false =>
              rw [hbe] at hbr
              have HC := Lib.hid hbr
              have HBE := Lib.hid hbe
              clear hbr hbe
              go_wp2
              refine wp_region_quiet_below (by kernel_rfl) (by kernel_rfl) ?_
              repeat (go_big_quiet_step (exact Calls.regrown_of (HC.out _)))
              refine wpQuiet_nil ?_
              intro _ hw'
              obtain ⟨⟨dq, osq⟩, hw''⟩ := hw'
              subst hw''
              go_wp2
              have hnew := (HO2.out.below (below_regrown wr dq osq) (Nat.le_refl _)).set3 (i := m + 1) (by rw [ins_len l hm1 y]; omega) ⟨xa, xb, xc⟩
              rw [ins_end l hm1 _ y] at hnew
              have hins : insB ⟨xa, xb, xc⟩ l = l.take (m + 1) ++ ⟨xa, xb, xc⟩ :: l.drop (m + 1) := by unfold insB; rw [HP.out, HPP.out, if_neg (by rw [HBE.out]; decide)]
              rw [← hins, ← HNX.out] at hnew
              have HN := Lib.hid hnew
              clear hnew hins
              go_roundw
              case rel => exact ⟨k + 1, by omega, by go_num, (((hB2.trans ((below_regrown wr dq osq).mono hz2)).setCell (p := ⟨g', (m + 1) * 3, none⟩) hgb _).setCell (p := ⟨g', (m + 1) * 3 + 1, none⟩) hgb _).setCell (p := ⟨g', (m + 1) * 3 + 2, none⟩) hgb _, HN.out, _, _, by rw [HLL.out]⟩
              case measure => simp [intOf]; omega
            | true =>
              rw [hbe] at hbr
              have HC := Lib.hid hbr
              have HBE := Lib.hid hbe
              clear hbr hbe
              go_wp2
              refine wp_region_quiet_below (by kernel_rfl) (by kernel_rfl) ?_
              repeat (go_big_quiet_step (exact Calls.regrown_of (HC.out _)))
              refine wpQuiet_nil ?_
              intro _ hw'
              obtain ⟨⟨dq, osq⟩, hw''⟩ := hw'
              subst hw''
              go_wp2
              have hnew := (HO2.out.below (below_regrown wr dq osq) (Nat.le_refl _)).set3 (i := m + 1) (by rw [ins_len l hm1 y]; omega) ⟨za, zb, zc⟩
              have hro := ins_round l hml y
              rw [← HZ.out] at hro
              rw [hro] at hnew
              have HN := Lib.hid hnew
              clear hnew hro
              go_roundw
              case rel => exact ⟨m, by omega, rfl, (((hB2.trans ((below_regrown wr dq osq).mono hz2)).setCell (p := ⟨g', (m + 1) * 3, none⟩) hgb _).setCell (p := ⟨g', (m + 1) * 3 + 1, none⟩) hgb _).setCell (p := ⟨g', (m + 1) * 3 + 2, none⟩) hgb _, ⟨⟨za, zb, zc⟩, HN.out⟩, Lib.hid (by rw [HP.out, HPP.out, if_pos HBE.out])⟩
              case measure => simp [intOf]
    · go_wp2
      go_ret
      have e : k = bs.length := by omega
      subst e
      rw [List.take_length] at hO
      exact ⟨_, rfl, hO, hB⟩
set_option maxRecDepth 100000 in
theorem l01Made_any (v : Int) (s : Value) (bs : List Blk) (w : World) (h : SX w s bs) (hl : bs.length ≤ 100000) :
    Calls Try.prog 104 #[.int .i64 v, s] w fun e w' => ∃ u, e = .returned (.agg #[.int .i64 v, u]) ∧ ResR w' w.heap.size w'.heap.size u (sortB bs) ∧ Below w.heap.size w w' := by
  have hs : ∃ a c, s = .slice a bs.length c := by rcases h with ⟨a0, c0, rfl, rfl⟩ | ⟨b, off, cap, rfl, _⟩ <;> exact ⟨_, _, rfl⟩
  have HS := Lib.hid (l01Sort_any s bs (w.alloc (.cells #[.int .i64 0, .slice none 0 0] 31)) (h.below ((Below.refl _ _).alloc (Nat.le_refl _) _) (Nat.le_refl _)) hl)
  clear h
  obtain ⟨a0, c0, rfl⟩ := hs
  go_enter Try.func104, Try.ntmps104
  go_wp2_with fail
  refine HS.out.mono ?_
  rintro e w1 ⟨u, rfl, ho, hb1⟩
  have hlt : w.heap.size < w1.heap.size := by have := hb1.size; simp at this; omega
  have hbw : Below w.heap.size w w1 := ((Below.refl _ _).alloc (Nat.le_refl _) _).trans (hb1.mono (by simp))
  have d0 := cell_new hb1 0 rfl
  have d1 := cell_new hb1 1 rfl
  have f0 : w1.frozen? ⟨w.heap.size, 0, none⟩ = false := (hb1.frozen (p := ⟨w.heap.size, 0, none⟩) (by simp)).trans (by simp [go_sem])
  have f1 : w1.frozen? ⟨w.heap.size, 1, none⟩ = false := (hb1.frozen (p := ⟨w.heap.size, 1, none⟩) (by simp)).trans (by simp [go_sem])
  have hr := ho.res
  have hbase : (w.alloc (.cells #[.int .i64 0, .slice none 0 0] 31)).heap.size = w.heap.size + 1 := by simp
  rw [hbase] at hr
  obtain ⟨a3, n3, hs3⟩ := hr.slice
  obtain ⟨m3, hm3⟩ : ∃ m, m = (sortB bs).length := ⟨_, rfl⟩
  rw [← hm3] at hs3
  clear hm3 ho hb1 hbase
  subst hs3
  go_wp2
  exact bodyPost_ret (v := .agg #[.int .i64 v, .slice a3 m3 n3]) (by simp [results, Try.results104, go_sem, *]) rfl ⟨_, rfl, (hr.kept (gb_set2 w1 w.heap.size (.int .i64 v) (.slice a3 m3 n3)) (fun r e => by cases e; exact .inl (by omega))).wide (by omega) (by simp [World.setCell]), below_set2 hbw (by omega) _ _⟩
end Go.Proofs.Ytacfelgilphppaa


/- The model's TakeBlock. Third points, in plain words. impl.DoubleSystem answers as the plain function dblF. The contract of slices.Grow, laid at the blocks and at []int64. slices.Grow of nil and slices.Concat of two lists of blocks. The pairs of a list of blocks, as a map. The members of the library that ask whether a value is in a slice; the iterator over the blocks through a point. The iterator over the blocks through a point. -/
import Derived.Test.YtikegdidffjoeaaJ3
import Derived.Deep.RegionHeld3
import Derived.IntWalk
import Derived.Shelf.Spec.SlicesGrow
import Derived.Ground.Names8Prog
import Derived.Test.YtikegdidffjoeaaProg
import Derived.RangeFuncNested
import Derived.RangeFuncBound
import Derived.RangeFuncCalls
import Derived.RangeFuncLeaves
import Derived.RangeFuncBox
import Derived.Shelf.Abstract
import Derived.Shelf.RegionOpen
import Derived.OwnWalkIn
import Derived.TacticsInMore
import Derived.LoopNIn
import Derived.LoopIn
import Derived.Lib.QuietBelowIn
namespace Go.Proofs.Ytikegdidffjoeaa
open Go.RowKit Go.Maps
theorem Blks.take {w : World} {b off : Nat} {bs : List Blk} (h : Blks w b off bs) (j : Nat) : Blks w b off (bs.take j) := fun k hk => by
  rw [List.length_take] at hk
  have := h k (by omega)
  rwa [List.getElem?_take_of_lt (by omega)]
theorem Blks.drop {w : World} {b off : Nat} {bs : List Blk} (h : Blks w b off bs) (j : Nat) : Blks w b (off + j * 3) (bs.drop j) := fun k hk => by
  rw [List.length_drop] at hk
  have := h (j + k) (by omega)
  rw [List.getElem?_drop, show off + j * 3 + k * 3 = off + (j + k) * 3 by omega]
  exact this
theorem lit_own (W : World) : OwnR (W.alloc (.cells #[] 50)) W.heap.size (.slice (some ⟨W.heap.size, 0, none⟩) 0 0) [] :=
  ⟨rfl, .inr ⟨W.heap.size, 0, #[], rfl, Nat.le_refl _, (MapKept.heap_alloc W (.cells #[] 50)).1, Nat.le_refl _, by unfold maxLen; omega, rfl, rfl⟩⟩
theorem OwnR.drew {w : World} {base : Nat} {v : Value} {bs : List Blk} (h : OwnR w base v bs) : OwnR w.drew base v bs := h
theorem SX.drew {w : World} {v : Value} {bs : List Blk} (h : SX w v bs) : SX w.drew v bs := h
theorem Blks.drew {w : World} {b off : Nat} {bs : List Blk} (h : Blks w b off bs) : Blks w.drew b off bs := h
theorem Blks.kept {w w' : World} {b off : Nat} {bs : List Blk} {row : Option Nat} (h : Blks w b off bs) (hg : w.grownBy w' row) (hne : some b ≠ row) : Blks w' b off bs := fun k hk => by
  obtain ⟨h1, h2, h3⟩ := h k hk
  exact ⟨hg.cell h1 hne, hg.cell h2 hne, hg.cell h3 hne⟩
theorem keep_cell {w w' : World} {row : Option Nat} {b o : Nat} {u : Value} (h : w.cell? ⟨b, o, none⟩ = some u) (hg : w.grownBy w' row) (hne : ∀ r, row = some r → b < r) : w'.cell? ⟨b, o, none⟩ = some u :=
  hg.cell h (fun e => by have := hne _ e.symm; simp at this)
theorem keep_frozen {w w' : World} {row : Option Nat} {b o : Nat} {u : Value} (hc : w.cell? ⟨b, o, none⟩ = some u) (h : w.frozen? ⟨b, o, none⟩ = false) (hg : w.grownBy w' row) (hne : ∀ r, row = some r → b < r) : w'.frozen? ⟨b, o, none⟩ = false :=
  (World.frozen?_of_block (w := w) (a := ⟨b, o, none⟩) (hg.block b (block_lt_of_cell hc) (fun e => by have := hne _ e.symm; omega))).trans h
theorem keep_some {w w' : World} {row : Option Nat} {b o : Nat} (h : (w.cell? ⟨b, o, none⟩).isSome = true) (hg : w.grownBy w' row) (hne : ∀ r, row = some r → b < r) : (w'.cell? ⟨b, o, none⟩).isSome = true := by
  obtain ⟨u, hu⟩ := Option.isSome_iff_exists.1 h
  rw [keep_cell hu hg hne]
  rfl
theorem keep_free {w w' : World} {row : Option Nat} {b o : Nat} (h : (w.cell? ⟨b, o, none⟩).isSome = true) (hf : w.frozen? ⟨b, o, none⟩ = false) (hg : w.grownBy w' row) (hne : ∀ r, row = some r → b < r) : w'.frozen? ⟨b, o, none⟩ = false := by
  obtain ⟨u, hu⟩ := Option.isSome_iff_exists.1 h
  exact keep_frozen hu hf hg hne
def Six (w' : World) (b : Nat) (v : Int) (s : Value) : Prop := w'.cell? ⟨b, 0, none⟩ = some (.int .i64 v) ∧ w'.cell? ⟨b, 1, none⟩ = some s ∧ w'.cell? ⟨b + 1, 0, none⟩ = some (.int .i64 0) ∧ w'.cell? ⟨b + 1, 1, none⟩ = some (.slice none 0 0) ∧ w'.frozen? ⟨b + 1, 0, none⟩ = false ∧ w'.frozen? ⟨b + 1, 1, none⟩ = false
theorem keep6 {w w' : World} {b : Nat} {v : Int} {s : Value} {row : Option Nat} (h : Six w b v s) (hg : w.grownBy w' row) (hr : ∀ r, row = some r → b + 1 < r) : Six w' b v s := by
  obtain ⟨h0, h1, h2, h3, h4, h5⟩ := h
  exact ⟨keep_cell h0 hg (fun r e => by have := hr r e; omega), keep_cell h1 hg (fun r e => by have := hr r e; omega), keep_cell h2 hg hr, keep_cell h3 hg hr, keep_frozen h2 h4 hg hr, keep_frozen h3 h5 hg hr⟩
theorem gb_drewL {w w' : World} {row : Option Nat} (h : w.drew.grownBy w' row) : w.grownBy w' row := ⟨h.os, h.tape, h.output, h.size, h.block⟩
theorem run_slice_drop (b off n cap j : Nat) (h1 : j ≤ n) (h2 : n ≤ cap) : ∃ x, (∀ W : World, (Instr.slice 24 (.slice (some ⟨b, off, none⟩) n cap) (some (.int .i64 (j : Int))) none none).run Try.prog W = .ok x W) ∧ ∀ (W : World) (bs : List Blk), bs.length = n → b < W.heap.size → Blks W b off bs → SX W x (bs.drop j) := by
  have hj0 : (0 : Int) ≤ (j : Int) := by omega
  have hj1 : (j : Int) ≤ (n : Int) := by omega
  by_cases hc : j = cap
  · refine ⟨.slice (some ⟨b, off, none⟩) 0 0, fun W => ?_, fun W bs e _ _ => .inl ⟨_, _, rfl, List.drop_eq_nil_of_le (by omega)⟩⟩
    have e1 : n = j := by omega
    subst e1
    subst hc
    simp [Instr.slice, Instr.sliceBounds, Instr.sliceBound, run_underlying Try.underlying24, go_sem, hj0]
  · refine ⟨.slice (some ⟨b, off + j * 3, none⟩) (n - j) (cap - j), fun W => ?_, fun W bs e h1 h2 => .inr ⟨b, off + j * 3, cap - j, by rw [List.length_drop, e], h1, h2.drop j⟩⟩
    have hc' : ¬ cap = j := fun e => hc e.symm
    simp [Instr.slice, Instr.sliceBounds, Instr.sliceBound, run_underlying Try.underlying24, go_sem, hj0, h1, hc', addr_at]
/-- .. and the slice is no longer than its capacity. -/
def SC (w : World) (s : Value) (bs : List Blk) : Prop := SB w s bs ∧ ∀ a n c, s = .slice a n c → n ≤ c
theorem SC.below {w w' : World} {s : Value} {bs : List Blk} (h : SC w s bs) {B : Nat} (hb : Below B w w') (hB : w.heap.size ≤ B) : SC w' s bs := ⟨h.1.below hb hB, h.2⟩
theorem OwnB.sc {w : World} {lo : Nat} {s : Value} {bs : List Blk} (h : OwnB w lo s bs) (hwf : ∀ x ∈ bs, WFB x) (hl : bs.length ≤ 1100000) : SC w s bs := by
  refine ⟨h.sb hwf hl, fun a n c e => ?_⟩
  obtain ⟨g, cap, rfl, _, _, _, _, hc⟩ := h
  cases e
  exact hc
theorem l01In_out (n lo hi : Int) (W : World) (β : Bool) (hβ : (decide (lo ≤ n) && decide (n ≤ hi)) = β) : Calls Try.prog 91 #[.int .i64 n, .int .i64 lo, .int .i64 hi] W (RS (.bool β) W) := by
  rw [← hβ]
  exact l01In_any n lo hi W
end Go.Proofs.Ytikegdidffjoeaa

namespace Go.Proofs.Ytikegdidffjoeaa
open Go.RowKit Go.Maps
def hasB (x : Blk) (p : Int) : Bool := decide (x.a = p) || decide (x.b = p) || decide (x.c = p)
def bothB (a b : Int) (x : Blk) : Bool := hasB x a && hasB x b
def thirdOf (x : Blk) (a b : Int) : Int := x.a + x.b + x.c - a - b
def inP (v a : Int) : Bool := decide (0 ≤ a) && decide (a < v)
/-- The third point, or -1. -/
def third1 (bs : List Blk) (a b : Int) : Int := match bs.find? (bothB a b) with | some x => thirdOf x a b | none => -1
def thirdV (v : Int) (bs : List Blk) (a b : Int) : Value :=
  if isSysImpl v bs then
    (if inP v a && inP v b then (if a = b then .tuple #[.int .i64 0, .int .i64 2] else
      (match bs.find? (bothB a b) with | some x => .tuple #[.int .i64 (thirdOf x a b), .int .i64 0] | none => .tuple #[.int .i64 0, .int .i64 4]))
    else .tuple #[.int .i64 0, .int .i64 2])
  else .tuple #[.int .i64 0, .int .i64 1]
theorem sys_good {v : Int} {bs : List Blk} (h : isSysImpl v bs = true) : ∀ x ∈ bs, goodB v x = true := by
  unfold isSysImpl at h
  simp only [Bool.and_eq_true] at h
  exact order_good h.1.2
theorem third_bounds {v : Int} {x : Blk} {a b : Int} (hg : goodB v x = true) (hv : v ≤ 15) (h : bothB a b x = true) (hab : a ≠ b) : 0 ≤ thirdOf x a b ∧ thirdOf x a b ≤ 15 := by
  rw [goodB_iff] at hg
  unfold bothB hasB at h
  unfold thirdOf
  simp at h
  omega
theorem find_next {p : Blk → Bool} {bs : List Blk} {k : Nat} {x : Blk} (hk : k < bs.length) (hx : bs[k]? = some x) (h : (bs.take k).find? p = none) : (p x = true → bs.find? p = some x) ∧ (p x = false → (bs.take (k + 1)).find? p = none) := by
  have e : bs[k] = x := by
    rw [List.getElem?_eq_getElem hk] at hx
    simpa using hx
  refine ⟨fun hp => ?_, fun hp => ?_⟩
  · rw [← List.take_append_drop k bs, List.find?_append, h, List.drop_eq_getElem_cons hk, e]
    simp [hp]
  · rw [take_next hk, e, List.find?_append, h]
    simp [hp]
end Go.Proofs.Ytikegdidffjoeaa

namespace Go.Proofs.Ytikegdidffjoeaa
open Go.RowKit Go.Maps
def dblF (v : Int) (bs : List Blk) : Int × List Blk × Int :=
  if isSysImpl v bs then (if fullB v bs then (if 2 * v + 1 ≤ 15 then (2 * v + 1, sortB (dblL v bs), 0) else (0, [], 3)) else (0, [], 5)) else (0, [], 1)
def fullC (v : Int) (bs : List Blk) : Int := if isSysImpl v bs then (if fullB v bs then 0 else 5) else 1
theorem fullV_cases (v : Int) (bs : List Blk) : (fullV v bs = boolCode true 0 ∧ fullC v bs = 0) ∨ (fullV v bs = boolCode false 0 ∧ fullC v bs = 5) ∨ (fullV v bs = boolCode false 1 ∧ fullC v bs = 1) := by
  unfold fullV fullC
  cases isSysImpl v bs
  · right; right; simp
  · cases fullB v bs
    · right; left; simp
    · left; simp
set_option maxRecDepth 100000 in
theorem fullCode_one (B : Nat) (v : Int) (s : Value) (bs : List Blk) (w : World) (h : SB w s bs) (c0 : w.cell? ⟨B, 0, none⟩ = some (.int .i64 v)) (c1 : w.cell? ⟨B, 1, none⟩ = some s) :
    Calls Try.prog 168 #[.slice (some ⟨B, 0, none⟩) 1 1] w (RV (.int .i64 (fullC v bs)) w) := by
  have hs := h.slice
  have HI := Lib.hid (IsFull_any v s bs (w.alloc (.cells #[.int .i64 v, s] 26)) (h.below ((Below.refl _ _).alloc (Nat.le_refl _) _) (Nat.le_refl _)))
  clear h
  obtain ⟨a, c, rfl⟩ := hs
  rcases fullV_cases v bs with ⟨e1, e2⟩ | ⟨e1, e2⟩ | ⟨e1, e2⟩
  all_goals
    rw [e1] at HI
    rw [e2]
    unfold boolCode at HI
    clear e1 e2
    go_enter Try.func168, Try.ntmps168
    go_wp2
    refine wp_loop_rounds 2 ?_
    rw [rounds_succ]
    go_wp2_with (go_at_call 210; refine HI.out.mono ?_; rintro e w1 ⟨rfl, hb1⟩)
  · rw [rounds_succ]
    go_wp2
    go_ret
    exact RV_of rfl (((Below.refl _ _).alloc (Nat.le_refl _) _).trans (hb1.mono (by simp)))
  · rw [rounds_succ]
    go_wp2
    go_ret
    exact RV_of rfl (((Below.refl _ _).alloc (Nat.le_refl _) _).trans (hb1.mono (by simp)))
  · go_ret
    exact RV_of rfl (((Below.refl _ _).alloc (Nat.le_refl _) _).trans (hb1.mono (by simp)))
/-- Returns a slice of its own with these blocks. -/
def RO (bs : List Blk) (w : World) (e : Ending) (w' : World) : Prop := ∃ u, e = .returned u ∧ OwnR w' w.heap.size u bs ∧ Below w.heap.size w w'
theorem sx_three (W : World) (x y z : Blk) (T : TypeId) : SX (W.alloc (.cells #[.int .i64 x.a, .int .i64 x.b, .int .i64 x.c, .int .i64 y.a, .int .i64 y.b, .int .i64 y.c, .int .i64 z.a, .int .i64 z.b, .int .i64 z.c] T)) (.slice (some ⟨W.heap.size, 0, none⟩) 3 3) [x, y, z] :=
  .inr ⟨W.heap.size, 0, 3, rfl, by simp, fun k hk => by
    match k, hk with
    | 0, _ => simp
    | 1, _ => simp
    | 2, _ => simp⟩
theorem dbl_bounds {v : Int} {x : Blk} (hg : goodB v x = true) (h15 : v ≤ 15) : 0 ≤ x.a ∧ x.a < x.b ∧ x.b < x.c ∧ x.c < v ∧ v ≤ 15 := by
  have := goodB_iff.1 hg
  omega
end Go.Proofs.Ytikegdidffjoeaa

namespace Go.Proofs
open Go.Shelf
def Try.growB_ren : Go.Shelf.Ren := ⟨fun | 4 => 180 | n => n, fun | 22 => 24 | 25 => 50 | 3 => 3 | 4 => 4 | 9 => 9 | 20 => 20 | 0 => 0 | n => n, fun | n => n⟩
theorem Try.growB : Go.Proofs.Lays8.n4 Try.prog Try.growB_ren := {
  mixed := by kernel_rfl
  f4 := ⟨Try.f180.name, by decide, Try.func180.trans (congrArg some (by kernel_rfl))⟩
  t0 := Try.underlying0
  a0 := Try.isAgg0
  z0 := Try.sizeOf0
  v0 := Try.zeroValue0
  t3 := Try.underlying3
  a3 := Try.isAgg3
  z3 := Try.sizeOf3
  v3 := Try.zeroValue3
  t4 := Try.underlying4
  a4 := Try.isAgg4
  z4 := Try.sizeOf4
  v4 := Try.zeroValue4
  t9 := Try.underlying9
  a9 := Try.isAgg9
  z9 := Try.sizeOf9
  v9 := Try.zeroValue9
  t20 := Try.underlying20
  a20 := Try.isAgg20
  z20 := Try.sizeOf20
  v20 := Try.zeroValue20
  t22 := Try.underlying24
  a22 := Try.isAgg24
  z22 := Try.sizeOf24
  v22 := Try.zeroValue24 }
def Try.growI_ren : Go.Shelf.Ren := ⟨fun | 4 => 195 | n => n, fun | 22 => 42 | 25 => 2 | 3 => 3 | 4 => 4 | 9 => 9 | 20 => 20 | 0 => 0 | n => n, fun | n => n⟩
theorem Try.growI : Go.Proofs.Lays8.n4 Try.prog Try.growI_ren := {
  mixed := by kernel_rfl
  f4 := ⟨Try.f195.name, by decide, Try.func195.trans (congrArg some (by kernel_rfl))⟩
  t0 := Try.underlying0
  a0 := Try.isAgg0
  z0 := Try.sizeOf0
  v0 := Try.zeroValue0
  t3 := Try.underlying3
  a3 := Try.isAgg3
  z3 := Try.sizeOf3
  v3 := Try.zeroValue3
  t4 := Try.underlying4
  a4 := Try.isAgg4
  z4 := Try.sizeOf4
  v4 := Try.zeroValue4
  t9 := Try.underlying9
  a9 := Try.isAgg9
  z9 := Try.sizeOf9
  v9 := Try.zeroValue9
  t20 := Try.underlying20
  a20 := Try.isAgg20
  z20 := Try.sizeOf20
  v20 := Try.zeroValue20
  t22 := Try.underlying42
  a22 := Try.isAgg42
  z22 := Try.sizeOf42
  v22 := Try.zeroValue42 }
end Go.Proofs

namespace Go.Proofs.Ytikegdidffjoeaa
open Go.RowKit Go.Maps Go.Shelf
theorem growB_any (n : Nat) (hn : n ≤ 1000000) (w : World) : Calls Try.prog 180 #[.slice none 0 0, .int .i64 (n : Int)] w (RO [] w) := by
  by_cases h0 : n = 0
  · subst h0
    refine Calls.mono (Any8.slices_Grow_room Try.growB none 0 0 0 w (by omega) (by omega) (by omega) (by omega)) ?_
    rintro e w' ⟨rfl, rfl⟩
    exact ⟨_, rfl, OwnR.nil _ _, Below.refl _ _⟩
  · obtain ⟨i0, hi, hz0, hz1, hz2⟩ := info_parts infoBlock
    refine Calls.mono (Any8.slices_Grow_grow Try.growB i0 _ hi hz0 (by rw [hz1]; omega) none 0 0 n [] w (by omega) (by omega) (by rw [hz2]; omega) (by omega) (by simp) (fun _ => rfl) (by simp)) ?_
    rintro e w' ⟨rfl, rfl⟩
    have hge := grownCap_ge w (0 + n) 0 (Try.growB_ren.t 25)
    have hle := grownCap_le_maxLen w (0 + n) 0 (Try.growB_ren.t 25) (by unfold maxLen; omega)
    refine ⟨_, rfl, World.ownsRow_made w.drew _ _ (Nat.le_refl _) hle ?_, (Below.refl _ _).drew.alloc (Nat.le_refl _) _⟩
    obtain ⟨cap, hcap⟩ : ∃ cap, cap = grownCap w (0 + n) 0 (Try.growB_ren.t 25) := ⟨_, rfl⟩
    rw [← hcap] at hge ⊢
    simp only [Array.size_append, List.size_toArray, List.length_nil, size_zeroCells, Value.cells]
    show 0 + (0 + n - 0) * 3 + (cap - (0 + n)) * 3 = cap * 3
    omega
set_option maxRecDepth 100000 in
set_option maxHeartbeats 1000000 in
/-- slices.Concat of two lists: both, in memory of its own. -/
theorem concat2_any (H : Nat) (s t : Value) (bs cs : List Blk) (w : World) (h0 : w.cell? ⟨H, 0, none⟩ = some s) (h1 : w.cell? ⟨H, 1, none⟩ = some t) (hs : SX w s bs) (ht : SX w t cs) (hb : bs.length ≤ 400000) (hc : cs.length ≤ 400000) :
    Calls Try.prog 114 #[.slice (some ⟨H, 0, none⟩) 2 2] w (RO (bs ++ cs) w) := by
  have hH : H < w.heap.size := World.block_lt_of_cell? w ⟨H, 0, none⟩ h0
  have HG := Lib.hid (growB_any (bs.length + cs.length) (by omega) w)
  have fs : ∃ a c, s = .slice a bs.length c := by rcases hs with ⟨a0, c0, rfl, rfl⟩ | ⟨b, off, cap, rfl, _⟩ <;> exact ⟨_, _, rfl⟩
  have ft : ∃ a c, t = .slice a cs.length c := by rcases ht with ⟨a0, c0, rfl, rfl⟩ | ⟨b, off, cap, rfl, _⟩ <;> exact ⟨_, _, rfl⟩
  have HS := Lib.hid hs
  have HT := Lib.hid ht
  clear hs ht
  obtain ⟨a1, c1, rfl⟩ := fs
  obtain ⟨a2, c2, rfl⟩ := ft
  obtain ⟨n1, hn1⟩ : ∃ n, n = bs.length := ⟨_, rfl⟩
  obtain ⟨n2, hn2⟩ : ∃ n, n = cs.length := ⟨_, rfl⟩
  rw [← hn1] at h0 HG HS
  rw [← hn2] at h1 HG HT
  have HN := Lib.hid (And.intro hn1 hn2)
  have b1 : n1 ≤ 400000 := by omega
  have b2 : n2 ≤ 400000 := by omega
  clear hn1 hn2 hb hc
  go_enter Try.func114, Try.ntmps114
  go_wp2_with fail
  refine wp_loop_rounds 3 ?_
  rw [rounds_succ]
  go_wp2
  rw [rounds_succ]
  go_wp2
  rw [rounds_succ]
  go_wp2_with fail
  rw [← Int.natCast_add]
  refine HG.out.mono ?_
  rintro e w1 ⟨u, rfl, ho, hb1⟩
  obtain ⟨a3, c3, hu⟩ := ho.form
  subst hu
  have p0 := (hb1.cell (p := ⟨H, 0, none⟩) hH).trans h0
  have p1 := (hb1.cell (p := ⟨H, 1, none⟩) hH).trans h1
  have HO := Lib.hid ho
  have HS1 := Lib.hid (HS.out.below hb1 (Nat.le_refl _))
  have HT1 := Lib.hid (HT.out.below hb1 (Nat.le_refl _))
  have hz1 := hb1.size
  have HB1 := Lib.hid hb1
  clear h0 h1 HG ho hb1
  go_wp2
  refine wp_loop_rounds 3 ?_
  rw [rounds_succ]
  go_wp2_with (at_builtin; refine wpList_append_many rfl _ _ rfl w.heap.size (.slice a3 ([] : List Blk).length c3) [] rfl HO.out (.slice a1 n1 c1) bs rfl HS1.out (by have := HN.out; simp; omega) hz1 ?_; intro a4 c4 w4 ho4 hg4)
  have hne : ∀ r, (Value.slice a3 ([] : List Blk).length c3).ownBlock = some r → w.heap.size ≤ r := HO.out.row
  have q0 := hg4.cell p0 (fun e => by have := hne _ e.symm; simp at this; omega)
  have q1 := hg4.cell p1 (fun e => by have := hne _ e.symm; simp at this; omega)
  have hB4 := HB1.out.grown hg4 HB1.out.size (fun j e => hne j e)
  have hz4 := hB4.size
  simp only [List.length_nil, Nat.zero_add, List.nil_append] at ho4
  have HO4 := Lib.hid ho4
  have HT4 := Lib.hid (HT.out.below hB4 (Nat.le_refl _))
  have HB4 := Lib.hid hB4
  clear p0 p1 hne ho4 hg4 hB4
  have l4 : bs.length ≤ 1000000 := by have := HN.out; omega
  rw [rounds_succ]
  go_wp2_with (at_builtin; refine wpList_append_many rfl _ _ rfl w.heap.size (.slice a4 bs.length c4) bs rfl HO4.out (.slice a2 n2 c2) cs rfl HT4.out (by have := HN.out; simp; omega) hz4 ?_; intro a5 c5 w5 ho5 hg5)
  have hne : ∀ r, (Value.slice a4 bs.length c4).ownBlock = some r → w.heap.size ≤ r := HO4.out.row
  have hB5 := HB4.out.grown hg5 HB4.out.size (fun j e => hne j e)
  rw [rounds_succ]
  go_wp2
  go_ret
  exact ⟨_, rfl, ho5, hB5⟩
end Go.Proofs.Ytikegdidffjoeaa

namespace Go.Proofs.Ytikegdidffjoeaa
open Go.RowKit Go.Maps
set_option maxRecDepth 100000 in
theorem pairsIn_any (s : Value) (bs : List Blk) (w : World) (h : SB w s bs) (hb : bs.length ≤ 100000) : Calls Try.prog 113 #[s] w fun e w' =>
    e = .returned (.map (some w.heap.size)) ∧ BoolSet w' Try.prog 139 4 w.heap.size (3 * bs.length) ((bs.flatMap pairsL).map pv) ∧ Below w.heap.size w w' := by
  have hs := h.slice
  obtain ⟨hwf, hlen, h3⟩ := h
  obtain ⟨a0, c0, rfl⟩ := hs
  have hmm := run_makeMap_hint (P := Try.prog) 95 139 4 .i64 (3 * (bs.length : Int)) Try.underlying95
  go_enter Try.func113, Try.ntmps113
  go_wp2
  go_loopw [14] (fun i wr => ∃ k : Nat, k ≤ bs.length ∧ i = .int .i64 k ∧ BoolSet wr Try.prog 139 4 w.heap.size (3 * k) (((bs.take k).flatMap pairsL).map pv) ∧ Below w.heap.size w wr) (fun i _ => bs.length - (intOf i).toNat)
  case atStart => exact ⟨0, Nat.zero_le _, rfl, BoolSet.made _ _ _ _, (Below.refl _ _).alloc (Nat.le_refl _) _⟩
  case round =>
    obtain ⟨k, hk, rfl, hS, hB⟩ := hrel
    have hsz := hB.size
    have hlt' := hS.lt
    by_cases hkl : k < bs.length
    · rcases h3 with ⟨_, _, _, hnil⟩ | ⟨b, off, cap, hval, hblt, hbl⟩
      · rw [hnil] at hkl; simp at hkl
      · simp at hval
        obtain ⟨rfl, rfl⟩ := hval
        obtain ⟨x, r, hx, e1, e2, e3, c1, c2, c3⟩ := blks_next (hbl.below hB hblt) hkl
        have E3 := Lib.hid e3
        clear e1 e2 e3 hbl
        obtain ⟨x1, x2, x3⟩ := x
        obtain ⟨g1, g2, g3⟩ := hwf _ hx
        obtain ⟨seen, hseen⟩ : ∃ l, l = (bs.take k).flatMap pairsL := ⟨_, rfl⟩
        rw [← hseen] at hS
        have HSN := Lib.hid hseen
        clear hseen hx
        obtain ⟨k1, hk1⟩ := pv_key g1 g2
        obtain ⟨k2, hk2⟩ := pv_key g1 g3
        obtain ⟨k3, hk3⟩ := pv_key g2 g3
        have HK1 := Lib.hid hk1
        have HK2 := Lib.hid hk2
        have HK3 := Lib.hid hk3
        clear hk1 hk2 hk3 g1 g2 g3
        have i0 : ∀ w, (Instr.index 140 (.agg #[.int .i64 x1, .int .i64 x2, .int .i64 x1, .int .i64 x3, .int .i64 x2, .int .i64 x3]) (.int .i64 0)).run Try.prog w = .ok (.agg #[.int .i64 x1, .int .i64 x2]) w := fun _ => by kernel_rfl
        have i1 : ∀ w, (Instr.index 140 (.agg #[.int .i64 x1, .int .i64 x2, .int .i64 x1, .int .i64 x3, .int .i64 x2, .int .i64 x3]) (.int .i64 1)).run Try.prog w = .ok (.agg #[.int .i64 x1, .int .i64 x3]) w := fun _ => by kernel_rfl
        have i2 : ∀ w, (Instr.index 140 (.agg #[.int .i64 x1, .int .i64 x2, .int .i64 x1, .int .i64 x3, .int .i64 x2, .int .i64 x3]) (.int .i64 2)).run Try.prog w = .ok (.agg #[.int .i64 x2, .int .i64 x3]) w := fun _ => by kernel_rfl
        go_wp2_with (go_at_call 173; refine (pairsOf_any ⟨x1, x2, x3⟩ _).mono ?_; rintro e w2 ⟨rfl, hb2⟩; unfold prsv; dsimp only; have hSx := (hS.alloc (.cells #[.int .i64 x1, .int .i64 x2, .int .i64 x3] 50)).below hb2 (by simp; omega); have hz2 := hb2.size; simp at hz2)
        refine wp_loop_rounds 4 ?_
        rw [rounds_succ]
        go_wp2_with (at_mapUpdate; refine wpList_put_set _ rfl _ _ _ 95 rfl 139 4 pairKeyed Try.underlying95 Try.underlying4 w.heap.size (3 * k + 0) (seen.map pv) rfl (hSx.alloc _) (by unfold maxLen; omega) (pv (x1, x2)) k1 rfl rfl HK1.out ?_; intro w3 hS3 hg3)
        rw [rounds_succ]
        go_wp2_with (at_mapUpdate; refine wpList_put_set _ rfl _ _ _ 95 rfl 139 4 pairKeyed Try.underlying95 Try.underlying4 w.heap.size (3 * k + 1) (seen.map pv ++ [pv (x1, x2)]) rfl (hS3.alloc _) (by unfold maxLen; omega) (pv (x1, x3)) k2 rfl rfl HK2.out ?_; intro w4 hS4 hg4)
        rw [rounds_succ]
        go_wp2_with (at_mapUpdate; refine wpList_put_set _ rfl _ _ _ 95 rfl 139 4 pairKeyed Try.underlying95 Try.underlying4 w.heap.size (3 * k + 2) (seen.map pv ++ [pv (x1, x2)] ++ [pv (x1, x3)]) rfl (hS4.alloc _) (by unfold maxLen; omega) (pv (x2, x3)) k3 rfl rfl HK3.out ?_; intro w5 hS5 hg5)
        rw [rounds_succ]
        go_wp2
        have hBx := hB.trans (((Below.refl _ _).alloc hsz _).trans (hb2.mono (by simp; omega)))
        have hB3 := (hBx.alloc (by omega) (.cells #[.int .i64 x1, .int .i64 x2] 139)).grown hg3 (by simp; omega) (fun j e => by cases e; exact Nat.le_refl _)
        have hB4 := (hB3.alloc hB3.size (.cells #[.int .i64 x1, .int .i64 x3] 139)).grown hg4 (by have := hB3.size; simp; omega) (fun j e => by cases e; exact Nat.le_refl _)
        have hB5 := (hB4.alloc hB4.size (.cells #[.int .i64 x2, .int .i64 x3] 139)).grown hg5 (by have := hB4.size; simp; omega) (fun j e => by cases e; exact Nat.le_refl _)
        have hfin : BoolSet w5 Try.prog 139 4 w.heap.size (3 * (k + 1)) (((bs.take (k + 1)).flatMap pairsL).map pv) := by
          rw [E3.out, List.flatMap_append, ← HSN.out]
          have e : (seen ++ [Blk.mk x1 x2 x3].flatMap pairsL).map pv = seen.map pv ++ [pv (x1, x2)] ++ [pv (x1, x3)] ++ [pv (x2, x3)] := by simp [pairsL]
          rw [e]
          exact hS5.mono (by omega)
        go_roundw
        case rel => exact ⟨k + 1, by omega, by go_num, hfin, hB5⟩
        case measure => simp [intOf]; omega
    · have e : k = bs.length := by omega
      subst e
      rw [List.take_length] at hS
      go_wp2
      go_ret
      exact ⟨rfl, hS, hB⟩
end Go.Proofs.Ytikegdidffjoeaa

namespace Go.Proofs.Ytikegdidffjoeaa
open Go.RowKit Go.Maps Go.Shelf
/-- Whether p is in the list. -/
def inL (p : Int) (zs : List Int) : Bool := zs.any fun z => p == z
theorem Index_any (b off cap : Nat) (zs : List Int) (p : Int) (w : World) (h : Ints w b off zs) (m1 : zs.length ≤ 9223372036854775807) :
    Calls Try.prog 178 #[.slice (some ⟨b, off, none⟩) zs.length cap, .int .i64 p] w fun e w' => ∃ r : Int, e = .returned (.int .i64 r) ∧ w = w' ∧ (decide (r ≥ 0) = inL p zs) := by
  have H1 := Lib.hid h
  clear h
  go_enter Try.func178, Try.ntmps178
  go_wp2
  go_loop [8] (fun i => ∃ k : Nat, k ≤ zs.length ∧ i = .int .i64 k ∧ Hid (inL p zs = inL p (zs.drop k))) (fun i => zs.length - (intOf i).toNat)
  case atStart => exact ⟨0, Nat.zero_le _, rfl, Lib.hid (by simp)⟩
  case round =>
    obtain ⟨k, hk, rfl, HE⟩ := hrel
    by_cases hlt : k < zs.length
    · obtain ⟨x, r, e1, e2, hc1⟩ := ints_next H1.out hlt
      rw [e1] at HE
      have E2 := Lib.hid e2
      clear e1 e2
      go_wp2
      · have hne : (p == x) = true := by assumption
        go_ret
        exact ⟨_, rfl, rfl, by rw [HE.out]; simp [inL, hne]⟩
      · have hne : (p == x) = false := by assumption
        go_round
        case rel => exact ⟨k + 1, by omega, by go_num, Lib.hid (by rw [HE.out, E2.out]; simp [inL, hne])⟩
        case measure => simp [intOf]; omega
    · go_wp2
      go_ret
      exact ⟨_, rfl, rfl, by rw [HE.out, List.drop_eq_nil_of_le (by omega : zs.length ≤ k)]; simp [inL]⟩
theorem Contains_any (b off cap : Nat) (zs : List Int) (p : Int) (w : World) (h : Ints w b off zs) (m1 : zs.length ≤ 9223372036854775807) :
    Calls Try.prog 107 #[.slice (some ⟨b, off, none⟩) zs.length cap, .int .i64 p] w (RS (.bool (inL p zs)) w) := by
  go_enter Try.func107, Try.ntmps107
  go_wp2_with (go_at_call 178; refine (Index_any _ _ _ _ _ _ h m1).mono ?_; rintro e w' ⟨r, rfl, rfl, hr⟩)
  go_ret
  exact RS_of rfl
theorem inL3 (x : Blk) (p : Int) : inL p [x.a, x.b, x.c] = hasB x p := by
  unfold inL hasB
  rw [Bool.eq_iff_iff]
  simp [eq_comm (a := p), or_assoc]
theorem isPointI_any (v a : Int) (w : World) : Calls Try.prog 176 #[.int .i64 v, .int .i64 a] w (RS (.bool (inP v a)) w) := by
  unfold inP
  go_enter Try.func176, Try.ntmps176
  go_wp2
  all_goals go_ret
  all_goals refine RS_of (bool_eq ?_)
  all_goals simp_all
  all_goals omega
end Go.Proofs.Ytikegdidffjoeaa

namespace Go.Proofs.Ytikegdidffjoeaa
open Go.RowKit Go.Maps Go.Shelf
attribute [local go_sem] Oper.semAt_some
/-- The blocks through p among the first k, each with its index. -/
def upTo (p : Int) (bs : List Blk) (k : Nat) : List (Nat × Blk) := ((List.range k).map fun j => (j, bs[j]?.getD default)).filter fun q => hasB q.2 p
theorem upTo_succ (p : Int) (bs : List Blk) (k : Nat) : upTo p bs (k + 1) = upTo p bs k ++ if hasB (bs[k]?.getD default) p then [(k, bs[k]?.getD default)] else [] := by
  unfold upTo
  rw [List.range_succ, List.map_append, List.filter_append]
  congr 1
  simp [List.filter_cons]
theorem upTo_len (p : Int) (bs : List Blk) (k : Nat) : (upTo p bs k).length ≤ k := by
  unfold upTo
  refine Nat.le_trans (List.length_filter_le _ _) ?_
  simp
/-- What a round that goes on keeps: old memory, and the box at Bp. -/
def KpB (n₀ Bp : Nat) (A B : World) : Prop := Below n₀ A B ∧ ∀ v, A.cell? ⟨Bp, 0, none⟩ = some v → B.cell? ⟨Bp, 0, none⟩ = some v
theorem KpB.refl (n₀ Bp : Nat) (A : World) : KpB n₀ Bp A A := ⟨Below.refl _ _, fun _ h => h⟩
theorem KpB.trans {n₀ Bp : Nat} {A B C : World} (h : KpB n₀ Bp A B) (k : KpB n₀ Bp B C) : KpB n₀ Bp A C := ⟨h.1.trans k.1, fun v hv => k.2 v (h.2 v hv)⟩
theorem KpB.put {n₀ Bp : Nat} {w : World} (hn : n₀ ≤ w.heap.size) (W : World) (l : Nat) (o o' : Obj) (hl : w.heap.size ≤ l) (h : W.heap[l]? = some o) (hc : o.isCells = false) (hw : o.isWalk = false) : KpB n₀ Bp W (W.putObj l o') :=
  ⟨belowK_b hn W l o o' hl h hc hw, fun v hv => cell_kept hv (grownBy_putObj' W l o') (fun r e => by cases e; exact ⟨_, h, hc⟩)⟩
/-- The closure captures the box of the system and the box of the point. -/
theorem blocksWith_any (v : Int) (s : Value) (p : Int) (w : World) : Calls Try.prog 106 #[.agg #[.int .i64 v, s], .int .i64 p] w fun e w' =>
    e = .returned (.func (.func 177) #[] #[.pointer (some ⟨w.heap.size, 0, none⟩), .pointer (some ⟨w.heap.size + 1, 0, none⟩)]) ∧ w' = (w.alloc (.cells #[.int .i64 v, s] 26)).alloc (.cells #[.int .i64 p] 2) := by
  go_enter Try.func106, Try.ntmps106
  go_wp2
  go_ret
  exact ⟨rfl, rfl⟩
theorem RS.quietIn {r : Nat} {P : Program} {f : FuncId} {args : Array Value} {w : World} {n : Nat} {v : Value} (h : Calls P f args (w.drewN n) (RS v (w.drewN n))) :
    CallsIn Fence.wide r P f args (w.drewN n) fun e w'' => e = .returned v ∧ ∃ m, w'' = w.drewN m := callsIn_wide.2 (RS.quiet h)
theorem wide_asked {P : Program} {C : World → Prop} {o : Oper} {a : Act} : o.askedIn Fence.wide P a C := fun _ _ _ _ => trivial
theorem grown_drewN (w : World) (n : Nat) : w.grownBy (w.drewN n) none := ⟨rfl, rfl, rfl, Nat.le_refl _, fun _ _ _ => rfl⟩
theorem cell_drewN {w : World} {p : Addr} {u : Value} (h : w.cell? p = some u) (n : Nat) : (w.drewN n).cell? p = some u := h
theorem yes_no {e : Ending} {p q : Prop} (h : (e = .returned (.bool true) ∧ p) ∨ (e = .returned (.bool false) ∧ q)) : ∃ β, e = .returned (.bool β) ∧ (if β = true then p else q) := by
  rcases h with ⟨rfl, h⟩ | ⟨rfl, h⟩
  · exact ⟨true, rfl, by simpa using h⟩
  · exact ⟨false, rfl, by simpa using h⟩
set_option maxRecDepth 100000 in
set_option maxHeartbeats 2000000 in
theorem with1_in (n : Nat) (hn : 1 ≤ n) (l Bx Bp n₀ b off cap : Nat) (p : Int) (bs : List Blk) (hlen : bs.length ≤ 1100000) (hb : b < n₀) (J Jx : List (Nat × Blk) → World → Prop) (W : World)
    (hJ : AbidesFrom W.heap.size J)
    (hY : ∀ pre x W1, J pre W1 → pre.length < bs.length → YieldAt Fence.wide (n - 1) Try.prog l #[.int .i64 (x.1 : Int), bv x.2] W1 fun e W' =>
      (e = .returned (.bool true) ∧ J (pre ++ [x]) W' ∧ KpB n₀ Bp W1 W') ∨ (e = .returned (.bool false) ∧ Jx (pre ++ [x]) W'))
    (hx1 : W.cell? ⟨Bx, 1, none⟩ = some (.slice (some ⟨b, off, none⟩) bs.length cap)) (hp : W.cell? ⟨Bp, 0, none⟩ = some (.int .i64 p)) (hbl : Blks W b off bs) (_hbn : n₀ ≤ W.heap.size) (hBp : Bp < W.heap.size) (h0 : J [] W) :
    CallsIn Fence.wide n Try.prog 177 #[.func (.yield l) #[] #[], .pointer (some ⟨Bx, 0, none⟩), .pointer (some ⟨Bp, 0, none⟩)] W fun e W' => (∃ v, e = .returned v) ∧
      ((∃ ys, ys = upTo p bs bs.length ∧ J ys W') ∨ (∃ pre, (∃ k, k ≤ bs.length ∧ pre = upTo p bs k) ∧ Jx pre W')) := by
  have hro : Fence.wide.round = none := rfl
  have hmx : Try.prog.follows .mixedOrders = true := by kernel_rfl
  have HJ := Lib.hid hJ
  clear hJ
  refine callsIn_of_wp Try.func177 rfl trivial ?_ hro
  simp only [Try.ntmps177, List.size_toArray, List.length_cons, List.length_nil, Nat.reduceAdd, Nat.reduceSub, Array.replicate_succ, Array.replicate_zero, List.push_toArray, List.append_toArray, List.nil_append, List.cons_append]
  gi_wp2
  gi_loopw [9] (fun i wr => ∃ k : Nat, k ≤ bs.length ∧ i = .int .i64 k ∧ J (upTo p bs k) wr ∧ KpB n₀ Bp W wr ∧ W.heap.size ≤ wr.heap.size)
    (fun i _ => bs.length - (intOf i).toNat)
  case atStart => exact ⟨0, Nat.zero_le _, rfl, h0, KpB.refl _ _ _, Nat.le_refl _⟩
  case round =>
    obtain ⟨k, hk, rfl, hJs, hK, hsz⟩ := hrel
    have hcp := hK.2 _ hp
    have hbl1 : Bp < wr.heap.size := by omega
    have hcp2 : (wr.alloc (.cells #[.int .i64 (bs[k]?.getD default).a, .int .i64 (bs[k]?.getD default).b, .int .i64 (bs[k]?.getD default).c] 50)).cell? ⟨Bp, 0, none⟩ = some (.int .i64 p) := cell_past hcp hbl1
    have hcp3 := (below_drewN (Below.refl (Bp + 1) _) 1).cell (p := ⟨Bp, 0, none⟩) (by simp) |>.trans hcp2
    by_cases hlt : k < bs.length
    · obtain ⟨c1, c2, c3⟩ := (hbl.below hK.1 hb) k hlt
      obtain ⟨x, hx⟩ : ∃ x, x = bs[k]?.getD default := ⟨_, rfl⟩
      rw [← hx] at c1 c2 c3 hcp2 hcp3
      have hsucc := upTo_succ p bs k
      rw [← hx] at hsucc
      have hul := upTo_len p bs k
      have HX := Lib.hid hx
      have HS := Lib.hid hsucc
      clear hx hsucc
      have hcont : ∀ W', W'.cell? ⟨wr.heap.size, 0, none⟩ = some (.int .i64 x.a) → W'.cell? ⟨wr.heap.size, 1, none⟩ = some (.int .i64 x.b) → W'.cell? ⟨wr.heap.size, 2, none⟩ = some (.int .i64 x.c) → Calls Try.prog 107 #[.slice (some ⟨wr.heap.size, 0, none⟩) 3 3, .int .i64 p] W' (RS (.bool (hasB x p)) W') := fun W' g1 g2 g3 => by
        rw [← inL3]
        exact Contains_any wr.heap.size 0 3 [x.a, x.b, x.c] p W' (ints3 g1 g2 g3) (by simp)
      have HC := Lib.hid hcont
      clear hcont
      cases hB : hasB x p with
      | true =>
        rw [hB] at HC HS
        have hJ2 : J (upTo p bs k) (wr.alloc (.cells #[.int .i64 x.a, .int .i64 x.b, .int .i64 x.c] 50)).drew := HJ.out _ _ _ none (HJ.out _ _ _ none hJs (World.grownBy_alloc wr _ none) nofun) ⟨rfl, rfl, rfl, Nat.le_refl _, fun _ _ _ => rfl⟩ nofun
        obtain ⟨fn, tmps, assign, body, hy, hR⟩ := hY _ (k, x) _ hJ2 (by omega)
        dsimp only [bv] at hy
        gi_wp2
        gi_region_with_o (first | (refine ⟨trivial, ?_⟩; gi_at_call 107; refine (callsIn_wide.2 (HC.out _ (by simp) (by simp) (by simp))).mono ?_; rintro e w' ⟨rfl, rfl⟩) | (gi_at_call 107; refine (callsIn_wide.2 (HC.out _ (by simp) (by simp) (by simp))).mono ?_; rintro e w' ⟨rfl, rfl⟩) | (refine hR.mono ?_; intro e W3 hc; obtain ⟨β, rfl, hβ⟩ := yes_no hc; clear hc))
        cases β with
        | true =>
          rw [if_pos rfl] at hβ
          obtain ⟨hJ3, hK3⟩ := hβ
          have hsz3 := hK3.1.size
          simp at hsz3
          gi_wp2
          refine ⟨⟨k + 1, by omega, by simp, by rw [HS.out, if_pos trivial]; exact hJ3, hK.trans (KpB.trans ⟨((Below.refl _ _).alloc (by omega) _).trans (below_drewN (Below.refl _ _) 1), fun u hu => cell_drewN (cell_past hu hbl1) 1⟩ hK3), by omega⟩, by simp [intOf]; omega⟩
        | false =>
          rw [if_neg (by decide)] at hβ
          gi_wp2
          refine bodyPost_ret (results_none rfl _ _ _) rfl ?_
          exact ⟨⟨_, rfl⟩, .inr ⟨_, ⟨k + 1, by omega, by rw [HS.out, if_pos trivial]⟩, hβ⟩⟩
      | false =>
        rw [hB] at HC HS
        gi_wp2
        refine wpIn_region_quiet_lit rfl (by kernel_rfl) (by kernel_rfl) ?_
        repeat (refine wpQuietIn_step (by first | exact wide_asked | quiet_asked_in) (fun K hK => ?_); go_simp; first | (refine hK _ ?_; clear hK K) | (apply Exists.intro; refine ⟨fun _ => ?_, hK _ ?_⟩; (gi_at_call 107; exact RS.quietIn (HC.out _ (by simp [go_sem]) (by simp [go_sem]) (by simp [go_sem]))); clear hK K))
        refine wpQuietIn_nil ?_
        rintro _ ⟨nq, rfl⟩
        gi_wp2
        refine ⟨⟨k + 1, by omega, by simp, by rw [HS.out, if_neg (by decide), List.append_nil]; exact HJ.out _ _ _ none (HJ.out _ _ _ none hJs (World.grownBy_alloc wr _ none) nofun) (grown_drewN _ _) nofun, hK.trans ⟨((Below.refl _ _).alloc (by omega) _).trans (below_drewN (Below.refl _ _) _), fun u hu => (cell_drewN (cell_past hu hbl1) _)⟩, by simp; omega⟩, by simp [intOf]; omega⟩
    · obtain rfl : k = bs.length := by omega
      gi_wp2
      go_end0
      exact ⟨⟨_, rfl⟩, .inl ⟨_, rfl, hJs⟩⟩
set_option maxRecDepth 100000 in
theorem with1_nil_in (n : Nat) (l Bx Bp : Nat) (a0 : Option Addr) (c0 : Nat) (p : Int) (J : List (Nat × Blk) → World → Prop) (W : World) (hx1 : W.cell? ⟨Bx, 1, none⟩ = some (.slice a0 0 c0)) (_hp : W.cell? ⟨Bp, 0, none⟩ = some (.int .i64 p)) (h0 : J [] W) :
    CallsIn Fence.wide n Try.prog 177 #[.func (.yield l) #[] #[], .pointer (some ⟨Bx, 0, none⟩), .pointer (some ⟨Bp, 0, none⟩)] W fun e W' => (∃ v, e = .returned v) ∧ J [] W' := by
  have hro : Fence.wide.round = none := rfl
  refine callsIn_of_wp Try.func177 rfl trivial ?_ hro
  simp only [Try.ntmps177, List.size_toArray, List.length_cons, List.length_nil, Nat.reduceAdd, Nat.reduceSub, Array.replicate_succ, Array.replicate_zero, List.push_toArray, List.append_toArray, List.nil_append, List.cons_append]
  gi_wp2
  gi_loopw [9] (fun i wr => i = .int .i64 0 ∧ J [] wr) (fun _ _ => 0)
  case atStart => exact ⟨rfl, h0⟩
  case round =>
    obtain ⟨rfl, hJs⟩ := hrel
    gi_wp2
    go_end0
    exact ⟨⟨_, rfl⟩, hJs⟩
/-- The encoding of a round's two variables. -/
def encQ (x : Nat × Blk) : Array Value := #[.int .i64 (x.1 : Int), bv x.2]
theorem with_stops (n : Nat) (hn : 1 ≤ n) (Bx Bp : Nat) (p : Int) (s : Value) (bs : List Blk) (w0 w : World) (hS : SB w0 s bs) (hb0 : Below w0.heap.size w0 w) (hx : w.cell? ⟨Bx, 1, none⟩ = some s) (hBx : Bx < w.heap.size)
    (hp : w.cell? ⟨Bp, 0, none⟩ = some (.int .i64 p)) (hBp : Bp < w.heap.size) :
    SeqStopsK Fence.wide n Try.prog 177 #[.pointer (some ⟨Bx, 0, none⟩), .pointer (some ⟨Bp, 0, none⟩)] encQ (KpB w0.heap.size Bp) (fun ys => ys = upTo p bs bs.length)
      (fun pre => ∃ k, k ≤ bs.length ∧ pre = upTo p bs k) bs.length w := fun l J Jx W hW hJ _ hY h0 => by
  have hx' := (hW.cell (p := ⟨Bx, 1, none⟩) hBx).trans hx
  have hp' := (hW.cell (p := ⟨Bp, 0, none⟩) hBp).trans hp
  have hsz := hW.size
  have hsz0 := hb0.size
  obtain ⟨_, hlen, hr⟩ := hS
  rcases hr with ⟨a0, c0, rfl, rfl⟩ | ⟨b, off, cap, rfl, hb, hbl⟩
  · exact (with1_nil_in n l Bx Bp a0 c0 p J W hx' hp' h0).mono fun e W' ⟨he, hj⟩ => ⟨he, .inl ⟨_, rfl, hj⟩⟩
  · refine with1_in n hn l Bx Bp w0.heap.size b off cap p bs hlen hb J Jx W hJ hY hx' hp' (hbl.below (hb0.trans (hW.mono hsz0)) hb) (by omega) (by omega) h0
end Go.Proofs.Ytikegdidffjoeaa

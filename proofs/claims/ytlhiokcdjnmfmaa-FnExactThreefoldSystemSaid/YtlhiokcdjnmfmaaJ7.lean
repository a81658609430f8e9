
/- The contract of the sort, laid at the blocks. The program's systemFrom. The model's TakeBlock. impl.DoubleSystem answers as the plain function dblF. Threefold systems: the program's lists of blocks. Threefold systems: the tips and the slants. The contract of slices.Grow, laid at the blocks and at []int64. -/
import Derived.Test.YtlhiokcdjnmfmaaJ6
import Derived.Shelf.SlSortCmp.NoneTotal
import Derived.Ground.SlsfProg
import Derived.Test.YtlhiokcdjnmfmaaProg
import Derived.Deep.RegionHeld3
import Derived.IntWalk
import Derived.Deep.RegionWith
import Derived.StillTailTactics
import Derived.Deep.DeepCutAuto
import Derived.Shelf.Spec.SlicesGrow
import Derived.Ground.Names8Prog
namespace Go.Proofs
open Go.Shelf
def Try.sortB_ren : Go.Shelf.Ren := ⟨fun | 6 => 153 | 15 => 135 | 14 => 188 | 28 => 170 | 29 => 171 | 20 => 198 | 21 => 199 | 22 => 200 | 23 => 201 | 24 => 202 | 25 => 203 | 26 => 204 | 27 => 205 | 46 => 208 | 47 => 190 | 48 => 191 | 49 => 209 | 50 => 210 | 57 => 211 | n => n, fun | 22 => 29 | 24 => 77 | 25 => 111 | 3 => 3 | 39 => 127 | 0 => 0 | 53 => 165 | 55 => 113 | 4 => 4 | 46 => 158 | 45 => 157 | 50 => 162 | 5 => 5 | 9 => 9 | 66 => 178 | 70 => 182 | 76 => 191 | 77 => 192 | n => n, fun | n => n⟩
theorem Try.sortB : Go.Proofs.SlLaysF0.n6 Try.prog Try.sortB_ren := {
  mixed := by kernel_rfl
  f6 := ⟨Try.f153.name, by decide, Try.func153.trans (congrArg some (by kernel_rfl))⟩
  f14 := ⟨Try.f188.name, by decide, Try.func188.trans (congrArg some (by kernel_rfl))⟩
  f15 := Try.func135.trans (congrArg some (by kernel_rfl))
  f20 := ⟨Try.f198.name, by decide, Try.func198.trans (congrArg some (by kernel_rfl))⟩
  f21 := ⟨Try.f199.name, by decide, Try.func199.trans (congrArg some (by kernel_rfl))⟩
  f22 := ⟨Try.f200.name, by decide, Try.func200.trans (congrArg some (by kernel_rfl))⟩
  f23 := ⟨Try.f201.name, by decide, Try.func201.trans (congrArg some (by kernel_rfl))⟩
  f24 := ⟨Try.f202.name, by decide, Try.func202.trans (congrArg some (by kernel_rfl))⟩
  f25 := ⟨Try.f203.name, by decide, Try.func203.trans (congrArg some (by kernel_rfl))⟩
  f26 := ⟨Try.f204.name, by decide, Try.func204.trans (congrArg some (by kernel_rfl))⟩
  f27 := ⟨Try.f205.name, by decide, Try.func205.trans (congrArg some (by kernel_rfl))⟩
  f28 := Try.func170.trans (congrArg some (by kernel_rfl))
  f29 := Try.func171.trans (congrArg some (by kernel_rfl))
  f46 := ⟨Try.f208.name, by decide, Try.func208.trans (congrArg some (by kernel_rfl))⟩
  f47 := Try.func190.trans (congrArg some (by kernel_rfl))
  f48 := Try.func191.trans (congrArg some (by kernel_rfl))
  f49 := ⟨Try.f209.name, by decide, Try.func209.trans (congrArg some (by kernel_rfl))⟩
  f50 := ⟨Try.f210.name, by decide, Try.func210.trans (congrArg some (by kernel_rfl))⟩
  f57 := ⟨Try.f211.name, by decide, Try.func211.trans (congrArg some (by kernel_rfl))⟩
  t0 := Try.underlying0
  a0 := Try.isAgg0
  z0 := Try.sizeOf0
  v0 := Try.zeroValue0
  t3 := Try.underlying3
  a3 := Try.isAgg3
  z3 := Try.sizeOf3
  v3 := Try.zeroValue3
  t4 := Try.underlying4
  a4 := Try.isAgg4
  z4 := Try.sizeOf4
  v4 := Try.zeroValue4
  t5 := Try.underlying5
  a5 := Try.isAgg5
  z5 := Try.sizeOf5
  v5 := Try.zeroValue5
  t9 := Try.underlying9
  a9 := Try.isAgg9
  z9 := Try.sizeOf9
  v9 := Try.zeroValue9
  t22 := Try.underlying29
  a22 := Try.isAgg29
  z22 := Try.sizeOf29
  v22 := Try.zeroValue29
  t25 := Try.underlying111
  a25 := Try.isAgg111
  z25 := Try.sizeOf111
  v25 := Try.zeroValue111
  t39 := Try.underlying127
  a39 := Try.isAgg127
  z39 := Try.sizeOf127
  v39 := Try.zeroValue127
  t45 := Try.underlying157
  a45 := Try.isAgg157
  z45 := Try.sizeOf157
  v45 := Try.zeroValue157
  t46 := Try.underlying158
  a46 := Try.isAgg158
  z46 := Try.sizeOf158
  v46 := Try.zeroValue158
  t50 := Try.underlying162
  a50 := Try.isAgg162
  z50 := Try.sizeOf162
  v50 := Try.zeroValue162
  t53 := Try.underlying165
  a53 := Try.isAgg165
  z53 := Try.sizeOf165
  v53 := Try.zeroValue165
  t55 := Try.underlying113
  a55 := Try.isAgg113
  z55 := Try.sizeOf113
  v55 := Try.zeroValue113
  t66 := Try.underlying178
  a66 := Try.isAgg178
  z66 := Try.sizeOf178
  v66 := Try.zeroValue178
  t70 := Try.underlying182
  a70 := Try.isAgg182
  z70 := Try.sizeOf182
  v70 := Try.zeroValue182
  t76 := Try.underlying191
  a76 := Try.isAgg191
  z76 := Try.sizeOf191
  v76 := Try.zeroValue191
  t77 := Try.underlying192
  a77 := Try.isAgg192
  z77 := Try.sizeOf192
  v77 := Try.zeroValue192 }
end Go.Proofs

namespace Go.Proofs.Ytlhiokcdjnmfmaa
open Go.RowKit Go.Maps Go.Sort Go.Shelf
theorem aggB (w : World) : (isAgg 77).run Try.prog w = .ok true w := by kernel_rfl
theorem szB (w : World) : (Go.sizeOf 77).run Try.prog w = .ok 3 w := by kernel_rfl
theorem one3 : ∀ x : Blk, ∀ v ∈ cells3 x, v.oneCell' = true := fun x v hv => by
  simp [cells3] at hv
  rcases hv with rfl | rfl | rfl <;> rfl
theorem cmpLays (blk off size : Nat) (w : World) : CmpLays Try.prog 113 #[] cells3 3 cmpB blk off size w := fun _ _ _ _ x y => compareBlocks_lays x y _
theorem sortFunc_any (base : Nat) (s : Value) (bs : List Blk) (w : World) (h : OwnR w base s bs) (hl : bs.length ≤ 1100000) :
    Calls Try.prog 153 #[s, .func (.func 113) #[] #[]] w fun e w' => e = .returned (.tuple #[]) ∧ OwnR w' base s (sortB bs) ∧ w.grownBy w' s.ownBlock := by
  obtain ⟨a, c, rfl⟩ : ∃ a c, s = .slice a bs.length c := by
    rcases h.res with ⟨rfl, a, c, rfl⟩ | ⟨g, cap, rfl, _⟩ <;> exact ⟨_, _, rfl⟩
  rcases h.2 with ⟨hv, h0⟩ | ⟨g, cap, cur, hv, hb, hcur, hrest⟩
  · have e0 : bs = [] := List.length_eq_zero_iff.1 h0
    subst e0
    cases hv
    have hS := AnyF.slices_SortFunc_none (P := Try.prog) (ρ := Try.sortB_ren) { Try.sortB with } none 0 (.func (.func 113) #[] #[]) w
    refine Calls.mono hS ?_
    rintro e w' ⟨rfl, rfl⟩
    exact ⟨rfl, h, only_refl _ _⟩
  · cases hv
    have hat := h.at_.2.2
    have eg : ∀ args w, (callFunc 113 args).run Try.prog w = .ok (.enter 113 args) w := enters_of Try.func113 (by kernel_rfl) rfl
    have hS := AnyQ.slices_SortFunc_total Try.sortB 3 aggB szB cells3 (fun _ => rfl) one3 cmpB swoB 113 #[] g 0 c bs.toArray w eg (cmpLays _ _ _ _) hat.holds hat.lt (by simp; omega) totB
    rw [List.size_toArray] at hS
    refine Calls.mono hS ?_
    rintro e w' ⟨rfl, n, os, rfl⟩
    have hm := mergeB bs
    have ho := h.sorted (cs := sortB bs) (sortB_length bs) n os
    rw [← hm] at ho
    rw [← hm]
    exact ⟨rfl, ho⟩
theorem OwnR.formS {w : World} {base : Nat} {s : Value} {bs : List Blk} (h : OwnR w base s bs) : ∃ a c, s = .slice a bs.length c := by
  rcases h.res with ⟨rfl, a, c, rfl⟩ | ⟨g, cap, rfl, _⟩ <;> exact ⟨_, _, rfl⟩
theorem gb_setnew {a w : World} {row : Option Nat} (h : a.grownBy w row) {p : Addr} (hp : a.heap.size ≤ p.block) (u : Value) : a.grownBy (w.setCell p u) row :=
  ⟨h.os, h.tape, h.output, by simpa [World.setCell] using h.size, fun i hi hne => (Below.heap_setCell w p u i (by omega)).trans (h.block i hi hne)⟩
set_option maxRecDepth 100000 in
theorem systemFrom_any (v : Int) (base : Nat) (s : Value) (bs : List Blk) (w : World) (h : OwnR w base s bs) (hl : bs.length ≤ 1100000) (hb : base ≤ w.heap.size) :
    Calls Try.prog 122 #[.int .i64 v, s] w fun e w' => e = .returned (.agg #[.int .i64 v, s]) ∧ OwnR w' base s (sortB bs) ∧ w.grownBy w' s.ownBlock := by
  have hS := sortFunc_any base s bs (w.alloc (.cells #[.int .i64 0, .slice none 0 0] 31)) (h.below ((Below.refl _ _).alloc (Nat.le_refl _) _) (Nat.le_refl _)) hl
  have hrow := h.row
  have hlt : ∀ r, s.ownBlock = some r → r < w.heap.size := fun r e => by
    rcases h.2 with ⟨hv, h0⟩ | ⟨g, cap, cur, hv, hb, hcur, hrest⟩
    · rw [hv] at e; simp [Value.ownBlock] at e
    · rw [hv] at e
      obtain rfl : g = r := by simpa [Value.ownBlock] using e
      exact (Array.getElem?_eq_some_iff.1 hcur).1
  have HLT := Lib.hid hlt
  have HS := Lib.hid hS
  obtain ⟨a, c, hs⟩ := h.formS
  clear hS h hrow hlt
  subst hs
  go_enter Try.func122, Try.ntmps122
  go_wp2_with fail
  refine HS.out.mono ?_
  rintro e w1 ⟨rfl, ho, hg⟩
  have hz := hg.size
  simp at hz
  have d0 : w1.cell? ⟨w.heap.size, 0, none⟩ = some (.int .i64 0) := hg.cell (by simp [go_sem]) (fun e => by have := HLT.out _ e.symm; simp at this)
  have d1 : w1.cell? ⟨w.heap.size, 1, none⟩ = some (.slice none 0 0) := hg.cell (by simp [go_sem]) (fun e => by have := HLT.out _ e.symm; simp at this)
  have hblk := hg.block w.heap.size (by simp) (fun e => by have := HLT.out _ e.symm; omega)
  have f0 : w1.frozen? ⟨w.heap.size, 0, none⟩ = false := (World.frozen?_of_block (a := ⟨w.heap.size, 0, none⟩) hblk).trans (by simp [go_sem])
  have f1 : w1.frozen? ⟨w.heap.size, 1, none⟩ = false := (World.frozen?_of_block (a := ⟨w.heap.size, 1, none⟩) hblk).trans (by simp [go_sem])
  have HO := Lib.hid (And.intro ho hg)
  clear ho hg hblk
  go_wp2
  refine bodyPost_ret (v := .agg #[.int .i64 v, .slice a bs.length c]) (by simp [results, Try.results122, go_sem, *]) rfl ⟨rfl, ?_, ?_⟩
  · exact World.ownsRow.kept HO.out.1 (gb_set2 w1 w.heap.size (.int .i64 v) (.slice a bs.length c)) (.inr fun e => by have := HLT.out w.heap.size (by first | exact e | exact e.symm); omega)
  · exact gb_setnew (p := ⟨w.heap.size, 1, none⟩) (gb_setnew (p := ⟨w.heap.size, 0, none⟩) (gb_trans (World.grownBy_alloc w _ none) HO.out.2) (Nat.le_refl _) _) (Nat.le_refl _) _
end Go.Proofs.Ytlhiokcdjnmfmaa

namespace Go.Proofs.Ytlhiokcdjnmfmaa
open Go.RowKit Go.Maps
theorem Blks.take {w : World} {b off : Nat} {bs : List Blk} (h : Blks w b off bs) (j : Nat) : Blks w b off (bs.take j) := fun k hk => by
  rw [List.length_take] at hk
  have := h k (by omega)
  rwa [List.getElem?_take_of_lt (by omega)]
theorem Blks.drop {w : World} {b off : Nat} {bs : List Blk} (h : Blks w b off bs) (j : Nat) : Blks w b (off + j * 3) (bs.drop j) := fun k hk => by
  rw [List.length_drop] at hk
  have := h (j + k) (by omega)
  rw [List.getElem?_drop, show off + j * 3 + k * 3 = off + (j + k) * 3 by omega]
  exact this
theorem lit_own (W : World) : OwnR (W.alloc (.cells #[] 77)) W.heap.size (.slice (some ⟨W.heap.size, 0, none⟩) 0 0) [] :=
  ⟨rfl, .inr ⟨W.heap.size, 0, #[], rfl, Nat.le_refl _, (MapKept.heap_alloc W (.cells #[] 77)).1, Nat.le_refl _, by unfold maxLen; omega, rfl, rfl⟩⟩
theorem OwnR.drew {w : World} {base : Nat} {v : Value} {bs : List Blk} (h : OwnR w base v bs) : OwnR w.drew base v bs := h
theorem SX.drew {w : World} {v : Value} {bs : List Blk} (h : SX w v bs) : SX w.drew v bs := h
theorem Blks.drew {w : World} {b off : Nat} {bs : List Blk} (h : Blks w b off bs) : Blks w.drew b off bs := h
theorem Blks.kept {w w' : World} {b off : Nat} {bs : List Blk} {row : Option Nat} (h : Blks w b off bs) (hg : w.grownBy w' row) (hne : some b ≠ row) : Blks w' b off bs := fun k hk => by
  obtain ⟨h1, h2, h3⟩ := h k hk
  exact ⟨hg.cell h1 hne, hg.cell h2 hne, hg.cell h3 hne⟩
theorem keep_cell {w w' : World} {row : Option Nat} {b o : Nat} {u : Value} (h : w.cell? ⟨b, o, none⟩ = some u) (hg : w.grownBy w' row) (hne : ∀ r, row = some r → b < r) : w'.cell? ⟨b, o, none⟩ = some u :=
  hg.cell h (fun e => by have := hne _ e.symm; simp at this)
theorem keep_frozen {w w' : World} {row : Option Nat} {b o : Nat} {u : Value} (hc : w.cell? ⟨b, o, none⟩ = some u) (h : w.frozen? ⟨b, o, none⟩ = false) (hg : w.grownBy w' row) (hne : ∀ r, row = some r → b < r) : w'.frozen? ⟨b, o, none⟩ = false :=
  (World.frozen?_of_block (w := w) (a := ⟨b, o, none⟩) (hg.block b (block_lt_of_cell hc) (fun e => by have := hne _ e.symm; omega))).trans h
theorem keep_some {w w' : World} {row : Option Nat} {b o : Nat} (h : (w.cell? ⟨b, o, none⟩).isSome = true) (hg : w.grownBy w' row) (hne : ∀ r, row = some r → b < r) : (w'.cell? ⟨b, o, none⟩).isSome = true := by
  obtain ⟨u, hu⟩ := Option.isSome_iff_exists.1 h
  rw [keep_cell hu hg hne]
  rfl
theorem keep_free {w w' : World} {row : Option Nat} {b o : Nat} (h : (w.cell? ⟨b, o, none⟩).isSome = true) (hf : w.frozen? ⟨b, o, none⟩ = false) (hg : w.grownBy w' row) (hne : ∀ r, row = some r → b < r) : w'.frozen? ⟨b, o, none⟩ = false := by
  obtain ⟨u, hu⟩ := Option.isSome_iff_exists.1 h
  exact keep_frozen hu hf hg hne
def Six (w' : World) (b : Nat) (v : Int) (s : Value) : Prop := w'.cell? ⟨b, 0, none⟩ = some (.int .i64 v) ∧ w'.cell? ⟨b, 1, none⟩ = some s ∧ w'.cell? ⟨b + 1, 0, none⟩ = some (.int .i64 0) ∧ w'.cell? ⟨b + 1, 1, none⟩ = some (.slice none 0 0) ∧ w'.frozen? ⟨b + 1, 0, none⟩ = false ∧ w'.frozen? ⟨b + 1, 1, none⟩ = false
theorem keep6 {w w' : World} {b : Nat} {v : Int} {s : Value} {row : Option Nat} (h : Six w b v s) (hg : w.grownBy w' row) (hr : ∀ r, row = some r → b + 1 < r) : Six w' b v s := by
  obtain ⟨h0, h1, h2, h3, h4, h5⟩ := h
  exact ⟨keep_cell h0 hg (fun r e => by have := hr r e; omega), keep_cell h1 hg (fun r e => by have := hr r e; omega), keep_cell h2 hg hr, keep_cell h3 hg hr, keep_frozen h2 h4 hg hr, keep_frozen h3 h5 hg hr⟩
theorem gb_drewL {w w' : World} {row : Option Nat} (h : w.drew.grownBy w' row) : w.grownBy w' row := ⟨h.os, h.tape, h.output, h.size, h.block⟩
theorem run_slice_drop (b off n cap j : Nat) (h1 : j ≤ n) (h2 : n ≤ cap) : ∃ x, (∀ W : World, (Instr.slice 29 (.slice (some ⟨b, off, none⟩) n cap) (some (.int .i64 (j : Int))) none none).run Try.prog W = .ok x W) ∧ ∀ (W : World) (bs : List Blk), bs.length = n → b < W.heap.size → Blks W b off bs → SX W x (bs.drop j) := by
  have hj0 : (0 : Int) ≤ (j : Int) := by omega
  have hj1 : (j : Int) ≤ (n : Int) := by omega
  by_cases hc : j = cap
  · refine ⟨.slice (some ⟨b, off, none⟩) 0 0, fun W => ?_, fun W bs e _ _ => .inl ⟨_, _, rfl, List.drop_eq_nil_of_le (by omega)⟩⟩
    have e1 : n = j := by omega
    subst e1
    subst hc
    simp [Instr.slice, Instr.sliceBounds, Instr.sliceBound, run_underlying Try.underlying29, go_sem, hj0]
  · refine ⟨.slice (some ⟨b, off + j * 3, none⟩) (n - j) (cap - j), fun W => ?_, fun W bs e h1 h2 => .inr ⟨b, off + j * 3, cap - j, by rw [List.length_drop, e], h1, h2.drop j⟩⟩
    have hc' : ¬ cap = j := fun e => hc e.symm
    simp [Instr.slice, Instr.sliceBounds, Instr.sliceBound, run_underlying Try.underlying29, go_sem, hj0, h1, hc', addr_at]
/-- .. and the slice is no longer than its capacity. -/
def SC (w : World) (s : Value) (bs : List Blk) : Prop := SB w s bs ∧ ∀ a n c, s = .slice a n c → n ≤ c
theorem SC.below {w w' : World} {s : Value} {bs : List Blk} (h : SC w s bs) {B : Nat} (hb : Below B w w') (hB : w.heap.size ≤ B) : SC w' s bs := ⟨h.1.below hb hB, h.2⟩
theorem OwnB.sc {w : World} {lo : Nat} {s : Value} {bs : List Blk} (h : OwnB w lo s bs) (hwf : ∀ x ∈ bs, WFB x) (hl : bs.length ≤ 1100000) : SC w s bs := by
  refine ⟨h.sb hwf hl, fun a n c e => ?_⟩
  obtain ⟨g, cap, rfl, _, _, _, _, hc⟩ := h
  cases e
  exact hc
theorem l01In_out (n lo hi : Int) (W : World) (β : Bool) (hβ : (decide (lo ≤ n) && decide (n ≤ hi)) = β) : Calls Try.prog 106 #[.int .i64 n, .int .i64 lo, .int .i64 hi] W (RS (.bool β) W) := by
  rw [← hβ]
  exact l01In_any n lo hi W
end Go.Proofs.Ytlhiokcdjnmfmaa

namespace Go.Proofs.Ytlhiokcdjnmfmaa
open Go.RowKit Go.Maps
def dblF (v : Int) (bs : List Blk) : Int × List Blk × Int :=
  if isSysImpl v bs then (if fullB v bs then (if 2 * v + 1 ≤ 15 then (2 * v + 1, sortB (dblL v bs), 0) else (0, [], 3)) else (0, [], 5)) else (0, [], 1)
def fullC (v : Int) (bs : List Blk) : Int := if isSysImpl v bs then (if fullB v bs then 0 else 5) else 1
theorem fullV_cases (v : Int) (bs : List Blk) : (fullV v bs = boolCode true 0 ∧ fullC v bs = 0) ∨ (fullV v bs = boolCode false 0 ∧ fullC v bs = 5) ∨ (fullV v bs = boolCode false 1 ∧ fullC v bs = 1) := by
  unfold fullV fullC
  cases isSysImpl v bs
  · right; right; simp
  · cases fullB v bs
    · right; left; simp
    · left; simp
set_option maxRecDepth 100000 in
theorem fullCode_one (B : Nat) (v : Int) (s : Value) (bs : List Blk) (w : World) (h : SB w s bs) (c0 : w.cell? ⟨B, 0, none⟩ = some (.int .i64 v)) (c1 : w.cell? ⟨B, 1, none⟩ = some s) :
    Calls Try.prog 152 #[.slice (some ⟨B, 0, none⟩) 1 1] w (RV (.int .i64 (fullC v bs)) w) := by
  have hs := h.slice
  have HI := Lib.hid (IsFull_any v s bs (w.alloc (.cells #[.int .i64 v, s] 31)) (h.below ((Below.refl _ _).alloc (Nat.le_refl _) _) (Nat.le_refl _)))
  clear h
  obtain ⟨a, c, rfl⟩ := hs
  rcases fullV_cases v bs with ⟨e1, e2⟩ | ⟨e1, e2⟩ | ⟨e1, e2⟩
  all_goals
    rw [e1] at HI
    rw [e2]
    unfold boolCode at HI
    clear e1 e2
    go_enter Try.func152, Try.ntmps152
    go_wp2
    refine wp_loop_rounds 2 ?_
    rw [rounds_succ]
    go_wp2_with (go_at_call 187; refine HI.out.mono ?_; rintro e w1 ⟨rfl, hb1⟩)
  · rw [rounds_succ]
    go_wp2
    go_ret
    exact RV_of rfl (((Below.refl _ _).alloc (Nat.le_refl _) _).trans (hb1.mono (by simp)))
  · rw [rounds_succ]
    go_wp2
    go_ret
    exact RV_of rfl (((Below.refl _ _).alloc (Nat.le_refl _) _).trans (hb1.mono (by simp)))
  · go_ret
    exact RV_of rfl (((Below.refl _ _).alloc (Nat.le_refl _) _).trans (hb1.mono (by simp)))
/-- Returns a slice of its own with these blocks. -/
def RO (bs : List Blk) (w : World) (e : Ending) (w' : World) : Prop := ∃ u, e = .returned u ∧ OwnR w' w.heap.size u bs ∧ Below w.heap.size w w'
theorem sx_three (W : World) (x y z : Blk) (T : TypeId) : SX (W.alloc (.cells #[.int .i64 x.a, .int .i64 x.b, .int .i64 x.c, .int .i64 y.a, .int .i64 y.b, .int .i64 y.c, .int .i64 z.a, .int .i64 z.b, .int .i64 z.c] T)) (.slice (some ⟨W.heap.size, 0, none⟩) 3 3) [x, y, z] :=
  .inr ⟨W.heap.size, 0, 3, rfl, by simp, fun k hk => by
    match k, hk with
    | 0, _ => simp
    | 1, _ => simp
    | 2, _ => simp⟩
theorem dbl_bounds {v : Int} {x : Blk} (hg : goodB v x = true) (h15 : v ≤ 15) : 0 ≤ x.a ∧ x.a < x.b ∧ x.b < x.c ∧ x.c < v ∧ v ≤ 15 := by
  have := goodB_iff.1 hg
  omega
end Go.Proofs.Ytlhiokcdjnmfmaa

namespace Go.Proofs.Ytlhiokcdjnmfmaa
open Go.RowKit Go.Maps
theorem onLevel_any (n i : Nat) (z : Int) (hn : n ≤ 5) (hi : i ≤ 3) (h0 : 0 ≤ z) (h1 : z ≤ 100) (w : World) : Calls Try.prog 159 #[.int .i64 (n : Int), .int .i64 (i : Int), .int .i64 z] w (RS (.int .i64 (lv n i z)) w) := by
  obtain ⟨r, hr⟩ : ∃ r : Nat, r = i % 3 := ⟨_, rfl⟩
  have htm : (i : Int).tmod 3 = (r : Int) := by rw [Int.tmod_eq_emod_of_nonneg (by omega), hr]; omega
  have hr3 : r < 3 := by omega
  obtain ⟨p, hp⟩ : ∃ p : Int, p = (n : Int) * (r : Int) := ⟨_, rfl⟩
  have hL : lv n i z = p + z := by rw [hp, hr]; simp [lv]
  have hp0 : 0 ≤ p := by rw [hp]; exact Int.mul_nonneg (by omega) (by omega)
  have hp1 : p ≤ 10 := by
    have : n * r ≤ 5 * 2 := Nat.mul_le_mul hn (by omega)
    have e : p = ((n * r : Nat) : Int) := by rw [hp]; simp
    omega
  have hp' := hp.symm
  rw [hL]
  clear hL hr hp
  go_enter Try.func159, Try.ntmps159
  go_wp2
  go_ret
  exact RS_of (by first | rfl | (simp; done) | (congr 1; omega))
theorem lv_bound {n i : Nat} {z : Int} (hn : n ≤ 5) (h0 : 0 ≤ z) (h1 : z ≤ 100) : 0 ≤ lv n i z ∧ lv n i z ≤ 110 := by
  unfold lv
  have : n * (i % 3) ≤ 5 * 2 := Nat.mul_le_mul hn (by omega)
  omega
def upI (n x k : Nat) : List Int := (List.range k).map fun i => lv n i x
theorem upI_succ (n x k : Nat) : upI n x (k + 1) = upI n x k ++ [lv n k x] := by simp [upI, List.range_succ]
set_option maxRecDepth 100000 in
set_option maxHeartbeats 2000000 in
theorem uprightBlocks_any (n K : Nat) (hn : n ≤ 5) (hK : K ≤ 5) (w : World) :
    Calls Try.prog 124 #[.int .i64 (n : Int), .int .i64 (K : Int)] w (RO (upL n K) w) := by
  have HON := Lib.hid fun i z h1 h2 h3 W => onLevel_any n i z hn h1 h2 h3 W
  go_enter Try.func124, Try.ntmps124
  obtain ⟨W0, rfl⟩ : ∃ W0, W0 = w := ⟨_, rfl⟩
  go_wp2_with fail
  go_loopw [5, 10] (fun o i wr => ∃ x : Nat, x ≤ K ∧ i = .int .i64 x ∧ Below W0.heap.size W0 wr ∧ OwnR wr W0.heap.size o (upL n x) ∧ ∃ a n c, o = .slice a n c) (fun _ i _ => K - (intOf i).toNat)
  case atStart => exact ⟨0, Nat.zero_le _, rfl, Below.refl _ _, OwnR.nil _ _, _, _, _, rfl⟩
  case round =>
    obtain ⟨x, hx, rfl, hB, hO, a3, n3, c3, rfl⟩ := hrel
    have HB := Lib.hid hB
    have HO := Lib.hid hO
    have hz := hB.size
    clear hB hO
    by_cases hxl : x < K
    · obtain ⟨W1, rfl⟩ : ∃ W1, W1 = wr := ⟨_, rfl⟩
      go_wp2_with fail
      go_loopw [7, 13] (fun o i wr => ∃ j : Nat, j ≤ 3 ∧ i = .int .i64 j ∧ Below W1.heap.size W1 wr ∧ OwnJ wr W1.heap.size o (upI n x j) ∧ ∃ a n c, o = .slice a n c) (fun _ i _ => 3 - (intOf i).toNat)
      case atStart => exact ⟨0, Nat.zero_le _, rfl, Below.refl _ _, OwnJ.nil _ _, _, _, _, rfl⟩
      case round =>
        obtain ⟨j, hj, rfl, hB, hO, a4, n4, c4, rfl⟩ := hrel
        have HB1 := Lib.hid hB
        have HO1 := Lib.hid hO
        have hz1 := hB.size
        clear hB hO
        by_cases hjl : j < 3
        · have hS := upI_succ n x j
          have hl : (upI n x j).length ≤ 3 := by simp [upI]; omega
          have hC := HON.out j (x : Int) (by omega) (by omega) (by omega)
          obtain ⟨z, hz'⟩ : ∃ z, z = lv n j x := ⟨_, rfl⟩
          rw [← hz'] at hS hC
          have HS := Lib.hid hS
          have HC := Lib.hid hC
          clear hS hC hz'
          go_wp2_with fail
          refine (HC.out _).mono ?_
          rintro e w2 ⟨rfl, rfl⟩
          go_wp2_with (at_builtin; refine wpList_append_int rfl _ _ rfl W1.heap.size _ (upI n x j) rfl (HO1.out.below ((Below.refl _ _).alloc (Nat.le_refl _) _) (Nat.le_refl _)) _ _ z rfl (by simp [go_sem]) (by omega) (by simp; omega) ?_; intro g' cap' w4 hO4 hg4)
          have hrow := HO1.out.row
          have hgo : wr.grownBy w4 (Value.slice a4 n4 c4).ownBlock := ⟨hg4.os, hg4.tape, hg4.output, by have := hg4.size; simp at this; omega, fun i hi hne => by
            rw [hg4.block i (by simp; omega) hne, Below.heap_alloc _ _ _ hi]⟩
          clear hg4
          go_roundw
          case rel => exact ⟨j + 1, by omega, by go_num, HB1.out.grown hgo hz1 (fun j e => hrow j e), by rw [HS.out]; exact hO4, _, _, _, rfl⟩
          case measure => simp [intOf]; omega
        · have e : j = 3 := by omega
          subst e
          have h3 : upI n x 3 = [lv n 0 x, lv n 1 x, lv n 2 x] := rfl
          have hI := HO1.out.ib (by rw [h3]; simp)
          rw [h3] at hI
          rcases hI.2 with ⟨_, _, _, hnil⟩ | ⟨g4, o4, c5, e5, hg4, hI4⟩
          · cases hnil
          have e6 : (Value.slice a4 n4 c4) = .slice (some ⟨g4, o4, none⟩) 3 c5 := e5
          simp at e6
          obtain ⟨rfl, rfl, rfl⟩ := e6
          have hS := upL_succ n x
          obtain ⟨ya, hya⟩ : ∃ z, z = lv n 0 x := ⟨_, rfl⟩
          obtain ⟨yb, hyb⟩ : ∃ z, z = lv n 1 x := ⟨_, rfl⟩
          obtain ⟨yc, hyc⟩ : ∃ z, z = lv n 2 x := ⟨_, rfl⟩
          have hU : upB n x = ⟨ya, yb, yc⟩ := by rw [hya, hyb, hyc]; rfl
          rw [← hya, ← hyb, ← hyc] at hI4
          rw [hU] at hS
          have y0 : wr.cell? ⟨g4, o4, none⟩ = some (.int .i64 ya) := by simpa using hI4 0 (by simp)
          have y1 : wr.cell? ⟨g4, o4 + 1, none⟩ = some (.int .i64 yb) := by simpa using hI4 1 (by simp)
          have y2 : wr.cell? ⟨g4, o4 + 2, none⟩ = some (.int .i64 yc) := by simpa using hI4 2 (by simp)
          have s2a : ∀ W, (Instr.arrayAt 77 (.slice (some ⟨g4, o4, none⟩) 3 c4)).run Try.prog W = .ok (.pointer (some ⟨g4, o4, none⟩)) W := fun _ => by kernel_rfl
          have HS := Lib.hid hS
          have HO2 := Lib.hid (HO.out.below HB1.out (Nat.le_refl _))
          have hlen : (upL n x).length ≤ 5 := by rw [upL_len]; omega
          clear hS hI hI4 hya hyb hyc hU h3
          go_wp2_with (at_builtin; refine wpList_append_blk rfl _ _ rfl W0.heap.size _ (upL n x) rfl (HO2.out.below ((Below.refl _ _).alloc (Nat.le_refl _) _) (Nat.le_refl _)) _ _ ⟨ya, yb, yc⟩ rfl (by simp [go_sem]) (by simp [go_sem]) (by simp [go_sem]) (by omega) (by simp; omega) ?_; intro g' cap' w4 hO4 hg4)
          have hrow := HO2.out.row
          have hgo : wr.grownBy w4 (Value.slice a3 n3 c3).ownBlock := ⟨hg4.os, hg4.tape, hg4.output, by have := hg4.size; simp at this; omega, fun i hi hne => by
            rw [hg4.block i (by simp; omega) hne, Below.heap_alloc _ _ _ hi]⟩
          clear hg4
          go_roundw
          case rel => exact ⟨x + 1, by omega, by go_num, (HB.out.trans (HB1.out.mono hz)).grown hgo (by omega) (fun j e => hrow j e), by rw [HS.out]; exact hO4, _, _, _, rfl⟩
          case measure => simp [intOf]; omega
    · have e : x = K := by omega
      subst e
      go_wp2
      go_ret
      exact ⟨_, rfl, HO.out, HB.out⟩
end Go.Proofs.Ytlhiokcdjnmfmaa

namespace Go.Proofs.Ytlhiokcdjnmfmaa
open Go.RowKit Go.Maps
set_option maxRecDepth 100000 in
set_option maxHeartbeats 2000000 in
theorem tipBlocks_any (n m : Nat) (hn : n ≤ 5) (hm : m = n / 2) (w : World) :
    Calls Try.prog 127 #[.int .i64 (n : Int)] w (RO (tipL n m) w) := by
  have HON := Lib.hid fun i z h1 h2 h3 W => onLevel_any n i z hn h1 h2 h3 W
  have htd : (n : Int).tdiv 2 = (m : Int) := by rw [Int.tdiv_eq_ediv_of_nonneg (by omega), hm]; omega
  have hm2 : m ≤ 2 := by omega
  have HM := Lib.hid hm
  clear hm
  go_enter Try.func127, Try.ntmps127
  obtain ⟨W0, rfl⟩ : ∃ W0, W0 = w := ⟨_, rfl⟩
  go_wp2_with fail
  go_loopw [3, 9] (fun o i wr => ∃ x : Nat, x ≤ m ∧ i = .int .i64 x ∧ Below W0.heap.size W0 wr ∧ OwnR wr W0.heap.size o (tipL n x) ∧ ∃ a n c, o = .slice a n c) (fun _ i _ => m - (intOf i).toNat)
  case atStart => exact ⟨0, Nat.zero_le _, rfl, Below.refl _ _, OwnR.nil _ _, _, _, _, rfl⟩
  case round =>
    obtain ⟨x, hx, rfl, hB, hO, a3, n3, c3, rfl⟩ := hrel
    have HB := Lib.hid hB
    have HO := Lib.hid hO
    have hz := hB.size
    clear hB hO
    by_cases hxl : x < m
    · obtain ⟨W1, rfl⟩ : ∃ W1, W1 = wr := ⟨_, rfl⟩
      go_wp2_with fail
      go_loopw [3, 12] (fun o i wr => ∃ j : Nat, j ≤ 3 ∧ i = .int .i64 j ∧ Below W0.heap.size W0 wr ∧ OwnR wr W0.heap.size o (tipL n x ++ tipR n x j) ∧ ∃ a n c, o = .slice a n c) (fun _ i _ => 3 - (intOf i).toNat)
      case atStart => exact ⟨0, Nat.zero_le _, rfl, HB.out, by simpa [tipR] using HO.out, _, _, _, rfl⟩
      case round =>
        obtain ⟨j, hj, rfl, hB, hO, a4, n4, c4, rfl⟩ := hrel
        have HB1 := Lib.hid hB
        have HO1 := Lib.hid hO
        have hz1 := hB.size
        clear hB hO
        by_cases hjl : j < 3
        · have hS := tipR_succ n x j
          have hl1 := tipL_len n x
          have hl : (tipL n x ++ tipR n x j).length ≤ 100 := by rw [List.length_append]; simp [tipR]; omega
          have C1 := HON.out j ((m : Int) + (x : Int)) (by omega) (by omega) (by omega)
          have C2 := HON.out (j + 1) (x : Int) (by omega) (by omega) (by omega)
          have b1 := lv_bound (n := n) (i := j) (z := (m : Int) + (x : Int)) hn (by omega) (by omega)
          have b2 := lv_bound (n := n) (i := j + 1) (z := (x : Int)) hn (by omega) (by omega)
          have hT : tipB n x j = blk3 (3 * (n : Int)) (lv n j ((m : Int) + (x : Int))) (lv n (j + 1) x) := by
            unfold tipB
            rw [← HM.out]
            simp
          obtain ⟨z1, hz1'⟩ : ∃ z, z = lv n j ((m : Int) + (x : Int)) := ⟨_, rfl⟩
          obtain ⟨z2, hz2'⟩ : ∃ z, z = lv n (j + 1) x := ⟨_, rfl⟩
          rw [← hz1'] at C1 b1 hT
          rw [← hz2'] at C2 b2 hT
          rw [hT] at hS
          rw [show (((j + 1 : Nat) : Int)) = (j : Int) + 1 by omega] at C2
          have HS := Lib.hid (show tipL n x ++ tipR n x (j + 1) = tipL n x ++ tipR n x j ++ [blk3 (3 * (n : Int)) z1 z2] by rw [hS, List.append_assoc])
          have HC1 := Lib.hid C1
          have HC2 := Lib.hid C2
          obtain ⟨t, ht⟩ : ∃ t, t = blk3 (3 * (n : Int)) z1 z2 := ⟨_, rfl⟩
          rw [← ht] at HS
          have HT := Lib.hid ht
          obtain ⟨L, hL⟩ : ∃ L, L = tipL n x ++ tipR n x j := ⟨_, rfl⟩
          rw [← hL] at HS HO1 hl
          clear hS C1 C2 hT hz1' hz2' ht hl1 hL
          go_wp2_with fail
          refine (HC1.out _).mono ?_
          rintro e w2 ⟨rfl, rfl⟩
          go_wp2_with fail
          refine (HC2.out _).mono ?_
          rintro e w2 ⟨rfl, rfl⟩
          go_wp2_with fail
          refine (blockFrom_any wr.heap.size 0 _ (3 * (n : Int)) z1 z2 _ (by simp [go_sem]) (by simp [go_sem]) (by simp [go_sem])).mono ?_
          rintro e w2 ⟨rfl, hb2⟩
          rw [← HT.out]
          have hB2 : Below wr.heap.size wr w2 := ((Below.refl _ _).alloc (Nat.le_refl _) _).trans (hb2.mono (by simp))
          have hz2 := hB2.size
          have HB2 := Lib.hid hB2
          have HO2 := Lib.hid (HO1.out.below hB2 (Nat.le_refl _))
          obtain ⟨ta, tb, tc⟩ := t
          unfold bv
          dsimp only
          clear hb2 hB2
          go_wp2_with (at_builtin; refine wpList_append_blk rfl _ _ rfl W0.heap.size _ L rfl (HO2.out.below ((Below.refl _ _).alloc (Nat.le_refl _) _) (Nat.le_refl _)) _ _ ⟨ta, tb, tc⟩ rfl (by simp [go_sem]) (by simp [go_sem]) (by simp [go_sem]) (by omega) (by simp; omega) ?_; intro g' cap' w4 hO4 hg4)
          have hrow := HO2.out.row
          have hgo : w2.grownBy w4 (Value.slice a4 n4 c4).ownBlock := ⟨hg4.os, hg4.tape, hg4.output, by have := hg4.size; simp at this; omega, fun i hi hne => by
            rw [hg4.block i (by simp; omega) hne, Below.heap_alloc _ _ _ hi]⟩
          clear hg4
          go_roundw
          case rel => exact ⟨j + 1, by omega, by go_num, (HB1.out.trans (HB2.out.mono hz1)).grown hgo (by omega) (fun j e => hrow j e), by rw [HS.out]; exact hO4, _, _, _, rfl⟩
          case measure => simp [intOf]; omega
        · have e : j = 3 := by omega
          subst e
          have HS := Lib.hid (tipL_succ n x)
          go_wp2_with fail
          go_roundw
          case rel => exact ⟨x + 1, by omega, by go_num, HB1.out, by rw [HS.out]; exact HO1.out, _, _, _, rfl⟩
          case measure => simp [intOf]; omega
    · have e : x = m := by omega
      subst e
      go_wp2
      go_ret
      exact ⟨_, rfl, HO.out, HB.out⟩
set_option maxRecDepth 100000 in
set_option maxHeartbeats 4000000 in
theorem slantBlocks_any (s : Value) (n : Nat) (F : Nat → List Int) (hn : n ≤ 5) (w : World) (h : SSB w s n F) (hl : ∀ k, k < n → (F k).length = n) (hr : ∀ x y, x < n → y < n → 0 ≤ at2 F x y ∧ at2 F x y < (n : Int)) :
    Calls Try.prog 125 #[s] w (RO (slL n F 3) w) := by
  obtain ⟨a, c, rfl⟩ := h.slice
  have HAT := Lib.hid (sq_at h hl)
  have HRG := Lib.hid hr
  have HON := Lib.hid fun i z h1 h2 h3 W => onLevel_any n i z hn h1 h2 h3 W
  clear h hl hr
  go_enter Try.func125, Try.ntmps125
  obtain ⟨W0, rfl⟩ : ∃ W0, W0 = w := ⟨_, rfl⟩
  go_wp2_with fail
  go_loopw [4, 11] (fun o i wr => ∃ l : Nat, l ≤ 3 ∧ i = .int .i64 l ∧ Below W0.heap.size W0 wr ∧ OwnR wr W0.heap.size o (slL n F l) ∧ ∃ a n c, o = .slice a n c) (fun _ i _ => 3 - (intOf i).toNat)
  case atStart => exact ⟨0, Nat.zero_le _, rfl, Below.refl _ _, OwnR.nil _ _, _, _, _, rfl⟩
  case round =>
    obtain ⟨l, hl, rfl, hB, hO, a3, n3, c3, rfl⟩ := hrel
    have HB := Lib.hid hB
    have HO := Lib.hid hO
    have hz := hB.size
    clear hB hO
    by_cases hll : l < 3
    · obtain ⟨W1, rfl⟩ : ∃ W1, W1 = wr := ⟨_, rfl⟩
      have dl : decide ((l : Int) < 3) = true := by simp; omega
      go_wp2_with fail
      go_loopw [4, 15] (fun o i wr => ∃ y : Nat, y ≤ n ∧ i = .int .i64 y ∧ Below W0.heap.size W0 wr ∧ OwnR wr W0.heap.size o (slL n F l ++ slV n F l y) ∧ ∃ a n c, o = .slice a n c) (fun _ i _ => n - (intOf i).toNat)
      case atStart => exact ⟨0, Nat.zero_le _, rfl, HB.out, by simpa [slV] using HO.out, _, _, _, rfl⟩
      case round =>
        obtain ⟨y, hy, rfl, hB, hO, a4, n4, c4, rfl⟩ := hrel
        have HB1 := Lib.hid hB
        have HO1 := Lib.hid hO
        have hz1 := hB.size
        clear hB hO
        by_cases hyl : y < n
        · obtain ⟨W2, rfl⟩ : ∃ W2, W2 = wr := ⟨_, rfl⟩
          go_wp2_with fail
          go_loopw [4, 19] (fun o i wr => ∃ x : Nat, x ≤ y ∧ i = .int .i64 x ∧ Below W0.heap.size W0 wr ∧ OwnR wr W0.heap.size o (slL n F l ++ slV n F l y ++ slR n F l y x) ∧ ∃ a n c, o = .slice a n c) (fun _ i _ => y - (intOf i).toNat)
          case atStart => exact ⟨0, Nat.zero_le _, rfl, HB1.out, by simpa [slR] using HO1.out, _, _, _, rfl⟩
          case round =>
            obtain ⟨x, hx, rfl, hB, hO, a5, n5, c5, rfl⟩ := hrel
            have HB2 := Lib.hid hB
            have HO2 := Lib.hid hO
            have hz2 := hB.size
            clear hB hO
            by_cases hxl : x < y
            · have hxn : x < n := by omega
              obtain ⟨b, off, bx, ox, cx, rfl, hlt, hltx, p1, p2⟩ := HAT.out x y hxn hyl
              have q1 := (HB2.out.cell (p := ⟨b, off + x, none⟩) hlt).trans p1
              have q2 := (HB2.out.cell (p := ⟨bx, ox + y, none⟩) hltx).trans p2
              have hg := HRG.out x y hxn hyl
              have hS := slR_succ n F l y x
              have C1 := HON.out l (x : Int) (by omega) (by omega) (by omega)
              have C2 := HON.out l (y : Int) (by omega) (by omega) (by omega)
              have C3 := HON.out (l + 1) (at2 F x y) (by omega) (by omega) (by omega)
              have b1 := lv_bound (n := n) (i := l) (z := (x : Int)) hn (by omega) (by omega)
              have b2 := lv_bound (n := n) (i := l) (z := (y : Int)) hn (by omega) (by omega)
              have b3' := lv_bound (n := n) (i := l + 1) (z := at2 F x y) hn (by omega) (by omega)
              unfold slB at hS
              obtain ⟨d, hd⟩ : ∃ d, d = at2 F x y := ⟨_, rfl⟩
              rw [← hd] at q2 hg hS C3 b3'
              obtain ⟨z1, hz1'⟩ : ∃ z, z = lv n l x := ⟨_, rfl⟩
              obtain ⟨z2, hz2'⟩ : ∃ z, z = lv n l y := ⟨_, rfl⟩
              obtain ⟨z3, hz3'⟩ : ∃ z, z = lv n (l + 1) d := ⟨_, rfl⟩
              rw [← hz1'] at C1 b1 hS
              rw [← hz2'] at C2 b2 hS
              rw [← hz3'] at C3 b3' hS
              rw [show (((l + 1 : Nat) : Int)) = (l : Int) + 1 by omega] at C3
              have l1 := slL_len n F l
              have l2 := slV_len n F l y
              have e1 : l * (n * n) ≤ 3 * (5 * 5) := Nat.mul_le_mul (by omega) (Nat.mul_le_mul hn hn)
              have e2 : y * y ≤ 5 * 5 := Nat.mul_le_mul (by omega) (by omega)
              have hlen : (slL n F l ++ slV n F l y ++ slR n F l y x).length ≤ 1000 := by
                rw [List.length_append, List.length_append]
                simp [slR]
                omega
              have HS := Lib.hid (show slL n F l ++ slV n F l y ++ slR n F l y (x + 1) = slL n F l ++ slV n F l y ++ slR n F l y x ++ [blk3 z1 z2 z3] by rw [hS, ← List.append_assoc])
              obtain ⟨t, ht⟩ : ∃ t, t = blk3 z1 z2 z3 := ⟨_, rfl⟩
              rw [← ht] at HS
              have HT := Lib.hid ht
              have HC1 := Lib.hid C1
              have HC2 := Lib.hid C2
              have HC3 := Lib.hid C3
              have g0 : (0 : Int) ≤ (x : Int) := by omega
              have g1 : (x : Int) < (n : Int) := by omega
              have g2 : (0 : Int) ≤ (y : Int) := by omega
              have g3 : (y : Int) < (n : Int) := by omega
              obtain ⟨L, hL⟩ : ∃ L, L = slL n F l ++ slV n F l y ++ slR n F l y x := ⟨_, rfl⟩
              rw [← hL] at HS HO2 hlen
              clear hS C1 C2 C3 hz1' hz2' hz3' hd ht p1 p2 l1 l2 e1 e2 hL
              have hwl : IntKind.i64.wrap ((l : Int) + 1) = (l : Int) + 1 := IntWalk.i64_in _ (by omega)
              go_wp2_with fail
              go_still_tail 19, (by kernel_rfl)
              still_call ((HC1.out _).mono fun _ _ h => ⟨h.1, h.2.symm⟩)
              repeat still_step
              still_call ((HC2.out _).mono fun _ _ h => ⟨h.1, h.2.symm⟩)
              repeat still_step
              still_call ((HC3.out _).mono fun _ _ h => ⟨h.1, h.2.symm⟩)
              refine wpStill_nil ?_
              change wpList _ _ _ _ _ wr.drew
              have HOd := Lib.hid (HO2.out.below ((Below.refl wr.heap.size wr).drew) (Nat.le_refl _))
              have HBd := Lib.hid (show Below W0.heap.size W0 wr.drew from HB2.out.drew)
              have hzd : W0.heap.size ≤ wr.drew.heap.size := hz2
              obtain ⟨w3, hw3⟩ : ∃ w3, w3 = wr.drew := ⟨_, rfl⟩
              rw [← hw3] at HOd HBd hzd ⊢
              clear hw3 q1 q2
              go_wp2_with fail
              refine (blockFrom_any w3.heap.size 0 _ z1 z2 z3 _ (by simp [go_sem]) (by simp [go_sem]) (by simp [go_sem])).mono ?_
              rintro e w4 ⟨rfl, hb4⟩
              rw [← HT.out]
              have hB4 : Below w3.heap.size w3 w4 := ((Below.refl _ _).alloc (Nat.le_refl _) _).trans (hb4.mono (by simp))
              have hz4 := hB4.size
              have HB4 := Lib.hid hB4
              have HO4 := Lib.hid (HOd.out.below hB4 (Nat.le_refl _))
              obtain ⟨ta, tb, tc⟩ := t
              unfold bv
              dsimp only
              clear hb4 hB4
              go_wp2_with (at_builtin; refine wpList_append_blk rfl _ _ rfl W0.heap.size _ L rfl (HO4.out.below ((Below.refl _ _).alloc (Nat.le_refl _) _) (Nat.le_refl _)) _ _ ⟨ta, tb, tc⟩ rfl (by simp [go_sem]) (by simp [go_sem]) (by simp [go_sem]) (by omega) (by simp; omega) ?_; intro g' cap' w5 hO5 hg5)
              have hrow := HO4.out.row
              have hgo : w4.grownBy w5 (Value.slice a5 n5 c5).ownBlock := ⟨hg5.os, hg5.tape, hg5.output, by have := hg5.size; simp at this; omega, fun i hi hne => by
                rw [hg5.block i (by simp; omega) hne, Below.heap_alloc _ _ _ hi]⟩
              clear hg5
              go_roundw
              case rel => exact ⟨x + 1, by omega, by go_num, (HBd.out.trans (HB4.out.mono hzd)).grown hgo (by omega) (fun j e => hrow j e), by rw [HS.out]; exact hO5, _, _, _, rfl⟩
              case measure => simp [intOf]; omega
            · have e : x = y := by omega
              subst e
              have HS := Lib.hid (slV_succ n F l x)
              go_wp2_with fail
              go_roundw
              case rel => exact ⟨x + 1, by omega, by go_num, HB2.out, by rw [HS.out, ← List.append_assoc]; exact HO2.out, _, _, _, rfl⟩
              case measure => simp [intOf]; omega
        · have e : y = n := by omega
          subst e
          have HS := Lib.hid (slL_succ y F l)
          go_wp2_with fail
          go_roundw
          case rel => exact ⟨l + 1, by omega, by go_num, HB1.out, by rw [HS.out]; exact HO1.out, _, _, _, rfl⟩
          case measure => simp [intOf]; omega
    · have e : l = 3 := by omega
      subst e
      go_wp2
      go_ret
      exact ⟨_, rfl, HO.out, HB.out⟩
end Go.Proofs.Ytlhiokcdjnmfmaa

namespace Go.Proofs
open Go.Shelf
def Try.growB_ren : Go.Shelf.Ren := ⟨fun | 4 => 158 | n => n, fun | 22 => 29 | 25 => 77 | 3 => 3 | 4 => 4 | 9 => 9 | 20 => 20 | 0 => 0 | n => n, fun | n => n⟩
theorem Try.growB : Go.Proofs.Lays8.n4 Try.prog Try.growB_ren := {
  mixed := by kernel_rfl
  f4 := ⟨Try.f158.name, by decide, Try.func158.trans (congrArg some (by kernel_rfl))⟩
  t0 := Try.underlying0
  a0 := Try.isAgg0
  z0 := Try.sizeOf0
  v0 := Try.zeroValue0
  t3 := Try.underlying3
  a3 := Try.isAgg3
  z3 := Try.sizeOf3
  v3 := Try.zeroValue3
  t4 := Try.underlying4
  a4 := Try.isAgg4
  z4 := Try.sizeOf4
  v4 := Try.zeroValue4
  t9 := Try.underlying9
  a9 := Try.isAgg9
  z9 := Try.sizeOf9
  v9 := Try.zeroValue9
  t20 := Try.underlying20
  a20 := Try.isAgg20
  z20 := Try.sizeOf20
  v20 := Try.zeroValue20
  t22 := Try.underlying29
  a22 := Try.isAgg29
  z22 := Try.sizeOf29
  v22 := Try.zeroValue29 }
def Try.growI_ren : Go.Shelf.Ren := ⟨fun | 4 => 133 | n => n, fun | 22 => 26 | 25 => 2 | 3 => 3 | 4 => 4 | 9 => 9 | 20 => 20 | 0 => 0 | n => n, fun | n => n⟩
theorem Try.growI : Go.Proofs.Lays8.n4 Try.prog Try.growI_ren := {
  mixed := by kernel_rfl
  f4 := ⟨Try.f133.name, by decide, Try.func133.trans (congrArg some (by kernel_rfl))⟩
  t0 := Try.underlying0
  a0 := Try.isAgg0
  z0 := Try.sizeOf0
  v0 := Try.zeroValue0
  t3 := Try.underlying3
  a3 := Try.isAgg3
  z3 := Try.sizeOf3
  v3 := Try.zeroValue3
  t4 := Try.underlying4
  a4 := Try.isAgg4
  z4 := Try.sizeOf4
  v4 := Try.zeroValue4
  t9 := Try.underlying9
  a9 := Try.isAgg9
  z9 := Try.sizeOf9
  v9 := Try.zeroValue9
  t20 := Try.underlying20
  a20 := Try.isAgg20
  z20 := Try.sizeOf20
  v20 := Try.zeroValue20
  t22 := Try.underlying26
  a22 := Try.isAgg26
  z22 := Try.sizeOf26
  v22 := Try.zeroValue26 }
end Go.Proofs

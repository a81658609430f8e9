
/- Rows of blocks that are written and sorted in place. The contract of slices.Sort, laid at []int64. The program's blockFrom: three numbers in order. The contract of slices.Compact, laid at []int64. impl.pointsIn and impl.PointsOfTrade. The model's PointsOfTrade. How the laws' arguments are read. How the laws' other arguments are read: slices of integers, slices of blocks, a block, rows. How a law's trade is read. -/
import Derived.Test.YtacfelgilphppaaJ7
import Derived.Shelf.SlSortCmp.NoneTotal
import Derived.Shelf.SortM.Plain
import Derived.Ground.SlgmProg
import Derived.Test.YtacfelgilphppaaProg
import Derived.Shelf.SlicesG.CompactI
import Derived.Ground.SlgnProg
import Derived.Shelf.SortM.SortNone
import Derived.Test.YtacfelgilphppaaRows
import Derived.ProofKit
import Derived.OpenShut
import Derived.Deep.Slices
import Derived.Lib.SmallJoins
import Derived.ChangeOld
namespace Go.Proofs.Ytacfelgilphppaa
open Go.RowKit Go.Maps Go.Sort
theorem heap_set_own {w : World} {g o : Nat} {u : Value} {cs : Array Value} {e : TypeId} {fr : Nat × Nat} (h : w.heap[g]? = some (.cells cs e fr)) : (w.setCell ⟨g, o, none⟩ u).heap[g]? = some (.cells (cs.setIfInBounds o u) e fr) := by
  obtain ⟨hlt, hk⟩ := Array.getElem?_eq_some_iff.1 h
  show (w.heap.modify g _)[g]? = _
  rw [Array.getElem?_eq_getElem (by rw [Array.size_modify]; exact hlt), Array.getElem_modify_self, hk]
  rfl
theorem flat_set : ∀ (bs : List Blk) (i : Nat) (x : Blk), i < bs.length → (((bs.flatMap cells3).set (i * 3) (.int .i64 x.a)).set (i * 3 + 1) (.int .i64 x.b)).set (i * 3 + 2) (.int .i64 x.c) = (bs.set i x).flatMap cells3
  | [], _, _, h => by simp at h
  | y :: r, 0, x, _ => by simp [cells3]
  | y :: r, i + 1, x, h => by
    have ih := flat_set r i x (by simpa using h)
    rw [List.set_cons_succ, List.flatMap_cons, List.flatMap_cons, ← ih]
    rw [show (i + 1) * 3 = i * 3 + 1 + 1 + 1 by omega, show i * 3 + 1 + 1 + 1 + 1 = i * 3 + 1 + 1 + 1 + 1 from rfl, show i * 3 + 1 + 1 + 1 + 2 = i * 3 + 2 + 1 + 1 + 1 by omega]
    simp only [cells3, List.cons_append, List.nil_append, List.set_cons_succ]
theorem OwnR.set3 {w : World} {base g n cap : Nat} {bs : List Blk} (h : OwnR w base (.slice (some ⟨g, 0, none⟩) n cap) bs) {i : Nat} (hi : i < bs.length) (x : Blk) :
    OwnR (((w.setCell ⟨g, i * 3, none⟩ (.int .i64 x.a)).setCell ⟨g, i * 3 + 1, none⟩ (.int .i64 x.b)).setCell ⟨g, i * 3 + 2, none⟩ (.int .i64 x.c)) base (.slice (some ⟨g, 0, none⟩) n cap) (bs.set i x) := by
  obtain ⟨hl, h | ⟨g', cap', cur, hv, hb, hcur, hn, hc, hsz, hx⟩⟩ := h
  · cases h.1
  · cases hv
    refine ⟨by rw [flat_length, List.length_set], .inr ⟨g, cap, _, by rw [List.length_set], hb, heap_set_own (heap_set_own (heap_set_own hcur)), by rw [List.length_set]; exact hn, hc, by simpa using hsz, ?_⟩⟩
    rw [List.length_set, Array.toList_setIfInBounds, Array.toList_setIfInBounds, Array.toList_setIfInBounds, List.take_set, List.take_set, List.take_set, hx]
    exact flat_set bs i x hi
theorem OwnR.at_ {w : World} {base g n cap : Nat} {bs : List Blk} (h : OwnR w base (.slice (some ⟨g, 0, none⟩) n cap) bs) : n = bs.length ∧ base ≤ g ∧ OwnAt w g bs := by
  rcases h.res with ⟨rfl, a, c, e⟩ | ⟨g', cap', e, h1, h2, h3⟩
  · cases e
    obtain ⟨hl, h | ⟨g', cap', cur, hv, hb, hcur, hn, hc, hsz, hx⟩⟩ := h
    · cases h.1
    · cases hv
      exact ⟨rfl, hb, ⟨(Array.getElem?_eq_some_iff.1 hcur).1, fun k hk => by simp at hk, fun o => by simp [World.frozen?, hcur]⟩⟩
  · cases e
    exact ⟨rfl, h1, h3⟩

theorem heap_put {w : World} {g n : Nat} {os : Array Obj} {cur : Array Value} {e : TypeId} {fr : Nat × Nat} (F : Array Value) (hb : w.heap[g]? = some (.cells cur e fr)) :
    (grow (putRow id (Sort.ahead w n) g 0 F) os).heap[g]? = some (.cells (putCells id 0 F cur) e fr) := by
  have hg : g < w.heap.size := (Array.getElem?_eq_some_iff.1 hb).1
  rw [heap_grow_old _ _ (by simpa using hg)]
  simp [putRow, mapBlock, Sort.ahead, Array.getElem?_modify, hb, onCells]
theorem grownBy_put {w : World} {g n : Nat} {os : Array Obj} (F : Array Value) : w.grownBy (grow (putRow id (Sort.ahead w n) g 0 F) os) (some g) := by
  refine ⟨rfl, rfl, rfl, by simp, fun k hk hne => ?_⟩
  rw [heap_grow_old _ _ (by simpa using hk)]
  have : g ≠ k := fun e => hne (by rw [e])
  simp [putRow, mapBlock, Sort.ahead, Array.getElem?_modify, this]
theorem take_put (cur F : Array Value) (h : F.size ≤ cur.size) : (putCells id 0 F cur).toList.take F.size = F.toList := by
  apply List.ext_getElem?
  intro j
  by_cases hj : j < F.size
  · rw [List.getElem?_take_of_lt hj, Array.getElem?_toList]
    simp [putCells, hj, show j < cur.size by omega]
  · rw [List.getElem?_take_eq_none (by omega), List.getElem?_eq_none (by simp; omega)]
theorem cells3_at (x : Blk) : (cells3 x)[0]! = .int .i64 x.a ∧ (cells3 x)[1]! = .int .i64 x.b ∧ (cells3 x)[2]! = .int .i64 x.c := ⟨rfl, rfl, rfl⟩
theorem flatK_at (bs : List Blk) (j : Nat) (h : j < bs.length * 3) : (flatK cells3 3 bs.toArray)[j]! = (bs.flatMap cells3)[j]?.getD undef := by
  rw [get_flatK _ _ _ _ (by simpa using h)]
  have hk : j / 3 < bs.length := by omega
  obtain ⟨h0, h1, h2⟩ := flat_at bs (j / 3) hk
  obtain ⟨c0, c1, c2⟩ := cells3_at (bs.toArray[j / 3]!)
  have e : bs.toArray[j / 3]! = bs[j / 3]?.getD default := by simp [hk]
  rw [e] at c0 c1 c2
  rw [e]
  have hm : j % 3 = 0 ∨ j % 3 = 1 ∨ j % 3 = 2 := by omega
  rcases hm with hm | hm | hm
  · rw [hm, c0]; rw [show j / 3 * 3 = j by omega] at h0; rw [h0]; rfl
  · rw [hm, c1]; rw [show j / 3 * 3 + 1 = j by omega] at h1; rw [h1]; rfl
  · rw [hm, c2]; rw [show j / 3 * 3 + 2 = j by omega] at h2; rw [h2]; rfl
theorem flatK_list (bs : List Blk) : (flatK cells3 3 bs.toArray).toList = bs.flatMap cells3 := by
  apply List.ext_getElem?
  intro j
  by_cases hj : j < bs.length * 3
  · have h1 := flatK_at bs j hj
    have hs : j < (flatK cells3 3 bs.toArray).size := by rw [size_flatK]; simpa using hj
    rw [getElem!_pos _ j hs] at h1
    rw [Array.getElem?_toList, Array.getElem?_eq_getElem hs, h1]
    have hf : j < (bs.flatMap cells3).length := by rw [flat_length]; exact hj
    rw [List.getElem?_eq_getElem hf]
    rfl
  · have h1 : (flatK cells3 3 bs.toArray).toList.length = bs.length * 3 := by rw [Array.length_toList, size_flatK]; simp
    rw [List.getElem?_eq_none (by omega), List.getElem?_eq_none (by rw [flat_length]; omega)]
theorem OwnAt.holds {w : World} {g : Nat} {bs : List Blk} (h : OwnAt w g bs) : HoldsK cells3 3 w g 0 bs.toArray := by
  intro j hj
  rw [size_flatK, List.size_toArray] at hj
  refine ⟨?_, h.free _⟩
  rw [flatK_at bs j hj, Nat.zero_add]
  obtain ⟨h0, h1, h2⟩ := h.at_ (j / 3) (by omega)
  obtain ⟨f0, f1, f2⟩ := flat_at bs (j / 3) (by omega)
  rw [Nat.zero_add] at h0 h1 h2
  have hm : j % 3 = 0 ∨ j % 3 = 1 ∨ j % 3 = 2 := by omega
  rcases hm with hm | hm | hm
  · rw [show j / 3 * 3 = j by omega] at h0 f0; rw [h0, f0]; rfl
  · rw [show j / 3 * 3 + 1 = j by omega] at h1 f1; rw [h1, f1]; rfl
  · rw [show j / 3 * 3 + 2 = j by omega] at h2 f2; rw [h2, f2]; rfl
/-- Behind the sort the same slice owns the blocks in order. -/
theorem OwnR.sorted {w : World} {base g n cap : Nat} {bs cs : List Blk} (h : OwnR w base (.slice (some ⟨g, 0, none⟩) n cap) bs) (hl : cs.length = bs.length) (m : Nat) (os : Array Obj) :
    OwnR (sortWorldK cells3 3 w g 0 m cs.toArray os) base (.slice (some ⟨g, 0, none⟩) n cap) cs ∧ w.grownBy (sortWorldK cells3 3 w g 0 m cs.toArray os) (some g) := by
  refine ⟨?_, grownBy_put _⟩
  obtain ⟨hl2, h | ⟨g', cap', cur, hv, hb, hcur, hn, hc, hsz, hx⟩⟩ := h
  · cases h.1
  · cases hv
    have hF : (flatK cells3 3 cs.toArray).size = cs.length * 3 := by rw [size_flatK]; simp
    refine ⟨by rw [flat_length], .inr ⟨g, cap, _, by rw [hl], hb, heap_put _ hcur, by rw [hl]; exact hn, hc, by simp [putCells]; omega, ?_⟩⟩
    rw [← hF, take_put _ _ (by rw [hF, hl]; have := Nat.mul_le_mul_right 3 hn; omega)]
    exact flatK_list cs
theorem lt_bef (x y : Blk) : ltOf cmpB x y = befB x y := by
  unfold ltOf
  rw [Bool.eq_iff_iff, ← cmpB_neg]
  simp
theorem swoB : SWO (ltOf cmpB) where
  irrefl x := by rw [lt_bef]; exact bef_irrefl x
  trans x y z h1 h2 := by rw [lt_bef] at *; exact bef_trans h1 h2
  ntrans x y z h1 h2 := by rw [lt_bef] at *; exact bef_ntrans h1 h2
theorem totB (x y : Blk) (h1 : ltOf cmpB x y = false) (h2 : ltOf cmpB y x = false) : x = y := by rw [lt_bef] at *; exact bef_total h1 h2
theorem mergeB (bs : List Blk) : (bs.mergeSort fun x y => !ltOf cmpB y x) = sortB bs := by
  rw [← sortB_merge]
  congr 1
  funext x y
  rw [lt_bef]
theorem compareBlocks_lays (x y : Blk) (w : World) : Calls Try.prog 162 #[bv x, bv y] w fun e w' => e = .returned (.int .i64 (cmpB x y)) ∧ ∃ q os, w' = grow (w.drewN q) os := by
  obtain ⟨a, b, c⟩ := x
  obtain ⟨d, e, f⟩ := y
  unfold bv
  dsimp only
  go_enter Try.func162, Try.ntmps162
  go_wp2
  go_quiet ((go_at_call 114; exact RS.quiet (Compare_any _ 0 _ _ 0 _ [a, b, c] [d, e, f] _ (ints3 (by simp [go_sem]) (by simp [go_sem]) (by simp [go_sem])) (ints3 (by simp [go_sem]) (by simp [go_sem]) (by simp [go_sem])) (by simp) (by simp))))
  go_wp2
  go_ret
  exact ⟨rfl, _, _, by rw [alloc_eq_grow, alloc_eq_grow, grow_grow]; rfl⟩
end Go.Proofs.Ytacfelgilphppaa

namespace Go.Proofs
open Go.Shelf
def Try.sortI_ren : Go.Shelf.Ren := ⟨fun | 5 => 116 | 8 => 181 | 7 => 180 | 19 => 225 | 20 => 226 | 10 => 216 | 11 => 217 | 12 => 218 | 13 => 219 | 14 => 220 | 15 => 221 | 16 => 222 | 17 => 223 | 18 => 224 | 30 => 246 | 31 => 247 | 32 => 248 | 33 => 249 | 34 => 250 | 35 => 215 | 40 => 264 | n => n, fun | 23 => 26 | 25 => 2 | 3 => 3 | 32 => 158 | 22 => 26 | 0 => 0 | 44 => 206 | 46 => 146 | 4 => 4 | 36 => 199 | 35 => 198 | 41 => 203 | 5 => 5 | 9 => 9 | 53 => 223 | 57 => 227 | 63 => 236 | 64 => 237 | n => n, fun | n => n⟩
theorem Try.sortI : Go.Proofs.SlLaysM.n5 Try.prog Try.sortI_ren := {
  mixed := by kernel_rfl
  f5 := ⟨Try.f116.name, by decide, Try.func116.trans (congrArg some (by kernel_rfl))⟩
  f7 := ⟨Try.f180.name, by decide, Try.func180.trans (congrArg some (by kernel_rfl))⟩
  f8 := Try.func181.trans (congrArg some (by kernel_rfl))
  f10 := ⟨Try.f216.name, by decide, Try.func216.trans (congrArg some (by kernel_rfl))⟩
  f11 := ⟨Try.f217.name, by decide, Try.func217.trans (congrArg some (by kernel_rfl))⟩
  f12 := ⟨Try.f218.name, by decide, Try.func218.trans (congrArg some (by kernel_rfl))⟩
  f13 := ⟨Try.f219.name, by decide, Try.func219.trans (congrArg some (by kernel_rfl))⟩
  f14 := ⟨Try.f220.name, by decide, Try.func220.trans (congrArg some (by kernel_rfl))⟩
  f15 := ⟨Try.f221.name, by decide, Try.func221.trans (congrArg some (by kernel_rfl))⟩
  f16 := ⟨Try.f222.name, by decide, Try.func222.trans (congrArg some (by kernel_rfl))⟩
  f17 := ⟨Try.f223.name, by decide, Try.func223.trans (congrArg some (by kernel_rfl))⟩
  f18 := ⟨Try.f224.name, by decide, Try.func224.trans (congrArg some (by kernel_rfl))⟩
  f19 := Try.func225.trans (congrArg some (by kernel_rfl))
  f20 := Try.func226.trans (congrArg some (by kernel_rfl))
  f30 := ⟨Try.f246.name, by decide, Try.func246.trans (congrArg some (by kernel_rfl))⟩
  f31 := Try.func247.trans (congrArg some (by kernel_rfl))
  f32 := Try.func248.trans (congrArg some (by kernel_rfl))
  f33 := ⟨Try.f249.name, by decide, Try.func249.trans (congrArg some (by kernel_rfl))⟩
  f34 := ⟨Try.f250.name, by decide, Try.func250.trans (congrArg some (by kernel_rfl))⟩
  f35 := ⟨Try.f215.name, by decide, Try.func215.trans (congrArg some (by kernel_rfl))⟩
  f40 := ⟨Try.f264.name, by decide, Try.func264.trans (congrArg some (by kernel_rfl))⟩
  t0 := Try.underlying0
  a0 := Try.isAgg0
  z0 := Try.sizeOf0
  v0 := Try.zeroValue0
  t3 := Try.underlying3
  a3 := Try.isAgg3
  z3 := Try.sizeOf3
  v3 := Try.zeroValue3
  t4 := Try.underlying4
  a4 := Try.isAgg4
  z4 := Try.sizeOf4
  v4 := Try.zeroValue4
  t5 := Try.underlying5
  a5 := Try.isAgg5
  z5 := Try.sizeOf5
  v5 := Try.zeroValue5
  t9 := Try.underlying9
  a9 := Try.isAgg9
  z9 := Try.sizeOf9
  v9 := Try.zeroValue9
  t22 := Try.underlying26
  a22 := Try.isAgg26
  z22 := Try.sizeOf26
  v22 := Try.zeroValue26
  t23 := Try.underlying26
  a23 := Try.isAgg26
  z23 := Try.sizeOf26
  v23 := Try.zeroValue26
  t25 := Try.underlying2
  a25 := Try.isAgg2
  z25 := Try.sizeOf2
  v25 := Try.zeroValue2
  t32 := Try.underlying158
  a32 := Try.isAgg158
  z32 := Try.sizeOf158
  v32 := Try.zeroValue158
  t35 := Try.underlying198
  a35 := Try.isAgg198
  z35 := Try.sizeOf198
  v35 := Try.zeroValue198
  t36 := Try.underlying199
  a36 := Try.isAgg199
  z36 := Try.sizeOf199
  v36 := Try.zeroValue199
  t41 := Try.underlying203
  a41 := Try.isAgg203
  z41 := Try.sizeOf203
  v41 := Try.zeroValue203
  t44 := Try.underlying206
  a44 := Try.isAgg206
  z44 := Try.sizeOf206
  v44 := Try.zeroValue206
  t46 := Try.underlying146
  a46 := Try.isAgg146
  z46 := Try.sizeOf146
  v46 := Try.zeroValue146
  t53 := Try.underlying223
  a53 := Try.isAgg223
  z53 := Try.sizeOf223
  v53 := Try.zeroValue223
  t57 := Try.underlying227
  a57 := Try.isAgg227
  z57 := Try.sizeOf227
  v57 := Try.zeroValue227
  t63 := Try.underlying236
  a63 := Try.isAgg236
  z63 := Try.sizeOf236
  v63 := Try.zeroValue236
  t64 := Try.underlying237
  a64 := Try.isAgg237
  z64 := Try.sizeOf237
  v64 := Try.zeroValue237 }
end Go.Proofs

namespace Go.Proofs.Ytacfelgilphppaa
open Go.RowKit Go.Maps Go.Sort Go.Shelf
theorem heap_put' {α : Type} [Inhabited α] (enc : α → Value) {w : World} {g n : Nat} {os : Array Obj} {cur : Array Value} {e : TypeId} {fr : Nat × Nat} (F : Array α) (hb : w.heap[g]? = some (.cells cur e fr)) :
    (grow (putRow enc (Sort.ahead w n) g 0 F) os).heap[g]? = some (.cells (putCells enc 0 F cur) e fr) := by
  have hg : g < w.heap.size := (Array.getElem?_eq_some_iff.1 hb).1
  rw [heap_grow_old _ _ (by simpa using hg)]
  simp [putRow, mapBlock, Sort.ahead, Array.getElem?_modify, hb, onCells]
theorem grownBy_put' {α : Type} [Inhabited α] (enc : α → Value) {w : World} {g n : Nat} {os : Array Obj} (F : Array α) : w.grownBy (grow (putRow enc (Sort.ahead w n) g 0 F) os) (some g) := by
  refine ⟨rfl, rfl, rfl, by simp, fun k hk hne => ?_⟩
  rw [heap_grow_old _ _ (by simpa using hk)]
  have : g ≠ k := fun e => hne (by rw [e])
  simp [putRow, mapBlock, Sort.ahead, Array.getElem?_modify, this]
theorem sort3_any (b : Nat) (x y z : Int) (w : World) (h : w.heap[b]? = some (.cells #[.int .i64 x, .int .i64 y, .int .i64 z] 93 (0, 0))) :
    Calls Try.prog 116 #[.slice (some ⟨b, 0, none⟩) 3 3] w fun e w' => e = .returned (.tuple #[]) ∧ w.grownBy w' (some b) ∧ w'.heap[b]? = some (.cells #[.int .i64 (blk3 x y z).a, .int .i64 (blk3 x y z).b, .int .i64 (blk3 x y z).c] 93 (0, 0)) := by
  have hlt : b < w.heap.size := (Array.getElem?_eq_some_iff.1 h).1
  have hH : Holds (Value.int .i64) w b 0 [x, y, z].toArray := by
    intro j hj
    simp at hj
    rw [Nat.zero_add]
    match j, hj with
    | 0, _ => exact ⟨by simp [World.cell?, h], by simp [World.frozen?, h]⟩
    | 1, _ => exact ⟨by simp [World.cell?, h], by simp [World.frozen?, h]⟩
    | 2, _ => exact ⟨by simp [World.cell?, h], by simp [World.frozen?, h]⟩
  have hS := AnyM.slices_Sort_int Try.sortI b 0 3 [x, y, z] w hH hlt (by simp)
  rw [sort3] at hS
  refine Calls.mono hS ?_
  rintro e w' ⟨rfl, n, os, rfl⟩
  refine ⟨rfl, grownBy_put' _ _, ?_⟩
  rw [heap_put' _ _ h]
  rfl
set_option maxRecDepth 100000 in
theorem blockFrom_any (b off c : Nat) (x y z : Int) (w : World) (h0 : w.cell? ⟨b, off, none⟩ = some (.int .i64 x)) (h1 : w.cell? ⟨b, off + 1, none⟩ = some (.int .i64 y)) (h2 : w.cell? ⟨b, off + 2, none⟩ = some (.int .i64 z)) :
    Calls Try.prog 146 #[.slice (some ⟨b, off, none⟩) 3 c] w (RV (bv (blk3 x y z)) w) := by
  obtain ⟨wx, hwx⟩ : ∃ wx, wx = (w.alloc (.cells #[.int .i64 0, .int .i64 0, .int .i64 0] 93)).alloc (.cells #[.int .i64 x, .int .i64 y, .int .i64 z] 93) := ⟨_, rfl⟩
  have hzx : wx.heap.size = w.heap.size + 1 + 1 := by rw [hwx]; simp
  have hbx : Below w.heap.size w wx := by rw [hwx]; exact ((Below.refl _ _).alloc (Nat.le_refl _) _).alloc (by simp) _
  have hh : wx.heap[w.heap.size + 1]? = some (.cells #[.int .i64 x, .int .i64 y, .int .i64 z] 93 (0, 0)) := by
    rw [hwx]
    have := World.alloc_heap_new (w.alloc (.cells #[.int .i64 0, .int .i64 0, .int .i64 0] 93)) (.cells #[.int .i64 x, .int .i64 y, .int .i64 z] 93)
    simpa using this
  have d0 : wx.heap[w.heap.size]? = some (.cells #[.int .i64 0, .int .i64 0, .int .i64 0] 93 (0, 0)) := by
    rw [hwx, Below.heap_alloc _ _ _ (by simp)]
    exact World.alloc_heap_new w _
  have HS := Lib.hid (sort3_any (w.heap.size + 1) x y z wx hh)
  have D0 := Lib.hid d0
  have HZX := Lib.hid hzx
  have HBX := Lib.hid hbx
  have HWX := Lib.hid hwx
  clear hh d0 hzx hbx hwx
  obtain ⟨r, hr⟩ : ∃ r, r = blk3 x y z := ⟨_, rfl⟩
  rw [← hr] at HS ⊢
  clear hr
  obtain ⟨ra, rb, rc⟩ := r
  have hat : ∀ W, (Instr.arrayAt 93 (.slice (some ⟨b, off, none⟩) 3 c)).run Try.prog W = .ok (.pointer (some ⟨b, off, none⟩)) W := fun W => by kernel_rfl
  have hblt : b < w.heap.size := by obtain ⟨ob, ho, _⟩ := cells_of_cell h0; exact (Array.getElem?_eq_some_iff.1 ho).1
  go_enter Try.func146, Try.ntmps146
  go_wp2_with fail
  rw [← HWX.out]
  refine HS.out.mono ?_
  rintro e w1 ⟨rfl, hg, hh⟩
  have hz := hg.size
  rw [HZX.out] at hz
  have hd := (hg.block w.heap.size (by rw [HZX.out]; omega) (by simp)).trans D0.out
  have hbw : Below w.heap.size w w1 := HBX.out.grown hg HBX.out.size (fun r e => by cases e; omega)
  have q0 : w1.cell? ⟨w.heap.size + 1, 0, none⟩ = some (.int .i64 ra) := by simp [World.cell?, hh]
  have q1 : w1.cell? ⟨w.heap.size + 1, 1, none⟩ = some (.int .i64 rb) := by simp [World.cell?, hh]
  have q2 : w1.cell? ⟨w.heap.size + 1, 2, none⟩ = some (.int .i64 rc) := by simp [World.cell?, hh]
  have e0 : w1.cell? ⟨w.heap.size, 0, none⟩ = some (.int .i64 0) := by simp [World.cell?, hd]
  have e1 : w1.cell? ⟨w.heap.size, 1, none⟩ = some (.int .i64 0) := by simp [World.cell?, hd]
  have e2 : w1.cell? ⟨w.heap.size, 2, none⟩ = some (.int .i64 0) := by simp [World.cell?, hd]
  have k0 : w1.frozen? ⟨w.heap.size, 0, none⟩ = false := by simp [World.frozen?, hd]
  have k1 : w1.frozen? ⟨w.heap.size, 1, none⟩ = false := by simp [World.frozen?, hd]
  have k2 : w1.frozen? ⟨w.heap.size, 2, none⟩ = false := by simp [World.frozen?, hd]
  clear hh hd hg
  go_wp2
  refine bodyPost_ret (v := bv ⟨ra, rb, rc⟩) (by simp [results, Try.results146, go_sem, bv, *]) rfl ⟨rfl, ?_⟩
  exact ((hbw.setCell (p := ⟨w.heap.size, 0, none⟩) (Nat.le_refl _) _).setCell (p := ⟨w.heap.size, 1, none⟩) (Nat.le_refl _) _).setCell (p := ⟨w.heap.size, 2, none⟩) (Nat.le_refl _) _
end Go.Proofs.Ytacfelgilphppaa

namespace Go.Proofs
open Go.Shelf
def Try.compI_ren : Go.Shelf.Ren := ⟨fun | 43 => 194 | n => n, fun | 22 => 26 | 23 => 2 | 3 => 3 | 4 => 4 | 0 => 0 | n => n, fun | n => n⟩
theorem Try.compI : Go.Proofs.SlLaysN.n43 Try.prog Try.compI_ren := {
  mixed := by kernel_rfl
  f43 := ⟨Try.f194.name, by decide, Try.func194.trans (congrArg some (by kernel_rfl))⟩
  t0 := Try.underlying0
  a0 := Try.isAgg0
  z0 := Try.sizeOf0
  v0 := Try.zeroValue0
  t3 := Try.underlying3
  a3 := Try.isAgg3
  z3 := Try.sizeOf3
  v3 := Try.zeroValue3
  t4 := Try.underlying4
  a4 := Try.isAgg4
  z4 := Try.sizeOf4
  v4 := Try.zeroValue4
  t22 := Try.underlying26
  a22 := Try.isAgg26
  z22 := Try.sizeOf26
  v22 := Try.zeroValue26
  t23 := Try.underlying2
  a23 := Try.isAgg2
  z23 := Try.sizeOf2
  v23 := Try.zeroValue2
  i23 := by kernel_rfl }
end Go.Proofs

namespace Go.Proofs.Ytacfelgilphppaa
open Go.RowKit Go.Maps Go.Sort Go.Shelf
theorem wpList_append_int3 {w : World} {ops : Array Oper} {rest : List Oper} {o : Oper} {a : Act} {Q : Exit → Act → World → Prop} (hgd : o.guard = none) (s x : Operand)
    (ho : o.op = .call { callee := .builtin .append, args := #[s, x], argTypes := #[26, 26] })
    (base : Nat) (v : Value) (zs : List Int) (hs : a.eval s = v) (hown : OwnJ w base v zs) (b0 c : Nat) (y1 y2 y3 : Int) (hx : a.eval x = .slice (some ⟨b0, 0, none⟩) 3 c)
    (c1 : w.cell? ⟨b0, 0, none⟩ = some (.int .i64 y1)) (c2 : w.cell? ⟨b0, 1, none⟩ = some (.int .i64 y2)) (c3 : w.cell? ⟨b0, 2, none⟩ = some (.int .i64 y3)) (hl : zs.length ≤ 3300000) (hbase : base ≤ w.heap.size)
    (h : ∀ (g cap : Nat) (w' : World), OwnJ w' base (.slice (some ⟨g, 0, none⟩) (zs.length + 3) cap) (zs ++ [y1, y2, y3]) → w.grownBy w' v.ownBlock → wpList Try.prog ops Q rest (a.put o.dst (.slice (some ⟨g, 0, none⟩) (zs.length + 3) cap)) w') : wpList Try.prog ops Q (o :: rest) a w := by
  obtain ⟨i0, hi, hz0, hz1, hz2⟩ := info_parts infoInt64
  refine wpList_append_own w hgd s x 26 ho base 2 i0 _ 1 8 Try.underlying26 hi hz0 hz1 hz2 rfl (by decide) v zs.length (zs.map (Value.int .i64)) hs hown ⟨b0, 0, none⟩ 3 c [.int .i64 y1, .int .i64 y2, .int .i64 y3] hx rfl ?_ ?_ (by unfold maxLen; omega) (by omega) hbase ?_
  · intro j u hj
    rw [addr_at, Nat.zero_add]
    match j, hj with
    | 0, hj => simp at hj; rw [← hj]; exact c1
    | 1, hj => simp at hj; rw [← hj]; exact c2
    | 2, hj => simp at hj; rw [← hj]; exact c3
    | j + 3, hj => simp at hj
  · intro u hu
    simp at hu
    rcases hu with rfl | rfl | rfl <;> rfl
  · intro v' w' hown' hg _
    obtain ⟨g, cap, rfl⟩ := row_some (k := zs.length + 2) hown'
    refine h g cap w' ?_ hg
    unfold OwnJ
    rw [List.length_append, List.map_append]
    exact hown'
theorem OwnJ.holds {w : World} {base g cap : Nat} {zs : List Int} (h : OwnJ w base (.slice (some ⟨g, 0, none⟩) zs.length cap) zs) : Holds (Value.int .i64) w g 0 zs.toArray ∧ g < w.heap.size ∧ base ≤ g ∧ zs.length ≤ cap ∧ ∀ o, w.frozen? ⟨g, o, none⟩ = false := by
  obtain ⟨_, h | ⟨g', cap', cur, e, hb, hcur, hn, hc, hsz, hx⟩⟩ := h
  · simp at h
  · simp at e
    obtain ⟨rfl, rfl⟩ := e
    refine ⟨fun j hj => ?_, (Array.getElem?_eq_some_iff.1 hcur).1, hb, hn, fun o => by simp [World.frozen?, hcur]⟩
    have hj' : j < zs.length := by simpa using hj
    have e : (zs.map (Value.int .i64))[j]? = some (.int .i64 zs[j]) := by simp [hj']
    rw [← hx, List.getElem?_take_of_lt (by omega)] at e
    rw [Nat.zero_add]
    refine ⟨?_, by simp [World.frozen?, hcur]⟩
    rw [getElem!_pos zs.toArray j hj]
    simp [World.cell?, hcur]
    simpa using e
/-- Returns a new list of integers. -/
def RZ (zs : List Int) (w : World) (e : Ending) (w' : World) : Prop := ∃ u, e = .returned u ∧ ResI w' w.heap.size w'.heap.size u zs ∧ Below w.heap.size w w'
set_option maxRecDepth 100000 in
set_option maxHeartbeats 2000000 in
theorem pointsIn_any (s : Value) (bs : List Blk) (w : World) (h : SB w s bs) : Calls Try.prog 129 #[s] w (RZ (Lib.compact ((ptsAll bs).mergeSort fun x y => decide (x ≤ y))) w) := by
  have hs := h.slice
  have hl := h.2.1
  have HSB := Lib.hid h
  clear h
  obtain ⟨a, c, rfl⟩ := hs
  go_enter Try.func129, Try.ntmps129
  go_wp2_with fail
  go_loopw [3, 8] (fun o i wr => ∃ k : Nat, k ≤ bs.length ∧ i = .int .i64 k ∧ Below w.heap.size w wr ∧ OwnJ wr w.heap.size o (ptsAll (bs.take k)) ∧ ∃ a n c, o = .slice a n c) (fun _ i _ => bs.length - (intOf i).toNat)
  case atStart => exact ⟨0, Nat.zero_le _, rfl, Below.refl _ _, OwnJ.nil _ _, _, _, _, rfl⟩
  case round =>
    obtain ⟨k, hk, rfl, hBr, hO, hform⟩ := hrel
    have hSl := hBr.size
    by_cases hkl : k < bs.length
    · rcases HSB.out.2.2 with ⟨_, _, _, hnil⟩ | ⟨b, off, cap, hval, hblt, hbl⟩
      · rw [hnil] at hkl; simp at hkl
      · simp at hval
        obtain ⟨rfl, rfl⟩ := hval
        obtain ⟨x, hx, ex, x1, x2, x3⟩ := blks_at (hbl.below hBr hblt) hkl
        have hlc : (ptsAll (bs.take k)).length ≤ 3300000 := by rw [ptsAll_len]; simp; omega
        have hcl : ptsAll (bs.take (k + 1)) = ptsAll (bs.take k) ++ [x.a, x.b, x.c] := by
          have e : bs[k] = x := by
            rw [List.getElem?_eq_getElem hkl] at ex
            simpa using ex
          rw [take_next hkl, e]
          simp [ptsAll]
        have HCL := Lib.hid hcl
        obtain ⟨p, q, r⟩ := x
        dsimp only at x1 x2 x3 HCL
        clear hbl hx ex hcl
        obtain ⟨a3, n3, c3, rfl⟩ := hform
        have HO := Lib.hid hO
        have hrow := HO.out.row
        have HR := Lib.hid hrow
        have HB := Lib.hid hBr
        clear hO hrow hBr
        go_wp2_with (at_builtin; refine wpList_append_int3 rfl _ _ rfl w.heap.size _ (ptsAll (bs.take k)) rfl (HO.out.below ((Below.refl _ _).alloc (Nat.le_refl _) _) (Nat.le_refl _)) _ _ p q r rfl (by simp [go_sem]) (by simp [go_sem]) (by simp [go_sem]) (by omega) (by simp; omega) ?_; intro g' cap' w4 hO4 hg4)
        have hgo : wr.grownBy w4 (Value.slice a3 n3 c3).ownBlock := ⟨hg4.os, hg4.tape, hg4.output, by have := hg4.size; simp at this; omega, fun i hi hne => by
          rw [hg4.block i (by simp; omega) hne, Below.heap_alloc _ _ _ hi]⟩
        clear hg4
        go_roundw
        case rel => exact ⟨k + 1, by omega, by go_num, HB.out.grown hgo hSl (fun j e => HR.out j e), by rw [HCL.out]; exact hO4, _, _, _, rfl⟩
        case measure => simp [intOf]; omega
    · have e : k = bs.length := by omega
      subst e
      rw [List.take_length] at hO
      have hlc : (ptsAll bs).length ≤ 3300000 := by rw [ptsAll_len]; omega
      obtain ⟨zs, hzs⟩ : ∃ zs, zs = ptsAll bs := ⟨_, rfl⟩
      rw [← hzs] at hO hlc
      have HZS := Lib.hid hzs
      clear hzs hform HSB
      have HB := Lib.hid hBr
      clear hBr
      rcases hO.2 with ⟨rfl, h0⟩ | ⟨g, cap, cur, rfl, _⟩
      · have e0 : zs = [] := List.length_eq_zero_iff.1 h0
        subst e0
        go_wp2_with fail
        refine (AnyM.slices_Sort_int_none Try.sortI _ _ _).mono ?_
        rintro e w2 ⟨rfl, rfl⟩
        go_wp2_with fail
        refine (AnyG.slices_Compact_int_empty Try.compI _ _ _).mono ?_
        rintro e w2 ⟨rfl, rfl⟩
        go_wp2
        go_ret
        exact ⟨_, rfl, .inl ⟨by rw [← HZS.out]; simp [Lib.compact, Lib.compactUpTo], _, _, rfl⟩, HB.out⟩
      · obtain ⟨hH, hlt, hbase, hcap, hfz⟩ := hO.holds
        obtain ⟨ss, hss⟩ : ∃ ss, ss = zs.mergeSort fun x y => decide (x ≤ y) := ⟨_, rfl⟩
        have hsl : ss.length = zs.length := by rw [hss, List.length_mergeSort]
        have hcon := AnyM.slices_Sort_int Try.sortI g 0 cap zs wr hH hlt (by omega)
        rw [← hss] at hcon
        have HC := Lib.hid hcon
        have HH := Lib.hid hH
        have HFZ := Lib.hid hfz
        have HSS := Lib.hid hss
        have HSL := Lib.hid hsl
        clear hss hcon hH hfz hO hsl
        go_wp2_with fail
        refine HC.out.mono ?_
        rintro e w2 ⟨rfl, n2, os2, hw2⟩
        have hH1 : Holds (Value.int .i64) (putRow (Value.int .i64) (Sort.ahead wr n2) g 0 ss.toArray) g 0 ss.toArray := holds_putRow _ _ _ _ zs.toArray _ HH.out (by simpa using HSL.out)
        have hb : (grow (putRow (Value.int .i64) (Sort.ahead wr n2) g 0 ss.toArray) os2).heap[g]? = (putRow (Value.int .i64) (Sort.ahead wr n2) g 0 ss.toArray).heap[g]? := heap_grow_old _ _ (by simpa using hlt)
        rw [← hw2] at hb
        have hH2 : Holds (Value.int .i64) w2 g 0 ss.toArray := fun j hj => by
          obtain ⟨p1, p2⟩ := hH1 j hj
          exact ⟨(World.cell?_of_block (a := ⟨g, 0 + j, none⟩) hb).trans p1, (World.frozen?_of_block (a := ⟨g, 0 + j, none⟩) hb).trans p2⟩
        have hg2 : wr.grownBy w2 (some g) := by rw [hw2]; exact grownBy_put' _ _
        have hfz2 : ∀ o, w2.frozen? ⟨g, o, none⟩ = false := fun o => by
          rw [World.frozen?_of_block (a := ⟨g, o, none⟩) hb, frozen?_putRow]
          exact HFZ.out o
        have hlt2 : g < w2.heap.size := Nat.lt_of_lt_of_le hlt hg2.size
        have hcc := AnyG.slices_Compact_int Try.compI g 0 cap ss w2 hH2 (by have := HSL.out; omega) (by have := HSL.out; omega)
        rw [HSL.out] at hcc
        have HC2 := Lib.hid hcc
        have HH2 := Lib.hid hH2
        have HFZ2 := Lib.hid hfz2
        have HG2 := Lib.hid hg2
        clear hw2 hH1 hH2 hg2 hfz2 hcc HC HH HFZ hb
        go_wp2_with fail
        refine HC2.out.mono ?_
        rintro e w3 ⟨rfl, q3, hw3⟩
        have hcl : (Lib.compact ss).length ≤ ss.length := by
          unfold Lib.compact Lib.compactUpTo
          rw [List.length_map]
          exact Nat.le_trans (List.length_filter_le _ _) (by simp)
        obtain ⟨F, hF⟩ : ∃ F, F = (Lib.compact ss ++ List.replicate (zs.length - (Lib.compact ss).length) 0).toArray := ⟨_, rfl⟩
        rw [← hF] at hw3
        have hFs : F.size = ss.toArray.size := by
          have := HSL.out
          rw [hF]
          simp
          omega
        have hH3 : Holds (Value.int .i64) w3 g 0 F := by
          rw [hw3]
          exact holds_putRow _ _ _ _ ss.toArray _ HH2.out hFs
        have hg3 : w2.grownBy w3 (some g) := by
          have := grownBy_put' (Value.int .i64) (w := w2) (g := g) (n := q3) (os := #[]) F
          rw [grow_empty] at this
          rw [hw3]
          exact this
        have hlt3 : g < w3.heap.size := Nat.lt_of_lt_of_le hlt2 hg3.size
        have hown : OwnAtI w3 g (Lib.compact ss) := ⟨hlt3, fun k hk => by
          have hkF : k < F.size := by rw [hFs]; simp; omega
          rw [(hH3 k hkF).1, getElem!_pos F k hkF]
          subst hF
          simp [List.getElem_append_left hk, hk], fun o => by
          rw [hw3, frozen?_putRow]
          exact HFZ2.out o⟩
        have hBF : Below w.heap.size w w3 := (HB.out.grown HG2.out hSl (fun r e => by cases e; exact hbase)).grown hg3 (Nat.le_trans hSl HG2.out.size) (fun r e => by cases e; exact hbase)
        have HOWN := Lib.hid hown
        have HBF := Lib.hid hBF
        clear hw3 hF hH3 hg3 hown hBF hcl HH2 HFZ2 HG2 HC2 hFs
        go_wp2
        go_ret
        have ee : Lib.compact ((ptsAll bs).mergeSort fun x y => decide (x ≤ y)) = Lib.compact ss := by rw [HSS.out, HZS.out]
        rw [ee]
        exact ⟨_, rfl, .inr ⟨g, cap, rfl, hbase, hlt3, HOWN.out⟩, HBF.out⟩
set_option maxRecDepth 100000 in
set_option maxHeartbeats 1000000 in
theorem PointsOfTrade_any (v : Int) (so : Value) (bo : List Blk) (si : Value) (bi : List Blk) (w : World) (h : TB w so bo si bi) :
    Calls Try.prog 68 #[.agg #[.int .i64 v, so, si]] w (fun e w' => ∃ u, e = .returned (.tuple #[u, .int .i64 (ptsF v bo bi).2]) ∧ ResI w' w.heap.size w'.heap.size u (ptsF v bo bi).1 ∧ Below w.heap.size w w') := by
  have hs := h.1.slice
  have ht := h.2.slice
  have HI := Lib.hid fun W (hb : Below w.heap.size w W) => IsTrade_any v so bo si bi W (h.below hb (Nat.le_refl _))
  have HP := Lib.hid fun W (hb : Below w.heap.size w W) => pointsIn_any so bo W (h.1.below hb (Nat.le_refl _))
  clear h
  obtain ⟨a, c, rfl⟩ := hs
  obtain ⟨a', c', rfl⟩ := ht
  cases hi : trdB v bo bi with
  | false =>
    have HV := Lib.hid (show ptsF v bo bi = ([], 1) by simp only [ptsF, hi]; rfl)
    rw [hi] at HI
    clear hi HP
    go_enter Try.func68, Try.ntmps68
    go_wp2_with fail
    refine (HI.out _ ((Below.refl _ _).alloc (Nat.le_refl _) _)).mono ?_
    rintro e w1 ⟨rfl, hb1⟩
    have hB1 : Below w.heap.size w w1 := ((Below.refl _ _).alloc (Nat.le_refl _) _).trans (hb1.mono (by simp))
    clear hb1
    go_wp2
    go_ret2
    rw [HV.out]
    exact ⟨_, rfl, .inl ⟨rfl, _, _, rfl⟩, hB1⟩
  | true =>
    have hg : ∀ x ∈ bo, goodB v x = true := by
      simp only [trdB, Bool.and_eq_true] at hi
      exact sys_good hi.1.1
    have HV := Lib.hid (show ptsF v bo bi = (ptsT v bo, 0) by simp only [ptsF, hi]; rfl)
    rw [pts_same hg] at HP
    rw [hi] at HI
    clear hi hg
    go_enter Try.func68, Try.ntmps68
    go_wp2_with fail
    refine (HI.out _ ((Below.refl _ _).alloc (Nat.le_refl _) _)).mono ?_
    rintro e w1 ⟨rfl, hb1⟩
    have hB1 : Below w.heap.size w w1 := ((Below.refl _ _).alloc (Nat.le_refl _) _).trans (hb1.mono (by simp))
    have q1 := cell_new hb1 1 rfl
    have HB1 := Lib.hid hB1
    clear hb1 hB1
    go_wp2_with fail
    refine (HP.out _ HB1.out).mono ?_
    rintro e w2 ⟨u, rfl, hr2, hb2⟩
    have HR := Lib.hid (hr2.wide (lo' := w.heap.size) HB1.out.size (Nat.le_refl _))
    have HB2 := Lib.hid (HB1.out.trans (hb2.mono HB1.out.size))
    clear hr2 hb2
    go_wp2
    go_ret2
    rw [HV.out]
    exact ⟨_, rfl, HR.out, HB2.out⟩
end Go.Proofs.Ytacfelgilphppaa

namespace Go.Proofs.Ytacfelgilphppaa
open Go.RowKit Go.Maps
theorem ptsT_succ (k : Nat) (bs : List Blk) : ptsT ((k + 1 : Nat) : Int) bs = ptsT (k : Int) bs ++ if bs.any (fun x => hasB x (k : Int)) then [(k : Int)] else [] := by
  simp only [ptsT, Int.toNat_natCast, List.range_succ, List.map_append, List.filter_append, List.map_cons, List.map_nil]
  congr 1
  cases h : bs.any (fun x => hasB x (k : Int)) <;> simp [h]
theorem ptsT_toNat (v : Int) (bs : List Blk) (h : 0 ≤ v) : ptsT ((v.toNat : Nat) : Int) bs = ptsT v bs := by
  rw [Int.toNat_of_nonneg h]
set_option maxRecDepth 100000 in
set_option maxHeartbeats 4000000 in
theorem specPointsOfTrade_any (v : Int) (so : Value) (bo : List Blk) (si : Value) (bi : List Blk) (w : World) (h : TB w so bo si bi) :
    Calls Try.prog 67 #[.agg #[.int .i64 v, so, si]] w (RJ (ptsF v bo bi) w) := by
  have hs := h.1.slice
  have ht := h.2.slice
  have hl := h.1.2.1
  have HI := Lib.hid fun W (hb : Below w.heap.size w W) => l04Is_any v so bo si bi W (h.below hb (Nat.le_refl _))
  have HSB := Lib.hid h.1
  clear h
  obtain ⟨a, c, rfl⟩ := hs
  obtain ⟨a', c', rfl⟩ := ht
  cases hi : trdB v bo bi with
  | false =>
    have HV := Lib.hid (show ptsF v bo bi = ([], 1) by simp only [ptsF, hi]; rfl)
    rw [hi] at HI
    clear hi HSB
    go_enter Try.func67, Try.ntmps67
    go_wp2_with fail
    refine (HI.out _ ((Below.refl _ _).alloc (Nat.le_refl _) _)).mono ?_
    rintro e w1 ⟨rfl, hb1⟩
    have hB1 : Below w.heap.size w w1 := ((Below.refl _ _).alloc (Nat.le_refl _) _).trans (hb1.mono (by simp))
    clear hb1
    go_wp2
    go_ret2
    rw [HV.out]
    exact ⟨_, rfl, OwnJ.nil _ _, hB1⟩
  | true =>
    have hsys : isSysImpl v bo = true := by
      simp only [trdB, Bool.and_eq_true] at hi
      exact hi.1.1
    obtain ⟨hv3, hv15, hb35⟩ := sys_size hsys
    have HV := Lib.hid (show ptsF v bo bi = (ptsT v bo, 0) by simp only [ptsF, hi]; rfl)
    rw [hi] at HI
    clear hi hsys
    go_enter Try.func67, Try.ntmps67
    go_wp2_with fail
    refine (HI.out _ ((Below.refl _ _).alloc (Nat.le_refl _) _)).mono ?_
    rintro e w1 ⟨rfl, hb1⟩
    have q0 := cell_new hb1 0 rfl
    have q1 := cell_new hb1 1 rfl
    have hlt1 := lt_new hb1
    have hbw := below_new hb1
    clear hb1
    go_wp2_with fail
    have ho0 := OwnJ.new0 w1 (base := w.heap.size + 1) (by omega)
    have p0 := cell_past (ob := .cells #[] 2) q0 (by show w.heap.size < _; omega)
    have p1 := cell_past (ob := .cells #[] 2) q1 (by show w.heap.size < _; omega)
    obtain ⟨w2, hw2⟩ : ∃ w2, w1.alloc (.cells #[] 2) = w2 := ⟨_, rfl⟩
    have hz2 : w2.heap.size = w1.heap.size + 1 := by rw [← hw2]; simp
    have hB0 : Below w.heap.size w w2 := by rw [← hw2]; exact hbw.alloc hbw.size _
    rw [hw2] at ho0 p0 p1 ⊢
    have HO0 := Lib.hid ho0
    have HB0 := Lib.hid hB0
    clear hw2 ho0 q0 q1 hB0
    go_loopw [4, 5] (fun o i wr => ∃ k : Nat, (k : Int) ≤ v ∧ i = .int .i64 k ∧ Below (w.heap.size + 1) w2 wr ∧ OwnJ wr (w.heap.size + 1) o (ptsT (k : Int) bo) ∧ ∃ a n c, o = .slice a n c) (fun _ i _ => (v - intOf i).toNat)
    case atStart => exact ⟨0, by omega, rfl, Below.refl _ _, HO0.out, _, _, _, rfl⟩
    case round =>
      obtain ⟨k, hk, rfl, hB, hO, hform⟩ := hrel
      have hz := hB.size
      have r0 : wr.cell? ⟨w.heap.size, 0, none⟩ = some (.int .i64 v) := by rw [hB.cell (by simp)]; exact p0
      have hBw : Below w.heap.size w wr := HB0.out.trans (hB.mono (by omega))
      obtain ⟨a3, n3, c3, rfl⟩ := hform
      have HO := Lib.hid hO
      have HBW := Lib.hid hBw
      have HB := Lib.hid hB
      clear hO hBw hB
      by_cases hkl : (k : Int) < v
      · have hk15 : k ≤ 15 := by omega
        go_wp2_with fail
        obtain ⟨W0, rfl⟩ : ∃ W0, W0 = wr := ⟨_, rfl⟩
        go_loopw [6, 7] (fun o i wr => ∃ j : Nat, j ≤ bo.length ∧ i = .int .i64 j ∧ o = .bool ((bo.take j).any fun x => hasB x (k : Int)) ∧ Below W0.heap.size W0 wr) (fun _ i _ => bo.length - (intOf i).toNat)
        case atStart => exact ⟨0, Nat.zero_le _, rfl, by simp, Below.refl _ _⟩
        case round =>
          obtain ⟨j, hj, rfl, rfl, hB2⟩ := hrel
          have hz3 := hB2.size
          have s0 : wr.cell? ⟨w.heap.size, 0, none⟩ = some (.int .i64 v) := by rw [hB2.cell (by simp; omega)]; exact r0
          have s1 : wr.cell? ⟨w.heap.size, 1, none⟩ = some (.slice a bo.length c) := by rw [hB2.cell (by simp; omega), HB.out.cell (by simp)]; exact p1
          by_cases hjl : j < bo.length
          · rcases HSB.out.2.2 with ⟨_, _, _, hnil⟩ | ⟨b, off, cap, hval, hblt, hbl⟩
            · rw [hnil] at hjl; simp at hjl
            · simp at hval
              obtain ⟨rfl, rfl⟩ := hval
              have hBq := HBW.out.trans (hB2.mono HBW.out.size)
              obtain ⟨x, hx, ex, x1, x2, x3⟩ := blks_at (hbl.below hBq hblt) hjl
              have hnx : (bo.take (j + 1)).any (fun x => hasB x (k : Int)) = ((bo.take j).any (fun x => hasB x (k : Int)) || hasB x (k : Int)) := by
                have e : bo[j] = x := by
                  rw [List.getElem?_eq_getElem hjl] at ex
                  simpa using ex
                rw [take_next hjl, e, List.any_append]
                simp
              have HNX := Lib.hid hnx
              have hcw := fun W => l01With_any x (k : Int) W
              have g0 : (0 : Int) ≤ (j : Int) := by omega
              have g1 : (j : Int) < (bo.length : Int) := by omega
              obtain ⟨xa, xb, xc⟩ := x
              unfold bv at hcw
              dsimp only at hcw x1 x2 x3
              have HCW := Lib.hid hcw
              clear hbl hx ex hnx hcw hBq
              cases hin : (bo.take j).any (fun x => hasB x (k : Int)) with
              | true =>
                rw [hin, Bool.true_or] at HNX
                clear hin
                go_wp2
                go_roundw
                case rel => exact ⟨j + 1, by omega, by go_num, by rw [HNX.out], hB2⟩
                case measure => simp [intOf]; omega
              | false =>
                rw [hin, Bool.false_or] at HNX
                clear hin
                go_wp2_with fail
                refine (HCW.out _).mono ?_
                rintro e w4 ⟨rfl, hb4⟩
                have hB4 := hB2.trans (hb4.mono hz3)
                clear hb4
                go_wp2
                go_roundw
                case rel => exact ⟨j + 1, by omega, by go_num, by rw [HNX.out], hB4⟩
                case measure => simp [intOf]; omega
          · have e : j = bo.length := by omega
            subst e
            rw [List.take_length]
            have HS := Lib.hid (ptsT_succ k bo)
            have HO1 := Lib.hid (HO.out.below hB2 (Nat.le_refl _))
            have HBo := Lib.hid (HB.out.trans (hB2.mono (show w.heap.size + 1 ≤ W0.heap.size by omega)))
            have hdl : (ptsT (k : Int) bo).length ≤ 15 := ptsT_len _ _ (by omega)
            cases hin : bo.any (fun x => hasB x (k : Int)) with
            | true =>
              rw [hin, if_pos rfl] at HS
              clear hin
              go_wp2_with (at_builtin; refine wpList_append_int rfl _ _ rfl (w.heap.size + 1) _ (ptsT (k : Int) bo) rfl (HO1.out.below ((Below.refl _ _).alloc (Nat.le_refl _) _) (Nat.le_refl _)) _ _ (k : Int) rfl (by simp [go_sem]) (by omega) (by simp; omega) ?_; intro g' cap' w4 hO4 hg4)
              have hrow := HO1.out.row
              have hgo : wr.grownBy w4 (Value.slice a3 n3 c3).ownBlock := ⟨hg4.os, hg4.tape, hg4.output, by have := hg4.size; simp at this; omega, fun i hi hne => by
                rw [hg4.block i (by simp; omega) hne, Below.heap_alloc _ _ _ hi]⟩
              clear hg4
              go_roundw
              case rel => exact ⟨k + 1, by omega, by go_num, HBo.out.grown hgo (by omega) (fun j e => hrow j e), by rw [HS.out]; exact hO4, _, _, _, rfl⟩
              case measure => simp [intOf]; omega
            | false =>
              rw [hin, if_neg (by decide), List.append_nil] at HS
              clear hin
              go_wp2
              go_roundw
              case rel => exact ⟨k + 1, by omega, by go_num, HBo.out, by rw [HS.out]; exact HO1.out, _, _, _, rfl⟩
              case measure => simp [intOf]; omega
      · go_wp2
        go_ret2
        have e : (k : Int) = v := by omega
        rw [HV.out]
        refine ⟨_, rfl, ?_, HBW.out⟩
        have := ownsRow_base HO.out (show w.heap.size ≤ w.heap.size + 1 by omega)
        rw [e] at this
        exact this
theorem specPointsOfTrade_res (v : Int) (so : Value) (bo : List Blk) (si : Value) (bi : List Blk) (w : World) (h : TB w so bo si bi) :
    Calls Try.prog 67 #[.agg #[.int .i64 v, so, si]] w (fun e w' => ∃ u, e = .returned (.tuple #[u, .int .i64 (ptsF v bo bi).2]) ∧ ResI w' w.heap.size w'.heap.size u (ptsF v bo bi).1 ∧ Below w.heap.size w w') := by
  have hl : (ptsF v bo bi).1.length ≤ 1100000 := by
    unfold ptsF
    split
    · rename_i h
      simp only [trdB, Bool.and_eq_true] at h
      have := ptsT_len v bo (sys_size h.1.1).2.1
      simp only
      omega
    · simp
  exact (specPointsOfTrade_any v so bo si bi w h).mono fun _ _ ⟨u, he, ho, hb⟩ => ⟨u, he, ho.res hl, hb⟩
theorem ptsF_len (v : Int) (bo bi : List Blk) : (ptsF v bo bi).1.length ≤ 15 := by
  unfold ptsF
  split
  · rename_i h
    simp only [trdB, Bool.and_eq_true] at h
    exact ptsT_len v bo (sys_size h.1.1).2.1
  · simp
end Go.Proofs.Ytacfelgilphppaa

namespace Go.Proofs.Ytacfelgilphppaa
open Go.ChangeShapes Go.WideShapes Go.ChangeAt Go.RowKit Go.Deep Go.Joins
theorem ownKnobs : ownKnob Try.prog.godebug = none := by kernel_rfl
section
variable {H : Type} {enc : TypeId × Value → H} {W : World} {base : Nat} {held : Bool}
theorem arrCells : Try.prog.cellsOf 92 = 3 := by kernel_rfl
set_option maxRecDepth 100000 in
theorem open_arr3 {fuel : Nat} {cs : List Value} {x : DataW H × List MemPlace} (h : DataW.trod enc Try.prog W base (fun _ => true) held fuel 92 cs = some x) :
    ∃ a b c : Int, cs = [.int .i64 a, .int .i64 b, .int .i64 c] ∧ (Lit.int .i64 a).wf = true ∧ (Lit.int .i64 b).wf = true ∧ (Lit.int .i64 c).wf = true := by
  obtain ⟨xs, m, rfl, rfl, hl, hx, hat⟩ := DataW.trod_array Try.underlying92 h
  rw [arrCells] at hl
  match cs, hl with
  | [c0, c1, c2], _ =>
    match xs, hx with
    | [x0, x1, x2], _ =>
      have h0 := hat 0 (by omega)
      have h1 := hat 1 (by omega)
      have h2 := hat 2 (by omega)
      rw [int64Cells] at h0 h1 h2
      simp at h0 h1 h2
      obtain ⟨a, ha, _, wa⟩ := DataW.trod_int Try.underlying2 h0
      obtain ⟨b, hb, _, wb⟩ := DataW.trod_int Try.underlying2 h1
      obtain ⟨c, hc, _, wc⟩ := DataW.trod_int Try.underlying2 h2
      simp at ha hb hc
      exact ⟨a, b, c, by rw [ha, hb, hc], wa, wb, wc⟩
theorem add_at (b off i : Nat) : (⟨b, off, none⟩ : Addr).add i = ⟨b, off + i, none⟩ := by
  unfold Addr.add
  split
  · subst_vars; rfl
  · rfl
set_option maxRecDepth 100000 in
theorem open_arrs {fuel : Nat} {s : Value} {x : DataW H × List MemPlace} (h : DataW.trod enc Try.prog W base (fun _ => true) held fuel 22 [s] = some x) : ∃ bs, InB W s bs := by
  rcases open_slice Try.underlying22 h with ⟨hcs, _⟩ | ⟨a, len, cap, m, n, D, Pl, hcs, hb, hl, hm, hmm, hx, hi⟩
  · simp at hcs
    exact ⟨[], by simp, by simp, .inl ⟨none, 0, hcs, rfl⟩⟩
  · simp at hcs
    subst hcs
    simp at hmm
    subst hmm
    have hm' : m ≤ 9223372036854775807 := by unfold maxLen at hm; exact hm
    by_cases h0 : len = 0
    · subst h0
      exact ⟨[], by simp, by simp, .inl ⟨_, _, rfl, rfl⟩⟩
    · have cell : ∀ i, i < m → ∃ y : Blk, WFB y ∧ ∀ j (v : Value), [Value.int .i64 y.a, Value.int .i64 y.b, Value.int .i64 y.c][j]? = some v → W.cell? (a.add (i * 3 + j)) = some v := fun i him => by
        obtain ⟨cs', hc, ht⟩ := hi i him
        obtain ⟨p, q, r, rfl, wp, wq, wr⟩ := open_arr3 ht
        rw [arrCells] at hc
        obtain ⟨_, _, hat⟩ := World.cells?_some hc
        refine ⟨⟨p, q, r⟩, ⟨wp, wq, wr⟩, fun j v hv => ?_⟩
        have hj : j < 3 := by
          have := (List.getElem?_eq_some_iff.1 hv).1
          simpa using this
        rw [← Go.Deep.add_add, hat j hj]
        exact hv
      obtain ⟨F, hF⟩ := choose_lt (α := Blk) cell
      obtain ⟨b, off, spot⟩ := a
      have hc0 := (hF 0 (by omega)).2 0 _ rfl
      have hspot : spot = none := by simpa [Addr.add] using World.cell?_spot hc0
      subst hspot
      refine ⟨(List.range len).map F, ?_, by simp; omega, .inr ⟨b, off, m, by simp, ?_, ?_⟩⟩
      · intro y hy
        obtain ⟨i, hi', rfl⟩ := List.mem_map.1 hy
        exact (hF i (by have := List.mem_range.1 hi'; omega)).1
      · exact block_lt_of_cell hc0
      · intro k hk
        simp at hk
        have e : ((List.range len).map F)[k]?.getD default = F k := by simp [hk]
        rw [e]
        have := (hF k (by omega)).2
        refine ⟨?_, ?_, ?_⟩
        · have h0 := this 0 _ rfl
          rw [add_at] at h0
          exact h0
        · have h1 := this 1 _ rfl
          rw [add_at, ← Nat.add_assoc] at h1
          exact h1
        · have h2 := this 2 _ rfl
          rw [add_at, ← Nat.add_assoc] at h2
          exact h2
theorem isSys : ∃ f0 f1 : Field, Try.prog.underlying 24 = some (.struct #[f0, f1]) ∧ f0.type = 2 ∧ f1.type = 22 ∧ oneCellFields Try.prog #[f0, f1] = true :=
  ⟨_, _, Try.underlying24, rfl, rfl, by kernel_rfl⟩
theorem sysCells : Try.prog.cellsOf 24 = 2 := by kernel_rfl
set_option maxRecDepth 100000 in
theorem open_system {r : Reach} {b0 : Nat} {v : Value} {d : DataW H} {p : List MemPlace} (hv : Value.okWide Try.prog W r b0 24 v) (h : DataW.Trod enc Try.prog W base (fun _ => true) held 24 v d p) :
    ∃ (n : Int) (s : Value) (bs : List Blk), v = .agg #[.int .i64 n, s] ∧ WF n ∧ InB W s bs := by
  obtain ⟨f0, f1, hu, e0, e1, hone⟩ := isSys
  obtain ⟨v0, v1, y0, y1, n, rfl, _, _, h0, h1⟩ := open_agg2 hu hone sysCells hv h
  rw [e0] at h0
  rw [e1] at h1
  obtain ⟨k, hk, _, wk⟩ := DataW.trod_int Try.underlying2 h0
  simp at hk
  subst hk
  obtain ⟨bs, hbs⟩ := open_arrs h1
  exact ⟨k, v1, bs, rfl, wk, hbs⟩
end
end Go.Proofs.Ytacfelgilphppaa

namespace Go.Proofs.Ytacfelgilphppaa
open Go.ChangeShapes Go.WideShapes Go.ChangeAt Go.RowKit Go.Deep Go.Joins
/-- The value is a slice of just these integers, however many. -/
def InZ (w : World) (s : Value) (zs : List Int) : Prop :=
  (∀ z ∈ zs, WF z) ∧ zs.length ≤ 9223372036854775807 ∧ ((∃ a c, s = .slice a 0 c ∧ zs = []) ∨ ∃ b off cap, s = .slice (some ⟨b, off, none⟩) zs.length cap ∧ b < w.heap.size ∧ Ints w b off zs)
theorem InZ.slice {w : World} {s : Value} {zs : List Int} (h : InZ w s zs) : ∃ a c, s = .slice a zs.length c := by
  rcases h.2.2 with ⟨a, c, rfl, rfl⟩ | ⟨b, off, cap, rfl, _⟩ <;> exact ⟨_, _, rfl⟩
theorem InZ.ib {w : World} {s : Value} {zs : List Int} (h : InZ w s zs) (hl : zs.length ≤ 1048576) : IB w s zs := ⟨by omega, h.2.2⟩
/-- The value is a slice of just these rows, however many. -/
def InSS (w : World) (s : Value) (n : Nat) (F : Nat → List Int) : Prop :=
  n ≤ 9223372036854775807 ∧ ((n = 0 ∧ ∃ a c, s = .slice a 0 c) ∨ ∃ b off cap, s = .slice (some ⟨b, off, none⟩) n cap ∧ b < w.heap.size ∧ ∀ k, k < n → ∃ u, w.cell? ⟨b, off + k, none⟩ = some u ∧ InZ w u (F k))
theorem okWide_array {P : Program} {w : World} {r : Reach} {base : Nat} {t : TypeId} {v : Value} {n : Nat} {e : TypeId} (ht : P.underlying t = some (.array n e)) (h : Value.okWide P w r base t v) : ∃ cs, v = .agg cs ∧ cs.size = P.cellsOf t := by
  simp only [Value.okWide, ht] at h
  obtain ⟨cs, h1, h2, _⟩ := h
  exact ⟨cs, h1, h2⟩
section
variable {H : Type} {enc : TypeId × Value → H} {W : World} {base : Nat} {held : Bool}
set_option maxRecDepth 100000 in
theorem open_zs {fuel : Nat} {s : Value} {x : DataW H × List MemPlace} (h : DataW.trod enc Try.prog W base (fun _ => true) held fuel 26 [s] = some x) : ∃ zs, InZ W s zs := by
  rcases open_slice1 Try.underlying26 int64Cells h with ⟨hcs, _⟩ | ⟨a, len, cap, m, n, V, D, Pl, hcs, hb, hl, hm, hmm, hx, hi⟩
  · simp at hcs
    exact ⟨[], by simp, by simp, .inl ⟨none, 0, hcs, rfl⟩⟩
  · simp at hcs
    subst hcs
    simp at hmm
    subst hmm
    have hm' : m ≤ 9223372036854775807 := by unfold maxLen at hm; exact hm
    by_cases h0 : len = 0
    · subst h0
      exact ⟨[], by simp, by simp, .inl ⟨_, _, rfl, rfl⟩⟩
    · have cell : ∀ i, i < m → ∃ y : Int, WF y ∧ W.cell? (a.add i) = some (.int .i64 y) := fun i him => by
        obtain ⟨hc, ht⟩ := hi i him
        obtain ⟨k, hk, _, wk⟩ := DataW.trod_int Try.underlying2 ht
        simp at hk
        exact ⟨k, wk, by rw [hc, hk]⟩
      obtain ⟨F, hF⟩ := choose_lt (α := Int) cell
      obtain ⟨b, off, spot⟩ := a
      have hc0 := (hF 0 (by omega)).2
      have hspot : spot = none := by simpa [Addr.add] using World.cell?_spot hc0
      subst hspot
      refine ⟨(List.range len).map F, ?_, by simp; omega, .inr ⟨b, off, m, by simp, ?_, ?_⟩⟩
      · intro y hy
        obtain ⟨i, hi', rfl⟩ := List.mem_map.1 hy
        exact (hF i (by have := List.mem_range.1 hi'; omega)).1
      · exact block_lt_of_cell hc0
      · intro k hk
        simp at hk
        have e : ((List.range len).map F)[k]?.getD 0 = F k := by simp [hk]
        rw [e]
        have h1 := (hF k (by omega)).2
        rw [add_at] at h1
        exact h1
set_option maxRecDepth 100000 in
theorem open_ints64 {r : Reach} {b0 : Nat} {v : Value} {d : DataW H} {p : List MemPlace} (hv : Value.okWide Try.prog W r b0 26 v) (h : DataW.Trod enc Try.prog W base (fun _ => true) held 26 v d p) : ∃ zs, InZ W v zs := by
  obtain ⟨a, len, cap, rfl⟩ := okWide_slice Try.underlying26 hv
  obtain ⟨fuel, hf⟩ := h
  exact open_zs hf
set_option maxRecDepth 100000 in
theorem open_blocks {r : Reach} {b0 : Nat} {v : Value} {d : DataW H} {p : List MemPlace} (hv : Value.okWide Try.prog W r b0 22 v) (h : DataW.Trod enc Try.prog W base (fun _ => true) held 22 v d p) : ∃ bs, InB W v bs := by
  obtain ⟨a, len, cap, rfl⟩ := okWide_slice Try.underlying22 hv
  obtain ⟨fuel, hf⟩ := h
  exact open_arrs hf
theorem sliceCells : Try.prog.cellsOf 26 = 1 := by kernel_rfl
set_option maxRecDepth 100000 in
theorem open_rows {r : Reach} {b0 : Nat} {v : Value} {d : DataW H} {p : List MemPlace} (hv : Value.okWide Try.prog W r b0 43 v) (h : DataW.Trod enc Try.prog W base (fun _ => true) held 43 v d p) : ∃ n F, InSS W v n F := by
  obtain ⟨A0, L0, C0, rfl⟩ := okWide_slice Try.underlying43 hv
  obtain ⟨fuel, hf⟩ := h
  have hf' : DataW.trod enc Try.prog W base (fun _ => true) held fuel 43 [.slice A0 L0 C0] = some (d, p) := hf
  rcases open_slice1 Try.underlying43 sliceCells hf' with ⟨hcs, _⟩ | ⟨a, len, cap, m, n, V, D, Pl, hcs, hb, hl, hm, hmm, hx, hi⟩
  · simp at hcs
    obtain ⟨rfl, rfl, rfl⟩ := hcs
    exact ⟨0, fun _ => [], by omega, .inl ⟨rfl, _, _, rfl⟩⟩
  · simp at hcs
    obtain ⟨e1, e2, e3⟩ := hcs
    subst e1
    subst e2
    subst e3
    simp at hmm
    subst hmm
    have hm' : m ≤ 9223372036854775807 := by unfold maxLen at hm; exact hm
    by_cases h0 : L0 = 0
    · subst h0
      exact ⟨0, fun _ => [], by omega, .inl ⟨rfl, _, _, rfl⟩⟩
    · have cell : ∀ i, i < m → ∃ y : List Int, ∃ u, W.cell? (a.add i) = some u ∧ InZ W u y := fun i him => by
        obtain ⟨hc, ht⟩ := hi i him
        obtain ⟨zs, hz⟩ := open_zs ht
        exact ⟨zs, _, hc, hz⟩
      obtain ⟨F, hF⟩ := choose_lt (α := List Int) cell
      obtain ⟨b, off, spot⟩ := a
      obtain ⟨u0, hc0, _⟩ := hF 0 (by omega)
      have hspot : spot = none := by simpa [Addr.add] using World.cell?_spot hc0
      subst hspot
      refine ⟨L0, F, by omega, .inr ⟨b, off, m, rfl, block_lt_of_cell hc0, fun k hk => ?_⟩⟩
      obtain ⟨u, h1, h2⟩ := hF k (by omega)
      rw [add_at] at h1
      exact ⟨u, h1, h2⟩
set_option maxRecDepth 100000 in
theorem open_blk {r : Reach} {b0 : Nat} {v : Value} {d : DataW H} {p : List MemPlace} (hv : Value.okWide Try.prog W r b0 92 v) (h : DataW.Trod enc Try.prog W base (fun _ => true) held 92 v d p) : ∃ x, v = bv x ∧ WFB x := by
  obtain ⟨cs, rfl, hsz⟩ := okWide_array Try.underlying92 hv
  obtain ⟨fuel, hf⟩ := h
  obtain ⟨a, b, c, e, wa, wb, wc⟩ := open_arr3 hf
  have : cs.toList = [.int .i64 a, .int .i64 b, .int .i64 c] := e
  refine ⟨⟨a, b, c⟩, ?_, wa, wb, wc⟩
  unfold bv
  rw [← this]
end
end Go.Proofs.Ytacfelgilphppaa

namespace Go.Proofs.Ytacfelgilphppaa
open Go.ChangeShapes Go.WideShapes Go.ChangeAt Go.RowKit Go.Deep Go.Joins
section
variable {H : Type} {enc : TypeId × Value → H} {W : World} {base : Nat} {held : Bool}
theorem isTrd : ∃ f0 f1 f2 : Field, Try.prog.underlying 59 = some (.struct #[f0, f1, f2]) ∧ f0.type = 2 ∧ f1.type = 22 ∧ f2.type = 22 ∧ oneCellFields Try.prog #[f0, f1, f2] = true :=
  ⟨_, _, _, Try.underlying59, rfl, rfl, rfl, by kernel_rfl⟩
theorem trdCells : Try.prog.cellsOf 59 = 3 := by kernel_rfl
set_option maxRecDepth 100000 in
theorem open_trade {r : Reach} {b0 : Nat} {v : Value} {d : DataW H} {p : List MemPlace} (hv : Value.okWide Try.prog W r b0 59 v) (h : DataW.Trod enc Try.prog W base (fun _ => true) held 59 v d p) :
    ∃ (n : Int) (so : Value) (bo : List Blk) (si : Value) (bi : List Blk), v = .agg #[.int .i64 n, so, si] ∧ InT W so bo si bi := by
  obtain ⟨f0, f1, f2, hu, e0, e1, e2, hone⟩ := isTrd
  obtain ⟨v0, v1, v2, y0, y1, y2, n, rfl, _, _, h0, h1, h2⟩ := open_agg3 hu hone trdCells hv h
  rw [e0] at h0
  rw [e1] at h1
  rw [e2] at h2
  obtain ⟨k, hk, _, wk⟩ := DataW.trod_int Try.underlying2 h0
  simp at hk
  subst hk
  obtain ⟨bo, hbo⟩ := open_arrs h1
  obtain ⟨bi, hbi⟩ := open_arrs h2
  exact ⟨k, v1, bo, v2, bi, rfl, hbo, hbi⟩
end
end Go.Proofs.Ytacfelgilphppaa

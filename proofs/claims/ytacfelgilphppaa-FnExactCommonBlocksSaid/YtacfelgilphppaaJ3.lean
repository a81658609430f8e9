
/- Whether a system is full: the program and the model. The blocks that two systems have in common: the program and the model. Blocks in ascending order: plain facts. Plain facts on trades, without the program. Sets of blocks as maps: setOf, blocksIn, blocksWithout. impl.CommonBlocks answers as the plain function commonF. Two blocks are compared point by point. The model's CommonBlocks answers as the plain function commonF. -/
import Derived.Test.YtacfelgilphppaaJ2
import Derived.Deep.RegionWith
namespace Go.Proofs.Ytacfelgilphppaa
open Go.RowKit Go.Maps
def fullB (v : Int) (bs : List Blk) : Bool := decide (6 * (bs.length : Int) = v * (v - 1))
/-- Two results: a bool and a code. -/
def boolCode (b : Bool) (c : Int) : Value := .tuple #[.bool b, .int .i64 c]
theorem sys_size {v : Int} {bs : List Blk} (h : isSysImpl v bs = true) : 3 ≤ v ∧ v ≤ 15 ∧ bs.length ≤ 35 := by
  have h2 := h
  rw [isSys_same] at h2
  simp [isSysSpec] at h2
  exact ⟨h2.1.1.1.1, h2.1.1.1.2, h2.1.1.2⟩
theorem sq_bounds {v : Int} (h0 : 3 ≤ v) (h1 : v ≤ 15) : 6 ≤ v * (v - 1) ∧ v * (v - 1) ≤ 210 := by
  have : v = 3 ∨ v = 4 ∨ v = 5 ∨ v = 6 ∨ v = 7 ∨ v = 8 ∨ v = 9 ∨ v = 10 ∨ v = 11 ∨ v = 12 ∨ v = 13 ∨ v = 14 ∨ v = 15 := by omega
  rcases this with rfl | rfl | rfl | rfl | rfl | rfl | rfl | rfl | rfl | rfl | rfl | rfl | rfl <;> decide
theorem sq_even {v : Int} (h0 : 3 ≤ v) (h1 : v ≤ 15) : ∃ k, v * (v - 1) = 2 * k := by
  have : v = 3 ∨ v = 4 ∨ v = 5 ∨ v = 6 ∨ v = 7 ∨ v = 8 ∨ v = 9 ∨ v = 10 ∨ v = 11 ∨ v = 12 ∨ v = 13 ∨ v = 14 ∨ v = 15 := by omega
  rcases this with rfl | rfl | rfl | rfl | rfl | rfl | rfl | rfl | rfl | rfl | rfl | rfl | rfl
  · exact ⟨3, by decide⟩
  · exact ⟨6, by decide⟩
  · exact ⟨10, by decide⟩
  · exact ⟨15, by decide⟩
  · exact ⟨21, by decide⟩
  · exact ⟨28, by decide⟩
  · exact ⟨36, by decide⟩
  · exact ⟨45, by decide⟩
  · exact ⟨55, by decide⟩
  · exact ⟨66, by decide⟩
  · exact ⟨78, by decide⟩
  · exact ⟨91, by decide⟩
  · exact ⟨105, by decide⟩
/-- What IsFull answers. -/
def fullV (v : Int) (bs : List Blk) : Value := if isSysImpl v bs then boolCode (fullB v bs) 0 else boolCode false 1

theorem RV2_of {v u : Value} {w w' : World} (h : u = v) (hb : Below w.heap.size w w') : RV v w (.returned u) w' := ⟨by rw [h], hb⟩
set_option maxRecDepth 100000 in
theorem IsFull_any (v : Int) (s : Value) (bs : List Blk) (w : World) (h : SB w s bs) : Calls Try.prog 242 #[.agg #[.int .i64 v, s]] w (RV (fullV v bs) w) := by
  have hs : ∃ a c, s = .slice a bs.length c := by rcases h.2.2 with ⟨a0, c0, rfl, rfl⟩ | ⟨b, off, cap, rfl, _⟩ <;> exact ⟨_, _, rfl⟩
  have hc := IsSystem_any v s bs (w.alloc (.cells #[.int .i64 v, s] 31)) (h.below ((Below.refl _ _).alloc (Nat.le_refl _) _) (Nat.le_refl _))
  obtain ⟨a, c, rfl⟩ := hs
  cases hi : isSysImpl v bs with
  | false =>
    rw [hi] at hc
    have hf : fullV v bs = boolCode false 1 := by simp [fullV, hi]
    rw [hf]
    have HC := Lib.hid hc
    clear hc hi h hf
    go_enter Try.func242, Try.ntmps242
    go_wp2_with (go_at_call 94; refine HC.out.mono ?_; rintro e w1 ⟨rfl, hb1⟩)
    go_ret2
    exact RV_of rfl (((Below.refl _ _).alloc (Nat.le_refl _) _).trans (hb1.mono (by simp)))
  | true =>
    rw [hi] at hc
    obtain ⟨h3, h15, hl⟩ := sys_size hi
    obtain ⟨q0, q1⟩ := sq_bounds h3 h15
    obtain ⟨k, hk⟩ := sq_even h3 h15
    have hf : fullV v bs = boolCode (fullB v bs) 0 := by simp [fullV, hi]
    rw [hf]
    have hfb : fullB v bs = decide (3 * (bs.length : Int) = v * (v - 1) / 2) := by
      unfold fullB
      rw [hk]
      rw [show 2 * k / 2 = k by omega]
      by_cases e : 3 * (bs.length : Int) = k
      · simp [e]; omega
      · simp [e]; omega
    rw [hfb]
    have hb0 : (0 : Int) ≤ (bs.length : Int) := by omega
    have hb35 : (bs.length : Int) ≤ 35 := by omega
    have q0' : 0 ≤ v * (v - 1) := by omega
    have HC := Lib.hid hc
    clear hc hi h hf hfb hk
    go_enter Try.func242, Try.ntmps242
    go_wp2_with (go_at_call 94; refine HC.out.mono ?_; rintro e w1 ⟨rfl, hb1⟩; have c0 := cell_new hb1 0 rfl; have c1 := cell_new hb1 1 rfl)
    all_goals go_ret2
    exact RV_of (congrArg (fun b => boolCode b 0) (by rw [Bool.eq_iff_iff]; simp)) (((Below.refl _ _).alloc (Nat.le_refl _) _).trans (hb1.mono (by simp)))

set_option maxRecDepth 100000 in
theorem l01Full_any (v : Int) (s : Value) (bs : List Blk) (w : World) (hs : ∃ a c, s = .slice a bs.length c) (h3 : 3 ≤ v) (h15 : v ≤ 15) (hl : bs.length ≤ 1100000) : Calls Try.prog 142 #[.agg #[.int .i64 v, s]] w (RV (.bool (fullB v bs)) w) := by
  obtain ⟨a, c, rfl⟩ := hs
  obtain ⟨q0, q1⟩ := sq_bounds h3 h15
  have hb0 : (0 : Int) ≤ (bs.length : Int) := by omega
  have hb35 : (bs.length : Int) ≤ 1100000 := by omega
  go_enter Try.func142, Try.ntmps142
  go_wp2
  go_ret
  exact RV_of (bool_eq (by rw [Bool.eq_iff_iff]; simp [fullB])) ((Below.refl _ _).alloc (Nat.le_refl _) _)

end Go.Proofs.Ytacfelgilphppaa

namespace Go.Proofs.Ytacfelgilphppaa
open Go.RowKit Go.Maps
def commonL (bs cs : List Blk) : List Blk := bs.filter fun x => decide (x ∈ cs)
def commonF (v : Int) (bs : List Blk) (u : Int) (cs : List Blk) : List Blk × Int :=
  if isSysImpl v bs && isSysImpl u cs then (if v = u then (commonL bs cs, 0) else ([], 2)) else ([], 1)
/-- Two results: a list of blocks in new memory, and a code. -/
def RLC (p : List Blk × Int) (w : World) (e : Ending) (w' : World) : Prop := ∃ s, e = .returned (.tuple #[s, .int .i64 p.2]) ∧ ResR w' w.heap.size w'.heap.size s p.1 ∧ Below w.heap.size w w'
theorem run_makeMap_hint {P : Program} (t k e : TypeId) (kd : IntKind) (n : Int) (ht : P.underlying t = some (.map k e)) (w : World) :
    (Instr.makeMap t (some (.int kd n))).run P w = .ok (.map (some w.heap.size)) (w.alloc (.map #[] 0)) := by
  simp [Instr.makeMap, run_underlying ht]; rfl
theorem SB.slice {w : World} {s : Value} {bs : List Blk} (h : SB w s bs) : ∃ a c, s = .slice a bs.length c := by
  rcases h.2.2 with ⟨a0, c0, rfl, rfl⟩ | ⟨b, off, cap, rfl, _⟩ <;> exact ⟨_, _, rfl⟩

set_option maxRecDepth 100000 in
theorem CommonBlocks_no (v : Int) (s : Value) (bs : List Blk) (u : Int) (t : Value) (cs : List Blk) (w : World) (h : SB w s bs) (k : SB w t cs) (hn : (isSysImpl v bs && isSysImpl u cs) = false) :
    Calls Try.prog 34 #[.agg #[.int .i64 v, s], .agg #[.int .i64 u, t]] w (RLC ([], 1) w) := by
  have hs := h.slice
  have ht := k.slice
  have hc1 := fun W (hb : Below w.heap.size w W) => IsSystem_any v s bs W (h.below hb (Nat.le_refl _))
  have hc2 := fun W (hb : Below w.heap.size w W) => IsSystem_any u t cs W (k.below hb (Nat.le_refl _))
  have hB : Below w.heap.size w ((w.alloc (.cells #[.int .i64 v, s] 31)).alloc (.cells #[.int .i64 u, t] 31)) := ((Below.refl _ _).alloc (Nat.le_refl _) _).alloc (by simp) _
  clear h k
  have HC2 := Lib.hid hc2
  have HC1 := Lib.hid hc1
  clear hc1 hc2
  obtain ⟨a, c, rfl⟩ := hs
  obtain ⟨a', c', rfl⟩ := ht
  cases h1 : isSysImpl v bs with
  | false =>
    rw [h1] at HC1
    clear h1 hn
    go_enter Try.func34, Try.ntmps34
    go_wp2_with (go_at_call 94; refine (HC1.out _ hB).mono ?_; rintro e w1 ⟨rfl, hb1⟩)
    go_ret2
    exact ⟨_, rfl, .inl ⟨rfl, _, _, rfl⟩, hB.trans (hb1.mono (by simp; omega))⟩
  | true =>
    rw [h1] at HC1 hn
    have h2 : isSysImpl u cs = false := by simpa using hn
    rw [h2] at HC2
    clear h1 h2 hn
    go_enter Try.func34, Try.ntmps34
    go_wp2_with fail
    refine (HC1.out _ hB).mono ?_
    rintro e w1 ⟨rfl, hb1⟩
    have hB1 := hB.trans (hb1.mono (by simp; omega))
    have c0 := (hb1.cell (p := ⟨w.heap.size + 1, 0, none⟩) (by simp)).trans (by simp [go_sem] : _ = some (Value.int .i64 u))
    have c1 := (hb1.cell (p := ⟨w.heap.size + 1, 1, none⟩) (by simp)).trans (by simp [go_sem] : _ = some (Value.slice a' cs.length c'))
    clear hb1
    go_wp2_with (go_at_call 94; refine (HC2.out _ hB1).mono ?_; rintro e w2 ⟨rfl, hb2⟩)
    go_ret2
    exact ⟨_, rfl, .inl ⟨rfl, _, _, rfl⟩, hB1.trans (hb2.mono hB1.size)⟩


set_option maxRecDepth 100000 in
theorem CommonBlocks_ne (v : Int) (s : Value) (bs : List Blk) (u : Int) (t : Value) (cs : List Blk) (w : World) (h : SB w s bs) (k : SB w t cs) (h1 : isSysImpl v bs = true) (h2 : isSysImpl u cs = true) (hne : v ≠ u) :
    Calls Try.prog 34 #[.agg #[.int .i64 v, s], .agg #[.int .i64 u, t]] w (RLC ([], 2) w) := by
  have hs := h.slice
  have ht := k.slice
  have hc1 := fun W (hb : Below w.heap.size w W) => IsSystem_any v s bs W (h.below hb (Nat.le_refl _))
  have hc2 := fun W (hb : Below w.heap.size w W) => IsSystem_any u t cs W (k.below hb (Nat.le_refl _))
  have hB : Below w.heap.size w ((w.alloc (.cells #[.int .i64 v, s] 31)).alloc (.cells #[.int .i64 u, t] 31)) := ((Below.refl _ _).alloc (Nat.le_refl _) _).alloc (by simp) _
  clear h k
  have HC2 := Lib.hid hc2
  have HC1 := Lib.hid hc1
  rw [h1] at HC1
  rw [h2] at HC2
  clear hc1 hc2 h1 h2
  have hnb : (v != u) = true := by simp [hne]
  clear hne
  obtain ⟨a, c, rfl⟩ := hs
  obtain ⟨a', c', rfl⟩ := ht
  go_enter Try.func34, Try.ntmps34
  go_wp2_with fail
  refine (HC1.out _ hB).mono ?_
  rintro e w1 ⟨rfl, hb1⟩
  have hB1 := hB.trans (hb1.mono (by simp; omega))
  have hz1 := hb1.size
  simp at hz1
  have d0 := (hb1.cell (p := ⟨w.heap.size, 0, none⟩) (by simp; omega)).trans (by simp [go_sem] : _ = some (Value.int .i64 v))
  have c0 := (hb1.cell (p := ⟨w.heap.size + 1, 0, none⟩) (by simp)).trans (by simp [go_sem] : _ = some (Value.int .i64 u))
  have c1 := (hb1.cell (p := ⟨w.heap.size + 1, 1, none⟩) (by simp)).trans (by simp [go_sem] : _ = some (Value.slice a' cs.length c'))
  clear hb1
  go_wp2_with fail
  refine (HC2.out _ hB1).mono ?_
  rintro e w2 ⟨rfl, hb2⟩
  have e0 := (hb2.cell (p := ⟨w.heap.size, 0, none⟩) (by show w.heap.size < _; omega)).trans d0
  have f0 := (hb2.cell (p := ⟨w.heap.size + 1, 0, none⟩) (by show w.heap.size + 1 < _; omega)).trans c0
  clear d0 c0 c1
  go_wp2
  go_ret2
  exact ⟨_, rfl, .inl ⟨rfl, _, _, rfl⟩, hB1.trans (hb2.mono hB1.size)⟩

theorem filter_take_next {p : Blk → Bool} {bs : List Blk} {k : Nat} {x : Blk} (hk : k < bs.length) (hx : bs[k]? = some x) : (bs.take (k + 1)).filter p = (bs.take k).filter p ++ if p x then [x] else [] := by
  have e : bs[k] = x := by
    rw [List.getElem?_eq_getElem hk] at hx
    simpa using hx
  rw [take_next hk, e, List.filter_append]
  cases h : p x <;> simp [h]
theorem commonL_length (bs cs : List Blk) : (commonL bs cs).length ≤ bs.length := List.length_filter_le _ _
theorem commonL_wf {bs cs : List Blk} (h : ∀ x ∈ bs, WFB x) : ∀ x ∈ commonL bs cs, WFB x := fun x hx => h x ((List.mem_filter.1 hx).1)
theorem isMap : Try.prog.underlying 95 = some (.map 93 4) := Try.underlying95

theorem OwnR.row {w : World} {base : Nat} {v : Value} {bs : List Blk} (h : OwnR w base v bs) : ∀ r, v.ownBlock = some r → base ≤ r := fun r hr => by
  rcases h.2 with ⟨rfl, _⟩ | ⟨g, cap, cur, rfl, hb, _⟩
  · cases hr
  · cases hr; exact hb
end Go.Proofs.Ytacfelgilphppaa

namespace Go.Proofs.Ytacfelgilphppaa
theorem bef_iff (x y : Blk) : befB x y = true ↔ x.a < y.a ∨ (x.a = y.a ∧ (x.b < y.b ∨ (x.b = y.b ∧ x.c < y.c))) := by
  unfold befB
  split
  · split
    · simp; omega
    · simp; omega
  · simp; omega
theorem bef_niff (x y : Blk) : befB x y = false ↔ ¬ (x.a < y.a ∨ (x.a = y.a ∧ (x.b < y.b ∨ (x.b = y.b ∧ x.c < y.c)))) := by
  rw [← bef_iff]; simp
theorem bef_irrefl (x : Blk) : befB x x = false := by rw [bef_niff]; omega
theorem bef_trans {x y z : Blk} (h1 : befB x y = true) (h2 : befB y z = true) : befB x z = true := by
  rw [bef_iff] at *; omega
theorem bef_ntrans {x y z : Blk} (h1 : befB x y = false) (h2 : befB y z = false) : befB x z = false := by
  rw [bef_niff] at *; omega
theorem bef_asymm {x y : Blk} (h : befB x y = true) : befB y x = false := by
  rw [bef_niff]; rw [bef_iff] at h; omega
theorem bef_total {x y : Blk} (h1 : befB x y = false) (h2 : befB y x = false) : x = y := by
  rw [bef_niff] at h1 h2
  obtain ⟨a, b, c⟩ := x
  obtain ⟨d, e, f⟩ := y
  simp only at h1 h2
  simp only [Blk.mk.injEq]
  omega
/-- No block stands behind a greater one. -/
def Srt (l : List Blk) : Prop := l.Pairwise fun x y => befB y x = false
theorem srt_unique {l m : List Blk} (h1 : Srt l) (h2 : Srt m) (hp : l.Perm m) : l = m :=
  List.Perm.eq_of_pairwise (le := fun x y => befB y x = false) (fun _ _ _ _ h1 h2 => bef_total h2 h1) h1 h2 hp
/-- Where x goes in among the first n of l. -/
def posB (x : Blk) (l : List Blk) : Nat → Nat
  | 0 => 0
  | n + 1 => if befB x (l[n]?.getD default) then posB x l n else n + 1
theorem posB_le (x : Blk) (l : List Blk) : ∀ n, posB x l n ≤ n
  | 0 => Nat.le_refl _
  | n + 1 => by
    unfold posB
    split
    · have := posB_le x l n; omega
    · exact Nat.le_refl _
theorem posB_after (x : Blk) (l : List Blk) : ∀ n j, posB x l n ≤ j → j < n → befB x (l[j]?.getD default) = true
  | 0, j, _, h => by omega
  | n + 1, j, h1, h2 => by
    unfold posB at h1
    split at h1
    · by_cases e : j = n
      · subst e; assumption
      · exact posB_after x l n j h1 (by omega)
    · omega
theorem posB_at (x : Blk) (l : List Blk) : ∀ n m, posB x l n = m + 1 → befB x (l[m]?.getD default) = false
  | 0, m, h => by simp [posB] at h
  | n + 1, m, h => by
    unfold posB at h
    split at h
    · exact posB_at x l n m h
    · obtain rfl : m = n := by omega
      exact Bool.eq_false_iff.2 ‹¬ befB _ _ = true›
def insB (x : Blk) (l : List Blk) : List Blk := l.take (posB x l l.length) ++ x :: l.drop (posB x l l.length)
theorem insB_perm (x : Blk) (l : List Blk) : (insB x l).Perm (x :: l) := by
  unfold insB
  refine List.perm_middle.trans ?_
  rw [List.take_append_drop]
theorem insB_length (x : Blk) (l : List Blk) : (insB x l).length = l.length + 1 := by
  rw [(insB_perm x l).length_eq]; rfl
theorem insB_srt {x : Blk} {l : List Blk} (h : Srt l) : Srt (insB x l) := by
  unfold insB Srt
  have hle := posB_le x l l.length
  have hb : ∀ y ∈ l.take (posB x l l.length), befB x y = false := by
    intro y hy
    obtain ⟨i, hi, e⟩ := List.getElem_of_mem hy
    rw [List.length_take] at hi
    rw [List.getElem_take] at e
    obtain ⟨m, hm⟩ : ∃ m, posB x l l.length = m + 1 := ⟨posB x l l.length - 1, by omega⟩
    have hm2 := posB_at x l _ m hm
    have hml : m < l.length := by omega
    rw [List.getElem?_eq_getElem hml, Option.getD_some] at hm2
    by_cases hi2 : i = m
    · subst hi2; rw [← e]; exact hm2
    · have hh := List.pairwise_iff_getElem.1 h i m (by omega) hml (by omega)
      rw [← e]
      exact bef_ntrans hm2 hh
  have ha : ∀ y ∈ l.drop (posB x l l.length), befB x y = true := by
    intro y hy
    obtain ⟨i, hi, e⟩ := List.getElem_of_mem hy
    rw [List.length_drop] at hi
    rw [List.getElem_drop] at e
    have h2 := posB_after x l l.length (posB x l l.length + i) (by omega) (by omega)
    rw [List.getElem?_eq_getElem (by omega), Option.getD_some, e] at h2
    exact h2
  have h0 : Srt (l.take (posB x l l.length) ++ l.drop (posB x l l.length)) := by rw [List.take_append_drop]; exact h
  obtain ⟨h1, h2, h3⟩ := List.pairwise_append.1 h0
  refine List.pairwise_append.2 ⟨h1, List.pairwise_cons.2 ⟨fun y hy => bef_asymm (ha y hy), h2⟩, fun y hy z hz => ?_⟩
  rcases List.mem_cons.1 hz with rfl | hz
  · exact hb y hy
  · exact h3 y hy z hz
/-- The blocks in order. -/
def sortB (bs : List Blk) : List Blk := bs.foldl (fun acc x => insB x acc) []
theorem sortB_snoc (bs : List Blk) (x : Blk) : sortB (bs ++ [x]) = insB x (sortB bs) := by simp [sortB]
theorem foldIns_perm : ∀ (bs acc : List Blk), (bs.foldl (fun acc x => insB x acc) acc).Perm (bs ++ acc)
  | [], acc => List.Perm.refl _
  | x :: r, acc => by
    rw [List.foldl_cons]
    refine (foldIns_perm r _).trans ?_
    refine ((insB_perm x acc).append_left r).trans ?_
    exact List.perm_middle
theorem foldIns_srt : ∀ (bs acc : List Blk), Srt acc → Srt (bs.foldl (fun acc x => insB x acc) acc)
  | [], _, h => h
  | x :: r, acc, h => by
    rw [List.foldl_cons]
    exact foldIns_srt r _ (insB_srt h)
theorem sortB_perm (bs : List Blk) : (sortB bs).Perm bs := by
  have := foldIns_perm bs []
  rwa [List.append_nil] at this
theorem sortB_srt (bs : List Blk) : Srt (sortB bs) := foldIns_srt bs [] List.Pairwise.nil
theorem sortB_length (bs : List Blk) : (sortB bs).length = bs.length := (sortB_perm bs).length_eq
theorem sortB_eq {bs l : List Blk} (h1 : Srt l) (h2 : l.Perm bs) : sortB bs = l := srt_unique (sortB_srt bs) h1 ((sortB_perm bs).trans h2.symm)
theorem sortB_of_perm {bs cs : List Blk} (h : bs.Perm cs) : sortB bs = sortB cs := sortB_eq (sortB_srt cs) ((sortB_perm cs).trans h.symm)
theorem sortB_mem {bs : List Blk} {x : Blk} : x ∈ sortB bs ↔ x ∈ bs := (sortB_perm bs).mem_iff
theorem sortB_merge (bs : List Blk) : bs.mergeSort (fun x y => !befB y x) = sortB bs := by
  refine (sortB_eq ?_ (List.mergeSort_perm _ _)).symm
  have := List.pairwise_mergeSort (le := fun x y => !befB y x) (fun x y z h1 h2 => by
    simp only [Bool.not_eq_true'] at *
    exact bef_ntrans h2 h1) (fun x y => by
    cases h : befB y x
    · simp
    · simp [bef_asymm h]) bs
  exact this.imp fun h => by simpa using h
/-- Blocks in strict order are in order. -/
theorem order_srt {v : Int} : ∀ {bs : List Blk} {p : Option Blk}, orderGo v p bs = true → (bs.Pairwise fun x y => befB x y = true) ∧ ∀ y, p = some y → ∀ x ∈ bs, befB y x = true
  | [], _, _ => ⟨List.Pairwise.nil, by simp⟩
  | x :: r, p, h => by
    simp only [orderGo, Bool.and_eq_true] at h
    obtain ⟨⟨_, h1⟩, h2⟩ := h
    obtain ⟨i1, i2⟩ := order_srt h2
    refine ⟨List.pairwise_cons.2 ⟨fun y hy => i2 x rfl y hy, i1⟩, fun y hy z hz => ?_⟩
    subst hy
    simp only at h1
    rcases List.mem_cons.1 hz with rfl | hz
    · exact h1
    · exact bef_trans h1 (i2 x rfl z hz)
theorem sys_strict {v : Int} {bs : List Blk} (h : isSysImpl v bs = true) : bs.Pairwise fun x y => befB x y = true := by
  simp only [isSysImpl, Bool.and_eq_true] at h
  exact (order_srt h.1.2).1
theorem strict_srt {bs : List Blk} (h : bs.Pairwise fun x y => befB x y = true) : Srt bs := h.imp bef_asymm
theorem strict_nodup {bs : List Blk} (h : bs.Pairwise fun x y => befB x y = true) : bs.Nodup :=
  h.imp fun {x y} hxy e => by subst e; rw [bef_irrefl] at hxy; cases hxy
end Go.Proofs.Ytacfelgilphppaa

namespace Go.Proofs.Ytacfelgilphppaa
/-- The pairs of a list of blocks. -/
def prs (bs : List Blk) : List (Int × Int) := bs.flatMap pairsL
/-- The same pairs. -/
def samePr (bs cs : List Blk) : Bool := (prs bs).all (fun p => decide (p ∈ prs cs)) && (prs cs).all (fun p => decide (p ∈ prs bs))
/-- No block is in both. -/
def dsj (bs cs : List Blk) : Bool := bs.all fun x => !decide (x ∈ cs)
def trdB (v : Int) (bo bi : List Blk) : Bool := isSysImpl v bo && isSysImpl v bi && (samePr bo bi && dsj bo bi)
theorem samePr_iff {bs cs : List Blk} : samePr bs cs = true ↔ ∀ p, p ∈ prs bs ↔ p ∈ prs cs := by
  simp only [samePr, Bool.and_eq_true, List.all_eq_true, decide_eq_true_eq]
  exact ⟨fun h p => ⟨h.1 p, h.2 p⟩, fun h => ⟨fun p => (h p).1, fun p => (h p).2⟩⟩
theorem dsj_iff {bs cs : List Blk} : dsj bs cs = true ↔ ∀ x ∈ bs, x ∉ cs := by simp [dsj]
theorem dsj_symm (bs cs : List Blk) : dsj bs cs = dsj cs bs := by
  rw [Bool.eq_iff_iff, dsj_iff, dsj_iff]
  exact ⟨fun h x hx hy => h x hy hx, fun h x hx hy => h x hy hx⟩
theorem samePr_symm (bs cs : List Blk) : samePr bs cs = samePr cs bs := by
  rw [Bool.eq_iff_iff, samePr_iff, samePr_iff]
  exact ⟨fun h p => (h p).symm, fun h p => (h p).symm⟩
theorem trdB_symm (v : Int) (bo bi : List Blk) : trdB v bo bi = trdB v bi bo := by
  unfold trdB
  rw [samePr_symm, dsj_symm, Bool.and_comm (isSysImpl v bo)]
theorem prs_length (bs : List Blk) : (prs bs).length = 3 * bs.length := by
  induction bs with
  | nil => rfl
  | cons x r ih =>
    simp only [prs, List.flatMap_cons, List.length_append, List.length_cons] at ih ⊢
    rw [ih]
    simp [pairsL]; omega
theorem share_nodup {v : Int} (hv : v ≤ 15) : ∀ (bs : List Blk) (seen : List (Int × Int)), (∀ x ∈ bs, goodB v x = true) → seen.Nodup → shareGo seen bs = false → (seen ++ prs bs).Nodup
  | [], seen, _, hn, _ => by simpa [prs] using hn
  | x :: r, seen, hb, hn, h => by
    unfold shareGo at h
    split at h
    · rename_i hf
      rw [freeB_iff] at hf
      obtain ⟨g1, _⟩ := good_pairs hv (hb x (by simp))
      have := share_nodup hv r (seen ++ pairsL x) (fun y hy => hb y (by simp [hy])) (List.nodup_append.2 ⟨hn, g1, fun p hp q hq e => hf q hq (e ▸ hp)⟩) h
      simpa [prs, List.append_assoc] using this
    · cases h
theorem sys_parts {v : Int} {bs : List Blk} (h : isSysImpl v bs = true) : 3 ≤ v ∧ v ≤ 15 ∧ (∀ x ∈ bs, goodB v x = true) ∧ shareGo [] bs = false := by
  simp only [isSysImpl, Bool.and_eq_true, decide_eq_true_eq, Bool.not_eq_true'] at h
  exact ⟨h.1.1.1, h.1.1.2, order_good h.1.2, h.2⟩
theorem prs_nodup {v : Int} {bs : List Blk} (h : isSysImpl v bs = true) : (prs bs).Nodup := by
  obtain ⟨_, h2, h3, h4⟩ := sys_parts h
  simpa using share_nodup h2 bs [] h3 List.nodup_nil h4
theorem sub_back {α : Type} [DecidableEq α] {l m : List α} (hn : l.Nodup) (hs : ∀ x ∈ l, x ∈ m) (hl : m.length ≤ l.length) : ∀ x ∈ m, x ∈ l := by
  intro x hx
  apply Classical.byContradiction
  intro hnot
  have h := nodup_length l (m.erase x) hn (fun y hy => by
    have hne : y ≠ x := fun e => hnot (e ▸ hy)
    exact (List.mem_erase_of_ne hne).2 (hs y hy))
  rw [List.length_erase_of_mem hx] at h
  have : 0 < m.length := List.length_pos_of_mem hx
  omega
/-- Of two systems: as many pairs, and those of the first in the second, say the same. -/
theorem samePr_of {v u : Int} {bs cs : List Blk} (h1 : isSysImpl v bs = true) (h2 : isSysImpl u cs = true) : samePr bs cs = (decide ((prs bs).length = (prs cs).length) && (prs bs).all fun p => decide (p ∈ prs cs)) := by
  have n1 := prs_nodup h1
  have n2 := prs_nodup h2
  rw [Bool.eq_iff_iff, samePr_iff]
  simp only [Bool.and_eq_true, List.all_eq_true, decide_eq_true_eq]
  constructor
  · intro h
    exact ⟨Nat.le_antisymm (nodup_length _ _ n1 fun x hx => (h x).1 hx) (nodup_length _ _ n2 fun x hx => (h x).2 hx), fun x hx => (h x).1 hx⟩
  · rintro ⟨h, hs⟩ p
    exact ⟨hs p, sub_back n1 hs (by omega) p⟩
/-- The blocks that are not in the others. -/
def lessL (bs cs : List Blk) : List Blk := bs.filter fun x => !decide (x ∈ cs)
theorem lessL_length (bs cs : List Blk) : (lessL bs cs).length ≤ bs.length := List.length_filter_le _ _
theorem lessL_mem {bs cs : List Blk} {x : Blk} : x ∈ lessL bs cs ↔ x ∈ bs ∧ x ∉ cs := by simp [lessL]
theorem lessL_strict {bs cs : List Blk} (h : bs.Pairwise fun x y => befB x y = true) : (lessL bs cs).Pairwise fun x y => befB x y = true := h.filter _
theorem sortB_strict {bs : List Blk} (h : bs.Pairwise fun x y => befB x y = true) : sortB bs = bs := sortB_eq (strict_srt h) (List.Perm.refl _)
end Go.Proofs.Ytacfelgilphppaa

namespace Go.Proofs.Ytacfelgilphppaa
open Go.RowKit Go.Maps
/-- The blocks as a map's keys. -/
def BSet (w : World) (b n : Nat) (cs : List Blk) : Prop := BoolSet w Try.prog 93 4 b n (cs.map bv)
/-- Returns new blocks. -/
def RA (bs : List Blk) (w : World) (e : Ending) (w' : World) : Prop := ∃ u, e = .returned u ∧ OwnR w' w.heap.size u bs ∧ Below w.heap.size w w'
theorem bv_mem {x : Blk} {cs : List Blk} : bv x ∈ cs.map bv ↔ x ∈ cs := ⟨fun h => by obtain ⟨y, hy, e⟩ := List.mem_map.1 h; rw [← bv_inj e]; exact hy, fun h => List.mem_map.2 ⟨x, h, rfl⟩⟩
set_option maxRecDepth 100000 in
theorem setOf_any (s : Value) (cs : List Blk) (w : World) (h : SB w s cs) :
    Calls Try.prog 98 #[s] w fun e w' => e = .returned (.map (some w.heap.size)) ∧ BSet w' w.heap.size cs.length cs ∧ Below w.heap.size w w' := by
  have hs := h.slice
  have hl := h.2.1
  have KSB2 := Lib.hid h
  clear h
  have hmm := run_makeMap_hint (P := Try.prog) 95 93 4 .i64 (cs.length : Int) isMap
  obtain ⟨a', c', rfl⟩ := hs
  go_enter Try.func98, Try.ntmps98
  go_wp2_with fail
  go_loopw [11] (fun i wr => ∃ k : Nat, k ≤ cs.length ∧ i = .int .i64 k ∧ BoolSet wr Try.prog 93 4 w.heap.size k ((cs.take k).map bv) ∧ Below w.heap.size w wr) (fun i _ => cs.length - (intOf i).toNat)
  case atStart => exact ⟨0, Nat.zero_le _, rfl, BoolSet.made _ _ _ _, (Below.refl _ _).alloc (Nat.le_refl _) _⟩
  case round =>
    obtain ⟨k, hk, rfl, hS, hBr⟩ := hrel
    have hSl := hS.lt
    by_cases hkl : k < cs.length
    · rcases KSB2.out.2.2 with ⟨_, _, _, hnil⟩ | ⟨b, off, cap, hval, hblt, hbl⟩
      · rw [hnil] at hkl; simp at hkl
      · simp at hval
        obtain ⟨rfl, rfl⟩ := hval
        obtain ⟨x, hx, ex, x1, x2, x3⟩ := blks_at (hbl.below hBr hblt) hkl
        have hw := KSB2.out.1 x hx
        obtain ⟨p, q, r⟩ := x
        obtain ⟨kl, hkey⟩ := bv_key hw.1 hw.2.1 hw.2.2
        have HK := Lib.hid hkey
        have e3 : (cs.take (k + 1)).map bv = (cs.take k).map bv ++ [bv ⟨p, q, r⟩] := by
          have e : cs[k] = ⟨p, q, r⟩ := by
            rw [List.getElem?_eq_getElem hkl] at ex
            simpa using ex
          rw [take_next hkl, e]; simp
        have E3 := Lib.hid e3
        dsimp only at x1 x2 x3
        clear hbl hx ex hw hkey e3
        go_wp2_with (at_mapUpdate; refine wpList_put_set _ rfl _ _ _ 95 rfl 93 4 blockKeyed isMap Try.underlying4 w.heap.size k ((cs.take k).map bv) rfl (hS.alloc _) (by unfold maxLen; omega) (bv ⟨p, q, r⟩) kl rfl rfl HK.out ?_; intro w3 hS3 hg3)
        go_roundw
        case rel => exact ⟨k + 1, by omega, by go_num, by rw [E3.out]; exact hS3, (hBr.alloc hBr.size _).grown hg3 (by have := hBr.size; simp; omega) (fun j e => by cases e; exact Nat.le_refl _)⟩
        case measure => simp [intOf]; omega
    · have e : k = cs.length := by omega
      subst e
      rw [List.take_length] at hS
      go_wp2
      go_ret
      exact ⟨rfl, hS, hBr⟩
theorem BSet.below {w w' : World} {b n B : Nat} {cs : List Blk} (h : BSet w b n cs) (hb : Below B w w') (hB : w.heap.size ≤ B) : BSet w' b n cs := BoolSet.below h hb (Nat.lt_of_lt_of_le (BoolSet.lt h) hB)
set_option maxRecDepth 100000 in
theorem blocksIn_any (s : Value) (bs : List Blk) (b0 n0 : Nat) (cs : List Blk) (w : World) (h : SB w s bs) (hS0 : BSet w b0 n0 cs) :
    Calls Try.prog 97 #[s, .map (some b0)] w (RA (commonL bs cs) w) := by
  have hs := h.slice
  have hl := h.2.1
  have hb0 := BoolSet.lt hS0
  have HSB2 := Lib.hid h
  have HS0 := Lib.hid hS0
  clear h hS0
  obtain ⟨a, c, rfl⟩ := hs
  go_enter Try.func97, Try.ntmps97
  go_wp2_with fail
  go_loopw [5, 10] (fun o i wr => ∃ k : Nat, k ≤ bs.length ∧ i = .int .i64 k ∧ Below w.heap.size w wr ∧ OwnR wr w.heap.size o (commonL (bs.take k) cs) ∧ ∃ a n c, o = .slice a n c) (fun _ i _ => bs.length - (intOf i).toNat)
  case atStart => exact ⟨0, Nat.zero_le _, rfl, Below.refl _ _, OwnR.nil _ _, _, _, _, rfl⟩
  case round =>
    obtain ⟨k, hk, rfl, hBr, hO, hform⟩ := hrel
    have hSl := hBr.size
    have hS := BoolSet.below HS0.out hBr hb0
    by_cases hkl : k < bs.length
    · rcases HSB2.out.2.2 with ⟨_, _, _, hnil⟩ | ⟨b, off, cap, hval, hblt, hbl⟩
      · rw [hnil] at hkl; simp at hkl
      · simp at hval
        obtain ⟨rfl, rfl⟩ := hval
        obtain ⟨x, hx, ex, x1, x2, x3⟩ := blks_at (hbl.below hBr hblt) hkl
        have hw := HSB2.out.1 x hx
        have hnx := filter_take_next (p := fun x => decide (x ∈ cs)) hkl ex
        have hmem := bv_mem (x := x) (cs := cs)
        have hlc := commonL_length (bs.take k) cs
        have hlc2 : (bs.take k).length ≤ bs.length := by simp; omega
        obtain ⟨p, q, r⟩ := x
        obtain ⟨kl, hkey⟩ := bv_key hw.1 hw.2.1 hw.2.2
        have HK := Lib.hid hkey
        have HNX := Lib.hid hnx
        have HMEM := Lib.hid hmem
        dsimp only at x1 x2 x3
        clear hbl hx ex hw hkey hnx hmem
        obtain ⟨a3, n3, c3, rfl⟩ := hform
        have HO := Lib.hid hO
        clear hO
        go_wp2_with (first | (at_lookup; refine wpList_look_set _ rfl _ _ 95 rfl 93 4 blockKeyed isMap Try.underlying4 (zeroBool _) b0 n0 (cs.map bv) rfl (hS.alloc _) (bv ⟨p, q, r⟩) kl rfl HK.out ?_; intro β hβ) | (at_builtin; refine wpList_append_blk rfl _ _ rfl w.heap.size _ (commonL (bs.take k) cs) rfl (((HO.out.below ((Below.refl _ _).alloc (Nat.le_refl _) _) (Nat.le_refl _)).below ((Below.refl _ _).alloc (Nat.le_refl _) _) (Nat.le_refl _))) _ _ ⟨p, q, r⟩ rfl (by simp [go_sem]) (by simp [go_sem]) (by simp [go_sem]) (by omega) (by simp; omega) ?_; intro g' cap' w4 hO4 hg4))
        · have hb : β = true := by assumption
          have hin : (⟨p, q, r⟩ : Blk) ∈ cs := HMEM.out.1 (hβ.out.1 hb)
          have hrow := HO.out.row
          have hgo : wr.grownBy w4 (Value.slice a3 n3 c3).ownBlock := ⟨hg4.os, hg4.tape, hg4.output, by have := hg4.size; simp at this; omega, fun i hi hne => by
            rw [hg4.block i (by simp; omega) hne, Below.heap_alloc _ _ _ (by simp; omega), Below.heap_alloc _ _ _ hi]⟩
          have hcl : commonL (bs.take (k + 1)) cs = commonL (bs.take k) cs ++ [⟨p, q, r⟩] := by
            unfold commonL
            rw [HNX.out, if_pos (by simpa using hin)]
          have HCL := Lib.hid hcl
          clear hcl hg4
          go_roundw
          case rel => exact ⟨k + 1, by omega, by go_num, hBr.grown hgo hBr.size (fun j e => hrow j e), by rw [HCL.out]; exact hO4, _, _, _, rfl⟩
          case measure => simp [intOf]; omega
        · have hb : β = false := by assumption
          have hin : ¬ (⟨p, q, r⟩ : Blk) ∈ cs := fun h => by have := hβ.out.2 (HMEM.out.2 h); rw [hb] at this; cases this
          have hcl : commonL (bs.take (k + 1)) cs = commonL (bs.take k) cs := by
            unfold commonL
            rw [HNX.out, if_neg (by simpa using hin), List.append_nil]
          have HCL := Lib.hid hcl
          clear hcl
          go_roundw
          case rel => exact ⟨k + 1, by omega, by go_num, hBr.alloc hBr.size _, by rw [HCL.out]; exact HO.out.below ((Below.refl _ _).alloc (Nat.le_refl _) _) (Nat.le_refl _), _, _, _, rfl⟩
          case measure => simp [intOf]; omega
    · obtain ⟨a3, n3, c3, rfl⟩ := hform
      go_wp2
      go_ret
      have e : k = bs.length := by omega
      subst e
      rw [List.take_length] at hO
      exact ⟨_, rfl, hO, hBr⟩
set_option maxRecDepth 100000 in
theorem blocksWithout_any (s : Value) (bs : List Blk) (b0 n0 : Nat) (cs : List Blk) (w : World) (h : SB w s bs) (hS0 : BSet w b0 n0 cs) :
    Calls Try.prog 133 #[s, .map (some b0)] w (RA (lessL bs cs) w) := by
  have hs := h.slice
  have hl := h.2.1
  have hb0 := BoolSet.lt hS0
  have HSB2 := Lib.hid h
  have HS0 := Lib.hid hS0
  clear h hS0
  obtain ⟨a, c, rfl⟩ := hs
  go_enter Try.func133, Try.ntmps133
  go_wp2_with fail
  go_loopw [5, 10] (fun o i wr => ∃ k : Nat, k ≤ bs.length ∧ i = .int .i64 k ∧ Below w.heap.size w wr ∧ OwnR wr w.heap.size o (lessL (bs.take k) cs) ∧ ∃ a n c, o = .slice a n c) (fun _ i _ => bs.length - (intOf i).toNat)
  case atStart => exact ⟨0, Nat.zero_le _, rfl, Below.refl _ _, OwnR.nil _ _, _, _, _, rfl⟩
  case round =>
    obtain ⟨k, hk, rfl, hBr, hO, hform⟩ := hrel
    have hSl := hBr.size
    have hS := BoolSet.below HS0.out hBr hb0
    by_cases hkl : k < bs.length
    · rcases HSB2.out.2.2 with ⟨_, _, _, hnil⟩ | ⟨b, off, cap, hval, hblt, hbl⟩
      · rw [hnil] at hkl; simp at hkl
      · simp at hval
        obtain ⟨rfl, rfl⟩ := hval
        obtain ⟨x, hx, ex, x1, x2, x3⟩ := blks_at (hbl.below hBr hblt) hkl
        have hw := HSB2.out.1 x hx
        have hnx := filter_take_next (p := fun x => !decide (x ∈ cs)) hkl ex
        have hmem := bv_mem (x := x) (cs := cs)
        have hlc := lessL_length (bs.take k) cs
        have hlc2 : (bs.take k).length ≤ bs.length := by simp; omega
        obtain ⟨p, q, r⟩ := x
        obtain ⟨kl, hkey⟩ := bv_key hw.1 hw.2.1 hw.2.2
        have HK := Lib.hid hkey
        have HNX := Lib.hid hnx
        have HMEM := Lib.hid hmem
        dsimp only at x1 x2 x3
        clear hbl hx ex hw hkey hnx hmem
        obtain ⟨a3, n3, c3, rfl⟩ := hform
        have HO := Lib.hid hO
        clear hO
        go_wp2_with (first | (at_lookup; refine wpList_look_set _ rfl _ _ 95 rfl 93 4 blockKeyed isMap Try.underlying4 (zeroBool _) b0 n0 (cs.map bv) rfl (hS.alloc _) (bv ⟨p, q, r⟩) kl rfl HK.out ?_; intro β hβ) | (at_builtin; refine wpList_append_blk rfl _ _ rfl w.heap.size _ (lessL (bs.take k) cs) rfl (((HO.out.below ((Below.refl _ _).alloc (Nat.le_refl _) _) (Nat.le_refl _)).below ((Below.refl _ _).alloc (Nat.le_refl _) _) (Nat.le_refl _))) _ _ ⟨p, q, r⟩ rfl (by simp [go_sem]) (by simp [go_sem]) (by simp [go_sem]) (by omega) (by simp; omega) ?_; intro g' cap' w4 hO4 hg4))
        · have hb : β = false := by simpa using (show (!β) = true by assumption)
          have hin : ¬ (⟨p, q, r⟩ : Blk) ∈ cs := fun h => by have := hβ.out.2 (HMEM.out.2 h); rw [hb] at this; cases this
          have hrow := HO.out.row
          have hgo : wr.grownBy w4 (Value.slice a3 n3 c3).ownBlock := ⟨hg4.os, hg4.tape, hg4.output, by have := hg4.size; simp at this; omega, fun i hi hne => by
            rw [hg4.block i (by simp; omega) hne, Below.heap_alloc _ _ _ (by simp; omega), Below.heap_alloc _ _ _ hi]⟩
          have hcl : lessL (bs.take (k + 1)) cs = lessL (bs.take k) cs ++ [⟨p, q, r⟩] := by
            unfold lessL
            rw [HNX.out, if_pos (by simpa using hin)]
          have HCL := Lib.hid hcl
          clear hcl hg4
          go_roundw
          case rel => exact ⟨k + 1, by omega, by go_num, hBr.grown hgo hBr.size (fun j e => hrow j e), by rw [HCL.out]; exact hO4, _, _, _, rfl⟩
          case measure => simp [intOf]; omega
        · have hb : β = true := by simpa using (show (!β) = false by assumption)
          have hin : (⟨p, q, r⟩ : Blk) ∈ cs := HMEM.out.1 (hβ.out.1 hb)
          have hcl : lessL (bs.take (k + 1)) cs = lessL (bs.take k) cs := by
            unfold lessL
            rw [HNX.out, if_neg (by simpa using hin), List.append_nil]
          have HCL := Lib.hid hcl
          clear hcl
          go_roundw
          case rel => exact ⟨k + 1, by omega, by go_num, hBr.alloc hBr.size _, by rw [HCL.out]; exact HO.out.below ((Below.refl _ _).alloc (Nat.le_refl _) _) (Nat.le_refl _), _, _, _, rfl⟩
          case measure => simp [intOf]; omega
    · obtain ⟨a3, n3, c3, rfl⟩ := hform
      go_wp2
      go_ret
      have e : k = bs.length := by omega
      subst e
      rw [List.take_length] at hO
      exact ⟨_, rfl, hO, hBr⟩
end Go.Proofs.Ytacfelgilphppaa

namespace Go.Proofs.Ytacfelgilphppaa
open Go.RowKit Go.Maps
set_option maxRecDepth 100000 in
set_option maxHeartbeats 1000000 in
theorem CommonBlocks_main (v : Int) (s : Value) (bs : List Blk) (t : Value) (cs : List Blk) (w : World) (h : SB w s bs) (k : SB w t cs) (h1 : isSysImpl v bs = true) (h2 : isSysImpl v cs = true) :
    Calls Try.prog 34 #[.agg #[.int .i64 v, s], .agg #[.int .i64 v, t]] w (RLC (commonL bs cs, 0) w) := by
  have hs := h.slice
  have ht := k.slice
  have hc1 := fun W (hb : Below w.heap.size w W) => IsSystem_any v s bs W (h.below hb (Nat.le_refl _))
  have hc2 := fun W (hb : Below w.heap.size w W) => IsSystem_any v t cs W (k.below hb (Nat.le_refl _))
  have hB : Below w.heap.size w ((w.alloc (.cells #[.int .i64 v, s] 31)).alloc (.cells #[.int .i64 v, t] 31)) := ((Below.refl _ _).alloc (Nat.le_refl _) _).alloc (by simp) _
  have HSB := Lib.hid h
  have KSB := Lib.hid k
  have hl1 := h.2.1
  have hl2 := k.2.1
  clear h k
  have HC2 := Lib.hid hc2
  have HC1 := Lib.hid hc1
  rw [h1] at HC1
  rw [h2] at HC2
  clear hc1 hc2 h1 h2
  have hnb : (v != v) = false := by simp
  obtain ⟨a, c, rfl⟩ := hs
  obtain ⟨a', c', rfl⟩ := ht
  go_enter Try.func34, Try.ntmps34
  go_wp2_with fail
  refine (HC1.out _ hB).mono ?_
  rintro e w1 ⟨rfl, hb1⟩
  have hB1 := hB.trans (hb1.mono (by simp; omega))
  have hz1 := hb1.size
  simp at hz1
  have d0 := (hb1.cell (p := ⟨w.heap.size, 0, none⟩) (by simp; omega)).trans (by simp [go_sem] : _ = some (Value.int .i64 v))
  have d1 := (hb1.cell (p := ⟨w.heap.size, 1, none⟩) (by simp; omega)).trans (by simp [go_sem] : _ = some (Value.slice a bs.length c))
  have c0 := (hb1.cell (p := ⟨w.heap.size + 1, 0, none⟩) (by simp)).trans (by simp [go_sem] : _ = some (Value.int .i64 v))
  have c1 := (hb1.cell (p := ⟨w.heap.size + 1, 1, none⟩) (by simp)).trans (by simp [go_sem] : _ = some (Value.slice a' cs.length c'))
  clear hb1
  go_wp2_with fail
  refine (HC2.out _ hB1).mono ?_
  rintro e w2 ⟨rfl, hb2⟩
  have e0 := (hb2.cell (p := ⟨w.heap.size, 0, none⟩) (by show w.heap.size < _; omega)).trans d0
  have e1 := (hb2.cell (p := ⟨w.heap.size, 1, none⟩) (by show w.heap.size < _; omega)).trans d1
  have f0 := (hb2.cell (p := ⟨w.heap.size + 1, 0, none⟩) (by show w.heap.size + 1 < _; omega)).trans c0
  have f1 := (hb2.cell (p := ⟨w.heap.size + 1, 1, none⟩) (by show w.heap.size + 1 < _; omega)).trans c1
  have hB2 := hB1.trans (hb2.mono hB1.size)
  have hz2 := hb2.size
  have hsb2 := HSB.out.below hB2 (Nat.le_refl _)
  have ksb2 := KSB.out.below hB2 (Nat.le_refl _)
  have HSB2 := Lib.hid hsb2
  have KSB2 := Lib.hid ksb2
  clear d0 d1 c0 c1 hb2 hsb2 ksb2
  have hz4 : w.heap.size < w2.heap.size := by omega
  go_wp2_with fail
  go_region_with (first | (go_at_call 98; refine (setOf_any _ cs _ ?_).mono ?_; (first | exact KSB2.out | exact KSB2.out.below ((Below.refl _ _).drew) (Nat.le_refl _)); rintro e w3 ⟨rfl, hS3, hb3⟩; have e13 := (hb3.cell (p := ⟨w.heap.size, 1, none⟩) (show w.heap.size < w2.heap.size from hz4)).trans e1; have h3 := (HSB2.out.below ((Below.refl _ _).drew) (Nat.le_refl _)).below hb3 (Nat.le_refl _); have H3 := Lib.hid h3; clear h3) | (go_at_call 97; refine (blocksIn_any _ bs _ _ cs _ ?_ hS3).mono ?_; (exact H3.out); rintro e w4 ⟨u4, rfl, hO4, hb4⟩))
  all_goals
    go_wp2
    go_ret2
    have hz3 : w2.heap.size ≤ w3.heap.size := hb3.size
    exact ⟨_, rfl, hO4.res.wide (by omega) (Nat.le_refl _), hB2.trans ((((Below.refl w.heap.size w2).drew).trans (hb3.mono (show w.heap.size ≤ w2.heap.size from Nat.le_of_lt hz4))).trans (hb4.mono (by omega)))⟩

theorem CommonBlocks_any (v : Int) (s : Value) (bs : List Blk) (u : Int) (t : Value) (cs : List Blk) (w : World) (h : SB w s bs) (k : SB w t cs) :
    Calls Try.prog 34 #[.agg #[.int .i64 v, s], .agg #[.int .i64 u, t]] w (RLC (commonF v bs u cs) w) := by
  unfold commonF
  cases hb : isSysImpl v bs && isSysImpl u cs with
  | false => exact CommonBlocks_no v s bs u t cs w h k hb
  | true =>
    simp only [Bool.and_eq_true] at hb
    by_cases e : v = u
    · subst e
      rw [if_pos rfl, if_pos rfl]
      exact CommonBlocks_main v s bs t cs w h k hb.1 hb.2
    · rw [if_pos rfl, if_neg e]
      exact CommonBlocks_ne v s bs u t cs w h k hb.1 hb.2 e
end Go.Proofs.Ytacfelgilphppaa

namespace Go.Proofs.Ytacfelgilphppaa
open Go.RowKit Go.Maps
theorem sizeInt64 (w : World) : (sizeOf 2).run Try.prog w = .ok 1 w := by kernel_rfl
theorem partInt64 (x y z : Value) (w : World) : (part 2 #[x, y, z] 0).run Try.prog w = .ok x w ∧ (part 2 #[x, y, z] 1).run Try.prog w = .ok y w ∧ (part 2 #[x, y, z] 2).run Try.prog w = .ok z w := by
  refine ⟨?_, ?_, ?_⟩ <;> kernel_rfl
theorem eqIn64 (d : Nat) (a b : Int) (w : World) : (Op.equalIn (d + 1) 2 (.int .i64 a) (.int .i64 b)).run Try.prog w = .ok (a == b) w := by
  simp [Op.equalIn, run_underlying Try.underlying2]
theorem eqInBlk (n : Nat) (a b c d e f : Int) (w : World) : (Op.equalIn (n + 1 + 1) 93 (.agg #[.int .i64 a, .int .i64 b, .int .i64 c]) (.agg #[.int .i64 d, .int .i64 e, .int .i64 f])).run Try.prog w = .ok (a == d && b == e && c == f) w := by
  rw [Op.equalIn]
  simp only [Sem.run_bind, run_underlying Try.underlying93, Result.andThen_ok, sizeInt64]
  simp [Std.Legacy.Range.forIn_eq_forIn_range', Std.Legacy.Range.size, List.range', partInt64, eqIn64, Sem.run_ite]
  by_cases h1 : a = d <;> by_cases h2 : b = e <;> by_cases h3 : c = f <;> simp [h1, h2, h3]
theorem run_eql_blk (x y : Blk) (w : World) : (binOp .eql 93 (bv x) (bv y)).run Try.prog w = .ok (.bool (decide (x = y))) w := by
  obtain ⟨a, b, c⟩ := x
  obtain ⟨d, e, f⟩ := y
  simp only [bv, binOp]
  simp [Op.equal, Op.maxDepth, eqInBlk 9998]
  by_cases h1 : a = d <;> by_cases h2 : b = e <;> by_cases h3 : c = f <;> simp [h1, h2, h3]
theorem run_neq_blk (x y : Blk) (w : World) : (binOp .neq 93 (bv x) (bv y)).run Try.prog w = .ok (.bool (!decide (x = y))) w := by
  obtain ⟨a, b, c⟩ := x
  obtain ⟨d, e, f⟩ := y
  simp only [bv, binOp]
  simp [Op.equal, Op.maxDepth, eqInBlk 9998]
  by_cases h1 : a = d <;> by_cases h2 : b = e <;> by_cases h3 : c = f <;> simp [h1, h2, h3]
end Go.Proofs.Ytacfelgilphppaa

namespace Go.Proofs.Ytacfelgilphppaa
open Go.RowKit Go.Maps
theorem OwnR.lit (w : World) : OwnR (w.alloc (.cells #[] 93)) w.heap.size (.slice (some ⟨w.heap.size, 0, none⟩) 0 0) [] :=
  ⟨rfl,   .inr ⟨w.heap.size, 0, #[], rfl, Nat.le_refl _, (MapKept.heap_alloc w (.cells #[] 93)).1, Nat.le_refl _, by unfold maxLen; omega, rfl, rfl⟩⟩
set_option maxRecDepth 100000 in
theorem l01Has_any (v : Int) (s : Value) (bs : List Blk) (x : Blk) (w : World) (h : SB w s bs) : Calls Try.prog 96 #[.agg #[.int .i64 v, s], bv x] w (RV (.bool (decide (x ∈ bs))) w) := by
  have hs := h.slice
  have H := Lib.hid h
  have hl := h.2.1
  clear h
  obtain ⟨a, c, rfl⟩ := hs
  obtain ⟨x1, x2, x3⟩ := x
  unfold bv
  dsimp only
  go_enter Try.func96, Try.ntmps96
  go_wp2
  have B0 : Below w.heap.size w ((w.alloc (.cells #[.int .i64 v, .slice a bs.length c] 31)).alloc (.cells #[.int .i64 x1, .int .i64 x2, .int .i64 x3] 93)) := ((Below.refl _ _).alloc (Nat.le_refl _) _).alloc (by simp) _
  have p1 := cell_past (ob := .cells #[.int .i64 x1, .int .i64 x2, .int .i64 x3] 93) (new_at (w := w) (cs := #[.int .i64 v, .slice a bs.length c]) (T := 31) 1 rfl) (by simp)
  obtain ⟨W, hW⟩ : ∃ W, W = (w.alloc (.cells #[.int .i64 v, .slice a bs.length c] 31)).alloc (.cells #[.int .i64 x1, .int .i64 x2, .int .i64 x3] 93) := ⟨_, rfl⟩
  have y0 : W.cell? ⟨w.heap.size + 1, 0, none⟩ = some (.int .i64 x1) := by rw [hW]; simp
  have y1 : W.cell? ⟨w.heap.size + 1, 1, none⟩ = some (.int .i64 x2) := by rw [hW]; simp
  have y2 : W.cell? ⟨w.heap.size + 1, 2, none⟩ = some (.int .i64 x3) := by rw [hW]; simp
  rw [← hW] at B0 p1 ⊢
  clear hW
  have hsb := H.out.below B0 (Nat.le_refl _)
  have HS := Lib.hid hsb
  clear hsb
  go_loopw [5] (fun i wr => ∃ k : Nat, k ≤ bs.length ∧ i = .int .i64 k ∧ (∃ n, wr = W.drewN n) ∧ Hid (¬ (⟨x1, x2, x3⟩ : Blk) ∈ bs.take k)) (fun i _ => bs.length - (intOf i).toNat)
  case atStart => exact ⟨0, Nat.zero_le _, rfl, ⟨0, rfl⟩, Lib.hid (by simp)⟩
  case round =>
    obtain ⟨k, hk, rfl, ⟨n, rfl⟩, HN⟩ := hrel
    by_cases hkl : k < bs.length
    · rcases HS.out.2.2 with ⟨_, _, _, hnil⟩ | ⟨b, off, cap, hval, hblt, hbl⟩
      · rw [hnil] at hkl; simp at hkl
      · simp at hval
        obtain ⟨rfl, rfl⟩ := hval
        obtain ⟨z, hz, ez, z1, z2, z3⟩ := blks_at hbl hkl
        have g0 : (0 : Int) ≤ (k : Int) := by omega
        have g1 : (k : Int) < (bs.length : Int) := by omega
        have hnx : bs.take (k + 1) = bs.take k ++ [z] := by
          have e : bs[k] = z := by
            rw [List.getElem?_eq_getElem hkl] at ez
            simpa using ez
          rw [take_next hkl, e]
        have HNX := Lib.hid hnx
        have HZ := Lib.hid hz
        have hq := run_eql_blk z ⟨x1, x2, x3⟩
        obtain ⟨q1, q2, q3⟩ := z
        unfold bv at hq
        dsimp only at hq z1 z2 z3
        clear hnx hz ez hbl
        by_cases he : (⟨q1, q2, q3⟩ : Blk) = ⟨x1, x2, x3⟩
        · have HEQ := Lib.hid he
          rw [decide_eq_true he] at hq
          clear he
          go_wp2
          go_quiet (fail)
          go_wp2
          go_ret
          exact RV_of (bool_eq (by rw [← HEQ.out]; simp [HZ.out])) (below_drewN (below_drewN B0 _) _)
        · have HEQ := Lib.hid he
          rw [decide_eq_false he] at hq
          clear he
          go_wp2
          go_quiet (fail)
          go_wp2
          go_roundw
          case rel => exact ⟨k + 1, by omega, by go_num, ⟨_, rfl⟩, Lib.hid (by rw [HNX.out]; simp only [List.mem_append, List.mem_singleton, not_or]; exact ⟨HN.out, fun e => HEQ.out e.symm⟩)⟩
          case measure => simp [intOf]; omega
    · go_wp2
      go_ret
      have e : k = bs.length := by omega
      subst e
      refine RV_of (bool_eq ?_) (below_drewN B0 _)
      have := HN.out
      rw [List.take_length] at this
      simp [this]
set_option maxRecDepth 100000 in
theorem specCommon_no (v : Int) (s : Value) (bs : List Blk) (u : Int) (t : Value) (cs : List Blk) (w : World) (h : SB w s bs) (k : SB w t cs) (hn : (isSysImpl v bs && isSysImpl u cs) = false) :
    Calls Try.prog 33 #[.agg #[.int .i64 v, s], .agg #[.int .i64 u, t]] w (RLC ([], 1) w) := by
  have hs := h.slice
  have ht := k.slice
  have hc1 := fun W (hb : Below w.heap.size w W) => l01Is_any v s bs W (h.below hb (Nat.le_refl _))
  have hc2 := fun W (hb : Below w.heap.size w W) => l01Is_any u t cs W (k.below hb (Nat.le_refl _))
  have hB : Below w.heap.size w ((w.alloc (.cells #[.int .i64 v, s] 31)).alloc (.cells #[.int .i64 u, t] 31)) := ((Below.refl _ _).alloc (Nat.le_refl _) _).alloc (by simp) _
  clear h k
  have HC2 := Lib.hid hc2
  have HC1 := Lib.hid hc1
  clear hc1 hc2
  obtain ⟨a, c, rfl⟩ := hs
  obtain ⟨a', c', rfl⟩ := ht
  cases h1 : isSysImpl v bs with
  | false =>
    rw [h1] at HC1
    clear h1 hn
    go_enter Try.func33, Try.ntmps33
    go_wp2_with (go_at_call 91; refine (HC1.out _ hB).mono ?_; rintro e w1 ⟨rfl, hb1⟩)
    go_ret2
    exact ⟨_, rfl, .inl ⟨rfl, _, _, rfl⟩, hB.trans (hb1.mono (by simp; omega))⟩
  | true =>
    rw [h1] at HC1 hn
    have h2 : isSysImpl u cs = false := by simpa using hn
    rw [h2] at HC2
    clear h1 h2 hn
    go_enter Try.func33, Try.ntmps33
    go_wp2_with fail
    refine (HC1.out _ hB).mono ?_
    rintro e w1 ⟨rfl, hb1⟩
    have hB1 := hB.trans (hb1.mono (by simp; omega))
    have c0 := (hb1.cell (p := ⟨w.heap.size + 1, 0, none⟩) (by simp)).trans (by simp [go_sem] : _ = some (Value.int .i64 u))
    have c1 := (hb1.cell (p := ⟨w.heap.size + 1, 1, none⟩) (by simp)).trans (by simp [go_sem] : _ = some (Value.slice a' cs.length c'))
    clear hb1
    go_wp2_with (go_at_call 91; refine (HC2.out _ hB1).mono ?_; rintro e w2 ⟨rfl, hb2⟩)
    go_ret2
    exact ⟨_, rfl, .inl ⟨rfl, _, _, rfl⟩, hB1.trans (hb2.mono hB1.size)⟩


set_option maxRecDepth 100000 in
theorem specCommon_ne (v : Int) (s : Value) (bs : List Blk) (u : Int) (t : Value) (cs : List Blk) (w : World) (h : SB w s bs) (k : SB w t cs) (h1 : isSysImpl v bs = true) (h2 : isSysImpl u cs = true) (hne : v ≠ u) :
    Calls Try.prog 33 #[.agg #[.int .i64 v, s], .agg #[.int .i64 u, t]] w (RLC ([], 2) w) := by
  have hs := h.slice
  have ht := k.slice
  have hc1 := fun W (hb : Below w.heap.size w W) => l01Is_any v s bs W (h.below hb (Nat.le_refl _))
  have hc2 := fun W (hb : Below w.heap.size w W) => l01Is_any u t cs W (k.below hb (Nat.le_refl _))
  have hB : Below w.heap.size w ((w.alloc (.cells #[.int .i64 v, s] 31)).alloc (.cells #[.int .i64 u, t] 31)) := ((Below.refl _ _).alloc (Nat.le_refl _) _).alloc (by simp) _
  clear h k
  have HC2 := Lib.hid hc2
  have HC1 := Lib.hid hc1
  rw [h1] at HC1
  rw [h2] at HC2
  clear hc1 hc2 h1 h2
  have hnb : (v != u) = true := by simp [hne]
  clear hne
  obtain ⟨a, c, rfl⟩ := hs
  obtain ⟨a', c', rfl⟩ := ht
  go_enter Try.func33, Try.ntmps33
  go_wp2_with fail
  refine (HC1.out _ hB).mono ?_
  rintro e w1 ⟨rfl, hb1⟩
  have hB1 := hB.trans (hb1.mono (by simp; omega))
  have hz1 := hb1.size
  simp at hz1
  have d0 := (hb1.cell (p := ⟨w.heap.size, 0, none⟩) (by simp; omega)).trans (by simp [go_sem] : _ = some (Value.int .i64 v))
  have c0 := (hb1.cell (p := ⟨w.heap.size + 1, 0, none⟩) (by simp)).trans (by simp [go_sem] : _ = some (Value.int .i64 u))
  have c1 := (hb1.cell (p := ⟨w.heap.size + 1, 1, none⟩) (by simp)).trans (by simp [go_sem] : _ = some (Value.slice a' cs.length c'))
  clear hb1
  go_wp2_with fail
  refine (HC2.out _ hB1).mono ?_
  rintro e w2 ⟨rfl, hb2⟩
  have e0 := (hb2.cell (p := ⟨w.heap.size, 0, none⟩) (by show w.heap.size < _; omega)).trans d0
  have f0 := (hb2.cell (p := ⟨w.heap.size + 1, 0, none⟩) (by show w.heap.size + 1 < _; omega)).trans c0
  clear d0 c0 c1
  go_wp2
  go_ret2
  exact ⟨_, rfl, .inl ⟨rfl, _, _, rfl⟩, hB1.trans (hb2.mono hB1.size)⟩


set_option maxRecDepth 100000 in
theorem specCommon_main (v : Int) (s : Value) (bs : List Blk) (t : Value) (cs : List Blk) (w : World) (h : SB w s bs) (k : SB w t cs) (h1 : isSysImpl v bs = true) (h2 : isSysImpl v cs = true) :
    Calls Try.prog 33 #[.agg #[.int .i64 v, s], .agg #[.int .i64 v, t]] w (RLC (commonL bs cs, 0) w) := by
  have hs := h.slice
  have ht := k.slice
  have hc1 := fun W (hb : Below w.heap.size w W) => l01Is_any v s bs W (h.below hb (Nat.le_refl _))
  have hc2 := fun W (hb : Below w.heap.size w W) => l01Is_any v t cs W (k.below hb (Nat.le_refl _))
  have hB : Below w.heap.size w ((w.alloc (.cells #[.int .i64 v, s] 31)).alloc (.cells #[.int .i64 v, t] 31)) := ((Below.refl _ _).alloc (Nat.le_refl _) _).alloc (by simp) _
  have HSB := Lib.hid h
  have KSB := Lib.hid k
  have hl1 := h.2.1
  have hl2 := k.2.1
  clear h k
  have HC2 := Lib.hid hc2
  have HC1 := Lib.hid hc1
  rw [h1] at HC1
  rw [h2] at HC2
  clear hc1 hc2 h1 h2
  have hnb : (v != v) = false := by simp
  obtain ⟨a, c, rfl⟩ := hs
  obtain ⟨a', c', rfl⟩ := ht
  go_enter Try.func33, Try.ntmps33
  go_wp2_with fail
  refine (HC1.out _ hB).mono ?_
  rintro e w1 ⟨rfl, hb1⟩
  have hB1 := hB.trans (hb1.mono (by simp; omega))
  have hz1 := hb1.size
  simp at hz1
  have d0 := (hb1.cell (p := ⟨w.heap.size, 0, none⟩) (by simp; omega)).trans (by simp [go_sem] : _ = some (Value.int .i64 v))
  have d1 := (hb1.cell (p := ⟨w.heap.size, 1, none⟩) (by simp; omega)).trans (by simp [go_sem] : _ = some (Value.slice a bs.length c))
  have c0 := (hb1.cell (p := ⟨w.heap.size + 1, 0, none⟩) (by simp)).trans (by simp [go_sem] : _ = some (Value.int .i64 v))
  have c1 := (hb1.cell (p := ⟨w.heap.size + 1, 1, none⟩) (by simp)).trans (by simp [go_sem] : _ = some (Value.slice a' cs.length c'))
  clear hb1
  go_wp2_with fail
  refine (HC2.out _ hB1).mono ?_
  rintro e w2 ⟨rfl, hb2⟩
  have e0 := (hb2.cell (p := ⟨w.heap.size, 0, none⟩) (by show w.heap.size < _; omega)).trans d0
  have e1 := (hb2.cell (p := ⟨w.heap.size, 1, none⟩) (by show w.heap.size < _; omega)).trans d1
  have f0 := (hb2.cell (p := ⟨w.heap.size + 1, 0, none⟩) (by show w.heap.size + 1 < _; omega)).trans c0
  have f1 := (hb2.cell (p := ⟨w.heap.size + 1, 1, none⟩) (by show w.heap.size + 1 < _; omega)).trans c1
  have hB2 := hB1.trans (hb2.mono hB1.size)
  have hz2 := hb2.size
  have hsb2 := HSB.out.below hB2 (Nat.le_refl _)
  have ksb2 := KSB.out.below hB2 (Nat.le_refl _)
  have HSB2 := Lib.hid hsb2
  have KSB2 := Lib.hid ksb2
  clear d0 d1 c0 c1 hb2 hsb2 ksb2
  have hz3 : w.heap.size + 1 < w2.heap.size := by omega
  have hz4 : w.heap.size < w2.heap.size := by omega
  go_wp2_with fail
  go_loopw [6, 7] (fun o i wr => ∃ k : Nat, k ≤ bs.length ∧ i = .int .i64 k ∧ Below w2.heap.size w2 wr ∧ OwnR wr w2.heap.size o (commonL (bs.take k) cs) ∧ ∃ a n c, o = .slice a n c) (fun _ i _ => bs.length - (intOf i).toNat)
  case atStart => exact ⟨0, Nat.zero_le _, rfl, (Below.refl _ _).alloc (Nat.le_refl _) _, OwnR.lit _, _, _, _, rfl⟩
  case round =>
    obtain ⟨k, hk, rfl, hBr, hO, hform⟩ := hrel
    have hzr := hBr.size
    have p1 := (hBr.cell (p := ⟨w.heap.size, 1, none⟩) (by show w.heap.size < _; omega)).trans e1
    by_cases hkl : k < bs.length
    · rcases HSB2.out.2.2 with ⟨_, _, _, hnil⟩ | ⟨b, off, cap, hval, hblt, hbl⟩
      · rw [hnil] at hkl; simp at hkl
      · simp at hval
        obtain ⟨rfl, rfl⟩ := hval
        obtain ⟨x, hx, ex, x1, x2, x3⟩ := blks_at (hbl.below hBr hblt) hkl
        have hnx := filter_take_next (p := fun x => decide (x ∈ cs)) hkl ex
        have hlc := commonL_length (bs.take k) cs
        have hlc2 : (bs.take k).length ≤ bs.length := by simp; omega
        have hhas := fun W (hb : Below wr.heap.size wr W) => l01Has_any v (.slice a' cs.length c') cs x W ((KSB2.out.below hBr (Nat.le_refl _)).below hb (Nat.le_refl _))
        have q1 := cell_regrown p1
        have q2 := cell_regrown ((hBr.cell (p := ⟨w.heap.size + 1, 0, none⟩) (by show w.heap.size + 1 < _; omega)).trans f0)
        have q3 := cell_regrown ((hBr.cell (p := ⟨w.heap.size + 1, 1, none⟩) (by show w.heap.size + 1 < _; omega)).trans f1)
        have r1 := cell_regrown x1
        have r2 := cell_regrown x2
        have r3 := cell_regrown x3
        have g0 : (0 : Int) ≤ (k : Int) := by omega
        have g1 : (k : Int) < (bs.length : Int) := by omega
        have HO := Lib.hid hO
        obtain ⟨p, q, r⟩ := x
        have HNX := Lib.hid hnx
        dsimp only at x1 x2 x3 r1 r2 r3
        clear hbl hx ex hnx hO
        obtain ⟨a3, n3, c3, rfl⟩ := hform
        by_cases hin : (⟨p, q, r⟩ : Blk) ∈ cs
        · rw [decide_eq_true hin] at hhas
          have HH := Lib.hid hhas
          have HIN := Lib.hid hin
          clear hhas hin
          go_wp2
          refine wp_region_quiet_below (by kernel_rfl) (by kernel_rfl) ?_
          repeat (go_big_quiet_step (exact Calls.regrown_of (HH.out _ (below_regrown _ _ _))))
          refine wpQuiet_nil ?_
          intro _ hw'
          obtain ⟨⟨dq, osq⟩, hw''⟩ := hw'
          subst hw''
          have hbq := below_regrown wr dq osq
          have s1 := q1 dq osq
          have s4 := r1 dq osq
          have s5 := r2 dq osq
          have s6 := r3 dq osq
          obtain ⟨W, hW⟩ : ∃ W, W = Go.Sort.grow (redrawn wr dq) osq := ⟨_, rfl⟩
          rw [← hW] at hbq s1 s4 s5 s6 ⊢
          clear hW q1 q2 q3 r1 r2 r3
          have hO2 := HO.out.below hbq (Nat.le_refl _)
          have HO2 := Lib.hid hO2
          have hBW := hBr.trans (hbq.mono hzr)
          have hzW := hBW.size
          clear hO2
          go_wp2_with (at_builtin; refine wpList_append_blk rfl _ _ rfl w2.heap.size _ (commonL (bs.take k) cs) rfl (HO2.out.below ((Below.refl _ _).alloc (Nat.le_refl _) _) (Nat.le_refl _)) _ _ ⟨p, q, r⟩ rfl (by simp [go_sem]) (by simp [go_sem]) (by simp [go_sem]) (by omega) (by simp; omega) ?_; intro g' cap' w4 hO4 hg4)
          have hrow := HO2.out.row
          have hgo : W.grownBy w4 (Value.slice a3 n3 c3).ownBlock := ⟨hg4.os, hg4.tape, hg4.output, by have := hg4.size; simp at this; omega, fun i hi hne => by
            rw [hg4.block i (by simp; omega) hne, Below.heap_alloc _ _ _ hi]⟩
          have hcl : commonL (bs.take (k + 1)) cs = commonL (bs.take k) cs ++ [⟨p, q, r⟩] := by
            unfold commonL
            rw [HNX.out, if_pos (by simpa using HIN.out)]
          have HCL := Lib.hid hcl
          clear hcl hg4
          go_roundw
          case rel => exact ⟨k + 1, by omega, by go_num, hBW.grown hgo hBW.size (fun j e => hrow j e), by rw [HCL.out]; exact hO4, _, _, _, rfl⟩
          case measure => simp [intOf]; omega
        · rw [decide_eq_false hin] at hhas
          have HH := Lib.hid hhas
          have HIN := Lib.hid hin
          clear hhas hin
          go_wp2
          refine wp_region_quiet_below (by kernel_rfl) (by kernel_rfl) ?_
          repeat (go_big_quiet_step (exact Calls.regrown_of (HH.out _ (below_regrown _ _ _))))
          refine wpQuiet_nil ?_
          intro _ hw'
          obtain ⟨⟨dq, osq⟩, hw''⟩ := hw'
          subst hw''
          have hbq := below_regrown wr dq osq
          have hcl : commonL (bs.take (k + 1)) cs = commonL (bs.take k) cs := by
            unfold commonL
            rw [HNX.out, if_neg (by simpa using HIN.out), List.append_nil]
          have HCL := Lib.hid hcl
          clear hcl
          go_wp2
          go_roundw
          case rel => exact ⟨k + 1, by omega, by go_num, hBr.trans (hbq.mono hzr), by rw [HCL.out]; exact HO.out.below hbq (Nat.le_refl _), _, _, _, rfl⟩
          case measure => simp [intOf]; omega
    · obtain ⟨a3, n3, c3, rfl⟩ := hform
      go_wp2
      go_ret2
      have e : k = bs.length := by omega
      subst e
      rw [List.take_length] at hO
      exact ⟨_, rfl, hO.res.wide (by omega) (Nat.le_refl _), hB2.trans (hBr.mono hB2.size)⟩

theorem specCommon_any (v : Int) (s : Value) (bs : List Blk) (u : Int) (t : Value) (cs : List Blk) (w : World) (h : SB w s bs) (k : SB w t cs) :
    Calls Try.prog 33 #[.agg #[.int .i64 v, s], .agg #[.int .i64 u, t]] w (RLC (commonF v bs u cs) w) := by
  unfold commonF
  cases hb : isSysImpl v bs && isSysImpl u cs with
  | false => exact specCommon_no v s bs u t cs w h k hb
  | true =>
    simp only [Bool.and_eq_true] at hb
    by_cases e : v = u
    · subst e
      rw [if_pos rfl, if_pos rfl]
      exact specCommon_main v s bs t cs w h k hb.1 hb.2
    · rw [if_pos rfl, if_neg e]
      exact specCommon_ne v s bs u t cs w h k hb.1 hb.2 e
end Go.Proofs.Ytacfelgilphppaa

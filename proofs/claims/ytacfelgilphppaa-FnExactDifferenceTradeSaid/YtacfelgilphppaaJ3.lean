
/- The blocks that two systems have in common: the program and the model. The laws' marks in systems. Blocks in ascending order: plain facts. Plain facts on trades, without the program. The model's pairs of blocks: l04Pair, l04Pairs, l04Same, l04Member. Sets of blocks as maps: setOf, blocksIn, blocksWithout. impl.CommonBlocks answers as the plain function commonF. The model's CommonBlocks answers as the plain function commonF. Third points, in plain words. -/
import Derived.Test.YtacfelgilphppaaJ2
import Derived.Deep.RegionWith
import Derived.Deep.DeepCutAuto
import Derived.Deep.OwnRows
namespace Go.Proofs.Ytacfelgilphppaa
open Go.RowKit Go.Maps
def commonL (bs cs : List Blk) : List Blk := bs.filter fun x => decide (x ∈ cs)
def commonF (v : Int) (bs : List Blk) (u : Int) (cs : List Blk) : List Blk × Int :=
  if isSysImpl v bs && isSysImpl u cs then (if v = u then (commonL bs cs, 0) else ([], 2)) else ([], 1)
/-- Two results: a list of blocks in new memory, and a code. -/
def RLC (p : List Blk × Int) (w : World) (e : Ending) (w' : World) : Prop := ∃ s, e = .returned (.tuple #[s, .int .i64 p.2]) ∧ ResR w' w.heap.size w'.heap.size s p.1 ∧ Below w.heap.size w w'
theorem run_makeMap_hint {P : Program} (t k e : TypeId) (kd : IntKind) (n : Int) (ht : P.underlying t = some (.map k e)) (w : World) :
    (Instr.makeMap t (some (.int kd n))).run P w = .ok (.map (some w.heap.size)) (w.alloc (.map #[] 0)) := by
  simp [Instr.makeMap, run_underlying ht]; rfl
theorem SB.slice {w : World} {s : Value} {bs : List Blk} (h : SB w s bs) : ∃ a c, s = .slice a bs.length c := by
  rcases h.2.2 with ⟨a0, c0, rfl, rfl⟩ | ⟨b, off, cap, rfl, _⟩ <;> exact ⟨_, _, rfl⟩

set_option maxRecDepth 100000 in
theorem CommonBlocks_no (v : Int) (s : Value) (bs : List Blk) (u : Int) (t : Value) (cs : List Blk) (w : World) (h : SB w s bs) (k : SB w t cs) (hn : (isSysImpl v bs && isSysImpl u cs) = false) :
    Calls Try.prog 34 #[.agg #[.int .i64 v, s], .agg #[.int .i64 u, t]] w (RLC ([], 1) w) := by
  have hs := h.slice
  have ht := k.slice
  have hc1 := fun W (hb : Below w.heap.size w W) => IsSystem_any v s bs W (h.below hb (Nat.le_refl _))
  have hc2 := fun W (hb : Below w.heap.size w W) => IsSystem_any u t cs W (k.below hb (Nat.le_refl _))
  have hB : Below w.heap.size w ((w.alloc (.cells #[.int .i64 v, s] 31)).alloc (.cells #[.int .i64 u, t] 31)) := ((Below.refl _ _).alloc (Nat.le_refl _) _).alloc (by simp) _
  clear h k
  have HC2 := Lib.hid hc2
  have HC1 := Lib.hid hc1
  clear hc1 hc2
  obtain ⟨a, c, rfl⟩ := hs
  obtain ⟨a', c', rfl⟩ := ht
  cases h1 : isSysImpl v bs with
  | false =>
    rw [h1] at HC1
    clear h1 hn
    go_enter Try.func34, Try.ntmps34
    go_wp2_with (go_at_call 94; refine (HC1.out _ hB).mono ?_; rintro e w1 ⟨rfl, hb1⟩)
    go_ret2
    exact ⟨_, rfl, .inl ⟨rfl, _, _, rfl⟩, hB.trans (hb1.mono (by simp; omega))⟩
  | true =>
    rw [h1] at HC1 hn
    have h2 : isSysImpl u cs = false := by simpa using hn
    rw [h2] at HC2
    clear h1 h2 hn
    go_enter Try.func34, Try.ntmps34
    go_wp2_with fail
    refine (HC1.out _ hB).mono ?_
    rintro e w1 ⟨rfl, hb1⟩
    have hB1 := hB.trans (hb1.mono (by simp; omega))
    have c0 := (hb1.cell (p := ⟨w.heap.size + 1, 0, none⟩) (by simp)).trans (by simp [go_sem] : _ = some (Value.int .i64 u))
    have c1 := (hb1.cell (p := ⟨w.heap.size + 1, 1, none⟩) (by simp)).trans (by simp [go_sem] : _ = some (Value.slice a' cs.length c'))
    clear hb1
    go_wp2_with (go_at_call 94; refine (HC2.out _ hB1).mono ?_; rintro e w2 ⟨rfl, hb2⟩)
    go_ret2
    exact ⟨_, rfl, .inl ⟨rfl, _, _, rfl⟩, hB1.trans (hb2.mono hB1.size)⟩


set_option maxRecDepth 100000 in
theorem CommonBlocks_ne (v : Int) (s : Value) (bs : List Blk) (u : Int) (t : Value) (cs : List Blk) (w : World) (h : SB w s bs) (k : SB w t cs) (h1 : isSysImpl v bs = true) (h2 : isSysImpl u cs = true) (hne : v ≠ u) :
    Calls Try.prog 34 #[.agg #[.int .i64 v, s], .agg #[.int .i64 u, t]] w (RLC ([], 2) w) := by
  have hs := h.slice
  have ht := k.slice
  have hc1 := fun W (hb : Below w.heap.size w W) => IsSystem_any v s bs W (h.below hb (Nat.le_refl _))
  have hc2 := fun W (hb : Below w.heap.size w W) => IsSystem_any u t cs W (k.below hb (Nat.le_refl _))
  have hB : Below w.heap.size w ((w.alloc (.cells #[.int .i64 v, s] 31)).alloc (.cells #[.int .i64 u, t] 31)) := ((Below.refl _ _).alloc (Nat.le_refl _) _).alloc (by simp) _
  clear h k
  have HC2 := Lib.hid hc2
  have HC1 := Lib.hid hc1
  rw [h1] at HC1
  rw [h2] at HC2
  clear hc1 hc2 h1 h2
  have hnb : (v != u) = true := by simp [hne]
  clear hne
  obtain ⟨a, c, rfl⟩ := hs
  obtain ⟨a', c', rfl⟩ := ht
  go_enter Try.func34, Try.ntmps34
  go_wp2_with fail
  refine (HC1.out _ hB).mono ?_
  rintro e w1 ⟨rfl, hb1⟩
  have hB1 := hB.trans (hb1.mono (by simp; omega))
  have hz1 := hb1.size
  simp at hz1
  have d0 := (hb1.cell (p := ⟨w.heap.size, 0, none⟩) (by simp; omega)).trans (by simp [go_sem] : _ = some (Value.int .i64 v))
  have c0 := (hb1.cell (p := ⟨w.heap.size + 1, 0, none⟩) (by simp)).trans (by simp [go_sem] : _ = some (Value.int .i64 u))
  have c1 := (hb1.cell (p := ⟨w.heap.size + 1, 1, none⟩) (by simp)).trans (by simp [go_sem] : _ = some (Value.slice a' cs.length c'))
  clear hb1
  go_wp2_with fail
  refine (HC2.out _ hB1).mono ?_
  rintro e w2 ⟨rfl, hb2⟩
  have e0 := (hb2.cell (p := ⟨w.heap.size, 0, none⟩) (by show w.heap.size < _; omega)).trans d0
  have f0 := (hb2.cell (p := ⟨w.heap.size + 1, 0, none⟩) (by show w.heap.size + 1 < _; omega)).trans c0
  clear d0 c0 c1
  go_wp2
  go_ret2
  exact ⟨_, rfl, .inl ⟨rfl, _, _, rfl⟩, hB1.trans (hb2.mono hB1.size)⟩

theorem filter_take_next {p : Blk → Bool} {bs : List Blk} {k : Nat} {x : Blk} (hk : k < bs.length) (hx : bs[k]? = some x) : (bs.take (k + 1)).filter p = (bs.take k).filter p ++ if p x then [x] else [] := by
  have e : bs[k] = x := by
    rw [List.getElem?_eq_getElem hk] at hx
    simpa using hx
  rw [take_next hk, e, List.filter_append]
  cases h : p x <;> simp [h]
theorem commonL_length (bs cs : List Blk) : (commonL bs cs).length ≤ bs.length := List.length_filter_le _ _
theorem commonL_wf {bs cs : List Blk} (h : ∀ x ∈ bs, WFB x) : ∀ x ∈ commonL bs cs, WFB x := fun x hx => h x ((List.mem_filter.1 hx).1)
theorem isMap : Try.prog.underlying 95 = some (.map 93 4) := Try.underlying95

theorem OwnR.row {w : World} {base : Nat} {v : Value} {bs : List Blk} (h : OwnR w base v bs) : ∀ r, v.ownBlock = some r → base ≤ r := fun r hr => by
  rcases h.2 with ⟨rfl, _⟩ | ⟨g, cap, cur, rfl, hb, _⟩
  · cases hr
  · cases hr; exact hb
end Go.Proofs.Ytacfelgilphppaa

namespace Go.Proofs.Ytacfelgilphppaa
open Go.RowKit Go.Maps
theorem gb_trans {a b c : World} {row : Option Nat} (h : a.grownBy b none) (k : b.grownBy c row) : a.grownBy c row :=
  ⟨k.os.trans h.os, k.tape.trans h.tape, k.output.trans h.output, Nat.le_trans h.size k.size, fun i hi hne => (k.block i (Nat.lt_of_lt_of_le hi h.size) hne).trans (h.block i hi (by simp))⟩
theorem gb_below {a b : World} (h : Below a.heap.size a b) : a.grownBy b none := only_of_below h none
theorem ResR.slice {w : World} {lo hi : Nat} {s : Value} {bs : List Blk} (h : ResR w lo hi s bs) : ∃ a c, s = .slice a bs.length c := by
  rcases h with ⟨rfl, a, c, rfl⟩ | ⟨g, cap, rfl, _⟩ <;> exact ⟨_, _, rfl⟩
set_option maxRecDepth 100000 in
theorem markSystem_any (lo hi : Nat) (v : Int) (s : Value) (bs : List Blk) (k : Int) (w : World) (h : ResR w lo hi s bs) (hl : bs.length ≤ 1100000) (h0 : 0 ≤ k) (h1 : k ≤ 9000000) :
    Calls Try.prog 30 #[.agg #[.int .i64 v, s], .int .i64 k] w (fun e w' => e = .returned (.int .i64 (k + 3 * bs.length)) ∧ (∃ row, w.grownBy w' row ∧ ∀ r, row = some r → lo ≤ r ∧ r < hi) ∧ ResR w' lo hi s (markL k bs.length)) := by
  have hc := markR lo hi s bs k (w.alloc (.cells #[.int .i64 v, s] 31)) (h.below ((Below.refl _ _).alloc (Nat.le_refl _) _) (Nat.le_refl _)) hl h0 h1
  have hs := h.slice
  have HC := Lib.hid hc
  clear hc h
  obtain ⟨a, c, rfl⟩ := hs
  go_enter Try.func30, Try.ntmps30
  go_wp2_with (go_at_call 36; refine HC.out.mono ?_; rintro e w1 ⟨rfl, hg, hr⟩)
  go_ret
  obtain ⟨row, hg, hrow⟩ := hg
  exact ⟨rfl, ⟨row, gb_trans (World.grownBy_alloc _ _ none) hg, hrow⟩, hr⟩
set_option maxRecDepth 100000 in
theorem heldSystem_any (lo hi : Nat) (v : Int) (s : Value) (n : Nat) (k : Int) (w : World) (h : ResR w lo hi s (markL k n)) (hl : n ≤ 1100000) (h0 : 0 ≤ k) (h1 : k ≤ 9000000) :
    Calls Try.prog 44 #[.agg #[.int .i64 v, s], .int .i64 k] w (RV (.int .i64 (k + 3 * n)) w) := by
  have hc := heldR lo hi s n k (w.alloc (.cells #[.int .i64 v, s] 31)) (h.below ((Below.refl _ _).alloc (Nat.le_refl _) _) (Nat.le_refl _)) hl h0 h1
  have hs := h.slice
  obtain ⟨m, hm⟩ : ∃ m, m = k + 3 * (n : Int) := ⟨_, rfl⟩
  rw [← hm] at hc ⊢
  have m0 : 0 ≤ m := by omega
  have HC := Lib.hid hc
  clear hc h hm
  obtain ⟨a, c, rfl⟩ := hs
  go_enter Try.func44, Try.ntmps44
  go_wp2_with (go_at_call 37; refine HC.out.mono ?_; rintro e w1 ⟨rfl, rfl⟩)
  go_ret
  exact RV_of rfl ((Below.refl _ _).alloc (Nat.le_refl _) _)
end Go.Proofs.Ytacfelgilphppaa

namespace Go.Proofs.Ytacfelgilphppaa
theorem bef_iff (x y : Blk) : befB x y = true ↔ x.a < y.a ∨ (x.a = y.a ∧ (x.b < y.b ∨ (x.b = y.b ∧ x.c < y.c))) := by
  unfold befB
  split
  · split
    · simp; omega
    · simp; omega
  · simp; omega
theorem bef_niff (x y : Blk) : befB x y = false ↔ ¬ (x.a < y.a ∨ (x.a = y.a ∧ (x.b < y.b ∨ (x.b = y.b ∧ x.c < y.c)))) := by
  rw [← bef_iff]; simp
theorem bef_irrefl (x : Blk) : befB x x = false := by rw [bef_niff]; omega
theorem bef_trans {x y z : Blk} (h1 : befB x y = true) (h2 : befB y z = true) : befB x z = true := by
  rw [bef_iff] at *; omega
theorem bef_ntrans {x y z : Blk} (h1 : befB x y = false) (h2 : befB y z = false) : befB x z = false := by
  rw [bef_niff] at *; omega
theorem bef_asymm {x y : Blk} (h : befB x y = true) : befB y x = false := by
  rw [bef_niff]; rw [bef_iff] at h; omega
theorem bef_total {x y : Blk} (h1 : befB x y = false) (h2 : befB y x = false) : x = y := by
  rw [bef_niff] at h1 h2
  obtain ⟨a, b, c⟩ := x
  obtain ⟨d, e, f⟩ := y
  simp only at h1 h2
  simp only [Blk.mk.injEq]
  omega
/-- No block stands behind a greater one. -/
def Srt (l : List Blk) : Prop := l.Pairwise fun x y => befB y x = false
theorem srt_unique {l m : List Blk} (h1 : Srt l) (h2 : Srt m) (hp : l.Perm m) : l = m :=
  List.Perm.eq_of_pairwise (le := fun x y => befB y x = false) (fun _ _ _ _ h1 h2 => bef_total h2 h1) h1 h2 hp
/-- Where x goes in among the first n of l. -/
def posB (x : Blk) (l : List Blk) : Nat → Nat
  | 0 => 0
  | n + 1 => if befB x (l[n]?.getD default) then posB x l n else n + 1
theorem posB_le (x : Blk) (l : List Blk) : ∀ n, posB x l n ≤ n
  | 0 => Nat.le_refl _
  | n + 1 => by
    unfold posB
    split
    · have := posB_le x l n; omega
    · exact Nat.le_refl _
theorem posB_after (x : Blk) (l : List Blk) : ∀ n j, posB x l n ≤ j → j < n → befB x (l[j]?.getD default) = true
  | 0, j, _, h => by omega
  | n + 1, j, h1, h2 => by
    unfold posB at h1
    split at h1
    · by_cases e : j = n
      · subst e; assumption
      · exact posB_after x l n j h1 (by omega)
    · omega
theorem posB_at (x : Blk) (l : List Blk) : ∀ n m, posB x l n = m + 1 → befB x (l[m]?.getD default) = false
  | 0, m, h => by simp [posB] at h
  | n + 1, m, h => by
    unfold posB at h
    split at h
    · exact posB_at x l n m h
    · obtain rfl : m = n := by omega
      exact Bool.eq_false_iff.2 ‹¬ befB _ _ = true›
def insB (x : Blk) (l : List Blk) : List Blk := l.take (posB x l l.length) ++ x :: l.drop (posB x l l.length)
theorem insB_perm (x : Blk) (l : List Blk) : (insB x l).Perm (x :: l) := by
  unfold insB
  refine List.perm_middle.trans ?_
  rw [List.take_append_drop]
theorem insB_length (x : Blk) (l : List Blk) : (insB x l).length = l.length + 1 := by
  rw [(insB_perm x l).length_eq]; rfl
theorem insB_srt {x : Blk} {l : List Blk} (h : Srt l) : Srt (insB x l) := by
  unfold insB Srt
  have hle := posB_le x l l.length
  have hb : ∀ y ∈ l.take (posB x l l.length), befB x y = false := by
    intro y hy
    obtain ⟨i, hi, e⟩ := List.getElem_of_mem hy
    rw [List.length_take] at hi
    rw [List.getElem_take] at e
    obtain ⟨m, hm⟩ : ∃ m, posB x l l.length = m + 1 := ⟨posB x l l.length - 1, by omega⟩
    have hm2 := posB_at x l _ m hm
    have hml : m < l.length := by omega
    rw [List.getElem?_eq_getElem hml, Option.getD_some] at hm2
    by_cases hi2 : i = m
    · subst hi2; rw [← e]; exact hm2
    · have hh := List.pairwise_iff_getElem.1 h i m (by omega) hml (by omega)
      rw [← e]
      exact bef_ntrans hm2 hh
  have ha : ∀ y ∈ l.drop (posB x l l.length), befB x y = true := by
    intro y hy
    obtain ⟨i, hi, e⟩ := List.getElem_of_mem hy
    rw [List.length_drop] at hi
    rw [List.getElem_drop] at e
    have h2 := posB_after x l l.length (posB x l l.length + i) (by omega) (by omega)
    rw [List.getElem?_eq_getElem (by omega), Option.getD_some, e] at h2
    exact h2
  have h0 : Srt (l.take (posB x l l.length) ++ l.drop (posB x l l.length)) := by rw [List.take_append_drop]; exact h
  obtain ⟨h1, h2, h3⟩ := List.pairwise_append.1 h0
  refine List.pairwise_append.2 ⟨h1, List.pairwise_cons.2 ⟨fun y hy => bef_asymm (ha y hy), h2⟩, fun y hy z hz => ?_⟩
  rcases List.mem_cons.1 hz with rfl | hz
  · exact hb y hy
  · exact h3 y hy z hz
/-- The blocks in order. -/
def sortB (bs : List Blk) : List Blk := bs.foldl (fun acc x => insB x acc) []
theorem sortB_snoc (bs : List Blk) (x : Blk) : sortB (bs ++ [x]) = insB x (sortB bs) := by simp [sortB]
theorem foldIns_perm : ∀ (bs acc : List Blk), (bs.foldl (fun acc x => insB x acc) acc).Perm (bs ++ acc)
  | [], acc => List.Perm.refl _
  | x :: r, acc => by
    rw [List.foldl_cons]
    refine (foldIns_perm r _).trans ?_
    refine ((insB_perm x acc).append_left r).trans ?_
    exact List.perm_middle
theorem foldIns_srt : ∀ (bs acc : List Blk), Srt acc → Srt (bs.foldl (fun acc x => insB x acc) acc)
  | [], _, h => h
  | x :: r, acc, h => by
    rw [List.foldl_cons]
    exact foldIns_srt r _ (insB_srt h)
theorem sortB_perm (bs : List Blk) : (sortB bs).Perm bs := by
  have := foldIns_perm bs []
  rwa [List.append_nil] at this
theorem sortB_srt (bs : List Blk) : Srt (sortB bs) := foldIns_srt bs [] List.Pairwise.nil
theorem sortB_length (bs : List Blk) : (sortB bs).length = bs.length := (sortB_perm bs).length_eq
theorem sortB_eq {bs l : List Blk} (h1 : Srt l) (h2 : l.Perm bs) : sortB bs = l := srt_unique (sortB_srt bs) h1 ((sortB_perm bs).trans h2.symm)
theorem sortB_of_perm {bs cs : List Blk} (h : bs.Perm cs) : sortB bs = sortB cs := sortB_eq (sortB_srt cs) ((sortB_perm cs).trans h.symm)
theorem sortB_mem {bs : List Blk} {x : Blk} : x ∈ sortB bs ↔ x ∈ bs := (sortB_perm bs).mem_iff
theorem sortB_merge (bs : List Blk) : bs.mergeSort (fun x y => !befB y x) = sortB bs := by
  refine (sortB_eq ?_ (List.mergeSort_perm _ _)).symm
  have := List.pairwise_mergeSort (le := fun x y => !befB y x) (fun x y z h1 h2 => by
    simp only [Bool.not_eq_true'] at *
    exact bef_ntrans h2 h1) (fun x y => by
    cases h : befB y x
    · simp
    · simp [bef_asymm h]) bs
  exact this.imp fun h => by simpa using h
/-- Blocks in strict order are in order. -/
theorem order_srt {v : Int} : ∀ {bs : List Blk} {p : Option Blk}, orderGo v p bs = true → (bs.Pairwise fun x y => befB x y = true) ∧ ∀ y, p = some y → ∀ x ∈ bs, befB y x = true
  | [], _, _ => ⟨List.Pairwise.nil, by simp⟩
  | x :: r, p, h => by
    simp only [orderGo, Bool.and_eq_true] at h
    obtain ⟨⟨_, h1⟩, h2⟩ := h
    obtain ⟨i1, i2⟩ := order_srt h2
    refine ⟨List.pairwise_cons.2 ⟨fun y hy => i2 x rfl y hy, i1⟩, fun y hy z hz => ?_⟩
    subst hy
    simp only at h1
    rcases List.mem_cons.1 hz with rfl | hz
    · exact h1
    · exact bef_trans h1 (i2 x rfl z hz)
theorem sys_strict {v : Int} {bs : List Blk} (h : isSysImpl v bs = true) : bs.Pairwise fun x y => befB x y = true := by
  simp only [isSysImpl, Bool.and_eq_true] at h
  exact (order_srt h.1.2).1
theorem strict_srt {bs : List Blk} (h : bs.Pairwise fun x y => befB x y = true) : Srt bs := h.imp bef_asymm
theorem strict_nodup {bs : List Blk} (h : bs.Pairwise fun x y => befB x y = true) : bs.Nodup :=
  h.imp fun {x y} hxy e => by subst e; rw [bef_irrefl] at hxy; cases hxy
end Go.Proofs.Ytacfelgilphppaa

namespace Go.Proofs.Ytacfelgilphppaa
/-- The pairs of a list of blocks. -/
def prs (bs : List Blk) : List (Int × Int) := bs.flatMap pairsL
/-- The same pairs. -/
def samePr (bs cs : List Blk) : Bool := (prs bs).all (fun p => decide (p ∈ prs cs)) && (prs cs).all (fun p => decide (p ∈ prs bs))
/-- No block is in both. -/
def dsj (bs cs : List Blk) : Bool := bs.all fun x => !decide (x ∈ cs)
def trdB (v : Int) (bo bi : List Blk) : Bool := isSysImpl v bo && isSysImpl v bi && (samePr bo bi && dsj bo bi)
theorem samePr_iff {bs cs : List Blk} : samePr bs cs = true ↔ ∀ p, p ∈ prs bs ↔ p ∈ prs cs := by
  simp only [samePr, Bool.and_eq_true, List.all_eq_true, decide_eq_true_eq]
  exact ⟨fun h p => ⟨h.1 p, h.2 p⟩, fun h => ⟨fun p => (h p).1, fun p => (h p).2⟩⟩
theorem dsj_iff {bs cs : List Blk} : dsj bs cs = true ↔ ∀ x ∈ bs, x ∉ cs := by simp [dsj]
theorem dsj_symm (bs cs : List Blk) : dsj bs cs = dsj cs bs := by
  rw [Bool.eq_iff_iff, dsj_iff, dsj_iff]
  exact ⟨fun h x hx hy => h x hy hx, fun h x hx hy => h x hy hx⟩
theorem samePr_symm (bs cs : List Blk) : samePr bs cs = samePr cs bs := by
  rw [Bool.eq_iff_iff, samePr_iff, samePr_iff]
  exact ⟨fun h p => (h p).symm, fun h p => (h p).symm⟩
theorem trdB_symm (v : Int) (bo bi : List Blk) : trdB v bo bi = trdB v bi bo := by
  unfold trdB
  rw [samePr_symm, dsj_symm, Bool.and_comm (isSysImpl v bo)]
theorem prs_length (bs : List Blk) : (prs bs).length = 3 * bs.length := by
  induction bs with
  | nil => rfl
  | cons x r ih =>
    simp only [prs, List.flatMap_cons, List.length_append, List.length_cons] at ih ⊢
    rw [ih]
    simp [pairsL]; omega
theorem share_nodup {v : Int} (hv : v ≤ 15) : ∀ (bs : List Blk) (seen : List (Int × Int)), (∀ x ∈ bs, goodB v x = true) → seen.Nodup → shareGo seen bs = false → (seen ++ prs bs).Nodup
  | [], seen, _, hn, _ => by simpa [prs] using hn
  | x :: r, seen, hb, hn, h => by
    unfold shareGo at h
    split at h
    · rename_i hf
      rw [freeB_iff] at hf
      obtain ⟨g1, _⟩ := good_pairs hv (hb x (by simp))
      have := share_nodup hv r (seen ++ pairsL x) (fun y hy => hb y (by simp [hy])) (List.nodup_append.2 ⟨hn, g1, fun p hp q hq e => hf q hq (e ▸ hp)⟩) h
      simpa [prs, List.append_assoc] using this
    · cases h
theorem sys_parts {v : Int} {bs : List Blk} (h : isSysImpl v bs = true) : 3 ≤ v ∧ v ≤ 15 ∧ (∀ x ∈ bs, goodB v x = true) ∧ shareGo [] bs = false := by
  simp only [isSysImpl, Bool.and_eq_true, decide_eq_true_eq, Bool.not_eq_true'] at h
  exact ⟨h.1.1.1, h.1.1.2, order_good h.1.2, h.2⟩
theorem prs_nodup {v : Int} {bs : List Blk} (h : isSysImpl v bs = true) : (prs bs).Nodup := by
  obtain ⟨_, h2, h3, h4⟩ := sys_parts h
  simpa using share_nodup h2 bs [] h3 List.nodup_nil h4
theorem sub_back {α : Type} [DecidableEq α] {l m : List α} (hn : l.Nodup) (hs : ∀ x ∈ l, x ∈ m) (hl : m.length ≤ l.length) : ∀ x ∈ m, x ∈ l := by
  intro x hx
  apply Classical.byContradiction
  intro hnot
  have h := nodup_length l (m.erase x) hn (fun y hy => by
    have hne : y ≠ x := fun e => hnot (e ▸ hy)
    exact (List.mem_erase_of_ne hne).2 (hs y hy))
  rw [List.length_erase_of_mem hx] at h
  have : 0 < m.length := List.length_pos_of_mem hx
  omega
/-- Of two systems: as many pairs, and those of the first in the second, say the same. -/
theorem samePr_of {v u : Int} {bs cs : List Blk} (h1 : isSysImpl v bs = true) (h2 : isSysImpl u cs = true) : samePr bs cs = (decide ((prs bs).length = (prs cs).length) && (prs bs).all fun p => decide (p ∈ prs cs)) := by
  have n1 := prs_nodup h1
  have n2 := prs_nodup h2
  rw [Bool.eq_iff_iff, samePr_iff]
  simp only [Bool.and_eq_true, List.all_eq_true, decide_eq_true_eq]
  constructor
  · intro h
    exact ⟨Nat.le_antisymm (nodup_length _ _ n1 fun x hx => (h x).1 hx) (nodup_length _ _ n2 fun x hx => (h x).2 hx), fun x hx => (h x).1 hx⟩
  · rintro ⟨h, hs⟩ p
    exact ⟨hs p, sub_back n1 hs (by omega) p⟩
/-- The blocks that are not in the others. -/
def lessL (bs cs : List Blk) : List Blk := bs.filter fun x => !decide (x ∈ cs)
theorem lessL_length (bs cs : List Blk) : (lessL bs cs).length ≤ bs.length := List.length_filter_le _ _
theorem lessL_mem {bs cs : List Blk} {x : Blk} : x ∈ lessL bs cs ↔ x ∈ bs ∧ x ∉ cs := by simp [lessL]
theorem lessL_strict {bs cs : List Blk} (h : bs.Pairwise fun x y => befB x y = true) : (lessL bs cs).Pairwise fun x y => befB x y = true := h.filter _
theorem sortB_strict {bs : List Blk} (h : bs.Pairwise fun x y => befB x y = true) : sortB bs = bs := sortB_eq (strict_srt h) (List.Perm.refl _)
end Go.Proofs.Ytacfelgilphppaa

namespace Go.Proofs.Ytacfelgilphppaa
open Go.RowKit Go.Maps
set_option maxRecDepth 100000 in
theorem l04Pair_any (a b : Int) (n : Nat) (w : World) (h0 : 0 ≤ a) (h1 : a < b) (h2 : b ≤ 15) (hn : (n : Int) = a * 16 + b) : Calls Try.prog 243 #[.int .i64 a, .int .i64 b] w (RS (.int .i64 (n : Int)) w) := by
  go_enter Try.func243, Try.ntmps243
  go_wp2
  all_goals go_ret
  all_goals refine RS_of (int_eq ?_)
  all_goals omega
/-- The number of a pair. -/
def numP (p : Int × Int) : Int := p.1 * 16 + p.2
def inNum (ps : List (Int × Int)) (i : Nat) : Bool := decide ((i : Int) ∈ ps.map numP)
/-- 256 bools in block g. -/
structure Bools (W : World) (g : Nat) (f : Nat → Bool) : Prop where
  lt : g < W.heap.size
  at_ : ∀ i, i < 256 → W.cell? ⟨g, i, none⟩ = some (.bool (f i))
  free : ∀ o, W.frozen? ⟨g, o, none⟩ = false
theorem Bools.below {W W' : World} {g B : Nat} {f : Nat → Bool} (h : Bools W g f) (hb : Below B W W') (hB : W.heap.size ≤ B) : Bools W' g f :=
  ⟨Nat.lt_of_lt_of_le h.lt hb.size, fun i hi => (hb.cell (p := ⟨g, i, none⟩) (Nat.lt_of_lt_of_le h.lt hB)).trans (h.at_ i hi), fun o => (hb.frozen (p := ⟨g, o, none⟩) (Nat.lt_of_lt_of_le h.lt hB)).trans (h.free o)⟩
theorem Bools.set {W : World} {g : Nat} {f : Nat → Bool} (h : Bools W g f) {n : Nat} (hn : n < 256) : Bools (W.setCell ⟨g, n, none⟩ (.bool true)) g (fun i => f i || decide (i = n)) := by
  refine ⟨by simpa using h.lt, fun i hi => ?_, fun o => (World.frozen?_setCell _ _ _ _).trans (h.free o)⟩
  by_cases e : i = n
  · subst e
    rw [World.cell?_setCell_same _ _ _ (h.at_ i hi)]
    simp
  · rw [World.cell?_setCell_other _ _ _ _ (by simp), h.at_ i hi]
    simp [e]
theorem Bools.eq {W : World} {g : Nat} {f f' : Nat → Bool} (h : Bools W g f) (e : ∀ i, i < 256 → f i = f' i) : Bools W g f' := ⟨h.lt, fun i hi => by rw [← e i hi]; exact h.at_ i hi, h.free⟩
theorem Bools.drew {W : World} {g : Nat} {f : Nat → Bool} (h : Bools W g f) : Bools W.drew g f := ⟨h.lt, h.at_, h.free⟩
theorem infoBool : (Try.prog.info? 4).map (fun i => (i.zero, i.size, i.bytes)) = some (some (.bool false), 1, 1) := by kernel_rfl
theorem mkBools : ∃ cs : Array Value, (∀ i, i < 256 → cs[i]? = some (.bool false)) ∧ ∀ W : World, (Instr.makeSlice 182 (.int .i64 256) (.int .i64 256)).run Try.prog W = .ok (.slice (some ⟨W.heap.size, 0, none⟩) 256 256) (W.alloc (.cells cs 4)) :=
  ⟨madeCells #[.bool false] 256, fun i hi => by simp [madeCells, hi, Nat.mod_one], fun W => run_make_row' (P := Try.prog) 182 4 (.bool false) 1 Try.underlying182 infoBool rfl .i64 .i64 256 (by omega) (by omega) W⟩
theorem num_nat {v : Int} {x : Blk} (hv : v ≤ 15) (h : goodB v x = true) : ∃ n1 n2 n3 : Nat, (n1 : Int) = x.a * 16 + x.b ∧ (n2 : Int) = x.a * 16 + x.c ∧ (n3 : Int) = x.b * 16 + x.c ∧ n1 < 256 ∧ n2 < 256 ∧ n3 < 256 := by
  rw [goodB_iff] at h
  exact ⟨(x.a * 16 + x.b).toNat, (x.a * 16 + x.c).toNat, (x.b * 16 + x.c).toNat, by omega, by omega, by omega, by omega, by omega, by omega⟩
theorem inNum_next {bs : List Blk} {k : Nat} {x : Blk} (hk : k < bs.length) (hx : bs[k]? = some x) {n1 n2 n3 : Nat} (h1 : (n1 : Int) = x.a * 16 + x.b) (h2 : (n2 : Int) = x.a * 16 + x.c) (h3 : (n3 : Int) = x.b * 16 + x.c) (i : Nat) :
    (((inNum (prs (bs.take k)) i || decide (i = n1)) || decide (i = n2)) || decide (i = n3)) = inNum (prs (bs.take (k + 1))) i := by
  have e : bs[k] = x := by
    rw [List.getElem?_eq_getElem hk] at hx
    simpa using hx
  rw [take_next hk, e]
  unfold inNum prs
  rw [List.flatMap_append, List.map_append]
  simp only [List.flatMap_cons, List.flatMap_nil, List.append_nil, pairsL, List.map_cons, List.map_nil, numP, List.mem_append, List.mem_cons, List.not_mem_nil, or_false]
  rw [Bool.eq_iff_iff]
  simp only [Bool.or_eq_true, decide_eq_true_eq]
  constructor
  · rintro (((h | rfl) | rfl) | rfl)
    · exact .inl h
    · exact .inr (.inl h1)
    · exact .inr (.inr (.inl h2))
    · exact .inr (.inr (.inr h3))
  · rintro (h | h | h | h)
    · exact .inl (.inl (.inl h))
    · exact .inl (.inl (.inr (by omega)))
    · exact .inl (.inr (by omega))
    · exact .inr (by omega)
set_option maxRecDepth 100000 in
set_option maxHeartbeats 2000000 in
theorem l04Pairs_any (v : Int) (s : Value) (bs : List Blk) (w : World) (h : SB w s bs) (hg : ∀ x ∈ bs, goodB v x = true) (hv : v ≤ 15) :
    Calls Try.prog 204 #[s] w fun e w' => ∃ g, e = .returned (.slice (some ⟨g, 0, none⟩) 256 256) ∧ w.heap.size ≤ g ∧ Bools w' g (inNum (prs bs)) ∧ Below w.heap.size w w' := by
  have hs := h.slice
  have hl := h.2.1
  have HSB := Lib.hid h
  have HG := Lib.hid hg
  clear h hg
  obtain ⟨cs, hcs, hmk⟩ := mkBools
  obtain ⟨a, c, rfl⟩ := hs
  go_enter Try.func204, Try.ntmps204
  go_wp2_with fail
  have hB0 : Bools (w.alloc (.cells cs 4)) w.heap.size (inNum (prs (bs.take 0))) := ⟨by simp, fun i hi => by rw [World.cell?_alloc_at _ _ _ _ rfl]; exact hcs i hi, fun o => by simp⟩
  clear hmk hcs
  go_loopw [4] (fun i wr => ∃ k : Nat, k ≤ bs.length ∧ i = .int .i64 k ∧ Below w.heap.size w wr ∧ Bools wr w.heap.size (inNum (prs (bs.take k)))) (fun i _ => bs.length - (intOf i).toNat)
  case atStart => exact ⟨0, Nat.zero_le _, rfl, (Below.refl _ _).alloc (Nat.le_refl _) _, hB0⟩
  case round =>
    clear hB0
    obtain ⟨k, hk, rfl, hBr, hS⟩ := hrel
    by_cases hkl : k < bs.length
    · rcases HSB.out.2.2 with ⟨_, _, _, hnil⟩ | ⟨b, off, cap, hval, hblt, hbl⟩
      · rw [hnil] at hkl; simp at hkl
      · simp at hval
        obtain ⟨rfl, rfl⟩ := hval
        obtain ⟨x, hx, ex, x1, x2, x3⟩ := blks_at (hbl.below hBr hblt) hkl
        obtain ⟨n1, n2, n3, e1, e2, e3, l1, l2, l3⟩ := num_nat hv (HG.out x hx)
        have hnext := fun i => inNum_next hkl ex e1 e2 e3 i
        have hgd := goodB_iff.1 (HG.out x hx)
        have HC1 := Lib.hid fun W => l04Pair_any x.a x.b n1 W (by omega) (by omega) (by omega) e1
        have HC2 := Lib.hid fun W => l04Pair_any x.a x.c n2 W (by omega) (by omega) (by omega) e2
        have HC3 := Lib.hid fun W => l04Pair_any x.b x.c n3 W (by omega) (by omega) (by omega) e3
        have HN := Lib.hid hnext
        have g0 : (0 : Int) ≤ (k : Int) := by omega
        have g1 : (k : Int) < (bs.length : Int) := by omega
        have m10 : (0 : Int) ≤ (n1 : Int) := by omega
        have m11 : (n1 : Int) < 256 := by omega
        have m20 : (0 : Int) ≤ (n2 : Int) := by omega
        have m21 : (n2 : Int) < 256 := by omega
        have m30 : (0 : Int) ≤ (n3 : Int) := by omega
        have m31 : (n3 : Int) < 256 := by omega
        obtain ⟨p, q, r⟩ := x
        dsimp only at x1 x2 x3 HC1 HC2 HC3
        clear hbl hx ex e1 e2 e3 hgd hnext
        have hS1 := hS
        have hBr1 := hBr
        clear hS
        have XB := Lib.hid (show ∀ W, Below w.heap.size w W → W.cell? ⟨b, off + k * 3, none⟩ = some (.int .i64 p) ∧ W.cell? ⟨b, off + k * 3 + 1, none⟩ = some (.int .i64 q) ∧ W.cell? ⟨b, off + k * 3 + 2, none⟩ = some (.int .i64 r) from fun W hW => ⟨(hW.cell (p := ⟨b, off + k * 3, none⟩) hblt).trans ((hBr1.cell (p := ⟨b, off + k * 3, none⟩) hblt).symm.trans x1), (hW.cell (p := ⟨b, off + k * 3 + 1, none⟩) hblt).trans ((hBr1.cell (p := ⟨b, off + k * 3 + 1, none⟩) hblt).symm.trans x2), (hW.cell (p := ⟨b, off + k * 3 + 2, none⟩) hblt).trans ((hBr1.cell (p := ⟨b, off + k * 3 + 2, none⟩) hblt).symm.trans x3)⟩)
        have s11 := hS1.at_ n1 l1
        have s12 := hS1.free n1
        go_upto_region 5 with fail
        go_cut [24] (fun _ wx => Below w.heap.size w wx ∧ Bools wx w.heap.size (fun i => inNum (prs (bs.take k)) i || decide (i = n1)))
        case first =>
          go_region_with (go_at_call 243; refine (HC1.out _).mono ?_; rintro e w1 ⟨rfl, rfl⟩)
          all_goals
            go_wp2_with fail
            go_meet
            exact ⟨(hBr1.drew).setCell (Nat.le_refl _) _, (hS1.drew).set l1⟩
        case rest =>
        obtain ⟨hBr2, hS2⟩ := hcut
        obtain ⟨wr2, hwr⟩ : ∃ W, W = wc := ⟨_, rfl⟩
        rw [← hwr] at hBr2 hS2 ⊢
        clear hwr s11 s12 hS1
        clear x1 x2 x3 hBr1
        obtain ⟨x1, x2, x3⟩ := XB.out _ hBr2
        have s21 := hS2.at_ n2 l2
        have s22 := hS2.free n2
        go_upto_region 6 with fail
        go_cut [37] (fun _ wx => Below w.heap.size w wx ∧ Bools wx w.heap.size (fun i => (inNum (prs (bs.take k)) i || decide (i = n1)) || decide (i = n2)))
        case first =>
          go_region_with (go_at_call 243; refine (HC2.out _).mono ?_; rintro e w1 ⟨rfl, rfl⟩)
          all_goals
            go_wp2_with fail
            go_meet
            exact ⟨(hBr2.drew).setCell (Nat.le_refl _) _, (hS2.drew).set l2⟩
        case rest =>
        obtain ⟨hBr3, hS3⟩ := hcut
        obtain ⟨wr3, hwr⟩ : ∃ W, W = wc := ⟨_, rfl⟩
        rw [← hwr] at hBr3 hS3 ⊢
        clear hwr s21 s22 hS2
        clear x1 x2 x3 hBr2
        obtain ⟨x1, x2, x3⟩ := XB.out _ hBr3
        have s31 := hS3.at_ n3 l3
        have s32 := hS3.free n3
        go_upto_region 7 with fail
        go_region_with (go_at_call 243; refine (HC3.out _).mono ?_; rintro e w1 ⟨rfl, rfl⟩)
        all_goals
          have HS := Lib.hid ((hS3.drew.set l3).eq (fun i _ => HN.out i))
          have HB := Lib.hid ((hBr3.drew).setCell (p := ⟨w.heap.size, n3, none⟩) (Nat.le_refl _) (.bool true))
          clear hS3 hBr3 x1 x2 x3
          go_wp2_with fail
          go_roundw
          case rel => exact ⟨k + 1, by omega, by go_num, HB.out, HS.out⟩
          case measure => simp [intOf]; omega
    · go_wp2
      go_ret
      have e : k = bs.length := by omega
      subst e
      rw [List.take_length] at hS
      exact ⟨_, rfl, Nat.le_refl _, hS, hBr⟩
end Go.Proofs.Ytacfelgilphppaa

namespace Go.Proofs.Ytacfelgilphppaa
open Go.RowKit Go.Maps
/-- The blocks as a map's keys. -/
def BSet (w : World) (b n : Nat) (cs : List Blk) : Prop := BoolSet w Try.prog 93 4 b n (cs.map bv)
/-- Returns new blocks. -/
def RA (bs : List Blk) (w : World) (e : Ending) (w' : World) : Prop := ∃ u, e = .returned u ∧ OwnR w' w.heap.size u bs ∧ Below w.heap.size w w'
theorem bv_mem {x : Blk} {cs : List Blk} : bv x ∈ cs.map bv ↔ x ∈ cs := ⟨fun h => by obtain ⟨y, hy, e⟩ := List.mem_map.1 h; rw [← bv_inj e]; exact hy, fun h => List.mem_map.2 ⟨x, h, rfl⟩⟩
set_option maxRecDepth 100000 in
theorem setOf_any (s : Value) (cs : List Blk) (w : World) (h : SB w s cs) :
    Calls Try.prog 98 #[s] w fun e w' => e = .returned (.map (some w.heap.size)) ∧ BSet w' w.heap.size cs.length cs ∧ Below w.heap.size w w' := by
  have hs := h.slice
  have hl := h.2.1
  have KSB2 := Lib.hid h
  clear h
  have hmm := run_makeMap_hint (P := Try.prog) 95 93 4 .i64 (cs.length : Int) isMap
  obtain ⟨a', c', rfl⟩ := hs
  go_enter Try.func98, Try.ntmps98
  go_wp2_with fail
  go_loopw [11] (fun i wr => ∃ k : Nat, k ≤ cs.length ∧ i = .int .i64 k ∧ BoolSet wr Try.prog 93 4 w.heap.size k ((cs.take k).map bv) ∧ Below w.heap.size w wr) (fun i _ => cs.length - (intOf i).toNat)
  case atStart => exact ⟨0, Nat.zero_le _, rfl, BoolSet.made _ _ _ _, (Below.refl _ _).alloc (Nat.le_refl _) _⟩
  case round =>
    obtain ⟨k, hk, rfl, hS, hBr⟩ := hrel
    have hSl := hS.lt
    by_cases hkl : k < cs.length
    · rcases KSB2.out.2.2 with ⟨_, _, _, hnil⟩ | ⟨b, off, cap, hval, hblt, hbl⟩
      · rw [hnil] at hkl; simp at hkl
      · simp at hval
        obtain ⟨rfl, rfl⟩ := hval
        obtain ⟨x, hx, ex, x1, x2, x3⟩ := blks_at (hbl.below hBr hblt) hkl
        have hw := KSB2.out.1 x hx
        obtain ⟨p, q, r⟩ := x
        obtain ⟨kl, hkey⟩ := bv_key hw.1 hw.2.1 hw.2.2
        have HK := Lib.hid hkey
        have e3 : (cs.take (k + 1)).map bv = (cs.take k).map bv ++ [bv ⟨p, q, r⟩] := by
          have e : cs[k] = ⟨p, q, r⟩ := by
            rw [List.getElem?_eq_getElem hkl] at ex
            simpa using ex
          rw [take_next hkl, e]; simp
        have E3 := Lib.hid e3
        dsimp only at x1 x2 x3
        clear hbl hx ex hw hkey e3
        go_wp2_with (at_mapUpdate; refine wpList_put_set _ rfl _ _ _ 95 rfl 93 4 blockKeyed isMap Try.underlying4 w.heap.size k ((cs.take k).map bv) rfl (hS.alloc _) (by unfold maxLen; omega) (bv ⟨p, q, r⟩) kl rfl rfl HK.out ?_; intro w3 hS3 hg3)
        go_roundw
        case rel => exact ⟨k + 1, by omega, by go_num, by rw [E3.out]; exact hS3, (hBr.alloc hBr.size _).grown hg3 (by have := hBr.size; simp; omega) (fun j e => by cases e; exact Nat.le_refl _)⟩
        case measure => simp [intOf]; omega
    · have e : k = cs.length := by omega
      subst e
      rw [List.take_length] at hS
      go_wp2
      go_ret
      exact ⟨rfl, hS, hBr⟩
theorem BSet.below {w w' : World} {b n B : Nat} {cs : List Blk} (h : BSet w b n cs) (hb : Below B w w') (hB : w.heap.size ≤ B) : BSet w' b n cs := BoolSet.below h hb (Nat.lt_of_lt_of_le (BoolSet.lt h) hB)
set_option maxRecDepth 100000 in
theorem blocksIn_any (s : Value) (bs : List Blk) (b0 n0 : Nat) (cs : List Blk) (w : World) (h : SB w s bs) (hS0 : BSet w b0 n0 cs) :
    Calls Try.prog 97 #[s, .map (some b0)] w (RA (commonL bs cs) w) := by
  have hs := h.slice
  have hl := h.2.1
  have hb0 := BoolSet.lt hS0
  have HSB2 := Lib.hid h
  have HS0 := Lib.hid hS0
  clear h hS0
  obtain ⟨a, c, rfl⟩ := hs
  go_enter Try.func97, Try.ntmps97
  go_wp2_with fail
  go_loopw [5, 10] (fun o i wr => ∃ k : Nat, k ≤ bs.length ∧ i = .int .i64 k ∧ Below w.heap.size w wr ∧ OwnR wr w.heap.size o (commonL (bs.take k) cs) ∧ ∃ a n c, o = .slice a n c) (fun _ i _ => bs.length - (intOf i).toNat)
  case atStart => exact ⟨0, Nat.zero_le _, rfl, Below.refl _ _, OwnR.nil _ _, _, _, _, rfl⟩
  case round =>
    obtain ⟨k, hk, rfl, hBr, hO, hform⟩ := hrel
    have hSl := hBr.size
    have hS := BoolSet.below HS0.out hBr hb0
    by_cases hkl : k < bs.length
    · rcases HSB2.out.2.2 with ⟨_, _, _, hnil⟩ | ⟨b, off, cap, hval, hblt, hbl⟩
      · rw [hnil] at hkl; simp at hkl
      · simp at hval
        obtain ⟨rfl, rfl⟩ := hval
        obtain ⟨x, hx, ex, x1, x2, x3⟩ := blks_at (hbl.below hBr hblt) hkl
        have hw := HSB2.out.1 x hx
        have hnx := filter_take_next (p := fun x => decide (x ∈ cs)) hkl ex
        have hmem := bv_mem (x := x) (cs := cs)
        have hlc := commonL_length (bs.take k) cs
        have hlc2 : (bs.take k).length ≤ bs.length := by simp; omega
        obtain ⟨p, q, r⟩ := x
        obtain ⟨kl, hkey⟩ := bv_key hw.1 hw.2.1 hw.2.2
        have HK := Lib.hid hkey
        have HNX := Lib.hid hnx
        have HMEM := Lib.hid hmem
        dsimp only at x1 x2 x3
        clear hbl hx ex hw hkey hnx hmem
        obtain ⟨a3, n3, c3, rfl⟩ := hform
        have HO := Lib.hid hO
        clear hO
        go_wp2_with (first | (at_lookup; refine wpList_look_set _ rfl _ _ 95 rfl 93 4 blockKeyed isMap Try.underlying4 (zeroBool _) b0 n0 (cs.map bv) rfl (hS.alloc _) (bv ⟨p, q, r⟩) kl rfl HK.out ?_; intro β hβ) | (at_builtin; refine wpList_append_blk rfl _ _ rfl w.heap.size _ (commonL (bs.take k) cs) rfl (((HO.out.below ((Below.refl _ _).alloc (Nat.le_refl _) _) (Nat.le_refl _)).below ((Below.refl _ _).alloc (Nat.le_refl _) _) (Nat.le_refl _))) _ _ ⟨p, q, r⟩ rfl (by simp [go_sem]) (by simp [go_sem]) (by simp [go_sem]) (by omega) (by simp; omega) ?_; intro g' cap' w4 hO4 hg4))
        · have hb : β = true := by assumption
          have hin : (⟨p, q, r⟩ : Blk) ∈ cs := HMEM.out.1 (hβ.out.1 hb)
          have hrow := HO.out.row
          have hgo : wr.grownBy w4 (Value.slice a3 n3 c3).ownBlock := ⟨hg4.os, hg4.tape, hg4.output, by have := hg4.size; simp at this; omega, fun i hi hne => by
            rw [hg4.block i (by simp; omega) hne, Below.heap_alloc _ _ _ (by simp; omega), Below.heap_alloc _ _ _ hi]⟩
          have hcl : commonL (bs.take (k + 1)) cs = commonL (bs.take k) cs ++ [⟨p, q, r⟩] := by
            unfold commonL
            rw [HNX.out, if_pos (by simpa using hin)]
          have HCL := Lib.hid hcl
          clear hcl hg4
          go_roundw
          case rel => exact ⟨k + 1, by omega, by go_num, hBr.grown hgo hBr.size (fun j e => hrow j e), by rw [HCL.out]; exact hO4, _, _, _, rfl⟩
          case measure => simp [intOf]; omega
        · have hb : β = false := by assumption
          have hin : ¬ (⟨p, q, r⟩ : Blk) ∈ cs := fun h => by have := hβ.out.2 (HMEM.out.2 h); rw [hb] at this; cases this
          have hcl : commonL (bs.take (k + 1)) cs = commonL (bs.take k) cs := by
            unfold commonL
            rw [HNX.out, if_neg (by simpa using hin), List.append_nil]
          have HCL := Lib.hid hcl
          clear hcl
          go_roundw
          case rel => exact ⟨k + 1, by omega, by go_num, hBr.alloc hBr.size _, by rw [HCL.out]; exact HO.out.below ((Below.refl _ _).alloc (Nat.le_refl _) _) (Nat.le_refl _), _, _, _, rfl⟩
          case measure => simp [intOf]; omega
    · obtain ⟨a3, n3, c3, rfl⟩ := hform
      go_wp2
      go_ret
      have e : k = bs.length := by omega
      subst e
      rw [List.take_length] at hO
      exact ⟨_, rfl, hO, hBr⟩
set_option maxRecDepth 100000 in
theorem blocksWithout_any (s : Value) (bs : List Blk) (b0 n0 : Nat) (cs : List Blk) (w : World) (h : SB w s bs) (hS0 : BSet w b0 n0 cs) :
    Calls Try.prog 133 #[s, .map (some b0)] w (RA (lessL bs cs) w) := by
  have hs := h.slice
  have hl := h.2.1
  have hb0 := BoolSet.lt hS0
  have HSB2 := Lib.hid h
  have HS0 := Lib.hid hS0
  clear h hS0
  obtain ⟨a, c, rfl⟩ := hs
  go_enter Try.func133, Try.ntmps133
  go_wp2_with fail
  go_loopw [5, 10] (fun o i wr => ∃ k : Nat, k ≤ bs.length ∧ i = .int .i64 k ∧ Below w.heap.size w wr ∧ OwnR wr w.heap.size o (lessL (bs.take k) cs) ∧ ∃ a n c, o = .slice a n c) (fun _ i _ => bs.length - (intOf i).toNat)
  case atStart => exact ⟨0, Nat.zero_le _, rfl, Below.refl _ _, OwnR.nil _ _, _, _, _, rfl⟩
  case round =>
    obtain ⟨k, hk, rfl, hBr, hO, hform⟩ := hrel
    have hSl := hBr.size
    have hS := BoolSet.below HS0.out hBr hb0
    by_cases hkl : k < bs.length
    · rcases HSB2.out.2.2 with ⟨_, _, _, hnil⟩ | ⟨b, off, cap, hval, hblt, hbl⟩
      · rw [hnil] at hkl; simp at hkl
      · simp at hval
        obtain ⟨rfl, rfl⟩ := hval
        obtain ⟨x, hx, ex, x1, x2, x3⟩ := blks_at (hbl.below hBr hblt) hkl
        have hw := HSB2.out.1 x hx
        have hnx := filter_take_next (p := fun x => !decide (x ∈ cs)) hkl ex
        have hmem := bv_mem (x := x) (cs := cs)
        have hlc := lessL_length (bs.take k) cs
        have hlc2 : (bs.take k).length ≤ bs.length := by simp; omega
        obtain ⟨p, q, r⟩ := x
        obtain ⟨kl, hkey⟩ := bv_key hw.1 hw.2.1 hw.2.2
        have HK := Lib.hid hkey
        have HNX := Lib.hid hnx
        have HMEM := Lib.hid hmem
        dsimp only at x1 x2 x3
        clear hbl hx ex hw hkey hnx hmem
        obtain ⟨a3, n3, c3, rfl⟩ := hform
        have HO := Lib.hid hO
        clear hO
        go_wp2_with (first | (at_lookup; refine wpList_look_set _ rfl _ _ 95 rfl 93 4 blockKeyed isMap Try.underlying4 (zeroBool _) b0 n0 (cs.map bv) rfl (hS.alloc _) (bv ⟨p, q, r⟩) kl rfl HK.out ?_; intro β hβ) | (at_builtin; refine wpList_append_blk rfl _ _ rfl w.heap.size _ (lessL (bs.take k) cs) rfl (((HO.out.below ((Below.refl _ _).alloc (Nat.le_refl _) _) (Nat.le_refl _)).below ((Below.refl _ _).alloc (Nat.le_refl _) _) (Nat.le_refl _))) _ _ ⟨p, q, r⟩ rfl (by simp [go_sem]) (by simp [go_sem]) (by simp [go_sem]) (by omega) (by simp; omega) ?_; intro g' cap' w4 hO4 hg4))
        · have hb : β = false := by simpa using (show (!β) = true by assumption)
          have hin : ¬ (⟨p, q, r⟩ : Blk) ∈ cs := fun h => by have := hβ.out.2 (HMEM.out.2 h); rw [hb] at this; cases this
          have hrow := HO.out.row
          have hgo : wr.grownBy w4 (Value.slice a3 n3 c3).ownBlock := ⟨hg4.os, hg4.tape, hg4.output, by have := hg4.size; simp at this; omega, fun i hi hne => by
            rw [hg4.block i (by simp; omega) hne, Below.heap_alloc _ _ _ (by simp; omega), Below.heap_alloc _ _ _ hi]⟩
          have hcl : lessL (bs.take (k + 1)) cs = lessL (bs.take k) cs ++ [⟨p, q, r⟩] := by
            unfold lessL
            rw [HNX.out, if_pos (by simpa using hin)]
          have HCL := Lib.hid hcl
          clear hcl hg4
          go_roundw
          case rel => exact ⟨k + 1, by omega, by go_num, hBr.grown hgo hBr.size (fun j e => hrow j e), by rw [HCL.out]; exact hO4, _, _, _, rfl⟩
          case measure => simp [intOf]; omega
        · have hb : β = true := by simpa using (show (!β) = false by assumption)
          have hin : (⟨p, q, r⟩ : Blk) ∈ cs := HMEM.out.1 (hβ.out.1 hb)
          have hcl : lessL (bs.take (k + 1)) cs = lessL (bs.take k) cs := by
            unfold lessL
            rw [HNX.out, if_neg (by simpa using hin), List.append_nil]
          have HCL := Lib.hid hcl
          clear hcl
          go_roundw
          case rel => exact ⟨k + 1, by omega, by go_num, hBr.alloc hBr.size _, by rw [HCL.out]; exact HO.out.below ((Below.refl _ _).alloc (Nat.le_refl _) _) (Nat.le_refl _), _, _, _, rfl⟩
          case measure => simp [intOf]; omega
    · obtain ⟨a3, n3, c3, rfl⟩ := hform
      go_wp2
      go_ret
      have e : k = bs.length := by omega
      subst e
      rw [List.take_length] at hO
      exact ⟨_, rfl, hO, hBr⟩
end Go.Proofs.Ytacfelgilphppaa

namespace Go.Proofs.Ytacfelgilphppaa
open Go.RowKit Go.Maps
set_option maxRecDepth 100000 in
set_option maxHeartbeats 1000000 in
theorem CommonBlocks_main (v : Int) (s : Value) (bs : List Blk) (t : Value) (cs : List Blk) (w : World) (h : SB w s bs) (k : SB w t cs) (h1 : isSysImpl v bs = true) (h2 : isSysImpl v cs = true) :
    Calls Try.prog 34 #[.agg #[.int .i64 v, s], .agg #[.int .i64 v, t]] w (RLC (commonL bs cs, 0) w) := by
  have hs := h.slice
  have ht := k.slice
  have hc1 := fun W (hb : Below w.heap.size w W) => IsSystem_any v s bs W (h.below hb (Nat.le_refl _))
  have hc2 := fun W (hb : Below w.heap.size w W) => IsSystem_any v t cs W (k.below hb (Nat.le_refl _))
  have hB : Below w.heap.size w ((w.alloc (.cells #[.int .i64 v, s] 31)).alloc (.cells #[.int .i64 v, t] 31)) := ((Below.refl _ _).alloc (Nat.le_refl _) _).alloc (by simp) _
  have HSB := Lib.hid h
  have KSB := Lib.hid k
  have hl1 := h.2.1
  have hl2 := k.2.1
  clear h k
  have HC2 := Lib.hid hc2
  have HC1 := Lib.hid hc1
  rw [h1] at HC1
  rw [h2] at HC2
  clear hc1 hc2 h1 h2
  have hnb : (v != v) = false := by simp
  obtain ⟨a, c, rfl⟩ := hs
  obtain ⟨a', c', rfl⟩ := ht
  go_enter Try.func34, Try.ntmps34
  go_wp2_with fail
  refine (HC1.out _ hB).mono ?_
  rintro e w1 ⟨rfl, hb1⟩
  have hB1 := hB.trans (hb1.mono (by simp; omega))
  have hz1 := hb1.size
  simp at hz1
  have d0 := (hb1.cell (p := ⟨w.heap.size, 0, none⟩) (by simp; omega)).trans (by simp [go_sem] : _ = some (Value.int .i64 v))
  have d1 := (hb1.cell (p := ⟨w.heap.size, 1, none⟩) (by simp; omega)).trans (by simp [go_sem] : _ = some (Value.slice a bs.length c))
  have c0 := (hb1.cell (p := ⟨w.heap.size + 1, 0, none⟩) (by simp)).trans (by simp [go_sem] : _ = some (Value.int .i64 v))
  have c1 := (hb1.cell (p := ⟨w.heap.size + 1, 1, none⟩) (by simp)).trans (by simp [go_sem] : _ = some (Value.slice a' cs.length c'))
  clear hb1
  go_wp2_with fail
  refine (HC2.out _ hB1).mono ?_
  rintro e w2 ⟨rfl, hb2⟩
  have e0 := (hb2.cell (p := ⟨w.heap.size, 0, none⟩) (by show w.heap.size < _; omega)).trans d0
  have e1 := (hb2.cell (p := ⟨w.heap.size, 1, none⟩) (by show w.heap.size < _; omega)).trans d1
  have f0 := (hb2.cell (p := ⟨w.heap.size + 1, 0, none⟩) (by show w.heap.size + 1 < _; omega)).trans c0
  have f1 := (hb2.cell (p := ⟨w.heap.size + 1, 1, none⟩) (by show w.heap.size + 1 < _; omega)).trans c1
  have hB2 := hB1.trans (hb2.mono hB1.size)
  have hz2 := hb2.size
  have hsb2 := HSB.out.below hB2 (Nat.le_refl _)
  have ksb2 := KSB.out.below hB2 (Nat.le_refl _)
  have HSB2 := Lib.hid hsb2
  have KSB2 := Lib.hid ksb2
  clear d0 d1 c0 c1 hb2 hsb2 ksb2
  have hz4 : w.heap.size < w2.heap.size := by omega
  go_wp2_with fail
  go_region_with (first | (go_at_call 98; refine (setOf_any _ cs _ ?_).mono ?_; (first | exact KSB2.out | exact KSB2.out.below ((Below.refl _ _).drew) (Nat.le_refl _)); rintro e w3 ⟨rfl, hS3, hb3⟩; have e13 := (hb3.cell (p := ⟨w.heap.size, 1, none⟩) (show w.heap.size < w2.heap.size from hz4)).trans e1; have h3 := (HSB2.out.below ((Below.refl _ _).drew) (Nat.le_refl _)).below hb3 (Nat.le_refl _); have H3 := Lib.hid h3; clear h3) | (go_at_call 97; refine (blocksIn_any _ bs _ _ cs _ ?_ hS3).mono ?_; (exact H3.out); rintro e w4 ⟨u4, rfl, hO4, hb4⟩))
  all_goals
    go_wp2
    go_ret2
    have hz3 : w2.heap.size ≤ w3.heap.size := hb3.size
    exact ⟨_, rfl, hO4.res.wide (by omega) (Nat.le_refl _), hB2.trans ((((Below.refl w.heap.size w2).drew).trans (hb3.mono (show w.heap.size ≤ w2.heap.size from Nat.le_of_lt hz4))).trans (hb4.mono (by omega)))⟩

theorem CommonBlocks_any (v : Int) (s : Value) (bs : List Blk) (u : Int) (t : Value) (cs : List Blk) (w : World) (h : SB w s bs) (k : SB w t cs) :
    Calls Try.prog 34 #[.agg #[.int .i64 v, s], .agg #[.int .i64 u, t]] w (RLC (commonF v bs u cs) w) := by
  unfold commonF
  cases hb : isSysImpl v bs && isSysImpl u cs with
  | false => exact CommonBlocks_no v s bs u t cs w h k hb
  | true =>
    simp only [Bool.and_eq_true] at hb
    by_cases e : v = u
    · subst e
      rw [if_pos rfl, if_pos rfl]
      exact CommonBlocks_main v s bs t cs w h k hb.1 hb.2
    · rw [if_pos rfl, if_neg e]
      exact CommonBlocks_ne v s bs u t cs w h k hb.1 hb.2 e
end Go.Proofs.Ytacfelgilphppaa

namespace Go.Proofs.Ytacfelgilphppaa
open Go.RowKit Go.Maps
theorem OwnR.lit (w : World) : OwnR (w.alloc (.cells #[] 93)) w.heap.size (.slice (some ⟨w.heap.size, 0, none⟩) 0 0) [] :=
  ⟨rfl,   .inr ⟨w.heap.size, 0, #[], rfl, Nat.le_refl _, (MapKept.heap_alloc w (.cells #[] 93)).1, Nat.le_refl _, by unfold maxLen; omega, rfl, rfl⟩⟩
set_option maxRecDepth 100000 in
theorem l01Has_any (v : Int) (s : Value) (bs : List Blk) (x : Blk) (w : World) (h : SB w s bs) : Calls Try.prog 96 #[.agg #[.int .i64 v, s], bv x] w (RV (.bool (decide (x ∈ bs))) w) := by
  have hs := h.slice
  have H := Lib.hid h
  have hl := h.2.1
  clear h
  obtain ⟨a, c, rfl⟩ := hs
  obtain ⟨x1, x2, x3⟩ := x
  unfold bv
  dsimp only
  go_enter Try.func96, Try.ntmps96
  go_wp2
  have B0 : Below w.heap.size w ((w.alloc (.cells #[.int .i64 v, .slice a bs.length c] 31)).alloc (.cells #[.int .i64 x1, .int .i64 x2, .int .i64 x3] 93)) := ((Below.refl _ _).alloc (Nat.le_refl _) _).alloc (by simp) _
  have p1 := cell_past (ob := .cells #[.int .i64 x1, .int .i64 x2, .int .i64 x3] 93) (new_at (w := w) (cs := #[.int .i64 v, .slice a bs.length c]) (T := 31) 1 rfl) (by simp)
  obtain ⟨W, hW⟩ : ∃ W, W = (w.alloc (.cells #[.int .i64 v, .slice a bs.length c] 31)).alloc (.cells #[.int .i64 x1, .int .i64 x2, .int .i64 x3] 93) := ⟨_, rfl⟩
  have y0 : W.cell? ⟨w.heap.size + 1, 0, none⟩ = some (.int .i64 x1) := by rw [hW]; simp
  have y1 : W.cell? ⟨w.heap.size + 1, 1, none⟩ = some (.int .i64 x2) := by rw [hW]; simp
  have y2 : W.cell? ⟨w.heap.size + 1, 2, none⟩ = some (.int .i64 x3) := by rw [hW]; simp
  rw [← hW] at B0 p1 ⊢
  clear hW
  have hsb := H.out.below B0 (Nat.le_refl _)
  have HS := Lib.hid hsb
  clear hsb
  go_loopw [5] (fun i wr => ∃ k : Nat, k ≤ bs.length ∧ i = .int .i64 k ∧ (∃ n, wr = W.drewN n) ∧ Hid (¬ (⟨x1, x2, x3⟩ : Blk) ∈ bs.take k)) (fun i _ => bs.length - (intOf i).toNat)
  case atStart => exact ⟨0, Nat.zero_le _, rfl, ⟨0, rfl⟩, Lib.hid (by simp)⟩
  case round =>
    obtain ⟨k, hk, rfl, ⟨n, rfl⟩, HN⟩ := hrel
    by_cases hkl : k < bs.length
    · rcases HS.out.2.2 with ⟨_, _, _, hnil⟩ | ⟨b, off, cap, hval, hblt, hbl⟩
      · rw [hnil] at hkl; simp at hkl
      · simp at hval
        obtain ⟨rfl, rfl⟩ := hval
        obtain ⟨z, hz, ez, z1, z2, z3⟩ := blks_at hbl hkl
        have g0 : (0 : Int) ≤ (k : Int) := by omega
        have g1 : (k : Int) < (bs.length : Int) := by omega
        have hnx : bs.take (k + 1) = bs.take k ++ [z] := by
          have e : bs[k] = z := by
            rw [List.getElem?_eq_getElem hkl] at ez
            simpa using ez
          rw [take_next hkl, e]
        have HNX := Lib.hid hnx
        have HZ := Lib.hid hz
        have hq := run_eql_blk z ⟨x1, x2, x3⟩
        obtain ⟨q1, q2, q3⟩ := z
        unfold bv at hq
        dsimp only at hq z1 z2 z3
        clear hnx hz ez hbl
        by_cases he : (⟨q1, q2, q3⟩ : Blk) = ⟨x1, x2, x3⟩
        · have HEQ := Lib.hid he
          rw [decide_eq_true he] at hq
          clear he
          go_wp2
          go_quiet (fail)
          go_wp2
          go_ret
          exact RV_of (bool_eq (by rw [← HEQ.out]; simp [HZ.out])) (below_drewN (below_drewN B0 _) _)
        · have HEQ := Lib.hid he
          rw [decide_eq_false he] at hq
          clear he
          go_wp2
          go_quiet (fail)
          go_wp2
          go_roundw
          case rel => exact ⟨k + 1, by omega, by go_num, ⟨_, rfl⟩, Lib.hid (by rw [HNX.out]; simp only [List.mem_append, List.mem_singleton, not_or]; exact ⟨HN.out, fun e => HEQ.out e.symm⟩)⟩
          case measure => simp [intOf]; omega
    · go_wp2
      go_ret
      have e : k = bs.length := by omega
      subst e
      refine RV_of (bool_eq ?_) (below_drewN B0 _)
      have := HN.out
      rw [List.take_length] at this
      simp [this]
set_option maxRecDepth 100000 in
theorem specCommon_no (v : Int) (s : Value) (bs : List Blk) (u : Int) (t : Value) (cs : List Blk) (w : World) (h : SB w s bs) (k : SB w t cs) (hn : (isSysImpl v bs && isSysImpl u cs) = false) :
    Calls Try.prog 33 #[.agg #[.int .i64 v, s], .agg #[.int .i64 u, t]] w (RLC ([], 1) w) := by
  have hs := h.slice
  have ht := k.slice
  have hc1 := fun W (hb : Below w.heap.size w W) => l01Is_any v s bs W (h.below hb (Nat.le_refl _))
  have hc2 := fun W (hb : Below w.heap.size w W) => l01Is_any u t cs W (k.below hb (Nat.le_refl _))
  have hB : Below w.heap.size w ((w.alloc (.cells #[.int .i64 v, s] 31)).alloc (.cells #[.int .i64 u, t] 31)) := ((Below.refl _ _).alloc (Nat.le_refl _) _).alloc (by simp) _
  clear h k
  have HC2 := Lib.hid hc2
  have HC1 := Lib.hid hc1
  clear hc1 hc2
  obtain ⟨a, c, rfl⟩ := hs
  obtain ⟨a', c', rfl⟩ := ht
  cases h1 : isSysImpl v bs with
  | false =>
    rw [h1] at HC1
    clear h1 hn
    go_enter Try.func33, Try.ntmps33
    go_wp2_with (go_at_call 91; refine (HC1.out _ hB).mono ?_; rintro e w1 ⟨rfl, hb1⟩)
    go_ret2
    exact ⟨_, rfl, .inl ⟨rfl, _, _, rfl⟩, hB.trans (hb1.mono (by simp; omega))⟩
  | true =>
    rw [h1] at HC1 hn
    have h2 : isSysImpl u cs = false := by simpa using hn
    rw [h2] at HC2
    clear h1 h2 hn
    go_enter Try.func33, Try.ntmps33
    go_wp2_with fail
    refine (HC1.out _ hB).mono ?_
    rintro e w1 ⟨rfl, hb1⟩
    have hB1 := hB.trans (hb1.mono (by simp; omega))
    have c0 := (hb1.cell (p := ⟨w.heap.size + 1, 0, none⟩) (by simp)).trans (by simp [go_sem] : _ = some (Value.int .i64 u))
    have c1 := (hb1.cell (p := ⟨w.heap.size + 1, 1, none⟩) (by simp)).trans (by simp [go_sem] : _ = some (Value.slice a' cs.length c'))
    clear hb1
    go_wp2_with (go_at_call 91; refine (HC2.out _ hB1).mono ?_; rintro e w2 ⟨rfl, hb2⟩)
    go_ret2
    exact ⟨_, rfl, .inl ⟨rfl, _, _, rfl⟩, hB1.trans (hb2.mono hB1.size)⟩


set_option maxRecDepth 100000 in
theorem specCommon_ne (v : Int) (s : Value) (bs : List Blk) (u : Int) (t : Value) (cs : List Blk) (w : World) (h : SB w s bs) (k : SB w t cs) (h1 : isSysImpl v bs = true) (h2 : isSysImpl u cs = true) (hne : v ≠ u) :
    Calls Try.prog 33 #[.agg #[.int .i64 v, s], .agg #[.int .i64 u, t]] w (RLC ([], 2) w) := by
  have hs := h.slice
  have ht := k.slice
  have hc1 := fun W (hb : Below w.heap.size w W) => l01Is_any v s bs W (h.below hb (Nat.le_refl _))
  have hc2 := fun W (hb : Below w.heap.size w W) => l01Is_any u t cs W (k.below hb (Nat.le_refl _))
  have hB : Below w.heap.size w ((w.alloc (.cells #[.int .i64 v, s] 31)).alloc (.cells #[.int .i64 u, t] 31)) := ((Below.refl _ _).alloc (Nat.le_refl _) _).alloc (by simp) _
  clear h k
  have HC2 := Lib.hid hc2
  have HC1 := Lib.hid hc1
  rw [h1] at HC1
  rw [h2] at HC2
  clear hc1 hc2 h1 h2
  have hnb : (v != u) = true := by simp [hne]
  clear hne
  obtain ⟨a, c, rfl⟩ := hs
  obtain ⟨a', c', rfl⟩ := ht
  go_enter Try.func33, Try.ntmps33
  go_wp2_with fail
  refine (HC1.out _ hB).mono ?_
  rintro e w1 ⟨rfl, hb1⟩
  have hB1 := hB.trans (hb1.mono (by simp; omega))
  have hz1 := hb1.size
  simp at hz1
  have d0 := (hb1.cell (p := ⟨w.heap.size, 0, none⟩) (by simp; omega)).trans (by simp [go_sem] : _ = some (Value.int .i64 v))
  have c0 := (hb1.cell (p := ⟨w.heap.size + 1, 0, none⟩) (by simp)).trans (by simp [go_sem] : _ = some (Value.int .i64 u))
  have c1 := (hb1.cell (p := ⟨w.heap.size + 1, 1, none⟩) (by simp)).trans (by simp [go_sem] : _ = some (Value.slice a' cs.length c'))
  clear hb1
  go_wp2_with fail
  refine (HC2.out _ hB1).mono ?_
  rintro e w2 ⟨rfl, hb2⟩
  have e0 := (hb2.cell (p := ⟨w.heap.size, 0, none⟩) (by show w.heap.size < _; omega)).trans d0
  have f0 := (hb2.cell (p := ⟨w.heap.size + 1, 0, none⟩) (by show w.heap.size + 1 < _; omega)).trans c0
  clear d0 c0 c1
  go_wp2
  go_ret2
  exact ⟨_, rfl, .inl ⟨rfl, _, _, rfl⟩, hB1.trans (hb2.mono hB1.size)⟩


set_option maxRecDepth 100000 in
theorem specCommon_main (v : Int) (s : Value) (bs : List Blk) (t : Value) (cs : List Blk) (w : World) (h : SB w s bs) (k : SB w t cs) (h1 : isSysImpl v bs = true) (h2 : isSysImpl v cs = true) :
    Calls Try.prog 33 #[.agg #[.int .i64 v, s], .agg #[.int .i64 v, t]] w (RLC (commonL bs cs, 0) w) := by
  have hs := h.slice
  have ht := k.slice
  have hc1 := fun W (hb : Below w.heap.size w W) => l01Is_any v s bs W (h.below hb (Nat.le_refl _))
  have hc2 := fun W (hb : Below w.heap.size w W) => l01Is_any v t cs W (k.below hb (Nat.le_refl _))
  have hB : Below w.heap.size w ((w.alloc (.cells #[.int .i64 v, s] 31)).alloc (.cells #[.int .i64 v, t] 31)) := ((Below.refl _ _).alloc (Nat.le_refl _) _).alloc (by simp) _
  have HSB := Lib.hid h
  have KSB := Lib.hid k
  have hl1 := h.2.1
  have hl2 := k.2.1
  clear h k
  have HC2 := Lib.hid hc2
  have HC1 := Lib.hid hc1
  rw [h1] at HC1
  rw [h2] at HC2
  clear hc1 hc2 h1 h2
  have hnb : (v != v) = false := by simp
  obtain ⟨a, c, rfl⟩ := hs
  obtain ⟨a', c', rfl⟩ := ht
  go_enter Try.func33, Try.ntmps33
  go_wp2_with fail
  refine (HC1.out _ hB).mono ?_
  rintro e w1 ⟨rfl, hb1⟩
  have hB1 := hB.trans (hb1.mono (by simp; omega))
  have hz1 := hb1.size
  simp at hz1
  have d0 := (hb1.cell (p := ⟨w.heap.size, 0, none⟩) (by simp; omega)).trans (by simp [go_sem] : _ = some (Value.int .i64 v))
  have d1 := (hb1.cell (p := ⟨w.heap.size, 1, none⟩) (by simp; omega)).trans (by simp [go_sem] : _ = some (Value.slice a bs.length c))
  have c0 := (hb1.cell (p := ⟨w.heap.size + 1, 0, none⟩) (by simp)).trans (by simp [go_sem] : _ = some (Value.int .i64 v))
  have c1 := (hb1.cell (p := ⟨w.heap.size + 1, 1, none⟩) (by simp)).trans (by simp [go_sem] : _ = some (Value.slice a' cs.length c'))
  clear hb1
  go_wp2_with fail
  refine (HC2.out _ hB1).mono ?_
  rintro e w2 ⟨rfl, hb2⟩
  have e0 := (hb2.cell (p := ⟨w.heap.size, 0, none⟩) (by show w.heap.size < _; omega)).trans d0
  have e1 := (hb2.cell (p := ⟨w.heap.size, 1, none⟩) (by show w.heap.size < _; omega)).trans d1
  have f0 := (hb2.cell (p := ⟨w.heap.size + 1, 0, none⟩) (by show w.heap.size + 1 < _; omega)).trans c0
  have f1 := (hb2.cell (p := ⟨w.heap.size + 1, 1, none⟩) (by show w.heap.size + 1 < _; omega)).trans c1
  have hB2 := hB1.trans (hb2.mono hB1.size)
  have hz2 := hb2.size
  have hsb2 := HSB.out.below hB2 (Nat.le_refl _)
  have ksb2 := KSB.out.below hB2 (Nat.le_refl _)
  have HSB2 := Lib.hid hsb2
  have KSB2 := Lib.hid ksb2
  clear d0 d1 c0 c1 hb2 hsb2 ksb2
  have hz3 : w.heap.size + 1 < w2.heap.size := by omega
  have hz4 : w.heap.size < w2.heap.size := by omega
  go_wp2_with fail
  go_loopw [6, 7] (fun o i wr => ∃ k : Nat, k ≤ bs.length ∧ i = .int .i64 k ∧ Below w2.heap.size w2 wr ∧ OwnR wr w2.heap.size o (commonL (bs.take k) cs) ∧ ∃ a n c, o = .slice a n c) (fun _ i _ => bs.length - (intOf i).toNat)
  case atStart => exact ⟨0, Nat.zero_le _, rfl, (Below.refl _ _).alloc (Nat.le_refl _) _, OwnR.lit _, _, _, _, rfl⟩
  case round =>
    obtain ⟨k, hk, rfl, hBr, hO, hform⟩ := hrel
    have hzr := hBr.size
    have p1 := (hBr.cell (p := ⟨w.heap.size, 1, none⟩) (by show w.heap.size < _; omega)).trans e1
    by_cases hkl : k < bs.length
    · rcases HSB2.out.2.2 with ⟨_, _, _, hnil⟩ | ⟨b, off, cap, hval, hblt, hbl⟩
      · rw [hnil] at hkl; simp at hkl
      · simp at hval
        obtain ⟨rfl, rfl⟩ := hval
        obtain ⟨x, hx, ex, x1, x2, x3⟩ := blks_at (hbl.below hBr hblt) hkl
        have hnx := filter_take_next (p := fun x => decide (x ∈ cs)) hkl ex
        have hlc := commonL_length (bs.take k) cs
        have hlc2 : (bs.take k).length ≤ bs.length := by simp; omega
        have hhas := fun W (hb : Below wr.heap.size wr W) => l01Has_any v (.slice a' cs.length c') cs x W ((KSB2.out.below hBr (Nat.le_refl _)).below hb (Nat.le_refl _))
        have q1 := cell_regrown p1
        have q2 := cell_regrown ((hBr.cell (p := ⟨w.heap.size + 1, 0, none⟩) (by show w.heap.size + 1 < _; omega)).trans f0)
        have q3 := cell_regrown ((hBr.cell (p := ⟨w.heap.size + 1, 1, none⟩) (by show w.heap.size + 1 < _; omega)).trans f1)
        have r1 := cell_regrown x1
        have r2 := cell_regrown x2
        have r3 := cell_regrown x3
        have g0 : (0 : Int) ≤ (k : Int) := by omega
        have g1 : (k : Int) < (bs.length : Int) := by omega
        have HO := Lib.hid hO
        obtain ⟨p, q, r⟩ := x
        have HNX := Lib.hid hnx
        dsimp only at x1 x2 x3 r1 r2 r3
        clear hbl hx ex hnx hO
        obtain ⟨a3, n3, c3, rfl⟩ := hform
        by_cases hin : (⟨p, q, r⟩ : Blk) ∈ cs
        · rw [decide_eq_true hin] at hhas
          have HH := Lib.hid hhas
          have HIN := Lib.hid hin
          clear hhas hin
          go_wp2
          refine wp_region_quiet_below (by kernel_rfl) (by kernel_rfl) ?_
          repeat (go_big_quiet_step (exact Calls.regrown_of (HH.out _ (below_regrown _ _ _))))
          refine wpQuiet_nil ?_
          intro _ hw'
          obtain ⟨⟨dq, osq⟩, hw''⟩ := hw'
          subst hw''
          have hbq := below_regrown wr dq osq
          have s1 := q1 dq osq
          have s4 := r1 dq osq
          have s5 := r2 dq osq
          have s6 := r3 dq osq
          obtain ⟨W, hW⟩ : ∃ W, W = Go.Sort.grow (redrawn wr dq) osq := ⟨_, rfl⟩
          rw [← hW] at hbq s1 s4 s5 s6 ⊢
          clear hW q1 q2 q3 r1 r2 r3
          have hO2 := HO.out.below hbq (Nat.le_refl _)
          have HO2 := Lib.hid hO2
          have hBW := hBr.trans (hbq.mono hzr)
          have hzW := hBW.size
          clear hO2
          go_wp2_with (at_builtin; refine wpList_append_blk rfl _ _ rfl w2.heap.size _ (commonL (bs.take k) cs) rfl (HO2.out.below ((Below.refl _ _).alloc (Nat.le_refl _) _) (Nat.le_refl _)) _ _ ⟨p, q, r⟩ rfl (by simp [go_sem]) (by simp [go_sem]) (by simp [go_sem]) (by omega) (by simp; omega) ?_; intro g' cap' w4 hO4 hg4)
          have hrow := HO2.out.row
          have hgo : W.grownBy w4 (Value.slice a3 n3 c3).ownBlock := ⟨hg4.os, hg4.tape, hg4.output, by have := hg4.size; simp at this; omega, fun i hi hne => by
            rw [hg4.block i (by simp; omega) hne, Below.heap_alloc _ _ _ hi]⟩
          have hcl : commonL (bs.take (k + 1)) cs = commonL (bs.take k) cs ++ [⟨p, q, r⟩] := by
            unfold commonL
            rw [HNX.out, if_pos (by simpa using HIN.out)]
          have HCL := Lib.hid hcl
          clear hcl hg4
          go_roundw
          case rel => exact ⟨k + 1, by omega, by go_num, hBW.grown hgo hBW.size (fun j e => hrow j e), by rw [HCL.out]; exact hO4, _, _, _, rfl⟩
          case measure => simp [intOf]; omega
        · rw [decide_eq_false hin] at hhas
          have HH := Lib.hid hhas
          have HIN := Lib.hid hin
          clear hhas hin
          go_wp2
          refine wp_region_quiet_below (by kernel_rfl) (by kernel_rfl) ?_
          repeat (go_big_quiet_step (exact Calls.regrown_of (HH.out _ (below_regrown _ _ _))))
          refine wpQuiet_nil ?_
          intro _ hw'
          obtain ⟨⟨dq, osq⟩, hw''⟩ := hw'
          subst hw''
          have hbq := below_regrown wr dq osq
          have hcl : commonL (bs.take (k + 1)) cs = commonL (bs.take k) cs := by
            unfold commonL
            rw [HNX.out, if_neg (by simpa using HIN.out), List.append_nil]
          have HCL := Lib.hid hcl
          clear hcl
          go_wp2
          go_roundw
          case rel => exact ⟨k + 1, by omega, by go_num, hBr.trans (hbq.mono hzr), by rw [HCL.out]; exact HO.out.below hbq (Nat.le_refl _), _, _, _, rfl⟩
          case measure => simp [intOf]; omega
    · obtain ⟨a3, n3, c3, rfl⟩ := hform
      go_wp2
      go_ret2
      have e : k = bs.length := by omega
      subst e
      rw [List.take_length] at hO
      exact ⟨_, rfl, hO.res.wide (by omega) (Nat.le_refl _), hB2.trans (hBr.mono hB2.size)⟩

theorem specCommon_any (v : Int) (s : Value) (bs : List Blk) (u : Int) (t : Value) (cs : List Blk) (w : World) (h : SB w s bs) (k : SB w t cs) :
    Calls Try.prog 33 #[.agg #[.int .i64 v, s], .agg #[.int .i64 u, t]] w (RLC (commonF v bs u cs) w) := by
  unfold commonF
  cases hb : isSysImpl v bs && isSysImpl u cs with
  | false => exact specCommon_no v s bs u t cs w h k hb
  | true =>
    simp only [Bool.and_eq_true] at hb
    by_cases e : v = u
    · subst e
      rw [if_pos rfl, if_pos rfl]
      exact specCommon_main v s bs t cs w h k hb.1 hb.2
    · rw [if_pos rfl, if_neg e]
      exact specCommon_ne v s bs u t cs w h k hb.1 hb.2 e
end Go.Proofs.Ytacfelgilphppaa

namespace Go.Proofs.Ytacfelgilphppaa
open Go.RowKit Go.Maps
def hasB (x : Blk) (p : Int) : Bool := decide (x.a = p) || decide (x.b = p) || decide (x.c = p)
def bothB (a b : Int) (x : Blk) : Bool := hasB x a && hasB x b
def thirdOf (x : Blk) (a b : Int) : Int := x.a + x.b + x.c - a - b
def inP (v a : Int) : Bool := decide (0 ≤ a) && decide (a < v)
/-- The third point, or -1. -/
def third1 (bs : List Blk) (a b : Int) : Int := match bs.find? (bothB a b) with | some x => thirdOf x a b | none => -1
def thirdV (v : Int) (bs : List Blk) (a b : Int) : Value :=
  if isSysImpl v bs then
    (if inP v a && inP v b then (if a = b then .tuple #[.int .i64 0, .int .i64 2] else
      (match bs.find? (bothB a b) with | some x => .tuple #[.int .i64 (thirdOf x a b), .int .i64 0] | none => .tuple #[.int .i64 0, .int .i64 4]))
    else .tuple #[.int .i64 0, .int .i64 2])
  else .tuple #[.int .i64 0, .int .i64 1]
theorem sys_good {v : Int} {bs : List Blk} (h : isSysImpl v bs = true) : ∀ x ∈ bs, goodB v x = true := by
  unfold isSysImpl at h
  simp only [Bool.and_eq_true] at h
  exact order_good h.1.2
theorem third_bounds {v : Int} {x : Blk} {a b : Int} (hg : goodB v x = true) (hv : v ≤ 15) (h : bothB a b x = true) (hab : a ≠ b) : 0 ≤ thirdOf x a b ∧ thirdOf x a b ≤ 15 := by
  rw [goodB_iff] at hg
  unfold bothB hasB at h
  unfold thirdOf
  simp at h
  omega
theorem find_next {p : Blk → Bool} {bs : List Blk} {k : Nat} {x : Blk} (hk : k < bs.length) (hx : bs[k]? = some x) (h : (bs.take k).find? p = none) : (p x = true → bs.find? p = some x) ∧ (p x = false → (bs.take (k + 1)).find? p = none) := by
  have e : bs[k] = x := by
    rw [List.getElem?_eq_getElem hk] at hx
    simpa using hx
  refine ⟨fun hp => ?_, fun hp => ?_⟩
  · rw [← List.take_append_drop k bs, List.find?_append, h, List.drop_eq_getElem_cons hk, e]
    simp [hp]
  · rw [take_next hk, e, List.find?_append, h]
    simp [hp]
end Go.Proofs.Ytacfelgilphppaa

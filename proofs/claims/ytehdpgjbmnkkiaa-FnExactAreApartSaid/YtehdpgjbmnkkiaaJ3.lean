
/- The blocks that two systems have in common: the program and the model. The laws' marks in systems. Blocks in ascending order: plain facts. Plain facts on trades, without the program. The model's pairs of blocks: l04Pair, l04Pairs, l04Same, l04Member. Sets of blocks as maps: setOf, blocksIn, blocksWithout. impl.CommonBlocks answers as the plain function commonF. The model's CommonBlocks answers as the plain function commonF. Third points, in plain words. -/
import Derived.Test.YtehdpgjbmnkkiaaJ2
import Derived.Deep.RegionWith
import Derived.Deep.DeepCutAuto
import Derived.Deep.OwnRows
namespace Go.Proofs.Ytehdpgjbmnkkiaa
open Go.RowKit Go.Maps
def commonL (bs cs : List Blk) : List Blk := bs.filter fun x => decide (x ∈ cs)
def commonF (v : Int) (bs : List Blk) (u : Int) (cs : List Blk) : List Blk × Int :=
  if isSysImpl v bs && isSysImpl u cs then (if v = u then (commonL bs cs, 0) else ([], 2)) else ([], 1)
/-- Two results: a list of blocks in new memory, and a code. -/
def RLC (p : List Blk × Int) (w : World) (e : Ending) (w' : World) : Prop := ∃ s, e = .returned (.tuple #[s, .int .i64 p.2]) ∧ ResR w' w.heap.size w'.heap.size s p.1 ∧ Below w.heap.size w w'
theorem run_makeMap_hint {P : Program} (t k e : TypeId) (kd : IntKind) (n : Int) (ht : P.underlying t = some (.map k e)) (w : World) :
    (Instr.makeMap t (some (.int kd n))).run P w = .ok (.map (some w.heap.size)) (w.alloc (.map #[] 0)) := by
  simp [Instr.makeMap, run_underlying ht]; rfl
theorem SB.slice {w : World} {s : Value} {bs : List Blk} (h : SB w s bs) : ∃ a c, s = .slice a bs.length c := by
  rcases h.2.2 with ⟨a0, c0, rfl, rfl⟩ | ⟨b, off, cap, rfl, _⟩ <;> exact ⟨_, _, rfl⟩

theorem filter_take_next {p : Blk → Bool} {bs : List Blk} {k : Nat} {x : Blk} (hk : k < bs.length) (hx : bs[k]? = some x) : (bs.take (k + 1)).filter p = (bs.take k).filter p ++ if p x then [x] else [] := by
  have e : bs[k] = x := by
    rw [List.getElem?_eq_getElem hk] at hx
    simpa using hx
  rw [take_next hk, e, List.filter_append]
  cases h : p x <;> simp [h]
theorem commonL_length (bs cs : List Blk) : (commonL bs cs).length ≤ bs.length := List.length_filter_le _ _
theorem commonL_wf {bs cs : List Blk} (h : ∀ x ∈ bs, WFB x) : ∀ x ∈ commonL bs cs, WFB x := fun x hx => h x ((List.mem_filter.1 hx).1)
theorem OwnR.row {w : World} {base : Nat} {v : Value} {bs : List Blk} (h : OwnR w base v bs) : ∀ r, v.ownBlock = some r → base ≤ r := fun r hr => by
  rcases h.2 with ⟨rfl, _⟩ | ⟨g, cap, cur, rfl, hb, _⟩
  · cases hr
  · cases hr; exact hb
end Go.Proofs.Ytehdpgjbmnkkiaa

namespace Go.Proofs.Ytehdpgjbmnkkiaa
open Go.RowKit Go.Maps
theorem gb_trans {a b c : World} {row : Option Nat} (h : a.grownBy b none) (k : b.grownBy c row) : a.grownBy c row :=
  ⟨k.os.trans h.os, k.tape.trans h.tape, k.output.trans h.output, Nat.le_trans h.size k.size, fun i hi hne => (k.block i (Nat.lt_of_lt_of_le hi h.size) hne).trans (h.block i hi (by simp))⟩
theorem gb_below {a b : World} (h : Below a.heap.size a b) : a.grownBy b none := only_of_below h none
theorem ResR.slice {w : World} {lo hi : Nat} {s : Value} {bs : List Blk} (h : ResR w lo hi s bs) : ∃ a c, s = .slice a bs.length c := by
  rcases h with ⟨rfl, a, c, rfl⟩ | ⟨g, cap, rfl, _⟩ <;> exact ⟨_, _, rfl⟩
set_option maxRecDepth 100000 in
theorem markSystem_any (lo hi : Nat) (v : Int) (s : Value) (bs : List Blk) (k : Int) (w : World) (h : ResR w lo hi s bs) (hl : bs.length ≤ 1100000) (h0 : 0 ≤ k) (h1 : k ≤ 9000000) :
    Calls Try.prog 17 #[.agg #[.int .i64 v, s], .int .i64 k] w (fun e w' => e = .returned (.int .i64 (k + 3 * bs.length)) ∧ (∃ row, w.grownBy w' row ∧ ∀ r, row = some r → lo ≤ r ∧ r < hi) ∧ ResR w' lo hi s (markL k bs.length)) := by
  have hc := markR lo hi s bs k (w.alloc (.cells #[.int .i64 v, s] 31)) (h.below ((Below.refl _ _).alloc (Nat.le_refl _) _) (Nat.le_refl _)) hl h0 h1
  have hs := h.slice
  have HC := Lib.hid hc
  clear hc h
  obtain ⟨a, c, rfl⟩ := hs
  go_enter Try.func17, Try.ntmps17
  go_wp2_with (go_at_call 50; refine HC.out.mono ?_; rintro e w1 ⟨rfl, hg, hr⟩)
  go_ret
  obtain ⟨row, hg, hrow⟩ := hg
  exact ⟨rfl, ⟨row, gb_trans (World.grownBy_alloc _ _ none) hg, hrow⟩, hr⟩
set_option maxRecDepth 100000 in
theorem heldSystem_any (lo hi : Nat) (v : Int) (s : Value) (n : Nat) (k : Int) (w : World) (h : ResR w lo hi s (markL k n)) (hl : n ≤ 1100000) (h0 : 0 ≤ k) (h1 : k ≤ 9000000) :
    Calls Try.prog 33 #[.agg #[.int .i64 v, s], .int .i64 k] w (RV (.int .i64 (k + 3 * n)) w) := by
  have hc := heldR lo hi s n k (w.alloc (.cells #[.int .i64 v, s] 31)) (h.below ((Below.refl _ _).alloc (Nat.le_refl _) _) (Nat.le_refl _)) hl h0 h1
  have hs := h.slice
  obtain ⟨m, hm⟩ : ∃ m, m = k + 3 * (n : Int) := ⟨_, rfl⟩
  rw [← hm] at hc ⊢
  have m0 : 0 ≤ m := by omega
  have HC := Lib.hid hc
  clear hc h hm
  obtain ⟨a, c, rfl⟩ := hs
  go_enter Try.func33, Try.ntmps33
  go_wp2_with (go_at_call 66; refine HC.out.mono ?_; rintro e w1 ⟨rfl, rfl⟩)
  go_ret
  exact RV_of rfl ((Below.refl _ _).alloc (Nat.le_refl _) _)
end Go.Proofs.Ytehdpgjbmnkkiaa

namespace Go.Proofs.Ytehdpgjbmnkkiaa
theorem bef_iff (x y : Blk) : befB x y = true ↔ x.a < y.a ∨ (x.a = y.a ∧ (x.b < y.b ∨ (x.b = y.b ∧ x.c < y.c))) := by
  unfold befB
  split
  · split
    · simp; omega
    · simp; omega
  · simp; omega
theorem bef_niff (x y : Blk) : befB x y = false ↔ ¬ (x.a < y.a ∨ (x.a = y.a ∧ (x.b < y.b ∨ (x.b = y.b ∧ x.c < y.c)))) := by
  rw [← bef_iff]; simp
theorem bef_irrefl (x : Blk) : befB x x = false := by rw [bef_niff]; omega
theorem bef_trans {x y z : Blk} (h1 : befB x y = true) (h2 : befB y z = true) : befB x z = true := by
  rw [bef_iff] at *; omega
theorem bef_ntrans {x y z : Blk} (h1 : befB x y = false) (h2 : befB y z = false) : befB x z = false := by
  rw [bef_niff] at *; omega
theorem bef_asymm {x y : Blk} (h : befB x y = true) : befB y x = false := by
  rw [bef_niff]; rw [bef_iff] at h; omega
theorem bef_total {x y : Blk} (h1 : befB x y = false) (h2 : befB y x = false) : x = y := by
  rw [bef_niff] at h1 h2
  obtain ⟨a, b, c⟩ := x
  obtain ⟨d, e, f⟩ := y
  simp only at h1 h2
  simp only [Blk.mk.injEq]
  omega
/-- No block stands behind a greater one. -/
def Srt (l : List Blk) : Prop := l.Pairwise fun x y => befB y x = false
theorem srt_unique {l m : List Blk} (h1 : Srt l) (h2 : Srt m) (hp : l.Perm m) : l = m :=
  List.Perm.eq_of_pairwise (le := fun x y => befB y x = false) (fun _ _ _ _ h1 h2 => bef_total h2 h1) h1 h2 hp
/-- Where x goes in among the first n of l. -/
def posB (x : Blk) (l : List Blk) : Nat → Nat
  | 0 => 0
  | n + 1 => if befB x (l[n]?.getD default) then posB x l n else n + 1
theorem posB_le (x : Blk) (l : List Blk) : ∀ n, posB x l n ≤ n
  | 0 => Nat.le_refl _
  | n + 1 => by
    unfold posB
    split
    · have := posB_le x l n; omega
    · exact Nat.le_refl _
theorem posB_after (x : Blk) (l : List Blk) : ∀ n j, posB x l n ≤ j → j < n → befB x (l[j]?.getD default) = true
  | 0, j, _, h => by omega
  | n + 1, j, h1, h2 => by
    unfold posB at h1
    split at h1
    · by_cases e : j = n
      · subst e; assumption
      · exact posB_after x l n j h1 (by omega)
    · omega
theorem posB_at (x : Blk) (l : List Blk) : ∀ n m, posB x l n = m + 1 → befB x (l[m]?.getD default) = false
  | 0, m, h => by simp [posB] at h
  | n + 1, m, h => by
    unfold posB at h
    split at h
    · exact posB_at x l n m h
    · obtain rfl : m = n := by omega
      exact Bool.eq_false_iff.2 ‹¬ befB _ _ = true›
def insB (x : Blk) (l : List Blk) : List Blk := l.take (posB x l l.length) ++ x :: l.drop (posB x l l.length)
theorem insB_perm (x : Blk) (l : List Blk) : (insB x l).Perm (x :: l) := by
  unfold insB
  refine List.perm_middle.trans ?_
  rw [List.take_append_drop]
theorem insB_length (x : Blk) (l : List Blk) : (insB x l).length = l.length + 1 := by
  rw [(insB_perm x l).length_eq]; rfl
theorem insB_srt {x : Blk} {l : List Blk} (h : Srt l) : Srt (insB x l) := by
  unfold insB Srt
  have hle := posB_le x l l.length
  have hb : ∀ y ∈ l.take (posB x l l.length), befB x y = false := by
    intro y hy
    obtain ⟨i, hi, e⟩ := List.getElem_of_mem hy
    rw [List.length_take] at hi
    rw [List.getElem_take] at e
    obtain ⟨m, hm⟩ : ∃ m, posB x l l.length = m + 1 := ⟨posB x l l.length - 1, by omega⟩
    have hm2 := posB_at x l _ m hm
    have hml : m < l.length := by omega
    rw [List.getElem?_eq_getElem hml, Option.getD_some] at hm2
    by_cases hi2 : i = m
    · subst hi2; rw [← e]; exact hm2
    · have hh := List.pairwise_iff_getElem.1 h i m (by omega) hml (by omega)
      rw [← e]
      exact bef_ntrans hm2 hh
  have ha : ∀ y ∈ l.drop (posB x l l.length), befB x y = true := by
    intro y hy
    obtain ⟨i, hi, e⟩ := List.getElem_of_mem hy
    rw [List.length_drop] at hi
    rw [List.getElem_drop] at e
    have h2 := posB_after x l l.length (posB x l l.length + i) (by omega) (by omega)
    rw [List.getElem?_eq_getElem (by omega), Option.getD_some, e] at h2
    exact h2
  have h0 : Srt (l.take (posB x l l.length) ++ l.drop (posB x l l.length)) := by rw [List.take_append_drop]; exact h
  obtain ⟨h1, h2, h3⟩ := List.pairwise_append.1 h0
  refine List.pairwise_append.2 ⟨h1, List.pairwise_cons.2 ⟨fun y hy => bef_asymm (ha y hy), h2⟩, fun y hy z hz => ?_⟩
  rcases List.mem_cons.1 hz with rfl | hz
  · exact hb y hy
  · exact h3 y hy z hz
/-- The blocks in order. -/
def sortB (bs : List Blk) : List Blk := bs.foldl (fun acc x => insB x acc) []
theorem sortB_snoc (bs : List Blk) (x : Blk) : sortB (bs ++ [x]) = insB x (sortB bs) := by simp [sortB]
theorem foldIns_perm : ∀ (bs acc : List Blk), (bs.foldl (fun acc x => insB x acc) acc).Perm (bs ++ acc)
  | [], acc => List.Perm.refl _
  | x :: r, acc => by
    rw [List.foldl_cons]
    refine (foldIns_perm r _).trans ?_
    refine ((insB_perm x acc).append_left r).trans ?_
    exact List.perm_middle
theorem foldIns_srt : ∀ (bs acc : List Blk), Srt acc → Srt (bs.foldl (fun acc x => insB x acc) acc)
  | [], _, h => h
  | x :: r, acc, h => by
    rw [List.foldl_cons]
    exact foldIns_srt r _ (insB_srt h)
theorem sortB_perm (bs : List Blk) : (sortB bs).Perm bs := by
  have := foldIns_perm bs []
  rwa [List.append_nil] at this
theorem sortB_srt (bs : List Blk) : Srt (sortB bs) := foldIns_srt bs [] List.Pairwise.nil
theorem sortB_length (bs : List Blk) : (sortB bs).length = bs.length := (sortB_perm bs).length_eq
theorem sortB_eq {bs l : List Blk} (h1 : Srt l) (h2 : l.Perm bs) : sortB bs = l := srt_unique (sortB_srt bs) h1 ((sortB_perm bs).trans h2.symm)
theorem sortB_of_perm {bs cs : List Blk} (h : bs.Perm cs) : sortB bs = sortB cs := sortB_eq (sortB_srt cs) ((sortB_perm cs).trans h.symm)
theorem sortB_mem {bs : List Blk} {x : Blk} : x ∈ sortB bs ↔ x ∈ bs := (sortB_perm bs).mem_iff
theorem sortB_merge (bs : List Blk) : bs.mergeSort (fun x y => !befB y x) = sortB bs := by
  refine (sortB_eq ?_ (List.mergeSort_perm _ _)).symm
  have := List.pairwise_mergeSort (le := fun x y => !befB y x) (fun x y z h1 h2 => by
    simp only [Bool.not_eq_true'] at *
    exact bef_ntrans h2 h1) (fun x y => by
    cases h : befB y x
    · simp
    · simp [bef_asymm h]) bs
  exact this.imp fun h => by simpa using h
/-- Blocks in strict order are in order. -/
theorem order_srt {v : Int} : ∀ {bs : List Blk} {p : Option Blk}, orderGo v p bs = true → (bs.Pairwise fun x y => befB x y = true) ∧ ∀ y, p = some y → ∀ x ∈ bs, befB y x = true
  | [], _, _ => ⟨List.Pairwise.nil, by simp⟩
  | x :: r, p, h => by
    simp only [orderGo, Bool.and_eq_true] at h
    obtain ⟨⟨_, h1⟩, h2⟩ := h
    obtain ⟨i1, i2⟩ := order_srt h2
    refine ⟨List.pairwise_cons.2 ⟨fun y hy => i2 x rfl y hy, i1⟩, fun y hy z hz => ?_⟩
    subst hy
    simp only at h1
    rcases List.mem_cons.1 hz with rfl | hz
    · exact h1
    · exact bef_trans h1 (i2 x rfl z hz)
theorem sys_strict {v : Int} {bs : List Blk} (h : isSysImpl v bs = true) : bs.Pairwise fun x y => befB x y = true := by
  simp only [isSysImpl, Bool.and_eq_true] at h
  exact (order_srt h.1.2).1
theorem strict_srt {bs : List Blk} (h : bs.Pairwise fun x y => befB x y = true) : Srt bs := h.imp bef_asymm
theorem strict_nodup {bs : List Blk} (h : bs.Pairwise fun x y => befB x y = true) : bs.Nodup :=
  h.imp fun {x y} hxy e => by subst e; rw [bef_irrefl] at hxy; cases hxy
end Go.Proofs.Ytehdpgjbmnkkiaa

namespace Go.Proofs.Ytehdpgjbmnkkiaa
/-- The pairs of a list of blocks. -/
def prs (bs : List Blk) : List (Int × Int) := bs.flatMap pairsL
/-- The same pairs. -/
def samePr (bs cs : List Blk) : Bool := (prs bs).all (fun p => decide (p ∈ prs cs)) && (prs cs).all (fun p => decide (p ∈ prs bs))
/-- No block is in both. -/
def dsj (bs cs : List Blk) : Bool := bs.all fun x => !decide (x ∈ cs)
def trdB (v : Int) (bo bi : List Blk) : Bool := isSysImpl v bo && isSysImpl v bi && (samePr bo bi && dsj bo bi)
theorem samePr_iff {bs cs : List Blk} : samePr bs cs = true ↔ ∀ p, p ∈ prs bs ↔ p ∈ prs cs := by
  simp only [samePr, Bool.and_eq_true, List.all_eq_true, decide_eq_true_eq]
  exact ⟨fun h p => ⟨h.1 p, h.2 p⟩, fun h => ⟨fun p => (h p).1, fun p => (h p).2⟩⟩
theorem dsj_iff {bs cs : List Blk} : dsj bs cs = true ↔ ∀ x ∈ bs, x ∉ cs := by simp [dsj]
theorem dsj_symm (bs cs : List Blk) : dsj bs cs = dsj cs bs := by
  rw [Bool.eq_iff_iff, dsj_iff, dsj_iff]
  exact ⟨fun h x hx hy => h x hy hx, fun h x hx hy => h x hy hx⟩
theorem samePr_symm (bs cs : List Blk) : samePr bs cs = samePr cs bs := by
  rw [Bool.eq_iff_iff, samePr_iff, samePr_iff]
  exact ⟨fun h p => (h p).symm, fun h p => (h p).symm⟩
theorem trdB_symm (v : Int) (bo bi : List Blk) : trdB v bo bi = trdB v bi bo := by
  unfold trdB
  rw [samePr_symm, dsj_symm, Bool.and_comm (isSysImpl v bo)]
theorem prs_length (bs : List Blk) : (prs bs).length = 3 * bs.length := by
  induction bs with
  | nil => rfl
  | cons x r ih =>
    simp only [prs, List.flatMap_cons, List.length_append, List.length_cons] at ih ⊢
    rw [ih]
    simp [pairsL]; omega
theorem share_nodup {v : Int} (hv : v ≤ 15) : ∀ (bs : List Blk) (seen : List (Int × Int)), (∀ x ∈ bs, goodB v x = true) → seen.Nodup → shareGo seen bs = false → (seen ++ prs bs).Nodup
  | [], seen, _, hn, _ => by simpa [prs] using hn
  | x :: r, seen, hb, hn, h => by
    unfold shareGo at h
    split at h
    · rename_i hf
      rw [freeB_iff] at hf
      obtain ⟨g1, _⟩ := good_pairs hv (hb x (by simp))
      have := share_nodup hv r (seen ++ pairsL x) (fun y hy => hb y (by simp [hy])) (List.nodup_append.2 ⟨hn, g1, fun p hp q hq e => hf q hq (e ▸ hp)⟩) h
      simpa [prs, List.append_assoc] using this
    · cases h
theorem sys_parts {v : Int} {bs : List Blk} (h : isSysImpl v bs = true) : 3 ≤ v ∧ v ≤ 15 ∧ (∀ x ∈ bs, goodB v x = true) ∧ shareGo [] bs = false := by
  simp only [isSysImpl, Bool.and_eq_true, decide_eq_true_eq, Bool.not_eq_true'] at h
  exact ⟨h.1.1.1, h.1.1.2, order_good h.1.2, h.2⟩
theorem prs_nodup {v : Int} {bs : List Blk} (h : isSysImpl v bs = true) : (prs bs).Nodup := by
  obtain ⟨_, h2, h3, h4⟩ := sys_parts h
  simpa using share_nodup h2 bs [] h3 List.nodup_nil h4
theorem sub_back {α : Type} [DecidableEq α] {l m : List α} (hn : l.Nodup) (hs : ∀ x ∈ l, x ∈ m) (hl : m.length ≤ l.length) : ∀ x ∈ m, x ∈ l := by
  intro x hx
  apply Classical.byContradiction
  intro hnot
  have h := nodup_length l (m.erase x) hn (fun y hy => by
    have hne : y ≠ x := fun e => hnot (e ▸ hy)
    exact (List.mem_erase_of_ne hne).2 (hs y hy))
  rw [List.length_erase_of_mem hx] at h
  have : 0 < m.length := List.length_pos_of_mem hx
  omega
/-- Of two systems: as many pairs, and those of the first in the second, say the same. -/
theorem samePr_of {v u : Int} {bs cs : List Blk} (h1 : isSysImpl v bs = true) (h2 : isSysImpl u cs = true) : samePr bs cs = (decide ((prs bs).length = (prs cs).length) && (prs bs).all fun p => decide (p ∈ prs cs)) := by
  have n1 := prs_nodup h1
  have n2 := prs_nodup h2
  rw [Bool.eq_iff_iff, samePr_iff]
  simp only [Bool.and_eq_true, List.all_eq_true, decide_eq_true_eq]
  constructor
  · intro h
    exact ⟨Nat.le_antisymm (nodup_length _ _ n1 fun x hx => (h x).1 hx) (nodup_length _ _ n2 fun x hx => (h x).2 hx), fun x hx => (h x).1 hx⟩
  · rintro ⟨h, hs⟩ p
    exact ⟨hs p, sub_back n1 hs (by omega) p⟩
/-- The blocks that are not in the others. -/
def lessL (bs cs : List Blk) : List Blk := bs.filter fun x => !decide (x ∈ cs)
theorem lessL_length (bs cs : List Blk) : (lessL bs cs).length ≤ bs.length := List.length_filter_le _ _
theorem lessL_mem {bs cs : List Blk} {x : Blk} : x ∈ lessL bs cs ↔ x ∈ bs ∧ x ∉ cs := by simp [lessL]
theorem lessL_strict {bs cs : List Blk} (h : bs.Pairwise fun x y => befB x y = true) : (lessL bs cs).Pairwise fun x y => befB x y = true := h.filter _
theorem sortB_strict {bs : List Blk} (h : bs.Pairwise fun x y => befB x y = true) : sortB bs = bs := sortB_eq (strict_srt h) (List.Perm.refl _)
end Go.Proofs.Ytehdpgjbmnkkiaa

namespace Go.Proofs.Ytehdpgjbmnkkiaa
open Go.RowKit Go.Maps
/-- The number of a pair. -/
def numP (p : Int × Int) : Int := p.1 * 16 + p.2
def inNum (ps : List (Int × Int)) (i : Nat) : Bool := decide ((i : Int) ∈ ps.map numP)
/-- 256 bools in block g. -/
structure Bools (W : World) (g : Nat) (f : Nat → Bool) : Prop where
  lt : g < W.heap.size
  at_ : ∀ i, i < 256 → W.cell? ⟨g, i, none⟩ = some (.bool (f i))
  free : ∀ o, W.frozen? ⟨g, o, none⟩ = false
theorem Bools.below {W W' : World} {g B : Nat} {f : Nat → Bool} (h : Bools W g f) (hb : Below B W W') (hB : W.heap.size ≤ B) : Bools W' g f :=
  ⟨Nat.lt_of_lt_of_le h.lt hb.size, fun i hi => (hb.cell (p := ⟨g, i, none⟩) (Nat.lt_of_lt_of_le h.lt hB)).trans (h.at_ i hi), fun o => (hb.frozen (p := ⟨g, o, none⟩) (Nat.lt_of_lt_of_le h.lt hB)).trans (h.free o)⟩
theorem Bools.set {W : World} {g : Nat} {f : Nat → Bool} (h : Bools W g f) {n : Nat} (hn : n < 256) : Bools (W.setCell ⟨g, n, none⟩ (.bool true)) g (fun i => f i || decide (i = n)) := by
  refine ⟨by simpa using h.lt, fun i hi => ?_, fun o => (World.frozen?_setCell _ _ _ _).trans (h.free o)⟩
  by_cases e : i = n
  · subst e
    rw [World.cell?_setCell_same _ _ _ (h.at_ i hi)]
    simp
  · rw [World.cell?_setCell_other _ _ _ _ (by simp), h.at_ i hi]
    simp [e]
theorem Bools.eq {W : World} {g : Nat} {f f' : Nat → Bool} (h : Bools W g f) (e : ∀ i, i < 256 → f i = f' i) : Bools W g f' := ⟨h.lt, fun i hi => by rw [← e i hi]; exact h.at_ i hi, h.free⟩
theorem Bools.drew {W : World} {g : Nat} {f : Nat → Bool} (h : Bools W g f) : Bools W.drew g f := ⟨h.lt, h.at_, h.free⟩
theorem infoBool : (Try.prog.info? 4).map (fun i => (i.zero, i.size, i.bytes)) = some (some (.bool false), 1, 1) := by kernel_rfl
theorem mkBools : ∃ cs : Array Value, (∀ i, i < 256 → cs[i]? = some (.bool false)) ∧ ∀ W : World, (Instr.makeSlice 168 (.int .i64 256) (.int .i64 256)).run Try.prog W = .ok (.slice (some ⟨W.heap.size, 0, none⟩) 256 256) (W.alloc (.cells cs 4)) :=
  ⟨madeCells #[.bool false] 256, fun i hi => by simp [madeCells, hi, Nat.mod_one], fun W => run_make_row' (P := Try.prog) 168 4 (.bool false) 1 Try.underlying168 infoBool rfl .i64 .i64 256 (by omega) (by omega) W⟩
theorem num_nat {v : Int} {x : Blk} (hv : v ≤ 15) (h : goodB v x = true) : ∃ n1 n2 n3 : Nat, (n1 : Int) = x.a * 16 + x.b ∧ (n2 : Int) = x.a * 16 + x.c ∧ (n3 : Int) = x.b * 16 + x.c ∧ n1 < 256 ∧ n2 < 256 ∧ n3 < 256 := by
  rw [goodB_iff] at h
  exact ⟨(x.a * 16 + x.b).toNat, (x.a * 16 + x.c).toNat, (x.b * 16 + x.c).toNat, by omega, by omega, by omega, by omega, by omega, by omega⟩
theorem inNum_next {bs : List Blk} {k : Nat} {x : Blk} (hk : k < bs.length) (hx : bs[k]? = some x) {n1 n2 n3 : Nat} (h1 : (n1 : Int) = x.a * 16 + x.b) (h2 : (n2 : Int) = x.a * 16 + x.c) (h3 : (n3 : Int) = x.b * 16 + x.c) (i : Nat) :
    (((inNum (prs (bs.take k)) i || decide (i = n1)) || decide (i = n2)) || decide (i = n3)) = inNum (prs (bs.take (k + 1))) i := by
  have e : bs[k] = x := by
    rw [List.getElem?_eq_getElem hk] at hx
    simpa using hx
  rw [take_next hk, e]
  unfold inNum prs
  rw [List.flatMap_append, List.map_append]
  simp only [List.flatMap_cons, List.flatMap_nil, List.append_nil, pairsL, List.map_cons, List.map_nil, numP, List.mem_append, List.mem_cons, List.not_mem_nil, or_false]
  rw [Bool.eq_iff_iff]
  simp only [Bool.or_eq_true, decide_eq_true_eq]
  constructor
  · rintro (((h | rfl) | rfl) | rfl)
    · exact .inl h
    · exact .inr (.inl h1)
    · exact .inr (.inr (.inl h2))
    · exact .inr (.inr (.inr h3))
  · rintro (h | h | h | h)
    · exact .inl (.inl (.inl h))
    · exact .inl (.inl (.inr (by omega)))
    · exact .inl (.inr (by omega))
    · exact .inr (by omega)
end Go.Proofs.Ytehdpgjbmnkkiaa

namespace Go.Proofs.Ytehdpgjbmnkkiaa
open Go.RowKit Go.Maps
/-- The blocks as a map's keys. -/
def BSet (w : World) (b n : Nat) (cs : List Blk) : Prop := BoolSet w Try.prog 93 4 b n (cs.map bv)
/-- Returns new blocks. -/
def RA (bs : List Blk) (w : World) (e : Ending) (w' : World) : Prop := ∃ u, e = .returned u ∧ OwnR w' w.heap.size u bs ∧ Below w.heap.size w w'
theorem bv_mem {x : Blk} {cs : List Blk} : bv x ∈ cs.map bv ↔ x ∈ cs := ⟨fun h => by obtain ⟨y, hy, e⟩ := List.mem_map.1 h; rw [← bv_inj e]; exact hy, fun h => List.mem_map.2 ⟨x, h, rfl⟩⟩
theorem BSet.below {w w' : World} {b n B : Nat} {cs : List Blk} (h : BSet w b n cs) (hb : Below B w w') (hB : w.heap.size ≤ B) : BSet w' b n cs := BoolSet.below h hb (Nat.lt_of_lt_of_le (BoolSet.lt h) hB)
end Go.Proofs.Ytehdpgjbmnkkiaa

namespace Go.Proofs.Ytehdpgjbmnkkiaa
open Go.RowKit Go.Maps
end Go.Proofs.Ytehdpgjbmnkkiaa

namespace Go.Proofs.Ytehdpgjbmnkkiaa
open Go.RowKit Go.Maps
theorem OwnR.lit (w : World) : OwnR (w.alloc (.cells #[] 93)) w.heap.size (.slice (some ⟨w.heap.size, 0, none⟩) 0 0) [] :=
  ⟨rfl,   .inr ⟨w.heap.size, 0, #[], rfl, Nat.le_refl _, (MapKept.heap_alloc w (.cells #[] 93)).1, Nat.le_refl _, by unfold maxLen; omega, rfl, rfl⟩⟩
end Go.Proofs.Ytehdpgjbmnkkiaa

namespace Go.Proofs.Ytehdpgjbmnkkiaa
open Go.RowKit Go.Maps
def hasB (x : Blk) (p : Int) : Bool := decide (x.a = p) || decide (x.b = p) || decide (x.c = p)
def bothB (a b : Int) (x : Blk) : Bool := hasB x a && hasB x b
def thirdOf (x : Blk) (a b : Int) : Int := x.a + x.b + x.c - a - b
def inP (v a : Int) : Bool := decide (0 ≤ a) && decide (a < v)
/-- The third point, or -1. -/
def third1 (bs : List Blk) (a b : Int) : Int := match bs.find? (bothB a b) with | some x => thirdOf x a b | none => -1
def thirdV (v : Int) (bs : List Blk) (a b : Int) : Value :=
  if isSysImpl v bs then
    (if inP v a && inP v b then (if a = b then .tuple #[.int .i64 0, .int .i64 2] else
      (match bs.find? (bothB a b) with | some x => .tuple #[.int .i64 (thirdOf x a b), .int .i64 0] | none => .tuple #[.int .i64 0, .int .i64 4]))
    else .tuple #[.int .i64 0, .int .i64 2])
  else .tuple #[.int .i64 0, .int .i64 1]
theorem sys_good {v : Int} {bs : List Blk} (h : isSysImpl v bs = true) : ∀ x ∈ bs, goodB v x = true := by
  unfold isSysImpl at h
  simp only [Bool.and_eq_true] at h
  exact order_good h.1.2
theorem third_bounds {v : Int} {x : Blk} {a b : Int} (hg : goodB v x = true) (hv : v ≤ 15) (h : bothB a b x = true) (hab : a ≠ b) : 0 ≤ thirdOf x a b ∧ thirdOf x a b ≤ 15 := by
  rw [goodB_iff] at hg
  unfold bothB hasB at h
  unfold thirdOf
  simp at h
  omega
theorem find_next {p : Blk → Bool} {bs : List Blk} {k : Nat} {x : Blk} (hk : k < bs.length) (hx : bs[k]? = some x) (h : (bs.take k).find? p = none) : (p x = true → bs.find? p = some x) ∧ (p x = false → (bs.take (k + 1)).find? p = none) := by
  have e : bs[k] = x := by
    rw [List.getElem?_eq_getElem hk] at hx
    simpa using hx
  refine ⟨fun hp => ?_, fun hp => ?_⟩
  · rw [← List.take_append_drop k bs, List.find?_append, h, List.drop_eq_getElem_cons hk, e]
    simp [hp]
  · rw [take_next hk, e, List.find?_append, h]
    simp [hp]
end Go.Proofs.Ytehdpgjbmnkkiaa


/- impl.typeFrom. The leave degrees, plain. The outline's ascending list. A list that was made. The model's DegreesOf. The program's DegreesOf, plain. The program's LeaveDegrees. The model's LeaveDegrees. The common point of two blocks: the program's and the model's. -/
import Derived.Test.YtahgialnhomefaaJ8
import Derived.Shelf.SortM.SortNone
import Derived.Lib.OwnBridge
import Derived.Deep.RegionHeld3
namespace Go.Proofs.Ytahgialnhomefaa
open Go.RowKit Go.Maps Go.Sort Go.Shelf
theorem grownBy_putT {w : World} {g n : Nat} {os : Array Obj} (F : Array Int) : w.grownBy (grow (putRow (Value.int .i64) (Sort.ahead w n) g 0 F) os) (some g) := by
  refine ⟨rfl, rfl, rfl, by simp, fun k hk hne => ?_⟩
  rw [heap_grow_old _ _ (by simpa using hk)]
  have : g ≠ k := fun e => hne (by rw [e])
  simp [putRow, mapBlock, Sort.ahead, Array.getElem?_modify, this]
theorem grownBy_growT (w : World) (os : Array Obj) : w.grownBy (grow w os) none :=
  ⟨rfl, rfl, rfl, by simp, fun k hk _ => heap_grow_old _ _ hk⟩
theorem OwnJ.put {w : World} {base g n cap q : Nat} {os : Array Obj} {zs ys : List Int} (h : OwnJ w base (.slice (some ⟨g, 0, none⟩) n cap) zs) (hy : ys.length = zs.length) :
    OwnJ (grow (putRow (Value.int .i64) (Sort.ahead w q) g 0 ys.toArray) os) base (.slice (some ⟨g, 0, none⟩) n cap) ys ∧ w.grownBy (grow (putRow (Value.int .i64) (Sort.ahead w q) g 0 ys.toArray) os) (some g) := by
  have hn : n = zs.length := by
    rcases h.2 with ⟨e, _⟩ | ⟨g', cap', cur, e, _⟩
    · cases e
    · injection e
  subst hn
  refine ⟨?_, grownBy_putT _⟩
  have h1 := Lib.ownsRow_putRow (q := q) (k := zs.length) h hy (Nat.le_refl _)
  rw [List.take_of_length_le (Nat.le_of_eq hy)] at h1
  refine OwnJ.kept ?_ (grownBy_growT _ os) (by simp)
  unfold OwnJ
  rw [hy]
  exact h1
theorem OwnJ.holdsT {w : World} {base g n cap : Nat} {zs : List Int} (h : OwnJ w base (.slice (some ⟨g, 0, none⟩) n cap) zs) : Holds (Value.int .i64) w g 0 zs.toArray ∧ g < w.heap.size ∧ n = zs.length := by
  obtain ⟨_, h | ⟨g', cap', cur, e, hb, hcur, hn, hc, hsz, hx⟩⟩ := h
  · simp at h
  · simp at e
    obtain ⟨rfl, rfl, rfl⟩ := e
    refine ⟨fun j hj => ?_, (Array.getElem?_eq_some_iff.1 hcur).1, rfl⟩
    have hj' : j < zs.length := by simpa using hj
    have e : (zs.map (Value.int .i64))[j]? = some (.int .i64 zs[j]) := by simp [hj']
    rw [← hx, List.getElem?_take_of_lt (by omega)] at e
    rw [Nat.zero_add]
    refine ⟨?_, by simp [World.frozen?, hcur]⟩
    rw [getElem!_pos zs.toArray j hj]
    simp [World.cell?, hcur]
    simpa using e
theorem OwnJ.baseT {w : World} {b b' : Nat} {u : Value} {zs : List Int} (h : OwnJ w b u zs) (hb : b' ≤ b) : OwnJ w b' u zs := ⟨h.1, by
  rcases h.2 with h | ⟨g, cap, cur, e, hb', hr⟩
  · exact .inl h
  · exact .inr ⟨g, cap, cur, e, Nat.le_trans hb hb', hr⟩⟩
theorem sortJ_any (base : Nat) (u : Value) (zs : List Int) (w : World) (h : OwnJ w base u zs) (hl : zs.length ≤ 3300000) :
    Calls Try.prog 92 #[u] w (fun e w' => e = .returned (.tuple #[]) ∧ w.grownBy w' u.ownBlock ∧ OwnJ w' base u (ascL zs)) := by
  rcases h.2 with ⟨rfl, h0⟩ | ⟨g, cap, cur, rfl, _⟩
  · have e0 : zs = [] := List.length_eq_zero_iff.1 h0
    subst e0
    refine (AnyM.slices_Sort_int_none Try.sortI _ _ _).mono ?_
    rintro e w' ⟨rfl, rfl⟩
    exact ⟨rfl, only_refl _ _, by simpa [ascL] using OwnJ.nil _ _⟩
  · obtain ⟨hH, hlt, _⟩ := h.holdsT
    refine (AnyM.slices_Sort_int Try.sortI g 0 cap zs w hH hlt (by omega)).mono ?_
    rintro e w' ⟨rfl, n, os, hw⟩
    obtain ⟨h1, h2⟩ := h.put (q := n) (os := os) (ascL_len zs)
    subst hw
    exact ⟨rfl, h2, h1⟩
theorem revJ_any (base : Nat) (u : Value) (zs : List Int) (w : World) (h : OwnJ w base u zs) (hl : zs.length ≤ 3300000) :
    Calls Try.prog 93 #[u] w (fun e w' => e = .returned (.tuple #[]) ∧ w.grownBy w' u.ownBlock ∧ OwnJ w' base u zs.reverse) := by
  rcases h.2 with ⟨rfl, h0⟩ | ⟨g, cap, cur, rfl, _⟩
  · have e0 : zs = [] := List.length_eq_zero_iff.1 h0
    subst e0
    refine (AnyG.slices_Reverse_int_empty Try.revI _ _ _).mono ?_
    rintro e w' ⟨rfl, rfl⟩
    exact ⟨rfl, only_refl _ _, OwnJ.nil _ _⟩
  · obtain ⟨hH, hlt, _⟩ := h.holdsT
    refine (AnyG.slices_Reverse_int Try.revI g 0 cap zs w hH (by omega)).mono ?_
    rintro e w' ⟨rfl, n, hw⟩
    obtain ⟨h1, h2⟩ := h.put (q := n) (os := #[]) (ys := zs.reverse) (by simp)
    have e : w' = grow (putRow (Value.int .i64) (Sort.ahead w n) g 0 zs.reverse.toArray) #[] := by rw [hw]; simp only [grow, Array.append_empty]
    subst e
    exact ⟨rfl, h2, h1⟩
end Go.Proofs.Ytahgialnhomefaa

namespace Go.Proofs.Ytahgialnhomefaa
/-- How many pairs of the list have the point. -/
def cntP (L : List (Int × Int)) (p : Int) : Nat := L.countP fun q => decide (q.1 = p) || decide (q.2 = p)
theorem cntP_append (L M : List (Int × Int)) (p : Int) : cntP (L ++ M) p = cntP L p + cntP M p := by simp [cntP]
theorem filter_append' {α : Type} (l m : List α) (p : α → Bool) : (l ++ m).filter p = l.filter p ++ m.filter p := by simp
theorem rowL_filter (P : Int → Int → Bool) (a : Nat) : ∀ n, rowL P a n = (rowL (fun _ _ => true) a n).filter fun q => P q.1 q.2
  | 0 => rfl
  | n + 1 => by
    unfold rowL
    rw [List.filter_append, ← rowL_filter P a n]
    cases hp : P (a : Int) ((a : Int) + 1 + n) <;> simp [hp]
theorem leftL_filter (P : Int → Int → Bool) (v : Nat) : ∀ a, leftL P v a = (leftL (fun _ _ => true) v a).filter fun q => P q.1 q.2
  | 0 => rfl
  | a + 1 => by
    unfold leftL
    rw [List.filter_append, ← leftL_filter P v a, ← rowL_filter]
theorem rowT_mem (a : Nat) : ∀ n (q : Int × Int), q ∈ rowL (fun _ _ => true) a n ↔ q.1 = a ∧ (a : Int) < q.2 ∧ q.2 ≤ (a : Int) + n
  | 0, q => by
    simp only [rowL, List.not_mem_nil, false_iff]
    omega
  | n + 1, q => by
    obtain ⟨x, y⟩ := q
    unfold rowL
    rw [List.mem_append, rowT_mem a n]
    simp only [if_true, List.mem_singleton, Prod.mk.injEq]
    omega
theorem leftT_mem (v : Nat) : ∀ a (q : Int × Int), a ≤ v → (q ∈ leftL (fun _ _ => true) v a ↔ 0 ≤ q.1 ∧ q.1 < a ∧ q.1 < q.2 ∧ q.2 < v)
  | 0, q, _ => by
    simp only [leftL, List.not_mem_nil, false_iff]
    omega
  | a + 1, q, h => by
    unfold leftL
    rw [List.mem_append, leftT_mem v a q (by omega), rowT_mem]
    omega
theorem rowT_nodup (a : Nat) : ∀ n, (rowL (fun _ _ => true) a n).Nodup
  | 0 => by simp [rowL]
  | n + 1 => by
    unfold rowL
    rw [List.nodup_append]
    refine ⟨rowT_nodup a n, by simp, fun x hx y hy => ?_⟩
    rw [rowT_mem] at hx
    simp only [if_true, List.mem_singleton] at hy
    subst hy
    intro e
    rw [e] at hx
    dsimp only at hx
    omega
theorem leftT_nodup (v : Nat) : ∀ a, a ≤ v → (leftL (fun _ _ => true) v a).Nodup
  | 0, _ => by simp [leftL]
  | a + 1, h => by
    unfold leftL
    rw [List.nodup_append]
    refine ⟨leftT_nodup v a (by omega), rowT_nodup a _, fun x hx y hy => ?_⟩
    rw [leftT_mem v a x (by omega)] at hx
    rw [rowT_mem] at hy
    intro e
    rw [e] at hx
    omega
theorem leftT_cnt : ∀ v : Fin 16, ∀ p : Fin 16, p.val < v.val → cntP (leftL (fun _ _ => true) v.val v.val) (p.val : Int) = v.val - 1 := by decide +kernel
/-- Two lists without doubles with the same members that pass a test pass it equally often. -/
theorem nodup_count {α : Type} [DecidableEq α] {l m : List α} (hl : l.Nodup) (hm : m.Nodup) (P Q : α → Bool) (h : ∀ x, (x ∈ l ∧ P x = true) ↔ (x ∈ m ∧ Q x = true)) : l.countP P = m.countP Q := by
  rw [List.countP_eq_length_filter, List.countP_eq_length_filter]
  apply Nat.le_antisymm
  · exact nodup_length _ _ (hl.sublist List.filter_sublist) fun x hx => List.mem_filter.2 ((h x).1 (List.mem_filter.1 hx))
  · exact nodup_length _ _ (hm.sublist List.filter_sublist) fun x hx => List.mem_filter.2 ((h x).2 (List.mem_filter.1 hx))
theorem cnt_pairs {v : Int} {x : Blk} (hx : goodB v x = true) (p : Int) : cntP (pairsL x) p = if hasB x p then 2 else 0 := by
  rw [goodB_iff] at hx
  unfold cntP pairsL hasB
  simp only [List.countP_cons, List.countP_nil]
  by_cases h1 : x.a = p <;> by_cases h2 : x.b = p <;> by_cases h3 : x.c = p <;> simp [h1, h2, h3, eq_comm] <;> omega
theorem cnt_flat {v : Int} (p : Int) : ∀ bs : List Blk, (∀ x ∈ bs, goodB v x = true) → cntP (bs.flatMap pairsL) p = 2 * (bs.filter fun x => hasB x p).length
  | [], _ => by simp [cntP]
  | x :: r, h => by
    rw [List.flatMap_cons, cntP_append, cnt_pairs (h x (by simp)), cnt_flat p r (fun y hy => h y (by simp [hy])), List.filter_cons]
    split <;> simp <;> omega
theorem upTo_cnt (p : Int) (bs : List Blk) : ∀ k, k ≤ bs.length → (upTo p bs k).length = ((bs.take k).filter fun x => hasB x p).length
  | 0, _ => rfl
  | k + 1, h => by
    rw [upTo_succ, List.length_append, upTo_cnt p bs k (by omega), List.take_add_one, List.filter_append, List.length_append, List.getElem?_eq_getElem (by omega)]
    simp only [Option.getD_some, Option.toList_some, List.filter_cons, List.filter_nil]
    split <;> rfl
/-- The leave degrees of the points. -/
def lvL (v : Nat) (bs : List Blk) : List Int := (List.range v).map fun (p : Nat) => (cntP (leftL (notIn (bs.flatMap pairsL)) v v) (p : Int) : Int)
theorem lv_at {v : Nat} {bs : List Blk} (h : isSysImpl (v : Int) bs = true) {p : Nat} (hp : p < v) :
    (cntP (leftL (notIn (bs.flatMap pairsL)) v v) (p : Int) : Int) = (v : Int) - 1 - 2 * ((idxI (p : Int) bs bs.length).length : Int) := by
  obtain ⟨h3, h15, hg, hs⟩ := sys_parts h
  have hn : (bs.flatMap pairsL).Nodup := by simpa [prs] using share_nodup h15 bs [] hg (by simp) hs
  have hin : ∀ q ∈ bs.flatMap pairsL, q ∈ leftL (fun _ _ => true) v v := fun q hq => by
    obtain ⟨x, hx, hqx⟩ := List.mem_flatMap.1 hq
    have := hg x hx
    rw [goodB_iff] at this
    rw [leftT_mem v v q (Nat.le_refl _)]
    simp only [pairsL, List.mem_cons, List.not_mem_nil, or_false] at hqx
    rcases hqx with rfl | rfl | rfl <;> (dsimp only; omega)
  have hA : cntP (leftL (fun _ _ => true) v v) (p : Int) = v - 1 := leftT_cnt ⟨v, by omega⟩ ⟨p, by omega⟩ hp
  have hB : cntP (bs.flatMap pairsL) (p : Int) = 2 * (idxI (p : Int) bs bs.length).length := by
    rw [cnt_flat (p : Int) bs hg, idxI, List.length_map, upTo_cnt _ _ _ (Nat.le_refl _), List.take_length]
  have hL := leftL_filter (notIn (bs.flatMap pairsL)) v v
  have hsplit : cntP (leftL (fun _ _ => true) v v) (p : Int) = cntP (leftL (notIn (bs.flatMap pairsL)) v v) (p : Int) + cntP (bs.flatMap pairsL) (p : Int) := by
    rw [hL]
    have e : cntP (bs.flatMap pairsL) (p : Int) = ((leftL (fun _ _ => true) v v).filter fun q => !notIn (bs.flatMap pairsL) q.1 q.2).countP fun q => decide (q.1 = (p : Int)) || decide (q.2 = (p : Int)) := by
      unfold cntP
      refine nodup_count hn ((leftT_nodup v v (Nat.le_refl _)).sublist List.filter_sublist) _ _ fun q => ?_
      rw [List.mem_filter]
      constructor
      · rintro ⟨h1, h2⟩
        exact ⟨⟨hin q h1, by simpa [notIn] using h1⟩, h2⟩
      · rintro ⟨⟨_, h1⟩, h2⟩
        exact ⟨by simpa [notIn] using h1, h2⟩
    rw [e]
    unfold cntP
    rw [List.countP_filter, List.countP_filter]
    induction leftL (fun _ _ => true) v v with
    | nil => rfl
    | cons q r ih =>
      simp only [List.countP_cons, ih]
      cases notIn (bs.flatMap pairsL) q.1 q.2 <;> cases (decide (q.1 = (p : Int)) || decide (q.2 = (p : Int))) <;> simp <;> omega
  omega
end Go.Proofs.Ytahgialnhomefaa

namespace Go.Proofs.Ytahgialnhomefaa
open Go.RowKit Go.Maps
def ins (s : List Int) (j : Nat) (y : Int) : List Int := s.take j ++ y :: s.drop j
theorem ins_len (s : List Int) (j : Nat) (y : Int) : (ins s j y).length = s.length + 1 := by
  unfold ins
  simp
  omega
theorem ins_end (s : List Int) (y : Int) : ins s s.length y = s ++ [y] := by simp [ins]
theorem ins_set (s : List Int) (j : Nat) (y x : Int) (h : j ≤ s.length) : (ins s j y).set j x = ins s j x := by
  have e : (s.take j).length = j := by rw [List.length_take]; omega
  unfold ins
  rw [List.set_append_right _ _ (by omega), e, Nat.sub_self, List.set_cons_zero]
theorem ins_get (s : List Int) (j : Nat) (y : Int) (h : j < s.length) : (ins s (j + 1) y)[j]?.getD 0 = s[j]?.getD 0 := by
  unfold ins
  rw [List.getElem?_append_left (by rw [List.length_take]; omega), List.getElem?_take_of_lt (by omega)]
theorem ins_shift (s : List Int) (j : Nat) (y : Int) (h : j < s.length) : (ins s (j + 1) y).set (j + 1) (s[j]?.getD 0) = ins s j (s[j]?.getD 0) := by
  rw [ins_set s (j + 1) y _ (by omega)]
  unfold ins
  rw [List.take_add_one, List.getElem?_eq_getElem h, List.append_assoc]
  conv => rhs; rw [List.drop_eq_getElem_cons h]
  simp
theorem ins_perm {s zs : List Int} {k : Nat} {x : Int} (hp : s.Perm (zs.take k)) (hx : zs.take (k + 1) = zs.take k ++ [x]) (j : Nat) : (ins s j x).Perm (zs.take (k + 1)) := by
  unfold ins
  refine List.perm_middle.trans ?_
  rw [List.take_append_drop, hx]
  exact (hp.cons x).trans (List.perm_append_comm (l₁ := [x]) (l₂ := zs.take k))
theorem ins_sorted {s : List Int} {j : Nat} {x : Int} (hs : s.Pairwise (· ≤ ·)) (_hj : j ≤ s.length) (hle : ∀ z ∈ s.take j, z ≤ x) (hgt : ∀ z ∈ s.drop j, x < z) : (ins s j x).Pairwise (· ≤ ·) := by
  have h0 := hs
  rw [← List.take_append_drop j s, List.pairwise_append] at h0
  unfold ins
  rw [List.pairwise_append, List.pairwise_cons]
  refine ⟨h0.1, ⟨fun z hz => by have := hgt z hz; omega, h0.2.1⟩, fun p hp q hq => ?_⟩
  rcases List.mem_cons.1 hq with rfl | hq
  · exact hle p hp
  · exact h0.2.2 p hp q hq
theorem sorted_le {s : List Int} {j : Nat} {x : Int} (hs : s.Pairwise (· ≤ ·)) (hj : j < s.length) (h : s[j]?.getD 0 ≤ x) : ∀ z ∈ s.take (j + 1), z ≤ x := by
  rw [List.getElem?_eq_getElem hj, Option.getD_some] at h
  intro z hz
  obtain ⟨i, hi, rfl⟩ := List.mem_iff_getElem.1 hz
  rw [List.length_take] at hi
  rw [List.getElem_take]
  rcases Nat.lt_or_ge i j with h1 | h1
  · have := List.pairwise_iff_getElem.1 hs i j (by omega) hj h1
    omega
  · have e : i = j := by omega
    subst e
    exact h
theorem OwnJ.setT {w : World} {base g n cap : Nat} {zs : List Int} (h : OwnJ w base (.slice (some ⟨g, 0, none⟩) n cap) zs) {i : Nat} {x : Int} (_hi : i < zs.length) :
    OwnJ (w.setCell ⟨g, i, none⟩ (.int .i64 x)) base (.slice (some ⟨g, 0, none⟩) n cap) (zs.set i x) ∧ w.grownBy (w.setCell ⟨g, i, none⟩ (.int .i64 x)) (some g) := by
  refine ⟨?_, only_setCell (only_refl w (some g)) rfl _⟩
  obtain ⟨_, h | ⟨g', cap', cur, e, hb, hcur, hn, hc, hsz, hx⟩⟩ := h
  · simp at h
  · simp at e
    obtain ⟨rfl, rfl, rfl⟩ := e
    have hl : (zs.set i x).length = zs.length := List.length_set
    unfold OwnJ
    rw [hl]
    refine ⟨by simp, .inr ⟨g, cap, cur.setIfInBounds i (.int .i64 x), rfl, hb, heap_setCell_same w g i cur _ _ hcur, hn, hc, by simp [hsz], ?_⟩⟩
    rw [Array.toList_setIfInBounds, List.take_set, hx, List.map_set]
theorem OwnJ.at_ {w : World} {base g n cap : Nat} {zs : List Int} (h : OwnJ w base (.slice (some ⟨g, 0, none⟩) n cap) zs) {i : Nat} (hi : i < zs.length) : w.cell? ⟨g, i, none⟩ = some (.int .i64 (zs[i]?.getD 0)) ∧ base ≤ g ∧ g < w.heap.size ∧ n = zs.length ∧ w.frozen? ⟨g, i, none⟩ = false := by
  obtain ⟨_, h | ⟨g', cap', cur, e, hb, hcur, hn, hc, hsz, hx⟩⟩ := h
  · simp at h
  · simp at e
    obtain ⟨rfl, rfl, rfl⟩ := e
    refine ⟨?_, hb, (Array.getElem?_eq_some_iff.1 hcur).1, rfl, by simp [World.frozen?, hcur]⟩
    have e : (zs.map (Value.int .i64))[i]? = some (.int .i64 zs[i]) := by simp [hi]
    rw [← hx, List.getElem?_take_of_lt (by omega)] at e
    rw [List.getElem?_eq_getElem hi, Option.getD_some]
    simp [World.cell?, hcur]
    simpa using e
set_option maxRecDepth 100000 in
set_option maxHeartbeats 2000000 in
theorem l03Ascending_any (b0 off cap : Nat) (zs : List Int) (w : World) (h : Ints w b0 off zs) (hlt : b0 < w.heap.size) (hl : zs.length ≤ 1000) :
    Calls Try.prog 60 #[.slice (some ⟨b0, off, none⟩) zs.length cap] w (fun e w' => ∃ u, e = .returned u ∧ (∃ g c, u = .slice (some ⟨g, 0, none⟩) zs.length c) ∧ OwnJ w' w.heap.size u (ascL zs) ∧ Below w.heap.size w w') := by
  have HI := Lib.hid h
  obtain ⟨m, hm⟩ : ∃ m, m = zs.length := ⟨_, rfl⟩
  have HM := Lib.hid hm
  rw [← hm] at hl ⊢
  clear h hm
  obtain ⟨W0, rfl⟩ : ∃ W0, W0 = w := ⟨_, rfl⟩
  go_enter Try.func60, Try.ntmps60
  go_wp2_with fail
  go_loopw [3, 4, 5] (fun o i _ wr => ∃ (k : Nat) (s : List Int) (g c : Nat), k ≤ m ∧ i = .int .i64 k ∧ o = .slice (some ⟨g, 0, none⟩) k c ∧ Below W0.heap.size W0 wr ∧ OwnJ wr W0.heap.size (.slice (some ⟨g, 0, none⟩) k c) s ∧ Hid (s.Perm (zs.take k) ∧ s.Pairwise (· ≤ ·) ∧ s.length = k)) (fun _ i _ _ => m - (intOf i).toNat)
  case atStart => exact ⟨0, [], _, _, Nat.zero_le _, rfl, rfl, (Below.refl _ _).alloc (Nat.le_refl _) _, OwnJ.new0 _ (Nat.le_refl _), Lib.hid ⟨by simp, List.Pairwise.nil, rfl⟩⟩
  case round =>
    obtain ⟨k, s, g, c, hk, rfl, rfl, hB, hO, HP⟩ := hrel
    have hz := hB.size
    by_cases hkl : k < m
    · have q := (hB.cell (p := ⟨b0, off + k, none⟩) hlt).trans (HI.out k (by rw [← HM.out]; exact hkl))
      have hxk : zs.take (k + 1) = zs.take k ++ [zs[k]?.getD 0] := by
        have hk' : k < zs.length := by rw [← HM.out]; exact hkl
        rw [List.take_add_one, List.getElem?_eq_getElem hk']
        rfl
      obtain ⟨x, hx⟩ : ∃ x, x = zs[k]?.getD 0 := ⟨_, rfl⟩
      rw [← hx] at q hxk
      have HXK := Lib.hid hxk
      have HO := Lib.hid hO
      have HB := Lib.hid hB
      have HQ := Lib.hid q
      have g0 : (0 : Int) ≤ (k : Int) := by omega
      have g1 : (k : Int) < (m : Int) := by omega
      clear hx hxk hB hO
      go_wp2_with (at_builtin; refine wpList_append_int rfl _ _ rfl W0.heap.size _ s rfl (HO.out.below ((Below.refl _ _).alloc (Nat.le_refl _) _) (Nat.le_refl _)) _ _ x rfl (by simp [go_sem]) (by have := HP.out.2.2; omega) (by simp; omega) ?_; intro g' cap' w4 hO4 hg4)
      have hrow := HO.out.row
      have hgo : wr.grownBy w4 (some g) := ⟨hg4.os, hg4.tape, hg4.output, by have := hg4.size; simp at this; omega, fun i hi hne => by
        rw [hg4.block i (by simp; omega) hne, Below.heap_alloc _ _ _ hi]⟩
      have hB4 := HB.out.grown hgo hz (fun r e => hrow r e)
      rw [HP.out.2.2] at hO4 ⊢
      have hz4 := hB4.size
      have HO4 := Lib.hid hO4
      have HB4 := Lib.hid hB4
      clear hg4 hgo hrow hO4 hB4 q
      go_wp2_with fail
      go_loopw [5] (fun t wr' => ∃ (j : Nat) (y : Int), j ≤ k ∧ t = .int .i64 j ∧ Below W0.heap.size W0 wr' ∧ OwnJ wr' W0.heap.size (.slice (some ⟨g', 0, none⟩) (k + 1) cap') (ins s j y) ∧ Hid (∀ z ∈ s.drop j, x < z)) (fun t _ => (intOf t).toNat)
      case atStart => exact ⟨k, x, Nat.le_refl _, rfl, HB4.out, by have := HP.out.2.2; rw [← this, ins_end, this]; exact HO4.out, Lib.hid (by rw [List.drop_of_length_le (by have := HP.out.2.2; omega)]; simp)⟩
      case round =>
        obtain ⟨j, y, hjk, rfl, hB5, hO5, HGT⟩ := hrel
        have hz5 := hB5.size
        have q5 := (hB5.cell (p := ⟨b0, off + k, none⟩) hlt).trans ((HB.out.cell (p := ⟨b0, off + k, none⟩) hlt).symm.trans HQ.out)
        have hO6a := Lib.hid hO5
        have hB6a := Lib.hid hB5
        have hls := HP.out.2.2
        have hAt := hO5.at_ (i := j) (by rw [ins_len]; omega)
        have hgl := hAt.2.1
        have fz := hAt.2.2.2.2
        have c6 := hAt.1
        generalize (ins s j y)[j]?.getD 0 = old at c6
        rcases Nat.eq_zero_or_pos j with rfl | hj0
        · have hjs : 0 ≤ s.length := Nat.zero_le _
          have HLE := Lib.hid (show ∀ z ∈ s.take 0, z ≤ x by simp)
          have i1 : decide ((0 : Int) < ((0 : Nat) : Int)) = false := by simp
          clear hB5 hO5 hAt
          go_wp2
          go_quiet (fail)
          have hB6 := Lib.hid (below_drewN hB6a.out nq)
          have hO6 := Lib.hid (show OwnJ (wr.drewN nq) _ _ _ from hO6a.out)
          have hs6 := hO6.out.setT (i := 0) (x := x) (by rw [ins_len]; omega)
          rw [ins_set s 0 y x hjs] at hs6
          have hB7 := hB6.out.grown hs6.2 (by have := hB6.out.size; omega) (fun r e => by cases e; exact hgl)
          have HS6 := Lib.hid hs6.1
          have HB7 := Lib.hid hB7
          have HFIN := Lib.hid (show (ins s 0 x).Perm (zs.take (k + 1)) ∧ (ins s 0 x).Pairwise (· ≤ ·) ∧ (ins s 0 x).length = k + 1 from ⟨ins_perm HP.out.1 HXK.out 0, ins_sorted HP.out.2.1 hjs HLE.out HGT.out, by rw [ins_len, HP.out.2.2]⟩)
          clear hs6 hB7
          go_wp2
          go_roundw
          case rel => exact ⟨k + 1, ins s 0 x, g', cap', by omega, by go_num, rfl, HB7.out, HS6.out, HFIN⟩
          case measure => simp [intOf]; omega
        · obtain ⟨j', rfl⟩ : ∃ j', j = j' + 1 := ⟨j - 1, by omega⟩
          have hjk2 : j' < s.length := by omega
          have hv := ins_get s j' y hjk2
          have hsh := ins_shift s j' y hjk2
          have hA2 := hO5.at_ (i := j') (by rw [ins_len]; omega)
          have c5 := hA2.1
          have fz2 := hA2.2.2.2.2
          rw [hv] at c5
          obtain ⟨v, hvv⟩ : ∃ v, v = s[j']?.getD 0 := ⟨_, rfl⟩
          rw [← hvv] at c5 hsh
          have hdr : s.drop j' = v :: s.drop (j' + 1) := by rw [List.drop_eq_getElem_cons hjk2, hvv, List.getElem?_eq_getElem hjk2]; rfl
          have HDR := Lib.hid hdr
          have HSH := Lib.hid hsh
          have HVV := Lib.hid hvv
          have i1 : decide ((0 : Int) < (j' : Int) + 1) = true := by simp
          have e5 : ((j' + 1 : Nat) : Int) = (j' : Int) + 1 := by omega
          rw [e5]
          clear hB5 hO5 hAt hA2 hv hsh hvv hdr hls
          by_cases hc : x < v
          · have i2 : decide (x < v) = true := decide_eq_true hc
            go_wp2
            go_quiet (fail)
            have hB6 := Lib.hid (below_drewN hB6a.out nq)
            have hO6 := Lib.hid (show OwnJ (wr.drewN nq) _ _ _ from hO6a.out)
            have hs6 := hO6.out.setT (i := j' + 1) (x := v) (by rw [ins_len]; omega)
            rw [HSH.out] at hs6
            have hB7 := hB6.out.grown hs6.2 (by have := hB6.out.size; omega) (fun r e => by cases e; exact hgl)
            have HS6 := Lib.hid hs6.1
            have HB7 := Lib.hid hB7
            have HGT2 := Lib.hid (show ∀ z ∈ s.drop j', x < z by
              rw [HDR.out]
              intro z hz
              rcases List.mem_cons.1 hz with rfl | hz
              · exact hc
              · exact HGT.out z hz)
            clear hs6 hB7
            go_wp2
            go_roundw
            case rel => exact ⟨j', v, by omega, by go_num, HB7.out, HS6.out, HGT2⟩
            case measure => simp [intOf] <;> omega
          · have i2 : decide (x < v) = false := decide_eq_false hc
            have hjs : j' + 1 ≤ s.length := hjk2
            have HLE := Lib.hid (sorted_le HP.out.2.1 hjk2 (x := x) (by rw [← HVV.out]; omega))
            go_wp2
            go_quiet (fail)
            have hB6 := Lib.hid (below_drewN hB6a.out nq)
            have hO6 := Lib.hid (show OwnJ (wr.drewN nq) _ _ _ from hO6a.out)
            have hs6 := hO6.out.setT (i := (j' + 1)) (x := x) (by rw [ins_len]; omega)
            rw [ins_set s (j' + 1) y x hjs] at hs6
            have hB7 := hB6.out.grown hs6.2 (by have := hB6.out.size; omega) (fun r e => by cases e; exact hgl)
            have HS6 := Lib.hid hs6.1
            have HB7 := Lib.hid hB7
            have HFIN := Lib.hid (show (ins s (j' + 1) x).Perm (zs.take (k + 1)) ∧ (ins s (j' + 1) x).Pairwise (· ≤ ·) ∧ (ins s (j' + 1) x).length = k + 1 from ⟨ins_perm HP.out.1 HXK.out (j' + 1), ins_sorted HP.out.2.1 hjs HLE.out HGT.out, by rw [ins_len, HP.out.2.2]⟩)
            clear hs6 hB7
            go_wp2
            go_roundw
            case rel => exact ⟨k + 1, ins s (j' + 1) x, g', cap', by omega, by go_num, rfl, HB7.out, HS6.out, HFIN⟩
            case measure => simp [intOf]; omega
    · have e : k = m := by omega
      subst e
      have e2 : s = ascL zs := ascL_of (by have := HP.out.1; rw [HM.out, List.take_length] at this; exact this) HP.out.2.1
      subst e2
      clear HP
      go_wp2
      go_ret
      exact ⟨_, rfl, ⟨_, _, rfl⟩, hO, hB⟩
end Go.Proofs.Ytahgialnhomefaa

namespace Go.Proofs.Ytahgialnhomefaa
open Go.RowKit Go.Maps
theorem OwnJ.made0 (W : World) {base : Nat} (n : Nat) (hn : n ≤ 1100000) (hb : base ≤ W.heap.size) : OwnJ (W.alloc (.cells (madeCells #[.int .i64 0] n) 2)) base (.slice (some ⟨W.heap.size, 0, none⟩) n n) (List.replicate n 0) := by
  have hml : 1100000 ≤ maxLen := by decide
  unfold OwnJ World.ownsRow
  refine ⟨by simp, .inr ⟨W.heap.size, n, madeCells #[.int .i64 0] n, by simp, hb, World.alloc_heap_new W _, by simp, by omega, by simp [madeCells], ?_⟩⟩
  apply List.ext_getElem
  · simp [madeCells]
  · intro i h1 h2
    simp [madeCells, Nat.mod_one]
end Go.Proofs.Ytahgialnhomefaa

namespace Go.Proofs.Ytahgialnhomefaa
open Go.RowKit Go.Maps
/-- How many blocks go through each of the first k points. -/
def degI (bs : List Blk) (k : Nat) : List Int := (List.range k).map fun (q : Nat) => ((idxI (q : Int) bs bs.length).length : Int)
theorem degI_succ (bs : List Blk) (k : Nat) : degI bs (k + 1) = degI bs k ++ [((idxI (k : Int) bs bs.length).length : Int)] := by
  simp [degI, List.range_succ]
theorem degI_len (bs : List Blk) (k : Nat) : (degI bs k).length = k := by simp [degI]
def degF (v : Int) (bs : List Blk) : List Int × Int := if isSysImpl v bs then (degI bs v.toNat, 0) else ([], 1)
end Go.Proofs.Ytahgialnhomefaa

namespace Go.Proofs.Ytahgialnhomefaa
open Go.RowKit Go.Maps Go.Shelf
theorem mkRowD (n : Nat) (hn : n ≤ 1100000) (W : World) : (Instr.makeSlice 38 (.int .i64 (n : Int)) (.int .i64 (n : Int))).run Try.prog W = .ok (.slice (some ⟨W.heap.size, 0, none⟩) n n) (W.alloc (.cells (madeCells #[.int .i64 0] n) 2)) := by
  obtain ⟨i0, hi, hz0, hz1, hz2⟩ := info_parts infoInt64
  have hr := run_make (P := Try.prog) W 38 2 i0 (.int .i64 0) Try.underlying38 hi hz0 .i64 .i64 n n (by omega) (by omega) (by rw [hz2]; omega) (by omega)
  simp only [Int.toNat_natCast, hz1, Nat.mul_one] at hr
  exact hr
/-- The row while point k is counted: c of its blocks were met. -/
def degR (bs : List Blk) (v k c : Nat) : List Int := (List.range v).map fun q => if q < k then ((idxI (q : Int) bs bs.length).length : Int) else if q = k then (c : Int) else 0
theorem degR_len (bs : List Blk) (v k c : Nat) : (degR bs v k c).length = v := by simp [degR]
theorem degR_at (bs : List Blk) {v k : Nat} (c : Nat) (hk : k < v) : (degR bs v k c)[k]?.getD 0 = (c : Int) := by simp [degR, hk]
theorem degR_set (bs : List Blk) {v k : Nat} (c : Nat) (_hk : k < v) : (degR bs v k c).set k ((c : Int) + 1) = degR bs v k (c + 1) := by
  apply List.ext_getElem
  · simp [degR]
  · intro i h1 h2
    rw [List.getElem_set]
    by_cases e : k = i
    · subst e
      simp [degR]
    · rw [if_neg e]
      simp [degR, Ne.symm e]
theorem degR_next (bs : List Blk) (v k : Nat) : degR bs v k (idxI (k : Int) bs bs.length).length = degR bs v (k + 1) 0 := by
  apply List.map_congr_left
  intro q _
  by_cases h : q < k
  · simp [h, show q < k + 1 by omega]
  · by_cases e : q = k
    · subst e
      simp
    · simp [h, e, show ¬ q < k + 1 by omega]
theorem degR_start (bs : List Blk) (v : Nat) : degR bs v 0 0 = List.replicate v 0 := by
  apply List.ext_getElem
  · simp [degR]
  · intro i h1 h2
    simp [degR]
theorem degR_end (bs : List Blk) (v : Nat) : degR bs v v 0 = degI bs v := by
  apply List.map_congr_left
  intro q hq
  simp [List.mem_range.1 hq]
theorem idxI_upTo (p : Int) (bs : List Blk) : (idxI p bs bs.length).length = (upTo p bs bs.length).length := by simp [idxI]
theorem ownJ_own (base : Nat) (u : Value) : Own (fun (zs : List Int) W => OwnJ W base u zs) := fun _ X _ row hs hg hr => World.ownsRow.kept hs hg (by
  rcases hs.2 with ⟨rfl, _⟩ | ⟨g, cap, cur, rfl, _, hgb, _⟩
  · exact .inl rfl
  · refine .inr fun e => ?_
    obtain ⟨o, ho, hc⟩ := hr g e.symm
    rw [hgb] at ho
    cases ho
    cases hc)
/-- The marks that the loops left, the newest first: each bears a block that no call stands in. -/
def Marks (n0 : Nat) (W : World) : Nat → List Deferred → Prop
  | _, [] => True
  | n1, d :: ds => ∃ D, d = { target := .collected D, args := #[] } ∧ n0 ≤ D ∧ D < n1 ∧ W.heap[D]? = some (.deferred (some [])) ∧ Marks n0 W D ds
theorem Marks.mono {n0 : Nat} {W : World} {ds : List Deferred} {n1 n2 : Nat} (h : Marks n0 W n1 ds) (hn : n1 ≤ n2) : Marks n0 W n2 ds := by
  cases ds with
  | nil => trivial
  | cons d ds =>
    obtain ⟨D, e, h0, h1, hD, hr⟩ := h
    exact ⟨D, e, h0, by omega, hD, hr⟩
theorem Marks.kept {n0 : Nat} {W W' : World} : ∀ {ds : List Deferred} {n1 : Nat}, Marks n0 W n1 ds → (∀ D, D < n1 → W.heap[D]? = some (.deferred (some [])) → W'.heap[D]? = some (.deferred (some []))) → Marks n0 W' n1 ds
  | [], _, _, _ => trivial
  | _ :: _, _, ⟨D, e, h0, h1, hD, hr⟩, k => ⟨D, e, h0, h1, k D h1 hD, hr.kept fun D' h' => k D' (by omega)⟩
theorem Marks.grown {n0 : Nat} {W W' : World} {ds : List Deferred} {n1 : Nat} {row : Option Nat} (h : Marks n0 W n1 ds) (hg : W.grownBy W' row) (hr : ∀ r, row = some r → n1 ≤ r ∨ ∃ o : Obj, W.heap[r]? = some o ∧ o.isCells = true) : Marks n0 W' n1 ds :=
  h.kept fun D hD e => (hg.block D (Array.getElem?_eq_some_iff.1 e).1 (fun e' => by
    rcases hr D e'.symm with h | ⟨o, ho, hc⟩
    · omega
    · rw [e] at ho
      cases ho
      cases hc)).trans e
theorem Marks.alloc {n0 : Nat} {W : World} {ds : List Deferred} {n1 : Nat} (h : Marks n0 W n1 ds) (o : Obj) : Marks n0 (W.alloc o) n1 ds := h.grown (World.grownBy_alloc W o none) (fun r e => by cases e)
theorem marks_own (n0 n1 B : Nat) (hB : n1 ≤ B) {β : Type} (ds : List Deferred) : OwnFrom B (fun (_ : β) W => Marks n0 W n1 ds) := fun _ _ _ _ hs hg hr => hs.grown hg (fun r e => .inl (Nat.le_trans hB (hr r e).1))
theorem leaves_marks {F : Fence} {n : Nat} {P : Program} {fn : Func} {tmps : Array Value} {R : Ending → World → Prop} {n0 : Nat} (K : World → Prop) (hK : ∀ W D, K W → n0 ≤ D → W.heap[D]? = some (.deferred (some [])) → K (W.putObj D (.deferred none)))
    (hend : ∀ W, K W → LeavesInM F n P fn tmps R [] .returning W) : ∀ (ds : List Deferred) (n1 : Nat) (W : World), Marks n0 W n1 ds → K W → LeavesInM F n P fn tmps R ds .returning W
  | [], _, W, _, h => hend W h
  | d :: ds, n1, W, ⟨D, e, h0, h1, hD, hr⟩, h => ⟨by simp, .inl ⟨D, _, by rw [e], run_takeDeferred hD, leaves_marks K hK hend ds D _ (hr.kept fun D' h' e' => (World.putObj_heap_other (by omega)).trans e') (hK W D h h0 hD)⟩⟩
theorem meas_lt {v k : Nat} (h : k < v) : ((v : Int) - ((k + 1 : Nat) : Int)).toNat < ((v : Int) - (k : Int)).toNat := by omega
theorem wrap_succ {k : Nat} (h : k ≤ 15) : wrap64 ((k : Int) + 1) = ((k + 1 : Nat) : Int) := by unfold wrap64; omega
theorem OwnJ.baseD {w : World} {b b' : Nat} {u : Value} {zs : List Int} (h : OwnJ w b u zs) (hb : b' ≤ b) : OwnJ w b' u zs := ownsRow_base h hb
/-- A system in a box. -/
def SysAt (W : World) (B : Nat) (v : Int) (s : Value) : Prop := W.heap[B]? = some (.cells #[.int .i64 v, s] 30 (0, 0))
theorem SysAt.cells {W : World} {B : Nat} {v : Int} {s : Value} (h : SysAt W B v s) : W.cell? ⟨B, 0, none⟩ = some (.int .i64 v) ∧ W.cell? ⟨B, 1, none⟩ = some s ∧ B < W.heap.size := by
  have : W.heap[B]? = _ := h
  refine ⟨by simp [World.cell?, this], by simp [World.cell?, this], (Array.getElem?_eq_some_iff.1 this).1⟩
theorem SysAt.kept {W W' : World} {B : Nat} {v : Int} {s : Value} {row : Option Nat} (h : SysAt W B v s) (hg : W.grownBy W' row) (hr : some B ≠ row) : SysAt W' B v s := (hg.block B h.cells.2.2 hr).trans h
theorem SysAt.alloc {W : World} {B : Nat} {v : Int} {s : Value} (h : SysAt W B v s) (o : Obj) : SysAt (W.alloc o) B v s := h.kept (World.grownBy_alloc W o none) (fun e => by cases e)
theorem SysAt.own {β : Type} (B : Nat) (v : Int) (s : Value) : Own (fun (_ : β) W => SysAt W B v s) := fun _ X Y row hs hg hrow => hs.kept hg (fun e' => by
  obtain ⟨o, ho, hc⟩ := hrow B e'.symm
  rw [show X.heap[B]? = _ from hs] at ho
  cases ho
  cases hc)
end Go.Proofs.Ytahgialnhomefaa

namespace Go.Proofs.Ytahgialnhomefaa
open Go.RowKit Go.Maps
/-- How often each of the first v points is in the pairs of the list. -/
def cnV (v : Nat) (L : List (Int × Int)) : List Int := (List.range v).map fun (p : Nat) => (cntP L (p : Int) : Int)
theorem cnV_len (v : Nat) (L : List (Int × Int)) : (cnV v L).length = v := by simp [cnV]
theorem cnV_at {v : Nat} (L : List (Int × Int)) {p : Nat} (hp : p < v) : (cnV v L)[p]?.getD 0 = (cntP L (p : Int) : Int) := by simp [cnV, hp]
theorem cnV_nil (v : Nat) : cnV v [] = List.replicate v 0 := by
  apply List.ext_getElem
  · simp [cnV]
  · intro i h1 h2
    simp [cnV, cntP]
theorem cnt_le (L : List (Int × Int)) (p : Int) : cntP L p ≤ L.length := List.countP_le_length
/-- One end of a pair counted. -/
def cnH (v : Nat) (L : List (Int × Int)) (a : Nat) : List Int := (cnV v L).set a ((cntP L (a : Int) : Int) + 1)
theorem cnH_len (v : Nat) (L : List (Int × Int)) (a : Nat) : (cnH v L a).length = v := by simp [cnH, cnV_len]
theorem cnH_at {v : Nat} (L : List (Int × Int)) {a b : Nat} (hb : b < v) (hab : a ≠ b) : (cnH v L a)[b]?.getD 0 = (cntP L (b : Int) : Int) := by
  unfold cnH
  rw [List.getElem?_set_ne hab, cnV_at L hb]
theorem cnH_set {v : Nat} (L : List (Int × Int)) {a b : Nat} (_ha : a < v) (_hb : b < v) (_hab : a ≠ b) : (cnH v L a).set b ((cntP L (b : Int) : Int) + 1) = cnV v (L ++ [((a : Int), (b : Int))]) := by
  unfold cnH
  apply List.ext_getElem
  · simp [cnV]
  · intro i h1 h2
    rw [List.getElem_set, List.getElem_set]
    simp only [cnV, List.getElem_map, List.getElem_range, cntP_append]
    have e : cntP [((a : Int), (b : Int))] (i : Int) = if a = i ∨ b = i then 1 else 0 := by
      unfold cntP
      rw [List.countP_cons, List.countP_nil]
      by_cases h1 : a = i <;> by_cases h2 : b = i <;> simp [h1, h2]
      · simp [show (a : Int) ≠ (i : Int) by omega, show (b : Int) ≠ (i : Int) by omega]
    rw [e]
    by_cases h1 : b = i
    · subst h1
      simp
    · by_cases h2 : a = i
      · subst h2
        simp [h1]
      · simp [h1, h2]
theorem left_rows {v : Nat} {P : Int → Int → Bool} {k : Nat} (hk : k < (leftL P v v).length) :
    ∃ a b : Nat, a < v ∧ b < v ∧ a ≠ b ∧ fnL (leftL P v v) k = [(a : Int), (b : Int)] ∧ (leftL P v v).take (k + 1) = (leftL P v v).take k ++ [((a : Int), (b : Int))] := by
  obtain ⟨p, hp⟩ : ∃ p, p = (leftL P v v)[k] := ⟨_, rfl⟩
  have e1 : (leftL P v v)[k]? = some p := by rw [List.getElem?_eq_getElem hk, hp]
  have hm3 : 0 ≤ p.1 ∧ p.1 < v ∧ p.1 < p.2 ∧ p.2 < v := by
    rw [hp]
    have hq : (leftL P v v)[k] ∈ leftL P v v := List.getElem_mem hk
    generalize (leftL P v v)[k] = q at hq ⊢
    rw [leftL_filter] at hq
    exact (leftT_mem v v _ (Nat.le_refl _)).1 (List.mem_filter.1 hq).1
  obtain ⟨x, y⟩ := p
  dsimp only at hm3
  refine ⟨x.toNat, y.toNat, by omega, by omega, by omega, ?_, ?_⟩
  · rw [Int.toNat_of_nonneg (by omega), Int.toNat_of_nonneg (by omega)]
    unfold fnL
    rw [e1]
    rfl
  · rw [Int.toNat_of_nonneg (by omega), Int.toNat_of_nonneg (by omega), List.take_add_one, e1]
    rfl
theorem resSS_form {w : World} {lo n : Nat} {u : Value} {F : Nat → List Int} (h : ResSS w lo u n F) : ∃ a c, u = .slice a n c := by
  rcases h with ⟨rfl, a, c, rfl⟩ | ⟨G, cap, gs, caps, rfl, _⟩ <;> exact ⟨_, _, rfl⟩
def lvF (v : Int) (bs : List Blk) : List Int × Int := if isSysImpl v bs then (lvL v.toNat bs, 0) else ([], 1)
theorem lvF_len (v : Int) (bs : List Blk) : (lvF v bs).1.length ≤ 1100000 := by
  unfold lvF
  cases hi : isSysImpl v bs with
  | false => simp
  | true =>
    have := (sys_size hi).2.1
    simp [lvL]
    omega
end Go.Proofs.Ytahgialnhomefaa

namespace Go.Proofs.Ytahgialnhomefaa
open Go.RowKit Go.Maps
theorem step_append_int {w : World} {ops : Array Oper} {o : Oper} {a : Act} {K : Act → World → Prop} {Q : Exit → Act → World → Prop} {E : Prop} (hgd : o.guard = none) (s x : Operand)
    (ho : o.op = .call { callee := .builtin .append, args := #[s, x], argTypes := #[38, 38] })
    (base : Nat) (v : Value) (zs : List Int) (hs : a.eval s = v) (hown : OwnJ w base v zs) (b0 c : Nat) (y : Int) (hx : a.eval x = .slice (some ⟨b0, 0, none⟩) 1 c) (hy : w.cell? ⟨b0, 0, none⟩ = some (.int .i64 y)) (hl : zs.length ≤ 1100000) (hb : base ≤ w.heap.size)
    (h : ∀ (g cap : Nat) (w' : World), OwnJ w' base (.slice (some ⟨g, 0, none⟩) (zs.length + 1) cap) (zs ++ [y]) → w.grownBy w' v.ownBlock → K (a.put o.dst (.slice (some ⟨g, 0, none⟩) (zs.length + 1) cap)) w') :
    if Region.wanted o (yielded ops a.tmps) = true then Oper.wp Try.prog o a w K Q else E := by
  have hw : Region.wanted o (yielded ops a.tmps) = true := by simp [Region.wanted, hgd]
  rw [if_pos hw]
  obtain ⟨i0, hi, hz0, hz1, hz2⟩ := info_parts infoInt64
  obtain ⟨v', w', h1, h2, h3, _, _⟩ := run_append_own_at (P := Try.prog) w base 38 o.type 2 i0 _ 1 8 Try.underlying38 hi hz0 hz1 hz2 rfl (by decide) v zs.length (zs.map (Value.int .i64)) hown ⟨b0, 0, none⟩ 1 c [.int .i64 y] rfl (fun j u hj => by
    rw [addr_at, Nat.zero_add]
    match j, hj with
    | 0, hj => simp at hj; rw [← hj]; exact hy
    | j + 1, hj => simp at hj) (fun u hu => by
    simp at hu
    rw [hu]
    rfl) (by unfold maxLen; omega) (by omega) hb
  have h2' : OwnJ w' base v' (zs ++ [y]) := by unfold OwnJ; rw [List.length_append, List.length_singleton, List.map_append, List.map_singleton]; exact h2
  have hf : ∃ g cap, v' = .slice (some ⟨g, 0, none⟩) (zs.length + 1) cap := by
    rcases h2.2 with ⟨e, e2⟩ | ⟨g, cap, _, e, _⟩
    · omega
    · exact ⟨g, cap, e⟩
  obtain ⟨g, cap, rfl⟩ := hf
  unfold Oper.wp execOp
  simp only [ho, resolve, invoke, builtin, Sem.run_bind, Sem.run_pure, Result.andThen_ok, List.map_toArray, List.map_cons, List.map_nil, hs, hx, h1]
  exact h g cap w' h2' h3
theorem OwnJ.formL {W : World} {base : Nat} {u : Value} {zs : List Int} (h : OwnJ W base u zs) : ∃ a c, u = .slice a zs.length c := by
  rcases h.2 with ⟨rfl, h0⟩ | ⟨g, cap, cur, rfl, _⟩
  · rw [h0]; exact ⟨_, _, rfl⟩
  · exact ⟨_, _, rfl⟩
theorem lv_succ {n : Nat} {bs : List Blk} (h : isSysImpl (n : Int) bs = true) {k : Nat} (hk : k < n) :
    (lvL n bs).take (k + 1) = (lvL n bs).take k ++ [(n : Int) - 1 - 2 * ((idxI (k : Int) bs bs.length).length : Int)] := by
  have hl : k < (lvL n bs).length := by simpa [lvL] using hk
  rw [List.take_add_one, List.getElem?_eq_getElem hl]
  simp only [lvL, List.getElem_map, List.getElem_range, Option.toList_some]
  rw [lv_at h hk]
end Go.Proofs.Ytahgialnhomefaa

namespace Go.Proofs.Ytahgialnhomefaa
open Go.RowKit Go.Maps
/-- The first point of b that is in c. -/
def comP (b c : Blk) : Option Int := if hasB c b.a then some b.a else if hasB c b.b then some b.b else if hasB c b.c then some b.c else none
theorem inL_has (p : Int) (x : Blk) : inL p [x.a, x.b, x.c] = hasB x p := by
  rw [Bool.eq_iff_iff]
  simp [inL, hasB]
  omega
set_option maxRecDepth 100000 in
theorem commonPoint_any (x y : Blk) (w : World) : Calls Try.prog 127 #[bv x, bv y] w (RV (.tuple #[.int .i64 ((comP x y).getD 0), .bool (comP x y).isSome]) w) := by
  have HC := Lib.hid fun (p : Int) (B cap : Nat) (W : World) (h0 : W.cell? ⟨B, 0, none⟩ = some (.int .i64 y.a)) (h1 : W.cell? ⟨B, 1, none⟩ = some (.int .i64 y.b)) (h2 : W.cell? ⟨B, 2, none⟩ = some (.int .i64 y.c)) => Contains_any B 0 cap [y.a, y.b, y.c] p W (ints3 h0 h1 h2) (by simp)
  simp only [inL_has] at HC
  obtain ⟨β0, h0⟩ : ∃ β, β = hasB y x.a := ⟨_, rfl⟩
  obtain ⟨β1, h1⟩ : ∃ β, β = hasB y x.b := ⟨_, rfl⟩
  obtain ⟨β2, h2⟩ : ∃ β, β = hasB y x.c := ⟨_, rfl⟩
  have HCM := Lib.hid (show comP x y = if β0 then some x.a else if β1 then some x.b else if β2 then some x.c else none by unfold comP; rw [h0, h1, h2])
  have HA := Lib.hid fun (B cap : Nat) W j0 j1 j2 => HC.out x.a B cap W j0 j1 j2
  have HB := Lib.hid fun (B cap : Nat) W j0 j1 j2 => HC.out x.b B cap W j0 j1 j2
  have HD := Lib.hid fun (B cap : Nat) W j0 j1 j2 => HC.out x.c B cap W j0 j1 j2
  rw [← h0] at HA
  rw [← h1] at HB
  rw [← h2] at HD
  clear HC h0 h1 h2
  obtain ⟨xa, xb, xc⟩ := x
  obtain ⟨ya, yb, yc⟩ := y
  unfold bv
  dsimp only at HA HB HD HCM ⊢
  have ix0 : ∀ w, (Instr.index 84 (.agg #[.int .i64 xa, .int .i64 xb, .int .i64 xc]) (.int .i64 0)).run Try.prog w = .ok (.int .i64 xa) w := fun _ => by kernel_rfl
  have ix1 : ∀ w, (Instr.index 84 (.agg #[.int .i64 xa, .int .i64 xb, .int .i64 xc]) (.int .i64 1)).run Try.prog w = .ok (.int .i64 xb) w := fun _ => by kernel_rfl
  have ix2 : ∀ w, (Instr.index 84 (.agg #[.int .i64 xa, .int .i64 xb, .int .i64 xc]) (.int .i64 2)).run Try.prog w = .ok (.int .i64 xc) w := fun _ => by kernel_rfl
  cases β0 with
  | true =>
    have HV := Lib.hid (show comP ⟨xa, xb, xc⟩ ⟨ya, yb, yc⟩ = some xa by rw [HCM.out]; rfl)
    go_enter Try.func127, Try.ntmps127
    go_wp2
    refine wp_loop_rounds 1 ?_
    rw [rounds_succ]
    go_wp2_with (go_at_call 79; refine (HA.out _ _ _ (by simp [go_sem]) (by simp [go_sem]) (by simp [go_sem])).mono ?_; rintro e w0 ⟨rfl, rfl⟩)
    go_ret2
    exact ⟨by rw [HV.out]; rfl, ((Below.refl _ _).alloc (Nat.le_refl _) _).alloc (by simp) _⟩
  | false =>
    cases β1 with
    | true =>
      have HV := Lib.hid (show comP ⟨xa, xb, xc⟩ ⟨ya, yb, yc⟩ = some xb by rw [HCM.out]; rfl)
      go_enter Try.func127, Try.ntmps127
      go_wp2
      refine wp_loop_rounds 2 ?_
      rw [rounds_succ]
      go_wp2_with (go_at_call 79; refine (HA.out _ _ _ (by simp [go_sem]) (by simp [go_sem]) (by simp [go_sem])).mono ?_; rintro e w0 ⟨rfl, rfl⟩)
      rw [rounds_succ]
      go_wp2_with (go_at_call 79; refine (HB.out _ _ _ (by simp [go_sem]) (by simp [go_sem]) (by simp [go_sem])).mono ?_; rintro e w1 ⟨rfl, rfl⟩)
      go_ret2
      exact ⟨by rw [HV.out]; rfl, ((Below.refl _ _).alloc (Nat.le_refl _) _).alloc (by simp) _⟩
    | false =>
      cases β2 with
      | true =>
        have HV := Lib.hid (show comP ⟨xa, xb, xc⟩ ⟨ya, yb, yc⟩ = some xc by rw [HCM.out]; rfl)
        go_enter Try.func127, Try.ntmps127
        go_wp2
        refine wp_loop_rounds 3 ?_
        rw [rounds_succ]
        go_wp2_with (go_at_call 79; refine (HA.out _ _ _ (by simp [go_sem]) (by simp [go_sem]) (by simp [go_sem])).mono ?_; rintro e w0 ⟨rfl, rfl⟩)
        rw [rounds_succ]
        go_wp2_with (go_at_call 79; refine (HB.out _ _ _ (by simp [go_sem]) (by simp [go_sem]) (by simp [go_sem])).mono ?_; rintro e w1 ⟨rfl, rfl⟩)
        rw [rounds_succ]
        go_wp2_with (go_at_call 79; refine (HD.out _ _ _ (by simp [go_sem]) (by simp [go_sem]) (by simp [go_sem])).mono ?_; rintro e w2 ⟨rfl, rfl⟩)
        go_ret2
        exact ⟨by rw [HV.out]; rfl, ((Below.refl _ _).alloc (Nat.le_refl _) _).alloc (by simp) _⟩
      | false =>
        have HV := Lib.hid (show comP ⟨xa, xb, xc⟩ ⟨ya, yb, yc⟩ = none by rw [HCM.out]; rfl)
        go_enter Try.func127, Try.ntmps127
        go_wp2
        refine wp_loop_rounds 4 ?_
        rw [rounds_succ]
        go_wp2_with (go_at_call 79; refine (HA.out _ _ _ (by simp [go_sem]) (by simp [go_sem]) (by simp [go_sem])).mono ?_; rintro e w0 ⟨rfl, rfl⟩)
        rw [rounds_succ]
        go_wp2_with (go_at_call 79; refine (HB.out _ _ _ (by simp [go_sem]) (by simp [go_sem]) (by simp [go_sem])).mono ?_; rintro e w1 ⟨rfl, rfl⟩)
        rw [rounds_succ]
        go_wp2_with (go_at_call 79; refine (HD.out _ _ _ (by simp [go_sem]) (by simp [go_sem]) (by simp [go_sem])).mono ?_; rintro e w2 ⟨rfl, rfl⟩)
        rw [rounds_succ]
        go_wp2
        go_ret2
        exact ⟨by rw [HV.out]; rfl, ((Below.refl _ _).alloc (Nat.le_refl _) _).alloc (by simp) _⟩
end Go.Proofs.Ytahgialnhomefaa


/- The program's list of the types of all pairs; runs of equal rows. slices.Sort of a list of the call's own, and slices.Equal, at integers. slices.Equal of rows, drawing alone. The program's TypesOf. -/
import Derived.Test.YtmgpmcjbnooklaaJ11
import Derived.Shelf.SortM.SortNone
import Derived.Lib.OwnBridge
namespace Go.Proofs.Ytmgpmcjbnooklaa
open Go.RowKit Go.Maps
def rowsH (L : List RowH) : List (List Int) := L.map RowH.r
/-- A list of the call's own of the headers of rows, none of which lies where the list lies. -/
structure RowsI (W : World) (B : Nat) (u : Value) (L : List RowH) : Prop where
  own : RowsV W B u (L.map RowH.h)
  row : ∀ x ∈ L, ∃ G, u.ownBlock = some G ∧ RowAt W G x
theorem RowsI.form {W : World} {B : Nat} {u : Value} {L : List RowH} (h : RowsI W B u L) : ∃ a c, u = .slice a L.length c := by
  rcases h.own.2 with ⟨rfl, h0⟩ | ⟨g, cap, cur, rfl, _⟩
  · rw [List.length_map] at h0
    exact ⟨none, 0, by rw [h0]⟩
  · exact ⟨_, _, by rw [List.length_map]⟩
theorem RowsI.blk {W : World} {B : Nat} {u : Value} {L : List RowH} (h : RowsI W B u L) : ∀ r, u.ownBlock = some r → B ≤ r ∧ r < W.heap.size := fun r e => by
  rcases h.own.2 with ⟨hv, h0⟩ | ⟨g, cap, cur, hv, hb, hcur, _⟩
  · rw [hv] at e; simp [Value.ownBlock] at e
  · rw [hv] at e
    obtain rfl : g = r := by simpa [Value.ownBlock] using e
    exact ⟨hb, (Array.getElem?_eq_some_iff.1 hcur).1⟩
theorem RowsI.nil (W : World) (B : Nat) : RowsI W B (.slice none 0 0) [] := ⟨⟨rfl, .inl ⟨rfl, rfl⟩⟩, by simp⟩
theorem RowsI.below {W W' : World} {B : Nat} {u : Value} {L : List RowH} (h : RowsI W B u L) (hb : Below W.heap.size W W') : RowsI W' B u L :=
  ⟨h.own.below hb (Nat.le_refl _), fun x hx => by
    obtain ⟨G, e, hr⟩ := h.row x hx
    exact ⟨G, e, hr.kept (gb_below hb) (.inl rfl)⟩⟩
theorem RowAt.step {W W3 : World} {G G5 : Nat} {x : RowH} (h : RowAt W G x) (hg : W.grownBy W3 (some G)) (hG5 : G5 = G ∨ W.heap.size ≤ G5) : RowAt W3 G5 x := by
  have h3 := h.kept hg (.inr rfl)
  refine ⟨h3.1, ?_⟩
  rcases h.2 with h2 | ⟨b, off, cap, e, h1, h2, _⟩
  · exact .inl h2
  · rcases h3.2 with ⟨a, c, e3, e4⟩ | ⟨b3, off3, cap3, e3, k1, k2, k3⟩
    · exact .inl ⟨a, c, e3, e4⟩
    · rw [e] at e3
      simp at e3
      obtain ⟨⟨rfl, rfl⟩, rfl⟩ := e3
      refine .inr ⟨b, off, cap, e, k1, ?_, k3⟩
      rcases hG5 with rfl | hG5
      · exact h2
      · omega
/-- A row of the call's own, seen from a list that lies before it or behind the world. -/
theorem OwnJ.rowAt {W W3 : World} {lo G5 : Nat} {v : Value} {zs : List Int} {row : Option Nat} (h : OwnJ W lo v zs) (hl : zs.length ≤ 1000) (hg : W.grownBy W3 row) (hr : ∀ r, row = some r → r < lo) (hG5 : G5 < lo ∨ W.heap.size ≤ G5) : RowAt W3 G5 ⟨v, zs⟩ := by
  refine ⟨hl, ?_⟩
  rcases h.res (by omega) with ⟨e, a, c, ev⟩ | ⟨g, cap, ev, h1, h2, h3⟩
  · exact .inl ⟨a, c, ev, e⟩
  · have h4 := h3.kept hg (fun e => by have := hr g e.symm; omega)
    refine .inr ⟨g, 0, cap, ev, h4.lt, ?_, h4.at_⟩
    omega
/-- One row more. -/
theorem RowsI.snoc {W W3 : World} {B : Nat} {u : Value} {L : List RowH} {x : RowH} {G cap : Nat} (h : RowsI W B u L) (hV : RowsV W3 B (.slice (some ⟨G, 0, none⟩) (L.length + 1) cap) (L.map RowH.h ++ [x.h])) (hg : W.grownBy W3 u.ownBlock) (hG : u.ownBlock = some G ∨ W.heap.size ≤ G) (hx : RowAt W3 G x) :
    RowsI W3 B (.slice (some ⟨G, 0, none⟩) (L.length + 1) cap) (L ++ [x]) := by
  refine ⟨by simpa using hV, fun y hy => ⟨G, rfl, ?_⟩⟩
  rcases List.mem_append.1 hy with hy | hy
  · obtain ⟨G0, e, hr⟩ := h.row y hy
    rw [e] at hg hG
    refine hr.step hg ?_
    rcases hG with hG | hG
    · injection hG with hG
      exact .inl hG.symm
    · exact .inr hG
  · obtain rfl : y = x := by simpa using hy
    exact hx
/-- A row at the head of the list. -/
theorem RowsI.hdr {W : World} {B : Nat} {a : Option Addr} {m c : Nat} {L : List RowH} (h : RowsI W B (.slice a m c) L) {k : Nat} (hk : k < L.length) :
    ∃ G p l cp, a = some ⟨G, 0, none⟩ ∧ W.cell? ⟨G, k, none⟩ = some (.slice p l cp) ∧ L[k].h = .slice p l cp ∧ RowAt W G L[k] := by
  obtain ⟨G, e, hr⟩ := h.row L[k] (List.getElem_mem hk)
  obtain ⟨G', cap, hu⟩ := h.own.form (by rw [List.length_map]; omega)
  have hV := h.own
  rw [hu] at hV e
  obtain rfl : G' = G := by simpa [Value.ownBlock] using e
  have hc := (hV.at_ (i := k) (x := L[k].h) (by simp [hk])).1
  simp at hu
  obtain ⟨p, l, cp, eh⟩ : ∃ p l cp, L[k].h = .slice p l cp := by
    rcases hr.2 with ⟨a, c, e, _⟩ | ⟨b, off, cap, e, _⟩ <;> exact ⟨_, _, _, e⟩
  exact ⟨G', p, l, cp, hu.1, by rw [hc, eh], eh, hr⟩
/-- The rows that are not the same as the ones before them. -/
def grT (rs : List (List Int)) : Nat → List (List Int)
  | 0 => []
  | i + 1 => if i = 0 ∨ rs[i - 1]?.getD [] ≠ rs[i]?.getD [] then grT rs i ++ [rs[i]?.getD []] else grT rs i
def SrtR (rs : List (List Int)) : Prop := rs.Pairwise fun x y => lexL y x = false
theorem SrtR.le {rs : List (List Int)} (h : SrtR rs) {i j : Nat} (hi : i ≤ j) (hj : j < rs.length) : lexL (rs[j]?.getD []) (rs[i]?.getD []) = false := by
  by_cases e : i = j
  · subst e; exact lexL_irr _
  · have := (List.pairwise_iff_getElem.1 h) i j (by omega) hj (by omega)
    simpa [hj, show i < rs.length by omega] using this
theorem SrtR.new {rs : List (List Int)} (h : SrtR rs) {i : Nat} (hi : i < rs.length) (hn : i = 0 ∨ rs[i - 1]?.getD [] ≠ rs[i]?.getD []) : ∀ x ∈ rs.take i, lexL x (rs[i]?.getD []) = true := by
  intro x hx
  obtain ⟨k, hk, rfl⟩ := List.mem_iff_getElem.1 hx
  rw [List.length_take] at hk
  rcases hn with rfl | hn
  · omega
  · have h1 := h.le (i := k) (j := i - 1) (by omega) (by omega)
    have h2 := h.le (i := i - 1) (j := i) (by omega) hi
    have h3 := lexL_of_ne h2 (fun e => hn e)
    rw [List.getElem_take]
    have e : rs[k]?.getD [] = rs[k] := by simp [show k < rs.length by omega]
    rw [e] at h1
    by_cases hxe : rs[k] = rs[i - 1]?.getD []
    · rw [hxe]; exact h3
    · exact lexL_trans (lexL_of_ne h1 hxe) h3
theorem grT_spec {rs : List (List Int)} (h : SrtR rs) : ∀ i, i ≤ rs.length → AscR (grT rs i) ∧ (∀ x, x ∈ grT rs i ↔ x ∈ rs.take i) ∧ (0 < i → ∃ T, grT rs i = T ++ [rs[i - 1]?.getD []])
  | 0, _ => ⟨List.Pairwise.nil, by simp [grT], fun h => absurd h (by omega)⟩
  | i + 1, hi => by
    obtain ⟨h1, h2, h3⟩ := grT_spec h i (by omega)
    have ht : rs.take (i + 1) = rs.take i ++ [rs[i]?.getD []] := by rw [List.take_add_one, List.getElem?_eq_getElem (by omega)]; simp
    unfold grT
    by_cases hn : i = 0 ∨ rs[i - 1]?.getD [] ≠ rs[i]?.getD []
    · rw [if_pos hn, ht]
      refine ⟨List.pairwise_append.2 ⟨h1, by simp, fun x hx y hy => ?_⟩, fun x => by rw [List.mem_append, List.mem_append, h2 x], fun _ => ⟨_, rfl⟩⟩
      obtain rfl : y = rs[i]?.getD [] := by simpa using hy
      exact h.new (by omega) hn x ((h2 x).1 hx)
    · rw [if_neg hn, ht]
      have hi0 : i ≠ 0 := fun e => hn (.inl e)
      have he : rs[i - 1]?.getD [] = rs[i]?.getD [] := Decidable.byContradiction fun e => hn (.inr e)
      obtain ⟨T, hT⟩ := h3 (by omega)
      refine ⟨h1, fun x => ?_, fun _ => ⟨T, by rw [hT, he]; rfl⟩⟩
      rw [List.mem_append, ← h2 x]
      constructor
      · exact .inl
      · rintro (h | h)
        · exact h
        · simp at h
          rw [h, ← he, hT]
          simp
theorem cntTT_new {rs : List (List Int)} (h : SrtR rs) {i : Nat} (hi : i < rs.length) (hn : i = 0 ∨ rs[i - 1]?.getD [] ≠ rs[i]?.getD []) : cntTT (grT rs (i + 1)) (rs.take (i + 1)) = cntTT (grT rs i) (rs.take i) ++ [1] := by
  have ht : rs.take (i + 1) = rs.take i ++ [rs[i]?.getD []] := by rw [List.take_add_one, List.getElem?_eq_getElem (by omega)]; simp
  have hnot : rs[i]?.getD [] ∉ rs.take i := fun hm => by
    have := h.new hi hn _ hm
    rw [lexL_irr] at this
    cases this
  have hm := (grT_spec h i (by omega)).2.1
  rw [show grT rs (i + 1) = grT rs i ++ [rs[i]?.getD []] by rw [grT, if_pos hn], ht]
  unfold cntTT
  rw [List.map_append]
  congr 1
  · apply List.map_congr_left
    intro x hx
    have hne : x ≠ rs[i]?.getD [] := fun e => hnot (by rw [← e]; exact (hm x).1 hx)
    rw [List.count_append, List.count_eq_zero_of_not_mem (l := [rs[i]?.getD []]) (by simpa using hne)]
    rfl
  · simp [List.count_append, List.count_eq_zero_of_not_mem hnot]
theorem cntTT_same {rs : List (List Int)} (h : SrtR rs) {i : Nat} (hi : i < rs.length) (hi0 : 0 < i) (he : rs[i - 1]?.getD [] = rs[i]?.getD []) :
    ∃ cs : List Int, ∃ c : Nat, cntTT (grT rs i) (rs.take i) = cs ++ [(c : Int)] ∧ c ≤ i ∧ cntTT (grT rs (i + 1)) (rs.take (i + 1)) = cs ++ [(c : Int) + 1] := by
  have ht : rs.take (i + 1) = rs.take i ++ [rs[i]?.getD []] := by rw [List.take_add_one, List.getElem?_eq_getElem (by omega)]; simp
  obtain ⟨hA, _, hT⟩ := grT_spec h i (by omega)
  obtain ⟨T, hT⟩ := hT hi0
  have hn : ¬ (i = 0 ∨ rs[i - 1]?.getD [] ≠ rs[i]?.getD []) := by rintro (e | e); omega; exact e he
  have hg : grT rs (i + 1) = grT rs i := by rw [grT, if_neg hn]
  rw [hg, ht, hT, he]
  rw [hT, he] at hA
  refine ⟨cntTT T (rs.take i), (rs.take i).count (rs[i]?.getD []), by simp [cntTT], Nat.le_trans List.count_le_length (by rw [List.length_take]; omega), ?_⟩
  unfold cntTT
  rw [List.map_append]
  congr 1
  · apply List.map_congr_left
    intro x hx
    have hne : x ≠ rs[i]?.getD [] := fun e => by
      have := (List.pairwise_append.1 hA).2.2 x hx (rs[i]?.getD []) (by simp)
      rw [e, lexL_irr] at this
      cases this
    rw [List.count_append, List.count_eq_zero_of_not_mem (l := [rs[i]?.getD []]) (by simpa using hne)]
    rfl
  · simp [List.count_append]
theorem grT_end {rs Rs : List (List Int)} (h : SrtR rs) (hp : rs.Perm Rs) : grT rs rs.length = setR Rs ∧ cntTT (grT rs rs.length) (rs.take rs.length) = cntTT (setR Rs) Rs := by
  obtain ⟨h1, h2, _⟩ := grT_spec h rs.length (Nat.le_refl _)
  have e := (setR_of (Rs := Rs) h1 fun x => by rw [h2 x, List.take_length, hp.mem_iff]).symm
  refine ⟨e, ?_⟩
  rw [e, List.take_length]
  unfold cntTT
  apply List.map_congr_left
  intro x _
  rw [hp.count_eq]
/-- Where the program stands at the pair a, b. -/
def TyJ (bs : List Blk) (n : Nat) (w1 W : World) (u : Value) (a b : Nat) : Prop := Below w1.heap.size w1 W ∧ ∃ L : List RowH, RowsI W w1.heap.size u L ∧ rowsH L = tyTo bs n a b
theorem TyJ.forms {bs : List Blk} {n : Nat} {w1 W : World} {u : Value} {a b : Nat} (h : TyJ bs n w1 W u a b) (ha : a ≤ 15) (hb : b ≤ 15) :
    ∃ L a7 c7, u = .slice a7 L.length c7 ∧ L.length ≤ 300 ∧ Below w1.heap.size w1 W ∧ RowsI W w1.heap.size u L ∧ rowsH L = tyTo bs n a b := by
  obtain ⟨hB, L, hR, h1⟩ := h
  obtain ⟨a7, c7, e⟩ := hR.form
  have l1 : L.length = (tyTo bs n a b).length := by rw [← h1]; simp [rowsH]
  have := tyTo_len bs (n := n) ha hb
  exact ⟨L, a7, c7, e, by omega, hB, hR, h1⟩
theorem TyJ.next {bs : List Blk} {n : Nat} {w1 W : World} {u : Value} {a : Nat} (h : TyJ bs n w1 W u a a) : TyJ bs n w1 W u (a + 1) 0 := by
  unfold TyJ at h ⊢
  rw [tyTo_next] at h
  exact h
theorem tyAll_pos (bs : List Blk) (n : Nat) {a : Nat} (ha : 2 ≤ a) : 0 < (tyAll bs n a).length := by
  have : tyT bs n 1 0 ∈ tyAll bs n a := List.mem_flatMap.2 ⟨1, List.mem_range.2 (by omega), by simp [tyRow]⟩
  exact List.length_pos_of_mem this
/-- Rows that lie below a world stay, whatever is made beyond it. -/
theorem RowAt.later {w W : World} {G G' : Nat} {x : RowH} (h : RowAt w G x) (hb : Below w.heap.size w W) (hG : w.heap.size ≤ G') : RowAt W G' x := by
  have h3 := h.kept (gb_below hb) (.inl rfl)
  refine ⟨h3.1, ?_⟩
  rcases h.2 with h2 | ⟨b, off, cap, e, h1, h2, _⟩
  · exact .inl h2
  · rcases h3.2 with ⟨a, c, e3, e4⟩ | ⟨b3, off3, cap3, e3, k1, k2, k3⟩
    · exact .inl ⟨a, c, e3, e4⟩
    · rw [e] at e3
      simp at e3
      obtain ⟨⟨rfl, rfl⟩, rfl⟩ := e3
      exact .inr ⟨b, off, cap, e, k1, by omega, k3⟩
/-- Where the program stands behind k rows of the sorted list. -/
structure GrI (w W : World) (u v : Value) (L : List RowH) (k : Nat) (T : List RowH) : Prop where
  b : Below w.heap.size w W
  own : RowsV W w.heap.size u (T.map RowH.h)
  sub : ∀ x ∈ T, x ∈ L
  rows : rowsH T = grT (rowsH L) k
  cnt : OwnJ W w.heap.size v (cntTT (grT (rowsH L) k) ((rowsH L).take k))
  ap : ∀ r, u.ownBlock = some r → v.ownBlock ≠ some r
theorem GrI.start (w : World) (L : List RowH) : GrI w w (.slice none 0 0) (.slice none 0 0) L 0 [] :=
  ⟨Below.refl _ _, ⟨rfl, .inl ⟨rfl, rfl⟩⟩, by simp, rfl, OwnJ.nil _ _, by simp [Value.ownBlock]⟩
theorem grT_len (rs : List (List Int)) : ∀ k, (grT rs k).length ≤ k
  | 0 => by simp [grT]
  | k + 1 => by
    have := grT_len rs k
    unfold grT
    split
    · simp; omega
    · omega
theorem GrI.forms {w W : World} {u v : Value} {L : List RowH} {k : Nat} {T : List RowH} (h : GrI w W u v L k T) : ∃ a c a' c', u = .slice a T.length c ∧ v = .slice a' T.length c' ∧ T.length ≤ k := by
  have hl : T.length = (grT (rowsH L) k).length := by rw [← h.rows]; simp [rowsH]
  obtain ⟨a', c', e'⟩ := h.cnt.formT
  have hu : ∃ a c, u = .slice a T.length c := by
    rcases h.own.2 with ⟨rfl, h0⟩ | ⟨g, cap, cur, rfl, _⟩
    · rw [List.length_map] at h0
      exact ⟨none, 0, by rw [h0]⟩
    · exact ⟨_, _, by rw [List.length_map]⟩
  obtain ⟨a, c, e⟩ := hu
  refine ⟨a, c, a', c', e, ?_, by rw [hl]; exact grT_len _ _⟩
  rw [e', hl]
  simp [cntTT]
theorem GrI.done {w W : World} {u v : Value} {L : List RowH} {T : List RowH} {G : Nat} (h : GrI w W u v L L.length T) (hS : SrtR (rowsH L)) (hR : ∀ x ∈ L, RowAt w G x) {Rs : List (List Int)} (hp : (rowsH L).Perm Rs) :
    RowsI W w.heap.size u T ∧ rowsH T = setR Rs ∧ OwnJ W w.heap.size v (cntTT (setR Rs) Rs) ∧ Below w.heap.size w W := by
  have hl : (rowsH L).length = L.length := by simp [rowsH]
  obtain ⟨e1, e2⟩ := grT_end hS hp
  rw [hl] at e1 e2
  have h1 := h.rows
  have h2 := h.cnt
  rw [e1] at h1
  rw [e2] at h2
  refine ⟨⟨h.own, fun x hx => ?_⟩, h1, h2, h.b⟩
  obtain ⟨g, cap, hu⟩ := h.own.form (by rw [List.length_map]; exact List.length_pos_of_mem hx)
  have hg : w.heap.size ≤ g := by
    have h3 := h.own
    rw [hu] at h3
    exact (h3.at_ (i := 0) (x := (T.map RowH.h)[0]?.getD undef) (by simp [List.length_pos_of_mem hx])).2.1
  exact ⟨g, by rw [hu]; rfl, (hR x (h.sub x hx)).later h.b hg⟩
theorem wpList_append_int_at {w : World} {ops : Array Oper} {rest : List Oper} {o : Oper} {a : Act} {Q : Exit → Act → World → Prop} (hgd : o.guard = none) (s x : Operand)
    (ho : o.op = .call { callee := .builtin .append, args := #[s, x], argTypes := #[26, 26] })
    (base : Nat) (v : Value) (zs : List Int) (hs : a.eval s = v) (hown : OwnJ w base v zs) (b0 c : Nat) (y : Int) (hx : a.eval x = .slice (some ⟨b0, 0, none⟩) 1 c)
    (c1 : w.cell? ⟨b0, 0, none⟩ = some (.int .i64 y)) (hl : zs.length ≤ 1100000) (hbase : base ≤ w.heap.size)
    (h : ∀ (g cap : Nat) (w' : World), OwnJ w' base (.slice (some ⟨g, 0, none⟩) (zs.length + 1) cap) (zs ++ [y]) → w.grownBy w' v.ownBlock → (v.ownBlock = some g ∨ g = w.heap.size) → wpList Try.prog ops Q rest (a.put o.dst (.slice (some ⟨g, 0, none⟩) (zs.length + 1) cap)) w') : wpList Try.prog ops Q (o :: rest) a w := by
  obtain ⟨i0, hi, hz0, hz1, hz2⟩ := info_parts infoInt64
  refine wpList_append_own_at w hgd s x 26 ho base 2 i0 _ 1 8 Try.underlying26 hi hz0 hz1 hz2 rfl (by decide) v zs.length (zs.map (Value.int .i64)) hs hown ⟨b0, 0, none⟩ 1 c [.int .i64 y] hx rfl ?_ ?_ (by unfold maxLen; omega) (by omega) hbase ?_
  · intro j u hj
    rw [addr_at, Nat.zero_add]
    match j, hj with
    | 0, hj => simp at hj; rw [← hj]; exact c1
    | j + 1, hj => simp at hj
  · intro u hu
    simp at hu
    rw [hu]
    rfl
  · intro v' w' hown' hg _ hob
    obtain ⟨G, cap, rfl⟩ := row_some hown'
    refine h G cap w' ?_ hg ?_
    · unfold OwnJ
      rw [List.map_append, List.length_append]
      exact hown'
    · rcases hob with e | e
      · exact .inl (by rw [← e]; rfl)
      · exact .inr (by simpa [Value.ownBlock] using e)
theorem OwnJ.blkT {w : World} {base : Nat} {v : Value} {zs : List Int} (h : OwnJ w base v zs) : ∀ r, v.ownBlock = some r → base ≤ r ∧ r < w.heap.size := fun r e => by
  rcases h.2 with ⟨hv, h0⟩ | ⟨g, cap, cur, hv, hb, hcur, _⟩
  · rw [hv] at e; simp [Value.ownBlock] at e
  · rw [hv] at e
    obtain rfl : g = r := by simpa [Value.ownBlock] using e
    exact ⟨hb, (Array.getElem?_eq_some_iff.1 hcur).1⟩
theorem RowsV.blkT {w : World} {base : Nat} {v : Value} {hs : List Value} (h : RowsV w base v hs) : ∀ r, v.ownBlock = some r → base ≤ r ∧ r < w.heap.size := fun r e => by
  rcases h.2 with ⟨hv, h0⟩ | ⟨g, cap, cur, hv, hb, hcur, _⟩
  · rw [hv] at e; simp [Value.ownBlock] at e
  · rw [hv] at e
    obtain rfl : g = r := by simpa [Value.ownBlock] using e
    exact ⟨hb, (Array.getElem?_eq_some_iff.1 hcur).1⟩
theorem GrI.later {w W V : World} {u v : Value} {L : List RowH} {k : Nat} {T : List RowH} (h : GrI w W u v L k T) (hb : Below W.heap.size W V) : GrI w V u v L k T :=
  ⟨h.b.trans (hb.mono h.b.size), h.own.below hb (Nat.le_refl _), h.sub, h.rows, h.cnt.below hb (Nat.le_refl _), h.ap⟩
theorem GrI.len {w W : World} {u v : Value} {L : List RowH} {k : Nat} {T : List RowH} (h : GrI w W u v L k T) : (cntTT (grT (rowsH L) k) ((rowsH L).take k)).length = T.length := by
  have : T.length = (grT (rowsH L) k).length := by rw [← h.rows]; simp [rowsH]
  rw [this]
  simp [cntTT]
theorem GrI.new {w W V2 V3 : World} {u v : Value} {L T : List RowH} {k : Nat} {x : RowH} {G10 c10 G11 c11 : Nat} (h : GrI w W u v L k T) (hk : k < L.length) (hS : SrtR (rowsH L)) (hn : k = 0 ∨ (rowsH L)[k - 1]?.getD [] ≠ (rowsH L)[k]?.getD []) (hx : x ∈ L) (hxr : x.r = (rowsH L)[k]?.getD [])
    (hV : RowsV V2 w.heap.size (.slice (some ⟨G10, 0, none⟩) (T.length + 1) c10) (T.map RowH.h ++ [x.h])) (hg2 : W.grownBy V2 u.ownBlock) (hG10 : u.ownBlock = some G10 ∨ W.heap.size ≤ G10)
    (hO : OwnJ V3 w.heap.size (.slice (some ⟨G11, 0, none⟩) (T.length + 1) c11) (cntTT (grT (rowsH L) k) ((rowsH L).take k) ++ [0])) (hg3 : V2.grownBy V3 v.ownBlock) (hG11 : v.ownBlock = some G11 ∨ V2.heap.size ≤ G11) :
    GrI w (V3.setCell ⟨G11, T.length, none⟩ (.int .i64 1)) (.slice (some ⟨G10, 0, none⟩) (T.length + 1) c10) (.slice (some ⟨G11, 0, none⟩) (T.length + 1) c11) L (k + 1) (T ++ [x]) ∧ V3.cell? ⟨G11, T.length, none⟩ = some (.int .i64 0) ∧ V3.frozen? ⟨G11, T.length, none⟩ = false := by
  have hl : (rowsH L).length = L.length := by simp [rowsH]
  have hcl := h.len
  have hz := h.b.size
  have hz2 := hg2.size
  have hz3 := hg3.size
  have hvlt := h.cnt.blkT
  have hb10 := hV.blkT G10 rfl
  have hb11 := hO.blkT G11 rfl
  have hne : v.ownBlock ≠ some G10 := fun e => by
    rcases hG10 with h1 | h1
    · exact h.ap _ h1 e
    · have := (hvlt _ e).2
      omega
  have hne2 : G11 ≠ G10 := fun e => by
    rcases hG11 with h1 | h1
    · exact hne (by rw [h1, e])
    · omega
  have hset := hO.setT (i := T.length) (x := 1) (by rw [List.length_append, hcl]; simp)
  have hat := hO.at_ (i := T.length) (by rw [List.length_append, hcl]; simp)
  have e1 : (cntTT (grT (rowsH L) k) ((rowsH L).take k) ++ [0]).set T.length 1 = cntTT (grT (rowsH L) (k + 1)) ((rowsH L).take (k + 1)) := by
    rw [cntTT_new hS (by omega) hn, ← hcl, List.set_append_right _ _ (Nat.le_refl _)]
    simp
  rw [e1] at hset
  refine ⟨⟨?_, ?_, ?_, ?_, hset.1, fun r e e' => ?_⟩, ?_, hat.2.2.2.2⟩
  · exact ((h.b.grown hg2 hz (fun r e => (h.own.blkT r e).1)).grown hg3 (by omega) (fun r e => (hvlt r e).1)).setCell (p := ⟨G11, T.length, none⟩) hb11.1 _
  · have h1 := (hV.kept hg3 (.inr fun e => hne e.symm)).kept (hset.2) (.inr fun e => hne2 (by simpa [Value.ownBlock] using e.symm))
    simpa using h1
  · intro y hy
    rcases List.mem_append.1 hy with hy | hy
    · exact h.sub y hy
    · obtain rfl : y = x := by simpa using hy
      exact hx
  · have h1 := h.rows
    rw [show grT (rowsH L) (k + 1) = grT (rowsH L) k ++ [(rowsH L)[k]?.getD []] by rw [grT, if_pos hn], ← h1, ← hxr]
    simp [rowsH]
  · have e : G10 = r := by simpa [Value.ownBlock] using e
    have e' : G11 = r := by simpa [Value.ownBlock] using e'
    exact hne2 (by rw [e, e'])
  · rw [hat.1, ← hcl]
    simp
theorem GrI.same {w W : World} {u : Value} {L T : List RowH} {k m : Nat} {a : Option Addr} {c11 : Nat} (h : GrI w W u (.slice a (m + 1) c11) L k T) (hk : k < L.length) (hS : SrtR (rowsH L)) (hk0 : 0 < k) (he : (rowsH L)[k - 1]?.getD [] = (rowsH L)[k]?.getD []) (hm : T.length = m + 1) :
    ∃ G11 c : Nat, a = some ⟨G11, 0, none⟩ ∧ c ≤ k ∧ W.cell? ⟨G11, m, none⟩ = some (.int .i64 (c : Int)) ∧ W.frozen? ⟨G11, m, none⟩ = false ∧ GrI w (W.setCell ⟨G11, m, none⟩ (.int .i64 ((c : Int) + 1))) u (.slice a (m + 1) c11) L (k + 1) T := by
  have hl : (rowsH L).length = L.length := by simp [rowsH]
  have hcl := h.len
  obtain ⟨cs, c, e1, hc, e2⟩ := cntTT_same hS (by omega) hk0 he
  have hO := h.cnt
  rw [e1] at hO hcl
  have hcs : cs.length = m := by rw [hm] at hcl; simpa using hcl
  obtain ⟨G11, rfl⟩ : ∃ G11, a = some ⟨G11, 0, none⟩ := by
    rcases hO.2 with ⟨hv, h0⟩ | ⟨g, cap, cur, hv, _⟩
    · simp at h0
    · simp at hv
      exact ⟨g, hv.1⟩
  have hset := hO.setT (i := m) (x := (c : Int) + 1) (by simp; omega)
  have hat := hO.at_ (i := m) (by simp; omega)
  have hb11 := hO.blkT G11 rfl
  have e3 : (cs ++ [(c : Int)]).set m ((c : Int) + 1) = cntTT (grT (rowsH L) (k + 1)) ((rowsH L).take (k + 1)) := by
    rw [e2, ← hcs, List.set_append_right _ _ (Nat.le_refl _)]
    simp
  rw [e3] at hset
  have hn : ¬ (k = 0 ∨ (rowsH L)[k - 1]?.getD [] ≠ (rowsH L)[k]?.getD []) := by rintro (e | e); omega; exact e he
  refine ⟨G11, c, rfl, hc, ?_, hat.2.2.2.2, ⟨h.b.setCell (p := ⟨G11, m, none⟩) hb11.1 _, ?_, h.sub, ?_, hset.1, h.ap⟩⟩
  · rw [hat.1, ← hcs]
    simp
  · refine h.own.kept hset.2 (.inr fun e => ?_)
    exact h.ap _ e rfl
  · rw [show grT (rowsH L) (k + 1) = grT (rowsH L) k by rw [grT, if_neg hn]]
    exact h.rows
theorem GrI.pos {w W : World} {u v : Value} {L T : List RowH} {k : Nat} (h : GrI w W u v L k T) (hk : k ≤ L.length) (hS : SrtR (rowsH L)) (hk0 : 0 < k) : ∃ m, T.length = m + 1 := by
  have hl : (rowsH L).length = L.length := by simp [rowsH]
  obtain ⟨X, e⟩ := (grT_spec hS k (by omega)).2.2 hk0
  have h1 : T.length = (grT (rowsH L) k).length := by rw [← h.rows]; simp [rowsH]
  rw [e] at h1
  exact ⟨X.length, by simpa using h1⟩
theorem RowsI.base {W : World} {b b' : Nat} {u : Value} {L : List RowH} (h : RowsI W b u L) (hb : b' ≤ b) : RowsI W b' u L :=
  ⟨⟨h.own.1, by
    rcases h.own.2 with h2 | ⟨g, cap, cur, e1, e2, e3⟩
    · exact .inl h2
    · exact .inr ⟨g, cap, cur, e1, by omega, e3⟩⟩, h.row⟩
theorem OwnJ.apart {W W' : World} {base : Nat} {v : Value} {zs : List Int} {row : Option Nat} (h : OwnJ W base v zs) (hg : W.grownBy W' row) (ap : ∀ r, row = some r → v.ownBlock ≠ some r) : OwnJ W' base v zs := World.ownsRow.kept h hg (by
  cases row with
  | none =>
    cases hv : v.ownBlock with
    | none => exact .inl rfl
    | some g => exact .inr (by simp)
  | some r => exact .inr (ap r rfl))
end Go.Proofs.Ytmgpmcjbnooklaa

namespace Go.Proofs.Ytmgpmcjbnooklaa
open Go.RowKit Go.Maps Go.Sort Go.Shelf
def ascS (l : List Int) : List Int := l.mergeSort fun x y => decide (x ≤ y)
theorem ascS_perm (l : List Int) : (ascS l).Perm l := List.mergeSort_perm l _
theorem ascS_asc (l : List Int) : (ascS l).Pairwise (· ≤ ·) := by
  have h := List.pairwise_mergeSort (le := fun x y : Int => decide (x ≤ y)) (by intro a b c h1 h2; simp at *; omega) (by intro a b; simp; omega) l
  exact h.imp (by simp)
theorem ascS_of {l s : List Int} (hp : s.Perm l) (hs : s.Pairwise (· ≤ ·)) : s = ascS l :=
  (hp.trans (ascS_perm l).symm).eq_of_pairwise (fun _ _ _ _ h1 h2 => Int.le_antisymm h1 h2) hs (ascS_asc l)
theorem ascS_len (l : List Int) : (ascS l).length = l.length := (ascS_perm l).length_eq
theorem grownBy_putR {w : World} {g n : Nat} {os : Array Obj} (F : Array Int) : w.grownBy (grow (putRow (Value.int .i64) (Sort.ahead w n) g 0 F) os) (some g) := by
  refine ⟨rfl, rfl, rfl, by simp, fun k hk hne => ?_⟩
  rw [heap_grow_old _ _ (by simpa using hk)]
  have : g ≠ k := fun e => hne (by rw [e])
  simp [putRow, mapBlock, Sort.ahead, Array.getElem?_modify, this]
theorem grownBy_growR (w : World) (os : Array Obj) : w.grownBy (grow w os) none :=
  ⟨rfl, rfl, rfl, by simp, fun k hk _ => heap_grow_old _ _ hk⟩
theorem OwnJ.putR {w : World} {base g n cap q : Nat} {os : Array Obj} {zs ys : List Int} (h : OwnJ w base (.slice (some ⟨g, 0, none⟩) n cap) zs) (hy : ys.length = zs.length) :
    OwnJ (grow (putRow (Value.int .i64) (Sort.ahead w q) g 0 ys.toArray) os) base (.slice (some ⟨g, 0, none⟩) n cap) ys ∧ w.grownBy (grow (putRow (Value.int .i64) (Sort.ahead w q) g 0 ys.toArray) os) (some g) := by
  have hn : n = zs.length := by
    rcases h.2 with ⟨e, _⟩ | ⟨g', cap', cur, e, _⟩
    · cases e
    · injection e
  subst hn
  refine ⟨?_, grownBy_putR _⟩
  have h1 := Lib.ownsRow_putRow (q := q) (k := zs.length) h hy (Nat.le_refl _)
  rw [List.take_of_length_le (Nat.le_of_eq hy)] at h1
  refine OwnJ.kept ?_ (grownBy_growR _ os) (by simp)
  unfold OwnJ
  rw [hy]
  exact h1
theorem OwnJ.holdsR {w : World} {base g n cap : Nat} {zs : List Int} (h : OwnJ w base (.slice (some ⟨g, 0, none⟩) n cap) zs) : Holds (Value.int .i64) w g 0 zs.toArray ∧ g < w.heap.size ∧ n = zs.length := by
  obtain ⟨_, h | ⟨g', cap', cur, e, hb, hcur, hn, hc, hsz, hx⟩⟩ := h
  · simp at h
  · simp at e
    obtain ⟨rfl, rfl, rfl⟩ := e
    refine ⟨fun j hj => ?_, (Array.getElem?_eq_some_iff.1 hcur).1, rfl⟩
    have hj' : j < zs.length := by simpa using hj
    have e : (zs.map (Value.int .i64))[j]? = some (.int .i64 zs[j]) := by simp [hj']
    rw [← hx, List.getElem?_take_of_lt (by omega)] at e
    rw [Nat.zero_add]
    refine ⟨?_, by simp [World.frozen?, hcur]⟩
    rw [getElem!_pos zs.toArray j hj]
    simp [World.cell?, hcur]
    simpa using e
theorem sortS_any (base : Nat) (u : Value) (zs : List Int) (w : World) (h : OwnJ w base u zs) (hl : zs.length ≤ 3300000) :
    Calls Try.prog 88 #[u] w (fun e w' => e = .returned (.tuple #[]) ∧ w.grownBy w' u.ownBlock ∧ OwnJ w' base u (ascS zs)) := by
  rcases h.2 with ⟨rfl, h0⟩ | ⟨g, cap, cur, rfl, _⟩
  · have e0 : zs = [] := List.length_eq_zero_iff.1 h0
    subst e0
    refine (AnyM.slices_Sort_int_none Try.sortI _ _ _).mono ?_
    rintro e w' ⟨rfl, rfl⟩
    exact ⟨rfl, only_refl _ _, by simpa [ascS] using OwnJ.nil _ _⟩
  · obtain ⟨hH, hlt, _⟩ := h.holdsR
    refine (AnyM.slices_Sort_int Try.sortI g 0 cap zs w hH hlt (by omega)).mono ?_
    rintro e w' ⟨rfl, n, os, hw⟩
    obtain ⟨h1, h2⟩ := h.putR (q := n) (os := os) (ascS_len zs)
    subst hw
    exact ⟨rfl, h2, h1⟩
theorem take_eq_nextZ {xs ys : List Int} {k : Nat} (h : xs.take k = ys.take k) (he : xs[k]? = ys[k]?) : xs.take (k + 1) = ys.take (k + 1) := by
  rw [List.take_add_one, List.take_add_one, h, he]
theorem ne_atZ {xs ys : List Int} {k : Nat} (he : xs[k]? ≠ ys[k]?) : decide (xs = ys) = false := decide_eq_false fun e => he (by rw [e])
set_option maxRecDepth 100000 in
set_option maxHeartbeats 1000000 in
theorem EqualZ_any (s t : Value) (xs ys : List Int) (w : World) (h : IB w s xs) (k : IB w t ys) :
    Calls Try.prog 69 #[s, t] w (RV (.bool (decide (xs = ys))) w) := by
  have hs : ∃ a c, s = .slice a xs.length c := by rcases h.2 with ⟨a, c, rfl, rfl⟩ | ⟨b, off, cap, rfl, _⟩ <;> exact ⟨_, _, rfl⟩
  have ht : ∃ a c, t = .slice a ys.length c := by rcases k.2 with ⟨a, c, rfl, rfl⟩ | ⟨b, off, cap, rfl, _⟩ <;> exact ⟨_, _, rfl⟩
  have hlx := h.1
  have hly := k.1
  have HX := Lib.hid h
  have HY := Lib.hid k
  clear h k
  obtain ⟨a0, c0, rfl⟩ := hs
  obtain ⟨a1, c1, rfl⟩ := ht
  by_cases hl : xs.length = ys.length
  case neg =>
    have hne : ((xs.length : Int) != (ys.length : Int)) = true := by simp; omega
    have HV := Lib.hid (show decide (xs = ys) = false from decide_eq_false fun e => hl (by rw [e]))
    clear hl
    go_enter Try.func69, Try.ntmps69
    go_wp2
    go_ret
    exact RV_of (bool_eq (by rw [HV.out])) (Below.refl _ _)
  have hne : ((xs.length : Int) != (ys.length : Int)) = false := by simp; omega
  have hle : ys.length ≤ xs.length ∧ xs.length ≤ ys.length := by omega
  obtain ⟨hle1, hle2⟩ := hle
  clear hl
  go_enter Try.func69, Try.ntmps69
  go_wp2
  go_loopw [13] (fun i wr => ∃ k : Nat, k ≤ xs.length ∧ i = .int .i64 k ∧ Below w.heap.size w wr ∧ Hid (xs.take k = ys.take k)) (fun i _ => xs.length - (intOf i).toNat)
  case atStart => exact ⟨0, Nat.zero_le _, rfl, Below.refl _ _, Lib.hid rfl⟩
  case round =>
    obtain ⟨k, hk, rfl, hB, HT⟩ := hrel
    have hz := hB.size
    by_cases hkl : k < xs.length
    · rcases HX.out.2 with ⟨_, _, _, hnil⟩ | ⟨b, off, cap, hv, hblt, hbl⟩
      · rw [hnil] at hkl; simp at hkl
      simp at hv
      obtain ⟨rfl, rfl⟩ := hv
      rcases HY.out.2 with ⟨_, _, _, hnil⟩ | ⟨b', off', cap', hv, hblt', hbl'⟩
      · exfalso; rw [hnil, List.length_nil] at hle2; omega
      simp at hv
      obtain ⟨rfl, rfl⟩ := hv
      have hkl' : k < ys.length := by omega
      have x1 := (hbl.below hB hblt) k hkl
      have y1 := (hbl'.below hB hblt') k hkl'
      have ex : xs[k]? = some (xs[k]?.getD 0) := by simp [hkl]
      have ey : ys[k]? = some (ys[k]?.getD 0) := by simp [hkl']
      obtain ⟨x, hx⟩ : ∃ x, x = xs[k]?.getD 0 := ⟨_, rfl⟩
      obtain ⟨y, hy⟩ : ∃ y, y = ys[k]?.getD 0 := ⟨_, rfl⟩
      rw [← hx] at x1 ex
      rw [← hy] at y1 ey
      have g0 : (0 : Int) ≤ (k : Int) := by omega
      have g1 : (k : Int) < (xs.length : Int) := by omega
      have g2 : (k : Int) < (ys.length : Int) := by omega
      have HXY := Lib.hid (And.intro ex ey)
      clear hx hy ex ey hbl hbl'
      by_cases hd : x = y
      · have HS := Lib.hid (take_eq_nextZ HT.out (by rw [HXY.out.1, HXY.out.2, hd]))
        have q : (x != y) = false := by simpa using hd
        clear hd HXY
        go_wp2
        go_quiet (fail)
        go_wp2
        go_roundw
        case rel => exact ⟨k + 1, by omega, by go_num, below_drewN hB _, HS⟩
        case measure => simp [intOf]; omega
      · have HS := Lib.hid (ne_atZ (xs := xs) (ys := ys) (k := k) (by rw [HXY.out.1, HXY.out.2]; intro e; exact hd (Option.some.inj e)))
        have q : (x != y) = true := by simpa using hd
        clear hd HXY
        go_wp2
        go_quiet (fail)
        go_wp2
        go_ret
        exact RV_of (bool_eq (by rw [HS.out])) (below_drewN hB _)
    · have HS := Lib.hid (show decide (xs = ys) = true by
        have h1 := HT.out
        rw [List.take_of_length_le (by omega), List.take_of_length_le (by omega)] at h1
        exact decide_eq_true h1)
      go_wp2
      go_ret
      exact RV_of (bool_eq (by rw [HS.out])) hB
end Go.Proofs.Ytmgpmcjbnooklaa

namespace Go.Proofs.Ytmgpmcjbnooklaa
open Go.RowKit Go.Maps
theorem drew_more {w W : World} (h : ∃ n, W = w.drewN n) (q : Nat) : ∃ n, W.drewN q = w.drewN n := by
  obtain ⟨n, rfl⟩ := h
  exact ⟨n + q, drewN_add _ _ _⟩
theorem RD_ex {v u : Value} {w w' : World} (h : u = v) (hw : ∃ n, w' = w.drewN n) : RD v w (.returned u) w' := ⟨by rw [h], hw⟩
set_option maxRecDepth 100000 in
set_option maxHeartbeats 1000000 in
theorem EqualD_any (s t : Value) (xs ys : List Int) (w : World) (h : IB w s xs) (k : IB w t ys) :
    Calls Try.prog 69 #[s, t] w (RD (.bool (decide (xs = ys))) w) := by
  have hs : ∃ a c, s = .slice a xs.length c := by rcases h.2 with ⟨a, c, rfl, rfl⟩ | ⟨b, off, cap, rfl, _⟩ <;> exact ⟨_, _, rfl⟩
  have ht : ∃ a c, t = .slice a ys.length c := by rcases k.2 with ⟨a, c, rfl, rfl⟩ | ⟨b, off, cap, rfl, _⟩ <;> exact ⟨_, _, rfl⟩
  have hlx := h.1
  have hly := k.1
  have HX := Lib.hid h
  have HY := Lib.hid k
  clear h k
  obtain ⟨a0, c0, rfl⟩ := hs
  obtain ⟨a1, c1, rfl⟩ := ht
  by_cases hl : xs.length = ys.length
  case neg =>
    have hne : ((xs.length : Int) != (ys.length : Int)) = true := by simp; omega
    have HV := Lib.hid (show decide (xs = ys) = false from decide_eq_false fun e => hl (by rw [e]))
    clear hl
    go_enter Try.func69, Try.ntmps69
    go_wp2
    go_ret
    exact RD_of (n := 0) (bool_eq (by rw [HV.out])) rfl
  have hne : ((xs.length : Int) != (ys.length : Int)) = false := by simp; omega
  have hle : ys.length ≤ xs.length ∧ xs.length ≤ ys.length := by omega
  obtain ⟨hle1, hle2⟩ := hle
  clear hl
  go_enter Try.func69, Try.ntmps69
  go_wp2
  go_loopw [13] (fun i wr => ∃ k : Nat, k ≤ xs.length ∧ i = .int .i64 k ∧ (∃ n', wr = w.drewN n') ∧ Hid (xs.take k = ys.take k)) (fun i _ => xs.length - (intOf i).toNat)
  case atStart => exact ⟨0, Nat.zero_le _, rfl, ⟨0, rfl⟩, Lib.hid rfl⟩
  case round =>
    obtain ⟨k, hk, rfl, hW, HT⟩ := hrel
    have hB : Below w.heap.size w wr := by obtain ⟨n', e⟩ := hW; rw [e]; exact below_drewN (Below.refl _ _) n'
    have HW := Lib.hid hW
    clear hW
    have hz := hB.size
    by_cases hkl : k < xs.length
    · rcases HX.out.2 with ⟨_, _, _, hnil⟩ | ⟨b, off, cap, hv, hblt, hbl⟩
      · rw [hnil] at hkl; simp at hkl
      simp at hv
      obtain ⟨rfl, rfl⟩ := hv
      rcases HY.out.2 with ⟨_, _, _, hnil⟩ | ⟨b', off', cap', hv, hblt', hbl'⟩
      · exfalso; rw [hnil, List.length_nil] at hle2; omega
      simp at hv
      obtain ⟨rfl, rfl⟩ := hv
      have hkl' : k < ys.length := by omega
      have x1 := (hbl.below hB hblt) k hkl
      have y1 := (hbl'.below hB hblt') k hkl'
      have ex : xs[k]? = some (xs[k]?.getD 0) := by simp [hkl]
      have ey : ys[k]? = some (ys[k]?.getD 0) := by simp [hkl']
      obtain ⟨x, hx⟩ : ∃ x, x = xs[k]?.getD 0 := ⟨_, rfl⟩
      obtain ⟨y, hy⟩ : ∃ y, y = ys[k]?.getD 0 := ⟨_, rfl⟩
      rw [← hx] at x1 ex
      rw [← hy] at y1 ey
      have g0 : (0 : Int) ≤ (k : Int) := by omega
      have g1 : (k : Int) < (xs.length : Int) := by omega
      have g2 : (k : Int) < (ys.length : Int) := by omega
      have HXY := Lib.hid (And.intro ex ey)
      clear hx hy ex ey hbl hbl'
      by_cases hd : x = y
      · have HS := Lib.hid (take_eq_nextZ HT.out (by rw [HXY.out.1, HXY.out.2, hd]))
        have q : (x != y) = false := by simpa using hd
        clear hd HXY
        go_wp2
        go_quiet (fail)
        go_wp2
        go_roundw
        case rel => exact ⟨k + 1, by omega, by go_num, drew_more HW.out nq, HS⟩
        case measure => simp [intOf]; omega
      · have HS := Lib.hid (ne_atZ (xs := xs) (ys := ys) (k := k) (by rw [HXY.out.1, HXY.out.2]; intro e; exact hd (Option.some.inj e)))
        have q : (x != y) = true := by simpa using hd
        clear hd HXY
        go_wp2
        go_quiet (fail)
        go_wp2
        go_ret
        exact RD_ex (bool_eq (by rw [HS.out])) (drew_more HW.out nq)
    · have HS := Lib.hid (show decide (xs = ys) = true by
        have h1 := HT.out
        rw [List.take_of_length_le (by omega), List.take_of_length_le (by omega)] at h1
        exact decide_eq_true h1)
      go_wp2
      go_ret
      exact RD_ex (bool_eq (by rw [HS.out])) HW.out
end Go.Proofs.Ytmgpmcjbnooklaa

namespace Go.Proofs.Ytmgpmcjbnooklaa
open Go.RowKit Go.Maps
set_option maxRecDepth 100000 in
set_option maxHeartbeats 4000000 in
theorem TypesOf_main (n : Nat) (s : Value) (bs : List Blk) (w : World) (h : SB w s bs) (hi : isSysImpl (n : Int) bs = true) (hf : fullB (n : Int) bs = true) (hc : fullC (n : Int) bs = 0) :
    Calls Try.prog 31 #[.agg #[.int .i64 (n : Int), s]] w (fun e w' => ∃ u1 u2 T, e = .returned (.tuple #[u1, u2, .int .i64 0]) ∧ RowsI w' w.heap.size u1 T ∧ rowsH T = setR (tyAll bs n n) ∧ OwnJ w' w.heap.size u2 (cntTT (setR (tyAll bs n n)) (tyAll bs n n)) ∧ Below w.heap.size w w') := by
  have hn15 : n ≤ 15 := by have := (sys_size hi).2.1; omega
  have hn3 : 3 ≤ n := by have := (sys_size hi).1; omega
  have HF := Lib.hid fun B W (hb : Below w.heap.size w W) c0 c1 => fullCode_one B (n : Int) s bs W (h.below hb (Nat.le_refl _)) c0 c1
  have HT := Lib.hid fun W (hb : Below w.heap.size w W) => thirdsOf_any n s bs W (h.below hb (Nat.le_refl _)) hi
  have HCY := Lib.hid fun (a b : Nat) (ha : a < n) (hb : b < n) (hab : a ≠ b) G lo tgs tcaps W (hS : SSR W lo G tgs tcaps n (rowT n (tabN bs))) => typeFrom_any G lo tgs tcaps n n bs a b W hS hi hf ha hb hab
  rw [hc] at HF
  have hs := h.slice
  clear h hi hf hc
  obtain ⟨a0, c0, rfl⟩ := hs
  go_enter Try.func31, Try.ntmps31
  go_wp2_with fail
  obtain ⟨wa, hwa⟩ : ∃ wa, wa = (w.alloc (.cells #[.int .i64 (n : Int), .slice a0 bs.length c0] 31)).alloc (.cells #[.int .i64 (n : Int), .slice a0 bs.length c0] 31) := ⟨_, rfl⟩
  have hza : wa.heap.size = w.heap.size + 1 + 1 := by rw [hwa]; simp
  have hBa : Below w.heap.size w wa := by rw [hwa]; exact ((Below.refl _ _).alloc (Nat.le_refl _) _).alloc (by simp) _
  have k0 : wa.cell? ⟨w.heap.size + 1, 0, none⟩ = some (.int .i64 (n : Int)) := by rw [hwa]; simp [go_sem]
  have k1 : wa.cell? ⟨w.heap.size + 1, 1, none⟩ = some (.slice a0 bs.length c0) := by rw [hwa]; simp [go_sem]
  have b0 : wa.cell? ⟨w.heap.size, 0, none⟩ = some (.int .i64 (n : Int)) := by rw [hwa]; simp [go_sem]
  have b1 : wa.cell? ⟨w.heap.size, 1, none⟩ = some (.slice a0 bs.length c0) := by rw [hwa]; simp [go_sem]
  rw [← hwa]
  clear hwa
  refine (HF.out (w.heap.size + 1) wa hBa k0 k1).mono ?_
  rintro e w2 ⟨rfl, hb2⟩
  have d0 := (hb2.cell (p := ⟨w.heap.size, 0, none⟩) (by show w.heap.size < _; omega)).trans b0
  have d1 := (hb2.cell (p := ⟨w.heap.size, 1, none⟩) (by show w.heap.size < _; omega)).trans b1
  have hB2 := hBa.trans (hb2.mono (by omega))
  have hz2 := hb2.size
  clear hBa k0 k1 b0 b1 hb2 HF
  go_wp2_with fail
  refine (HT.out w2 hB2).mono ?_
  rintro e w3 ⟨G, gs, caps, rfl, hG, hb3, hS⟩
  have e0 := (hb3.cell (p := ⟨w.heap.size, 0, none⟩) (by show w.heap.size < _; omega)).trans d0
  have hB3 := hB2.trans (hb3.mono hB2.size)
  have hz3 := hb3.size
  have HS := Lib.hid hS
  have HB3 := Lib.hid hB3
  clear hS hB3 hB2 hb3 d0 d1 HT hG
  go_wp2_with fail
  go_loopw [7, 24] (fun u i wr => ∃ a : Nat, a ≤ n ∧ i = .int .i64 a ∧ TyJ bs n w3 wr u a 0) (fun _ i _ => n - (intOf i).toNat)
  case atStart => exact ⟨0, Nat.zero_le _, rfl, Below.refl _ _, [], RowsI.nil _ _, by simp [tyTo, tyAll, tyRow, rowsH]⟩
  case round =>
    obtain ⟨a, ha, rfl, hTJ⟩ := hrel
    obtain ⟨L, a7, c7, rfl, lL, hB, hR, hrL⟩ := hTJ.forms (by omega) (by omega)
    have hzr := hB.size
    have HTJ := Lib.hid hTJ
    have HB := Lib.hid hB
    have HR := Lib.hid hR
    have HRL := Lib.hid hrL
    clear hB hR hrL hTJ e0
    by_cases hal : a < n
    · clear HB HR HRL
      go_wp2_with fail
      go_loopw [7, 28] (fun u i wx => ∃ b : Nat, b ≤ a ∧ i = .int .i64 b ∧ TyJ bs n w3 wx u a b) (fun _ i _ => a - (intOf i).toNat)
      case atStart => exact ⟨0, Nat.zero_le _, rfl, HTJ.out⟩
      case round =>
        clear HTJ
        obtain ⟨b, hb, rfl, hTJ⟩ := hrel
        obtain ⟨L, a7, c7, rfl, lL, hB, hR, hrL⟩ := hTJ.forms (by omega) (by omega)
        have hzr := hB.size
        have HTJ := Lib.hid hTJ
        have HB := Lib.hid hB
        have HR := Lib.hid hR
        have HRL := Lib.hid hrL
        clear hB hR hrL hTJ
        by_cases hbl : b < a
        · have HCALL := Lib.hid (HCY.out a b hal (by omega) (by omega) G _ gs caps wr (HS.out.below HB.out (Nat.le_refl _)))
          clear HCY HTJ
          go_wp2_with fail
          refine HCALL.out.mono ?_
          rintro e w4 ⟨u, rfl, hO4, hb4⟩
          obtain ⟨pa, pc, rfl⟩ := hO4.formT
          have hl15 := tyT_len bs (n := n) (a := a) (b := b) hn15
          have hR4 := HR.out.below hb4
          have HV := Lib.hid hR4.own
          have HR4 := Lib.hid hR4
          have HO4 := Lib.hid hO4
          have HB4 := Lib.hid (HB.out.trans (hb4.mono hzr))
          have hz4 := hb4.size
          have hll : (L.map RowH.h).length = L.length := List.length_map _
          obtain ⟨tl, htl⟩ : ∃ tl, tl = (typL (cyS bs a b n)).length := ⟨_, rfl⟩
          rw [← htl] at HO4 ⊢
          have HTL := Lib.hid htl
          clear hR4 hO4 hb4 htl HCALL
          go_wp2_with (at_builtin; refine wpList_append_hdr rfl _ _ rfl w3.heap.size _ (L.map RowH.h) rfl (HV.out.below ((Below.refl _ _).alloc (Nat.le_refl _) _) (Nat.le_refl _)) w4.heap.size 1 rfl pa tl pc (by simp [go_sem]) (by omega) (by simp; omega) ?_; intro G5 cap5 w5 hV5 hg5 hG5)
          have hV5' : RowsV w5 w3.heap.size (.slice (some ⟨G5, 0, none⟩) (L.length + 1) cap5) (L.map RowH.h ++ [.slice pa tl pc]) := by
            have h5 := hV5
            rw [hll] at h5
            exact h5
          have hg5' : w4.grownBy w5 (Value.slice a7 L.length c7).ownBlock := gb_trans (World.grownBy_alloc _ _ none) hg5
          have hG5' : (Value.slice a7 L.length c7).ownBlock = some G5 ∨ w4.heap.size ≤ G5 := by
            rcases hG5 with h | h
            · exact .inl h
            · exact .inr (by rw [h]; simp)
          have hlt7 := fun r (e : (Value.slice a7 L.length c7).ownBlock = some r) => (HR.out.blk r e).2
          have hxr := OwnJ.rowAt HO4.out (by unfold tyT at hl15; omega) hg5' hlt7 (G5 := G5) (by
            rcases hG5' with h | h
            · exact .inl (hlt7 _ h)
            · exact .inr h)
          have hR5 := HR4.out.snoc (x := ⟨.slice pa tl pc, typL (cyS bs a b n)⟩) hV5' hg5' hG5' hxr
          have hB5 := HB4.out.grown hg5' (by omega) (fun r e => (HR.out.blk r e).1)
          refine ⟨⟨b + 1, by omega, by go_num, hB5, _, hR5, ?_⟩, by simp [intOf]; omega⟩
          rw [tyTo_succ, ← HRL.out]
          simp [rowsH, tyT]
        · have e : b = a := by omega
          subst e
          have HTN := Lib.hid HTJ.out.next
          clear HTJ
          go_wp2
          go_roundw
          case rel => exact ⟨b + 1, by omega, by go_num, HTN.out⟩
          case measure => simp [intOf]; omega
    · have e : a = n := by omega
      subst e
      have hrl := HRL.out
      rw [tyTo_end] at hrl
      have hL0 : 0 < L.length := by
        have h1 := tyAll_pos bs a (a := a) (by omega)
        rw [← hrl] at h1
        simpa [rowsH] using h1
      obtain ⟨G7, cap7, hu7⟩ := HR.out.own.form (by rw [List.length_map]; exact hL0)
      rw [List.length_map] at hu7
      simp at hu7
      obtain ⟨rfl, rfl⟩ := hu7
      have hRA : ∀ x ∈ L, RowAt wr G7 x := fun x hx => by
        obtain ⟨G', e, h⟩ := HR.out.row x hx
        obtain rfl : G7 = G' := by simpa [Value.ownBlock] using e
        exact h
      have HSORT := Lib.hid (sortR_any w3.heap.size G7 c7 L wr HR.out.own hRA (by omega))
      have HRA := Lib.hid hRA
      have HRLL := Lib.hid hrl
      have hG7 := HR.out.blk G7 rfl
      clear hrl hRA HCY HTJ
      go_wp2_with fail
      refine HSORT.out.mono ?_
      rintro e w5 ⟨rfl, L', hp, hsrt, hV5, hg5⟩
      have hl' : L'.length = L.length := hp.length_eq
      have hz5 := hg5.size
      have HP := Lib.hid (show (rowsH L').Perm (tyAll bs a a) by rw [← HRLL.out]; exact hp.map RowH.r)
      have HS' := Lib.hid (show SrtR (rowsH L') from List.pairwise_map.2 hsrt)
      have HRA' := Lib.hid fun x (hx : x ∈ L') => (HRA.out x (hp.mem_iff.1 hx)).kept hg5 (.inr rfl)
      have HB5 := Lib.hid (HB.out.grown hg5 (by omega) (fun r e => by cases e; exact hG7.1))
      have HV5 := Lib.hid hV5
      obtain ⟨N, hN⟩ : ∃ N, N = L.length := ⟨_, rfl⟩
      rw [← hN] at lL hl' HV5 ⊢
      have HH := Lib.hid fun (k : Nat) (hk : k < N) W (hb : Below w5.heap.size w5 W) => show ∃ p l cp, W.cell? ⟨G7, k, none⟩ = some (.slice p l cp) ∧ (L'[k]?.getD ⟨undef, []⟩).h = .slice p l cp ∧ IB W (.slice p l cp) ((rowsH L')[k]?.getD []) from by
        have hk' : k < L'.length := by omega
        have hra := HRA'.out L'[k] (List.getElem_mem hk')
        obtain ⟨p, l, cp, eh⟩ : ∃ p l cp, L'[k].h = .slice p l cp := by
          rcases hra.2 with ⟨a, c, e, _⟩ | ⟨b, off, cap, e, _⟩ <;> exact ⟨_, _, _, e⟩
        have hc := (HV5.out.at_ (i := k) (x := L'[k].h) (by simp [hk'])).1
        have hlt := (HV5.out.at_ (i := k) (x := L'[k].h) (by simp [hk'])).2.2.1
        refine ⟨p, l, cp, ?_, by simp [hk', eh], ?_⟩
        · rw [hb.cell (by exact hlt), hc, eh]
        · have := hra.ib.below hb (Nat.le_refl _)
          rw [eh] at this
          have e : (rowsH L')[k]?.getD [] = L'[k].r := by simp [rowsH, hk']
          rw [e]
          exact this
      clear hV5 hg5 hp hsrt HR HRL HSORT HRA HB HV5 hN hL0 HRLL
      go_wp2_with fail
      go_loopw [10, 11, 44] (fun u10 u11 i wx => ∃ (k : Nat) (T : List RowH), k ≤ N ∧ i = .int .i64 k ∧ GrI w5 wx u10 u11 L' k T) (fun _ _ i _ => N - (intOf i).toNat)
      case atStart => exact ⟨0, [], Nat.zero_le _, rfl, GrI.start _ _⟩
      case round =>
        obtain ⟨k, T, hk, rfl, hGR⟩ := hrel
        obtain ⟨aT, cT, aC, cC, rfl, rfl, hTk⟩ := hGR.forms
        have HGR := Lib.hid hGR
        by_cases hkl : k < N
        · obtain ⟨p, l, cp, hc, heh, hib⟩ := HH.out k hkl wr hGR.b
          have hkL : k < L'.length := by omega
          have HX := Lib.hid (show ∃ x : RowH, x ∈ L' ∧ x.h = .slice p l cp ∧ x.r = (rowsH L')[k]?.getD [] from ⟨L'[k], List.getElem_mem hkL, by rw [← heh]; simp [hkL], by simp [rowsH, hkL]⟩)
          have HIB := Lib.hid hib
          have hsB := hGR.b.size
          clear hGR heh hib
          rcases Nat.eq_zero_or_pos k with hk0 | hk0
          · have g1 : ((k : Int) == 0) = true := by simp; omega
            have g2 : decide ((k : Int) = 0) = true := decide_eq_true (by omega)
            have HK0 := Lib.hid hk0
            clear hk0
            have HN := Lib.hid (show k = 0 ∨ (rowsH L')[k - 1]?.getD [] ≠ (rowsH L')[k]?.getD [] from .inl HK0.out)
            go_upto_region 22 with (fail)
            obtain ⟨V, hV⟩ : ∃ V, V = wr := ⟨_, rfl⟩
            have HGV := HGR
            rw [← hV] at HGV hsB ⊢
            clear hV HGR HIB HH hc
            have hVs := HGV.out.b.size
            have hll : (T.map RowH.h).length = T.length := List.length_map _
            obtain ⟨zs, hzs⟩ : ∃ zs, zs = cntTT (grT (rowsH L') k) ((rowsH L').take k) := ⟨_, rfl⟩
            have hcl : zs.length = T.length := by rw [hzs]; exact HGV.out.len
            have HZS := Lib.hid hzs
            have HOW := Lib.hid (HGV.out.own.below ((Below.refl V.heap.size V).alloc (Nat.le_refl _) (.cells #[.slice p l cp] 26)) (Nat.le_refl _))
            clear hzs
            go_upto_region 23 with (at_builtin; refine wpList_append_hdr rfl _ _ rfl w5.heap.size _ (T.map RowH.h) rfl HOW.out V.heap.size 1 rfl p l cp (by simp [go_sem]) (by omega) (by simp; omega) ?_; intro G10 c10 w6 hV6 hg6 hG6; rw [hll] at hV6 ⊢)
            have hg6' : V.grownBy w6 (Value.slice aT T.length cT).ownBlock := gb_trans (World.grownBy_alloc _ _ none) hg6
            have hG6' : (Value.slice aT T.length cT).ownBlock = some G10 ∨ V.heap.size ≤ G10 := by
              rcases hG6 with h | h
              · exact .inl h
              · exact .inr (by rw [h]; simp)
            have hz6 := hg6'.size
            have hC6 : OwnJ w6 w5.heap.size (.slice aC T.length cC) zs := by
              rw [HZS.out]
              exact HGV.out.cnt.apart hg6' HGV.out.ap
            have HOC := Lib.hid (hC6.below ((Below.refl w6.heap.size w6).alloc (Nat.le_refl _) (.cells #[.int .i64 0] 2)) (Nat.le_refl _))
            have HV6 := Lib.hid hV6
            have HG6 := Lib.hid (And.intro hg6' hG6')
            clear hV6 hg6 hG6 hg6' hG6' hC6 HOW
            go_upto_region 24 with (at_builtin; refine wpList_append_int_at rfl _ _ rfl w5.heap.size _ zs rfl HOC.out w6.heap.size 1 0 rfl (by simp [go_sem]) (by omega) (by simp; omega) ?_; intro G11 c11 w7 hO7 hg7 hG7'; rw [hcl] at hO7 ⊢)
            have hg7' : w6.grownBy w7 (Value.slice aC T.length cC).ownBlock := gb_trans (World.grownBy_alloc _ _ none) hg7
            have hG7'' : (Value.slice aC T.length cC).ownBlock = some G11 ∨ w6.heap.size ≤ G11 := by
              rcases hG7' with h | h
              · exact .inl h
              · exact .inr (by rw [h]; simp)
            obtain ⟨x, hx1, hx2, hx3⟩ := HX.out
            obtain ⟨hnew, q7, f7⟩ := HGV.out.new (x := x) (by omega) HS'.out HN.out hx1 hx3 (by rw [hx2]; exact HV6.out) HG6.out.1 HG6.out.2 (by rw [← HZS.out]; exact hO7) hg7' hG7''
            have HNEW := Lib.hid hnew
            have ej : ((T.length + 1 : Nat) : Int) - 1 = (T.length : Int) := by omega
            have ej2 : (T.length : Int) + 1 - 1 = (T.length : Int) := by omega
            have ej3 : (0 : Int) ≤ (T.length : Int) := by omega
            clear hO7 hg7 hG7' hg7' hG7'' hnew hx1 hx2 hx3 HOC
            go_wp2
            exact ⟨⟨k + 1, T ++ [x], by omega, by go_num, HNEW.out⟩, by simp [intOf]; omega⟩
          · obtain ⟨j, hj⟩ : ∃ j, j = k - 1 := ⟨k - 1, rfl⟩
            obtain ⟨p0, l0, cp0, hc0, _, hib0⟩ := HH.out j (by omega) wr HGR.out.b
            have HEQ := Lib.hid (EqualD_any _ _ _ _ wr hib0 HIB.out)
            have g1 : ((k : Int) == 0) = false := by simp; omega
            have g2 : decide ((k : Int) = 0) = false := decide_eq_false (by omega)
            have ej0 : (k : Int) - 1 = (j : Int) := by omega
            have gj0 : (0 : Int) ≤ (j : Int) := by omega
            have gj1 : (j : Int) < (N : Int) := by omega
            have HJ := Lib.hid hj
            clear hib0 hj
            by_cases hn : (rowsH L')[j]?.getD [] = (rowsH L')[k]?.getD []
            · rw [show decide ((rowsH L')[j]?.getD [] = (rowsH L')[k]?.getD []) = true from decide_eq_true hn] at HEQ
              have HE := Lib.hid hn
              clear hn
              obtain ⟨m, hm⟩ := HGR.out.pos (by omega) HS'.out hk0
              have HM := Lib.hid hm
              clear hm
              go_wp2_with fail
              refine HEQ.out.mono ?_
              rintro e V ⟨rfl, nq, hVq⟩
              have HGV := Lib.hid (HGR.out.later (show Below wr.heap.size wr V by rw [hVq]; exact below_drewN (Below.refl _ _) nq))
              have hsame := HGV.out
              rw [HM.out] at hsame ⊢
              obtain ⟨G11, c, rfl, hck, q11, f11, hnew⟩ := hsame.same (by omega) HS'.out hk0 (by rw [← HJ.out]; exact HE.out) HM.out
              have HNEW := Lib.hid hnew
              have ej : ((m + 1 : Nat) : Int) - 1 = (m : Int) := by omega
              have ej2 : (m : Int) + 1 - 1 = (m : Int) := by omega
              have ej3 : (0 : Int) ≤ (m : Int) := by omega
              have hm3 : m ≤ 300 := by have := HM.out; omega
              have hwr : IntKind.i64.wrap ((c : Int) + 1) = (c : Int) + 1 := IntWalk.i64_in _ (by omega)
              clear hVq hsame hnew HGR HIB HH hc hc0 HX HEQ HE HGV
              go_wp2
              exact ⟨⟨k + 1, T, by omega, by go_num, HNEW.out⟩, by simp [intOf]; omega⟩
            · rw [show decide ((rowsH L')[j]?.getD [] = (rowsH L')[k]?.getD []) = false from decide_eq_false hn] at HEQ
              have HN := Lib.hid (show k = 0 ∨ (rowsH L')[k - 1]?.getD [] ≠ (rowsH L')[k]?.getD [] from .inr (by rw [← HJ.out]; exact hn))
              clear hn
              go_wp2_with fail
              refine HEQ.out.mono ?_
              rintro e V ⟨rfl, nq, hVq⟩
              have HGV := Lib.hid (HGR.out.later (show Below wr.heap.size wr V by rw [hVq]; exact below_drewN (Below.refl _ _) nq))
              clear hVq HGR HIB HH hc hc0 HEQ hsB
              go_upto_region 22 with (fail)
              have hVs := HGV.out.b.size
              have hll : (T.map RowH.h).length = T.length := List.length_map _
              obtain ⟨zs, hzs⟩ : ∃ zs, zs = cntTT (grT (rowsH L') k) ((rowsH L').take k) := ⟨_, rfl⟩
              have hcl : zs.length = T.length := by rw [hzs]; exact HGV.out.len
              have HZS := Lib.hid hzs
              have HOW := Lib.hid (HGV.out.own.below ((Below.refl V.heap.size V).alloc (Nat.le_refl _) (.cells #[.slice p l cp] 26)) (Nat.le_refl _))
              clear hzs
              go_upto_region 23 with (at_builtin; refine wpList_append_hdr rfl _ _ rfl w5.heap.size _ (T.map RowH.h) rfl HOW.out V.heap.size 1 rfl p l cp (by simp [go_sem]) (by omega) (by simp; omega) ?_; intro G10 c10 w6 hV6 hg6 hG6; rw [hll] at hV6 ⊢)
              have hg6' : V.grownBy w6 (Value.slice aT T.length cT).ownBlock := gb_trans (World.grownBy_alloc _ _ none) hg6
              have hG6' : (Value.slice aT T.length cT).ownBlock = some G10 ∨ V.heap.size ≤ G10 := by
                rcases hG6 with h | h
                · exact .inl h
                · exact .inr (by rw [h]; simp)
              have hz6 := hg6'.size
              have hC6 : OwnJ w6 w5.heap.size (.slice aC T.length cC) zs := by
                rw [HZS.out]
                exact HGV.out.cnt.apart hg6' HGV.out.ap
              have HOC := Lib.hid (hC6.below ((Below.refl w6.heap.size w6).alloc (Nat.le_refl _) (.cells #[.int .i64 0] 2)) (Nat.le_refl _))
              have HV6 := Lib.hid hV6
              have HG6 := Lib.hid (And.intro hg6' hG6')
              clear hV6 hg6 hG6 hg6' hG6' hC6 HOW
              go_upto_region 24 with (at_builtin; refine wpList_append_int_at rfl _ _ rfl w5.heap.size _ zs rfl HOC.out w6.heap.size 1 0 rfl (by simp [go_sem]) (by omega) (by simp; omega) ?_; intro G11 c11 w7 hO7 hg7 hG7'; rw [hcl] at hO7 ⊢)
              have hg7' : w6.grownBy w7 (Value.slice aC T.length cC).ownBlock := gb_trans (World.grownBy_alloc _ _ none) hg7
              have hG7'' : (Value.slice aC T.length cC).ownBlock = some G11 ∨ w6.heap.size ≤ G11 := by
                rcases hG7' with h | h
                · exact .inl h
                · exact .inr (by rw [h]; simp)
              obtain ⟨x, hx1, hx2, hx3⟩ := HX.out
              obtain ⟨hnew, q7, f7⟩ := HGV.out.new (x := x) (by omega) HS'.out HN.out hx1 hx3 (by rw [hx2]; exact HV6.out) HG6.out.1 HG6.out.2 (by rw [← HZS.out]; exact hO7) hg7' hG7''
              have HNEW := Lib.hid hnew
              have ej : ((T.length + 1 : Nat) : Int) - 1 = (T.length : Int) := by omega
              have ej2 : (T.length : Int) + 1 - 1 = (T.length : Int) := by omega
              have ej3 : (0 : Int) ≤ (T.length : Int) := by omega
              clear hO7 hg7 hG7' hg7' hG7'' hnew hx1 hx2 hx3 HOC
              go_wp2
              exact ⟨⟨k + 1, T ++ [x], by omega, by go_num, HNEW.out⟩, by simp [intOf]; omega⟩
        · have e : k = N := by omega
          subst e
          have hfin := HGR.out
          rw [← hl'] at hfin
          obtain ⟨f1, f2, f3, f4⟩ := hfin.done HS'.out HRA'.out HP.out
          have hzw := HB5.out.size
          have hwz : w.heap.size ≤ w5.heap.size := by omega
          have HF1 := Lib.hid (f1.base hwz)
          have HF3 := Lib.hid (f3.baseT hwz)
          have HF4 := Lib.hid (HB3.out.trans ((HB5.out.mono (by omega)).trans (f4.mono hwz)))
          have HF2 := Lib.hid f2
          clear f1 f3 f4 f2 hfin
          go_wp2
          exact bodyPost_ret (v := .tuple #[.slice aT T.length cT, .slice aC T.length cC, .int .i64 0]) (by simp [results, Try.results31, go_sem, *]) rfl ⟨_, _, T, rfl, HF1.out, HF2.out, HF3.out, HF4.out⟩
end Go.Proofs.Ytmgpmcjbnooklaa

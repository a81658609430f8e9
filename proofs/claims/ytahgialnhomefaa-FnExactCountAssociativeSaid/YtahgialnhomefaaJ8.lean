
/- The cycles of two points: plain. Two lists that grow beside each other: the points that were seen, and the cycles. impl.cyclesFrom. impl.thirdsOf. CyclesOf: the program. The types: plain. The outline's ascending list. A list that was made. The model's DegreesOf. -/
import Derived.Test.YtahgialnhomefaaJ7
import Derived.StillTailTactics
import Derived.BigQuiet
namespace Go.Proofs.Ytahgialnhomefaa
def CycOk (bs : List Blk) (a b : Nat) (s : Int) (N : Nat) : Prop := 0 < N ∧ N % 2 = 0 ∧ N ≤ 15 ∧ Fresh (third1 bs (a : Int)) (third1 bs (b : Int)) s N ∧ wk bs a b s N = s
open Classical in
noncomputable def perN (bs : List Blk) (a b : Nat) (s : Int) : Nat := if h : ∃ N, CycOk bs a b s N then Classical.choose h else 0
noncomputable def cyc (bs : List Blk) (a b : Nat) (s : Int) : List Int := wkL bs a b s (perN bs a b s)
def seen0 (bs : List Blk) (a b : Nat) : List Int := [(a : Int), (b : Int), third1 bs (a : Int) (b : Int)]
/-- The cycles after some points. -/
noncomputable def cyS (bs : List Blk) (a b : Nat) : Nat → List (List Int)
  | 0 => []
  | k + 1 => if (k : Int) ∈ seen0 bs a b ++ (cyS bs a b k).flatten then cyS bs a b k else cyS bs a b k ++ [cyc bs a b (k : Int)]
section
variable {n : Nat} {bs : List Blk} {a b : Nat}
theorem perN_ok (h : isSysImpl (n : Int) bs = true) (hf : fullB (n : Int) bs = true) (ha : a < n) (hb : b < n) (hab : a ≠ b) {s : Int} (hs : Beyond n bs (a : Int) (b : Int) s) : CycOk bs a b s (perN bs a b s) := by
  have ht := two_thirds h hf (a := (a : Int)) (b := (b : Int)) (by omega) (by omega) (by omega)
  have hn := (sys_size h).2.1
  obtain ⟨N, h0, h2, hl, hfr, he⟩ := ht.period hs (l := (List.range n).map fun (k : Nat) => (k : Int)) (fun x hx => List.mem_map.2 ⟨x.toNat, List.mem_range.2 (by have := hx.1; omega), by have := hx.1; omega⟩)
  have hex : ∃ N, CycOk bs a b s N := ⟨N, h0, h2, by simp at hl; omega, hfr, he⟩
  unfold perN
  rw [dif_pos hex]
  exact Classical.choose_spec hex
theorem cyc_len (h : isSysImpl (n : Int) bs = true) (hf : fullB (n : Int) bs = true) (ha : a < n) (hb : b < n) (hab : a ≠ b) {s : Int} (hs : Beyond n bs (a : Int) (b : Int) s) : (cyc bs a b s).length ≤ 15 ∧ 0 < (cyc bs a b s).length := by
  have := perN_ok h hf ha hb hab hs
  unfold cyc
  rw [wkL_len]
  exact ⟨this.2.2.1, this.1⟩
theorem mem_cyc {s x : Int} : x ∈ cyc bs a b s ↔ ∃ k, k < perN bs a b s ∧ wk bs a b s k = x := by
  simp [cyc, wkL]
/-- What is in the cycles is beyond, and closed. -/
theorem cyS_closed (h : isSysImpl (n : Int) bs = true) (hf : fullB (n : Int) bs = true) (ha : a < n) (hb : b < n) (hab : a ≠ b) : ∀ k, k ≤ n → ∀ x ∈ (cyS bs a b k).flatten, Beyond n bs (a : Int) (b : Int) x ∧ third1 bs (a : Int) x ∈ (cyS bs a b k).flatten ∧ third1 bs (b : Int) x ∈ (cyS bs a b k).flatten
  | 0, _, x, hx => by simp [cyS] at hx
  | k + 1, hk, x, hx => by
    have ih := cyS_closed h hf ha hb hab k (by omega)
    have ht := two_thirds h hf (a := (a : Int)) (b := (b : Int)) (by omega) (by omega) (by omega)
    unfold cyS at hx ⊢
    split
    · rename_i hm
      rw [if_pos hm] at hx
      exact ih x hx
    · rename_i hm
      rw [if_neg hm] at hx
      have hB : Beyond n bs (a : Int) (b : Int) (k : Int) := by
        simp only [seen0, List.mem_append, List.mem_cons, List.not_mem_nil, or_false, not_or] at hm
        exact ⟨by omega, hm.1.1, hm.1.2.1, hm.1.2.2⟩
      have hok := perN_ok h hf ha hb hab hB
      simp only [List.flatten_append, List.flatten_cons, List.flatten_nil, List.append_nil, List.mem_append] at hx ⊢
      rcases hx with hx | hx
      · obtain ⟨h1, h2, h3⟩ := ih x hx
        exact ⟨h1, .inl h2, .inl h3⟩
      · obtain ⟨j, hj, rfl⟩ := mem_cyc.1 hx
        obtain ⟨⟨i1, hi1, e1⟩, ⟨i2, hi2, e2⟩⟩ := ht.closed hB hok.1 hok.2.1 hok.2.2.2.2 hj
        exact ⟨ht.mem hB j, .inr (mem_cyc.2 ⟨i1, hi1, e1.symm⟩), .inr (mem_cyc.2 ⟨i2, hi2, e2.symm⟩)⟩
theorem wk_notin (h : isSysImpl (n : Int) bs = true) (hf : fullB (n : Int) bs = true) (ha : a < n) (hb : b < n) (hab : a ≠ b) {k : Nat} (hk : k ≤ n) {s : Int} (hs : Beyond n bs (a : Int) (b : Int) s) (hn : s ∉ (cyS bs a b k).flatten) : ∀ j, wk bs a b s j ∉ (cyS bs a b k).flatten
  | 0 => hn
  | j + 1 => fun hm => by
    have ht := two_thirds h hf (a := (a : Int)) (b := (b : Int)) (by omega) (by omega) (by omega)
    obtain ⟨_, h2, h3⟩ := cyS_closed h hf ha hb hab k hk _ hm
    have hbk := ht.back hs j
    refine wk_notin h hf ha hb hab hk hs hn j ?_
    show stepN _ _ s j ∈ _
    rw [← hbk]
    split
    · exact h2
    · exact h3
theorem cyS_step (k : Nat) : (∃ R, cyS bs a b (k + 1) = cyS bs a b k ++ R) := by
  rw [show cyS bs a b (k + 1) = if (k : Int) ∈ seen0 bs a b ++ (cyS bs a b k).flatten then cyS bs a b k else cyS bs a b k ++ [cyc bs a b (k : Int)] from rfl]
  split
  · exact ⟨[], by simp⟩
  · exact ⟨_, rfl⟩
theorem cyS_pre {k m : Nat} (hk : k ≤ m) : ∃ R, cyS bs a b m = cyS bs a b k ++ R := by
  induction hk with
  | refl => exact ⟨[], by simp⟩
  | step _ ih =>
    obtain ⟨R, hR⟩ := ih
    obtain ⟨R', hR'⟩ := cyS_step (bs := bs) (a := a) (b := b) _
    exact ⟨R ++ R', by rw [hR', hR, List.append_assoc]⟩
theorem cyS_len : ∀ k, (cyS bs a b k).length ≤ k
  | 0 => Nat.le_refl _
  | k + 1 => by
    have := cyS_len k
    unfold cyS
    split
    · omega
    · simp; omega
theorem cyS_rows (h : isSysImpl (n : Int) bs = true) (hf : fullB (n : Int) bs = true) (ha : a < n) (hb : b < n) (hab : a ≠ b) : ∀ k, k ≤ n → ∀ r ∈ cyS bs a b k, r.length ≤ 15
  | 0, _, r, hr => by simp [cyS] at hr
  | k + 1, hk, r, hr => by
    have ih := cyS_rows h hf ha hb hab k (by omega)
    unfold cyS at hr
    split at hr
    · exact ih r hr
    · rename_i hm
      have hB : Beyond n bs (a : Int) (b : Int) (k : Int) := by
        simp only [seen0, List.mem_append, List.mem_cons, List.not_mem_nil, or_false, not_or] at hm
        exact ⟨by omega, hm.1.1, hm.1.2.1, hm.1.2.2⟩
      rcases List.mem_append.1 hr with hr | hr
      · exact ih r hr
      · simp at hr
        rw [hr]
        exact (cyc_len h hf ha hb hab hB).1
end
end Go.Proofs.Ytahgialnhomefaa

namespace Go.Proofs.Ytahgialnhomefaa
open Go.RowKit Go.Maps
/-- Appending all of a row to a list of one's own that is not empty: the grown list lies where it lay, or beyond all. -/
theorem wpList_append_ints_at {w : World} {ops : Array Oper} {rest : List Oper} {o : Oper} {a : Act} {Q : Exit → Act → World → Prop} (hgd : o.guard = none) (s x : Operand)
    (ho : o.op = .call { callee := .builtin .append, args := #[s, x], argTypes := #[38, 38] })
    (base : Nat) (v : Value) (zs : List Int) (hs : a.eval s = v) (hown : OwnJ w base v zs) (hne : 0 < zs.length) (b0 off c : Nat) (ys : List Int) (hx : a.eval x = .slice (some ⟨b0, off, none⟩) ys.length c)
    (hy : Ints w b0 off ys) (hl : zs.length + ys.length ≤ 3300000) (hbase : base ≤ w.heap.size)
    (h : ∀ (g cap : Nat) (w' : World), OwnJ w' base (.slice (some ⟨g, 0, none⟩) (zs.length + ys.length) cap) (zs ++ ys) → w.grownBy w' v.ownBlock → (v.ownBlock = some g ∨ g = w.heap.size) → wpList Try.prog ops Q rest (a.put o.dst (.slice (some ⟨g, 0, none⟩) (zs.length + ys.length) cap)) w') : wpList Try.prog ops Q (o :: rest) a w := by
  obtain ⟨i0, hi, hz0, hz1, hz2⟩ := info_parts infoInt64
  refine wpList_append_own_at w hgd s x 38 ho base 2 i0 _ 1 8 Try.underlying38 hi hz0 hz1 hz2 rfl (by decide) v zs.length (zs.map (Value.int .i64)) hs hown ⟨b0, off, none⟩ ys.length c (ys.map (Value.int .i64)) hx (by simp) ?_ ?_ (by unfold maxLen; omega) (by omega) hbase ?_
  · intro j u hj
    rw [addr_at]
    rw [List.getElem?_map] at hj
    cases hq : ys[j]? with
    | none => rw [hq] at hj; cases hj
    | some z =>
      rw [hq] at hj
      have hjl : j < ys.length := by
        rcases Nat.lt_or_ge j ys.length with h1 | h1
        · exact h1
        · rw [List.getElem?_eq_none h1] at hq; cases hq
      have := hy j hjl
      rw [hq] at this
      simp at hj
      rw [← hj]
      exact this
  · intro u hu
    obtain ⟨z, _, rfl⟩ := List.mem_map.1 hu
    rfl
  · intro v' w' hown' hg _ hob
    obtain ⟨m, hm⟩ : ∃ m, zs.length + ys.length = m + 1 := ⟨zs.length + ys.length - 1, by omega⟩
    have hv : ∃ g cap, v' = .slice (some ⟨g, 0, none⟩) (zs.length + ys.length) cap := by
      rcases hown'.2 with ⟨_, h0⟩ | ⟨g, cap, _, rfl, _⟩
      · omega
      · exact ⟨g, cap, rfl⟩
    obtain ⟨g, cap, rfl⟩ := hv
    refine h g cap w' ?_ hg ?_
    · unfold OwnJ
      rw [List.length_append, List.map_append]
      exact hown'
    · rcases hob with e | e
      · exact .inl (by rw [← e]; rfl)
      · exact .inr (by simpa [Value.ownBlock] using e)
theorem wpList_append_row_at {w : World} {ops : Array Oper} {rest : List Oper} {o : Oper} {a : Act} {Q : Exit → Act → World → Prop} (hgd : o.guard = none) (s x : Operand)
    (ho : o.op = .call { callee := .builtin .append, args := #[s, x], argTypes := #[57, 57] })
    (base : Nat) (v : Value) (n : Nat) (gs caps : Nat → Nat) (F : Nat → List Int) (hs : a.eval s = v) (hown : AccS w base v n gs caps F) (b0 c : Nat) (hx : a.eval x = .slice (some ⟨b0, 0, none⟩) 1 c) (g cg : Nat)
    (c1 : w.cell? ⟨b0, 0, none⟩ = some (.slice (some ⟨g, 0, none⟩) (F n).length cg)) (hrow : OwnAtI w g (F n)) (hgt : ∀ k, k < n → gs k < g) (hng : v.ownBlock ≠ some g) (hbg : base ≤ g) (hl : n ≤ 1100000) (hbase : base ≤ w.heap.size)
    (h : ∀ (G cap : Nat) (w' : World), AccS w' base (.slice (some ⟨G, 0, none⟩) (n + 1) cap) (n + 1) (fun k => if k = n then g else gs k) (fun k => if k = n then cg else caps k) F → w.grownBy w' v.ownBlock → (v.ownBlock = some G ∨ G = w.heap.size) → wpList Try.prog ops Q rest (a.put o.dst (.slice (some ⟨G, 0, none⟩) (n + 1) cap)) w') : wpList Try.prog ops Q (o :: rest) a w := by
  obtain ⟨i0, hi, hz0, hz1, hz2⟩ := info_parts infoRow
  refine wpList_append_own_at w hgd s x 57 ho base 38 i0 _ 1 24 Try.underlying57 hi hz0 hz1 hz2 rfl (by decide) v n _ hs hown.own ⟨b0, 0, none⟩ 1 c [.slice (some ⟨g, 0, none⟩) (F n).length cg] hx rfl ?_ ?_ (by unfold maxLen; omega) (by omega) hbase ?_
  · intro j u hj
    rw [addr_at, Nat.zero_add]
    match j, hj with
    | 0, hj => simp at hj; rw [← hj]; exact c1
    | j + 1, hj => simp at hj
  · intro u hu
    simp at hu
    rw [hu]
    rfl
  · intro v' w' hown' hg _ hob
    obtain ⟨G, cap, rfl⟩ := row_some hown'
    have hGg : G ≠ g := by
      rintro rfl
      rcases hob with e | e
      · exact hng (by rw [← e]; rfl)
      · simp [Value.ownBlock] at e
        have := hrow.lt
        omega
    refine h G cap w' ⟨?_, fun k hk => ?_, fun k hk => ?_, fun j k hjk hk => ?_, fun k hk => ?_⟩ hg ?_
    · rw [List.range_succ, List.map_append, List.map_singleton]
      have e1 : (List.range n).map (rowV (fun k => if k = n then g else gs k) (fun k => if k = n then cg else caps k) F) = (List.range n).map (rowV gs caps F) := map_congr' fun k hk => by
        have : k ≠ n := by have := List.mem_range.1 hk; omega
        simp [rowV, this]
      rw [e1]
      simpa [rowV] using hown'
    · split
      · subst k; exact hrow.kept hg (fun e => hng e.symm)
      · exact (hown.row k (by omega)).kept hg (fun e => hown.ne k (by omega) e.symm)
    · split
      · simpa [Value.ownBlock] using hGg
      · intro e
        have e' : G = gs k := by simpa [Value.ownBlock] using e
        rcases hob with e2 | e2
        · exact hown.ne k (by omega) (by rw [← e2, e])
        · simp [Value.ownBlock] at e2
          have := (hown.row k (by omega)).lt
          omega
    · rw [if_neg (by omega)]
      split
      · exact Nat.ne_of_lt (hgt j (by omega))
      · exact hown.inc j k hjk (by omega)
    · split
      · exact hbg
      · exact hown.low k (by omega)
    · rcases hob with e | e
      · exact .inl (by rw [← e]; rfl)
      · exact .inr (by simpa [Value.ownBlock] using e)
/-- The list of the points that were seen, in block sB, and the rows beside it. -/
structure CyM (w : World) (base sB sc : Nat) (sl : List Int) (cv : Value) (m : Nat) (gs caps : Nat → Nat) (F : Nat → List Int) : Prop where
  own : OwnJ w base (.slice (some ⟨sB, 0, none⟩) sl.length sc) sl
  acc : AccS w base cv m gs caps F
  ne : cv.ownBlock ≠ some sB
  nr : ∀ k, k < m → gs k ≠ sB
theorem CyM.kept {w w' : World} {base sB sc : Nat} {sl : List Int} {cv : Value} {m : Nat} {gs caps : Nat → Nat} {F : Nat → List Int} (h : CyM w base sB sc sl cv m gs caps F) (hg : w.grownBy w' none) : CyM w' base sB sc sl cv m gs caps F :=
  ⟨ownsRow_kept h.own hg (.inl rfl), h.acc.kept hg (.inl rfl) (fun _ _ e => by cases e), h.ne, h.nr⟩
end Go.Proofs.Ytahgialnhomefaa

namespace Go.Proofs.Ytahgialnhomefaa
open Go.RowKit Go.Maps
theorem inL_mem {p : Int} {l : List Int} : inL p l = true ↔ p ∈ l := by
  unfold inL
  rw [List.any_eq_true]
  constructor
  · rintro ⟨x, hx, e⟩
    have : p = x := by simpa using e
    exact this ▸ hx
  · intro h
    exact ⟨p, h, by simp⟩
theorem lit3J (W : World) (x y z : Int) {base : Nat} (hb : base ≤ W.heap.size) : OwnJ (W.alloc (.cells #[.int .i64 x, .int .i64 y, .int .i64 z] 2)) base (.slice (some ⟨W.heap.size, 0, none⟩) 3 3) [x, y, z] :=
  ⟨rfl, .inr ⟨W.heap.size, 3, #[.int .i64 x, .int .i64 y, .int .i64 z], rfl, hb, World.alloc_heap_new W _, Nat.le_refl _, by decide, rfl, rfl⟩⟩
theorem OwnJ.ints0 {w : World} {base sB k sc : Nat} {sl : List Int} (h : OwnJ w base (.slice (some ⟨sB, 0, none⟩) k sc) sl) (hl : sl.length ≤ 1100000) : Ints w sB 0 sl ∧ k = sl.length ∧ sB < w.heap.size ∧ base ≤ sB := by
  have hr := h.row sB rfl
  rcases h.res hl with ⟨_, a, c, e⟩ | ⟨g, cap, e, h1, h2, ho⟩
  · rcases h.2 with ⟨e2, _⟩ | ⟨g, cap, cur, e2, _⟩
    · cases e2
    · simp at e2
      have e3 := h.1
      cases e
      simp at e3
      have : sl = [] := List.length_eq_zero_iff.1 (by omega)
      subst this
      refine ⟨fun k hk => absurd hk (Nat.not_lt_zero k), rfl, ?_, hr⟩
      rcases h.2 with ⟨e5, _⟩ | ⟨g5, cap5, cur5, e5, _, hcur, _⟩
      · cases e5
      · simp at e5
        obtain ⟨rfl, _⟩ := e5
        exact (Array.getElem?_eq_some_iff.1 hcur).1
  · simp at e
    obtain ⟨rfl, rfl, _⟩ := e
    exact ⟨ho.at_, rfl, h2, hr⟩
theorem cyS_next_in {bs : List Blk} {a b k : Nat} (h : (k : Int) ∈ seen0 bs a b ++ (cyS bs a b k).flatten) : cyS bs a b (k + 1) = cyS bs a b k := by
  rw [show cyS bs a b (k + 1) = if (k : Int) ∈ seen0 bs a b ++ (cyS bs a b k).flatten then cyS bs a b k else cyS bs a b k ++ [cyc bs a b (k : Int)] from rfl, if_pos h]
theorem cyS_next_out {bs : List Blk} {a b k : Nat} (h : ¬ (k : Int) ∈ seen0 bs a b ++ (cyS bs a b k).flatten) : cyS bs a b (k + 1) = cyS bs a b k ++ [cyc bs a b (k : Int)] := by
  rw [show cyS bs a b (k + 1) = if (k : Int) ∈ seen0 bs a b ++ (cyS bs a b k).flatten then cyS bs a b k else cyS bs a b k ++ [cyc bs a b (k : Int)] from rfl, if_neg h]
theorem beyond_of {n k a b : Nat} {bs : List Blk} (hk : k < n) (h : ¬ (k : Int) ∈ seen0 bs a b ++ (cyS bs a b k).flatten) : Beyond n bs (a : Int) (b : Int) (k : Int) ∧ (k : Int) ∉ (cyS bs a b k).flatten := by
  simp only [seen0, List.mem_append, List.mem_cons, List.not_mem_nil, or_false, not_or] at h
  exact ⟨⟨by omega, h.1.1, h.1.2.1, h.1.2.2⟩, h.2⟩
theorem CyM.step1 {w w' : World} {base sB sc l g3 gS : Nat} {sl cy : List Int} {cv : Value} {m : Nat} {gs caps : Nat → Nat} {F : Nat → List Int} (h : CyM w base sB sc sl cv m gs caps F)
    (hg : w.grownBy w' (Value.slice (some ⟨sB, 0, none⟩) l sc).ownBlock) (he : (Value.slice (some ⟨sB, 0, none⟩) l sc).ownBlock = some gS ∨ gS = w.heap.size) (ho : OwnAtI w g3 cy) (hne : sB ≠ g3) :
    (gS = sB ∨ gS = w.heap.size) ∧ AccS w' base cv m gs caps F ∧ OwnAtI w' g3 cy := by
  refine ⟨?_, ?_, ?_⟩
  · rcases he with e | e
    · left
      simp [Value.ownBlock] at e
      exact e.symm
    · exact .inr e
  · exact h.acc.kept hg (.inr fun e => h.ne e) (fun j hj e => h.nr j hj (by simpa [Value.ownBlock] using e))
  · exact ho.kept hg (by simp [Value.ownBlock]; omega)
theorem CyM.step2 {w4 w5 w6 : World} {base sB N3 g3 gS capS gC capC : Nat} {sl : List Int} {cv : Value} {m : Nat} {gs gs' caps' : Nat → Nat} {F : Nat → List Int}
    (hO : OwnJ w4 base (.slice (some ⟨gS, 0, none⟩) sl.length capS) sl) (h45 : w4.grownBy w5 none) (h56 : w5.grownBy w6 cv.ownBlock) (he : cv.ownBlock = some gC ∨ gC = w5.heap.size)
    (hA : AccS w6 base (.slice (some ⟨gC, 0, none⟩) (m + 1) capC) (m + 1) gs' caps' F) (hgs : ∀ k, gs' k = if k = m then g3 else gs k) (hS : gS = sB ∨ gS = N3) (hxl : ∀ r, cv.ownBlock = some r → r < N3) (hne : cv.ownBlock ≠ some sB)
    (hg : ∀ j, j < m → gs j < N3 ∧ gs j ≠ sB) (h3 : g3 < N3 ∧ g3 ≠ sB) (hlt : gS < w4.heap.size) : CyM w6 base gS capS sl (.slice (some ⟨gC, 0, none⟩) (m + 1) capC) (m + 1) gs' caps' F := by
  have hcv : cv.ownBlock ≠ some gS := fun e => by
    rcases hS with rfl | rfl
    · exact hne e
    · exact Nat.lt_irrefl _ (hxl _ e)
  refine ⟨ownsRow_kept (ownsRow_kept hO h45 (.inl rfl)) h56 (.inr fun e => hcv e.symm), hA, ?_, fun k hk => ?_⟩
  · intro e
    have e : gC = gS := by simpa [Value.ownBlock] using e
    subst e
    rcases he with e | e
    · exact hcv e
    · have := h45.size; omega
  · rw [hgs]
    split
    · rcases hS with rfl | rfl
      · exact h3.2
      · omega
    · rcases hS with rfl | rfl
      · exact (hg k (by omega)).2
      · have := (hg k (by omega)).1; omega
theorem flat_le {l : List (List Int)} (h : ∀ r ∈ l, r.length ≤ 15) : l.flatten.length ≤ 15 * l.length := by
  induction l with
  | nil => simp
  | cons r l ih =>
    have h1 := h r List.mem_cons_self
    have h2 := ih fun x hx => h x (List.mem_cons_of_mem _ hx)
    simp only [List.flatten_cons, List.length_append, List.length_cons]
    omega
end Go.Proofs.Ytahgialnhomefaa

namespace Go.Proofs.Ytahgialnhomefaa
open Go.RowKit Go.Maps
set_option maxRecDepth 100000 in
set_option maxHeartbeats 8000000 in
theorem thirdsOf_any (n : Nat) (s : Value) (bs : List Blk) (w : World) (h : SB w s bs) (hi : isSysImpl (n : Int) bs = true) :
    Calls Try.prog 86 #[.agg #[.int .i64 (n : Int), s]] w (fun e w' => ∃ G gs caps, e = .returned (.slice (some ⟨G, 0, none⟩) n n) ∧ w.heap.size ≤ G ∧ Below w.heap.size w w' ∧ SSR w' w.heap.size G gs caps n (rowT n (tabN bs))) := by
  have hs := h.slice
  obtain ⟨hv3, hv15, hb35⟩ := sys_size hi
  have HI := Lib.hid hi
  have HG := Lib.hid (sys_good hi)
  have HSX := Lib.hid h.sx
  have hmr := mkRow n (by omega)
  have hmo := mkRows n (by omega)
  clear h hi
  obtain ⟨a0, c0, rfl⟩ := hs
  go_enter Try.func86, Try.ntmps86
  go_wp2_with fail
  obtain ⟨W1, hW1⟩ : ∃ W1, W1 = w.alloc (.cells #[.int .i64 (n : Int), .slice a0 bs.length c0] 30) := ⟨_, rfl⟩
  have hz1 : W1.heap.size = w.heap.size + 1 := by rw [hW1]; simp
  have p0 : W1.cell? ⟨w.heap.size, 0, none⟩ = some (.int .i64 (n : Int)) := by rw [hW1]; simp [go_sem]
  have p1 : W1.cell? ⟨w.heap.size, 1, none⟩ = some (.slice a0 bs.length c0) := by rw [hW1]; simp [go_sem]
  have HB1 := Lib.hid (show Below w.heap.size w W1 by rw [hW1]; exact (Below.refl _ _).alloc (Nat.le_refl _) _)
  rw [← hW1]
  clear hW1
  go_loopw [14] (fun i wr => ∃ (k : Nat) (gs caps : Nat → Nat), k ≤ n ∧ i = .int .i64 k ∧ Below (w.heap.size + 1) W1 wr ∧ w.heap.size + 1 < wr.heap.size ∧ SSR wr (w.heap.size + 1) (w.heap.size + 1) gs caps k (rowT n fun _ _ => 0) ∧ (∀ q, q < n → ∃ u, wr.cell? ⟨w.heap.size + 1, q, none⟩ = some u) ∧ (∀ o, wr.frozen? ⟨w.heap.size + 1, o, none⟩ = false)) (fun i _ => n - (intOf i).toNat)
  case atStart =>
    rw [← hz1]
    exact ⟨0, fun _ => 0, fun _ => 0, Nat.zero_le _, rfl, (Below.refl _ _).alloc (Nat.le_refl _) _, by simp, ⟨fun k hk => by omega, fun k hk => by omega, fun k hk => by omega, fun j k _ hk => by omega, fun k hk => by omega, by simp⟩, fun q hq => by rw [World.cell?_alloc_at _ _ _ _ rfl]; exact ⟨.slice none 0 0, by simp [madeCells, hq, Nat.mod_one]⟩, fun o => by simp⟩
  case round =>
    obtain ⟨k, gs, caps, hk, rfl, hB, hz, hS, hcs, hfz⟩ := hrel
    have HS := Lib.hid hS
    have HB := Lib.hid hB
    have r0 := (hB.cell (p := ⟨w.heap.size, 0, none⟩) (by simp)).trans p0
    have r1 := (hB.cell (p := ⟨w.heap.size, 1, none⟩) (by simp)).trans p1
    by_cases hkl : k < n
    · obtain ⟨u, hu⟩ := hcs k hkl
      have hf := hfz k
      have HC := Lib.hid hcs
      have HFZ := Lib.hid hfz
      have g0 : (0 : Int) ≤ (k : Int) := by omega
      have g1 : (k : Int) < (n : Int) := by omega
      clear hS hB hcs hfz
      obtain ⟨w1, hw1⟩ : ∃ w1, w1 = wr.alloc (.cells (madeCells #[.int .i64 0] n) 2) := ⟨_, rfl⟩
      have hb1 : Below wr.heap.size wr w1 := by rw [hw1]; exact (Below.refl _ _).alloc (Nat.le_refl _) _
      have ho1 : OwnAtI w1 wr.heap.size (List.replicate n 0) := by rw [hw1]; exact made_ints wr n _
      have hz2 : w1.heap.size = wr.heap.size + 1 := by rw [hw1]; simp
      have m1 : (wr.alloc (.cells (madeCells #[.int .i64 0] n) 2)).cell? ⟨w.heap.size + 1, k, none⟩ = some u := by rw [← hw1]; exact (hb1.cell (p := ⟨w.heap.size + 1, k, none⟩) hz).trans hu
      have f1 : (wr.alloc (.cells (madeCells #[.int .i64 0] n) 2)).frozen? ⟨w.heap.size + 1, k, none⟩ = false := by rw [← hw1]; exact (hb1.frozen (p := ⟨w.heap.size + 1, k, none⟩) hz).trans hf
      have HW := Lib.hid hw1
      have HB1 := Lib.hid hb1
      have HO1 := Lib.hid ho1
      clear hw1 hb1 ho1
      go_wp2_with fail
      rw [← HW.out] at m1 f1
      have hsw : (wr.setCell ⟨w.heap.size + 1, k, none⟩ (.slice (some ⟨wr.heap.size, 0, none⟩) n n)).alloc (.cells (madeCells #[.int .i64 0] n) 2) = w1.setCell ⟨w.heap.size + 1, k, none⟩ (.slice (some ⟨wr.heap.size, 0, none⟩) n n) := by rw [HW.out]; exact (World.setCell_alloc_past _ _ _ _ hz).symm
      rw [hsw]
      have hS1 := HS.out.below HB1.out (Nat.le_refl _)
      have hst := only_setCell (only_refl w1 (some (w.heap.size + 1))) (p := ⟨w.heap.size + 1, k, none⟩) rfl (.slice (some ⟨wr.heap.size, 0, none⟩) n n)
      go_roundw
      case rel =>
        refine ⟨k + 1, fun q => if q = k then wr.heap.size else gs q, fun q => if q = k then n else caps q, by omega, by go_num, (HB.out.trans (HB1.out.mono (by omega))).setCell (p := ⟨w.heap.size + 1, k, none⟩) (Nat.le_refl _) _, by simp [World.setCell]; omega, ⟨fun q hq => ?_, fun q hq => ?_, fun q hq => ?_, fun p q hpq hq => ?_, fun q hq => ?_, by simp [World.setCell]; omega⟩, fun q hq => ?_, fun o => by rw [World.frozen?_setCell]; exact (HB1.out.frozen (p := ⟨w.heap.size + 1, o, none⟩) hz).trans (HFZ.out o)⟩
        · by_cases e : q = k
          · subst e
            rw [World.cell?_setCell_same' _ _ _ (by rw [m1]; rfl)]
            simp [rowT_len]
          · rw [World.cell?_setCell_other _ _ _ _ (by simp <;> omega), hS1.cell q (by omega)]
            simp [e]
        · by_cases e : q = k
          · subst e
            simp only [if_pos]
            rw [rowT_zero]
            exact HO1.out.kept hst (by simp; omega)
          · simp only [if_neg e]
            exact (hS1.row q (by omega)).kept hst (by have := hS1.ne q (by omega); simpa using this)
        · by_cases e : q = k
          · simp only [if_pos e]; omega
          · simp only [if_neg e]; exact hS1.ne q (by omega)
        · have e1 : p ≠ k := by omega
          simp only [if_neg e1]
          by_cases e : q = k
          · simp only [if_pos e]
            exact Nat.ne_of_lt (HS.out.row p (by omega)).lt
          · simp only [if_neg e]
            exact hS1.inc p q hpq (by omega)
        · by_cases e : q = k
          · simp only [if_pos e]; omega
          · simp only [if_neg e]; exact hS1.low q (by omega)
        · by_cases e : q = k
          · subst e
            exact ⟨_, World.cell?_setCell_same' _ _ _ (by rw [m1]; rfl)⟩
          · obtain ⟨u', hu'⟩ := HC.out q hq
            exact ⟨u', by rw [World.cell?_setCell_other _ _ _ _ (by simp <;> omega)]; exact (HB1.out.cell (p := ⟨w.heap.size + 1, q, none⟩) hz).trans hu'⟩
      case measure => simp [intOf]; omega
    · have e : k = n := by omega
      have dk : (n : Int) ≤ (k : Int) := by omega
      have dk2 : decide (k < n) = false := by simp; omega
      rw [e] at HS
      have HS0 := Lib.hid (HS.out.congr (F' := rowT n (tabN (bs.take 0))) (fun j _ => rowT_congr fun q _ => by simp [tabN, tabI]))
      clear e hkl hk hS hB hcs hfz HS
      obtain ⟨W2, rfl⟩ : ∃ W2, W2 = wr := ⟨_, rfl⟩
      go_wp2_with fail
      clear dk dk2
      go_loopw [27] (fun i wr => ∃ m : Nat, m ≤ bs.length ∧ i = .int .i64 m ∧ Below (w.heap.size + 1) W1 wr ∧ SSR wr (w.heap.size + 1) (w.heap.size + 1) gs caps n (rowT n (tabN (bs.take m)))) (fun i _ => bs.length - (intOf i).toNat)
      case atStart => exact ⟨0, Nat.zero_le _, rfl, HB.out, HS0.out⟩
      case round =>
        obtain ⟨m, hm, rfl, hB, hS⟩ := hrel
        have HBm := Lib.hid hB
        have HSm := Lib.hid hS
        have hzm := hB.size
        clear hB hS
        by_cases hml : m < bs.length
        · have hbw : Below w.heap.size w wr := HB1.out.trans (HBm.out.mono (by omega))
          rcases HSX.out with ⟨_, _, _, hnil⟩ | ⟨b, off, cap, hv, hblt, hbl⟩
          · rw [hnil] at hml; simp at hml
          simp at hv
          obtain ⟨rfl, rfl⟩ := hv
          obtain ⟨x, hx, ex, x1, x2, x3⟩ := blks_at (hbl.below hbw hblt) hml
          have hgx := goodB_iff.1 (HG.out x hx)
          obtain ⟨xa, xb, xc⟩ := x
          dsimp only at hgx x1 x2 x3
          obtain ⟨p, rfl⟩ := Int.eq_ofNat_of_zero_le hgx.1
          obtain ⟨q, rfl⟩ := Int.eq_ofNat_of_zero_le (show 0 ≤ xb by omega)
          obtain ⟨r, rfl⟩ := Int.eq_ofNat_of_zero_le (show 0 ≤ xc by omega)
          have hp : p < n := by omega
          have hq : q < n := by omega
          have hr : r < n := by omega
          have HSIX := Lib.hid (fun j k => six_tab HI.out hml ex (show p < q by omega) (show q < r by omega) j k)
          have i0 : (0 : Int) ≤ (m : Int) := by omega
          have i1 : (m : Int) < (bs.length : Int) := by omega
          have hB0 := hzm
          have TB0 : TBx W1 (wr.alloc (.cells #[.int .i64 (p : Int), .int .i64 (q : Int), .int .i64 (r : Int)] 84)) (w.heap.size + 1) (w.heap.size + 1) wr.heap.size gs caps n (tabN (bs.take m)) p q r :=
            ⟨HBm.out.alloc (by omega) _, HSm.out.below ((Below.refl _ _).alloc (Nat.le_refl _) _) (Nat.le_refl _), by simp [go_sem], by simp [go_sem], by simp [go_sem], fun j hj => (HSm.out.row j hj).lt⟩
          have HTB0 := Lib.hid TB0
          clear TB0 hgx hx ex hbl
          go_wp2_with fail
          obtain ⟨V0, hV0⟩ : ∃ V0, V0 = wr.alloc (.cells #[.int .i64 (p : Int), .int .i64 (q : Int), .int .i64 (r : Int)] 84) := ⟨_, rfl⟩
          rw [← hV0] at HTB0 ⊢
          clear hV0 x1 x2 x3
          refine wp_loop_rounds 4 ?_
          rw [rounds_succ]
          go_wp2_with fail
          refine wp_loop_rounds 4 ?_
          rw [rounds_succ]
          go_wp2_with fail
          rw [rounds_succ]
          go_wp2_with fail
          have c0 := HTB0.out.c0
          have c1 := HTB0.out.c1
          have c2 := HTB0.out.c2
          have o1 := HTB0.out.tab.cell p hp
          rw [rowT_len] at o1
          have s1 := (HTB0.out.tab.row p hp).at_ q (by rw [rowT_len]; exact hq)
          rw [Nat.zero_add] at s1
          have f1 := (HTB0.out.tab.row p hp).free q
          have HTB1 := Lib.hid (HTB0.out.step hp hq (r : Int))
          have k1 : IntKind.i64.wrap (3 - 0) = 3 := by decide
          have k2 : IntKind.i64.wrap (3 - 1) = 2 := by decide
          have k3 : IntKind.i64.wrap 2 = 2 := by decide
          have k4 : IntKind.i64.wrap 3 = 3 := by decide
          go_still_tail 16, (by kernel_rfl)
          change wpList _ _ _ _ _ V0.drew
          have s2 : V0.drew.cell? ⟨gs p, q, none⟩ = some _ := s1
          have f2 : V0.drew.frozen? ⟨gs p, q, none⟩ = false := f1
          clear c0 c1 c2 o1 s1 f1 k1 k2 k3 k4
          go_wp2_with fail
          obtain ⟨V1, hV1⟩ : ∃ V, V = (V0.setCell ⟨gs p, q, none⟩ (.int .i64 (r : Int))).drew := ⟨_, rfl⟩
          rw [← hV1] at HTB1 ⊢
          clear hV1 s2 f2 HTB0
          rw [rounds_succ]
          go_wp2_with fail
          have c0 := HTB1.out.c0
          have c1 := HTB1.out.c1
          have c2 := HTB1.out.c2
          have o1 := HTB1.out.tab.cell p hp
          rw [rowT_len] at o1
          have s1 := (HTB1.out.tab.row p hp).at_ r (by rw [rowT_len]; exact hr)
          rw [Nat.zero_add] at s1
          have f1 := (HTB1.out.tab.row p hp).free r
          have HTB2 := Lib.hid (HTB1.out.step hp hr (q : Int))
          have k1 : IntKind.i64.wrap (3 - 0) = 3 := by decide
          have k2 : IntKind.i64.wrap (3 - 2) = 1 := by decide
          have k3 : IntKind.i64.wrap 1 = 1 := by decide
          have k4 : IntKind.i64.wrap 3 = 3 := by decide
          go_still_tail 16, (by kernel_rfl)
          change wpList _ _ _ _ _ V1.drew
          have s2 : V1.drew.cell? ⟨gs p, r, none⟩ = some _ := s1
          have f2 : V1.drew.frozen? ⟨gs p, r, none⟩ = false := f1
          clear c0 c1 c2 o1 s1 f1 k1 k2 k3 k4
          go_wp2_with fail
          obtain ⟨V2, hV2⟩ : ∃ V, V = (V1.setCell ⟨gs p, r, none⟩ (.int .i64 (q : Int))).drew := ⟨_, rfl⟩
          rw [← hV2] at HTB2 ⊢
          clear hV2 s2 f2 HTB1
          rw [rounds_succ]
          go_wp2_with fail
          rw [rounds_succ]
          go_wp2_with fail
          refine wp_loop_rounds 4 ?_
          rw [rounds_succ]
          go_wp2_with fail
          have c0 := HTB2.out.c0
          have c1 := HTB2.out.c1
          have c2 := HTB2.out.c2
          have o1 := HTB2.out.tab.cell q hq
          rw [rowT_len] at o1
          have s1 := (HTB2.out.tab.row q hq).at_ p (by rw [rowT_len]; exact hp)
          rw [Nat.zero_add] at s1
          have f1 := (HTB2.out.tab.row q hq).free p
          have HTB3 := Lib.hid (HTB2.out.step hq hp (r : Int))
          have k1 : IntKind.i64.wrap (3 - 1) = 2 := by decide
          have k2 : IntKind.i64.wrap (2 - 0) = 2 := by decide
          have k3 : IntKind.i64.wrap 2 = 2 := by decide
          have k4 : IntKind.i64.wrap 2 = 2 := by decide
          go_still_tail 16, (by kernel_rfl)
          change wpList _ _ _ _ _ V2.drew
          have s2 : V2.drew.cell? ⟨gs q, p, none⟩ = some _ := s1
          have f2 : V2.drew.frozen? ⟨gs q, p, none⟩ = false := f1
          clear c0 c1 c2 o1 s1 f1 k1 k2 k3 k4
          go_wp2_with fail
          obtain ⟨V3, hV3⟩ : ∃ V, V = (V2.setCell ⟨gs q, p, none⟩ (.int .i64 (r : Int))).drew := ⟨_, rfl⟩
          rw [← hV3] at HTB3 ⊢
          clear hV3 s2 f2 HTB2
          rw [rounds_succ]
          go_wp2_with fail
          rw [rounds_succ]
          go_wp2_with fail
          have c0 := HTB3.out.c0
          have c1 := HTB3.out.c1
          have c2 := HTB3.out.c2
          have o1 := HTB3.out.tab.cell q hq
          rw [rowT_len] at o1
          have s1 := (HTB3.out.tab.row q hq).at_ r (by rw [rowT_len]; exact hr)
          rw [Nat.zero_add] at s1
          have f1 := (HTB3.out.tab.row q hq).free r
          have HTB4 := Lib.hid (HTB3.out.step hq hr (p : Int))
          have k1 : IntKind.i64.wrap (3 - 1) = 2 := by decide
          have k2 : IntKind.i64.wrap (2 - 2) = 0 := by decide
          have k3 : IntKind.i64.wrap 0 = 0 := by decide
          have k4 : IntKind.i64.wrap 2 = 2 := by decide
          go_still_tail 16, (by kernel_rfl)
          change wpList _ _ _ _ _ V3.drew
          have s2 : V3.drew.cell? ⟨gs q, r, none⟩ = some _ := s1
          have f2 : V3.drew.frozen? ⟨gs q, r, none⟩ = false := f1
          clear c0 c1 c2 o1 s1 f1 k1 k2 k3 k4
          go_wp2_with fail
          obtain ⟨V4, hV4⟩ : ∃ V, V = (V3.setCell ⟨gs q, r, none⟩ (.int .i64 (p : Int))).drew := ⟨_, rfl⟩
          rw [← hV4] at HTB4 ⊢
          clear hV4 s2 f2 HTB3
          rw [rounds_succ]
          go_wp2_with fail
          rw [rounds_succ]
          go_wp2_with fail
          refine wp_loop_rounds 4 ?_
          rw [rounds_succ]
          go_wp2_with fail
          have c0 := HTB4.out.c0
          have c1 := HTB4.out.c1
          have c2 := HTB4.out.c2
          have o1 := HTB4.out.tab.cell r hr
          rw [rowT_len] at o1
          have s1 := (HTB4.out.tab.row r hr).at_ p (by rw [rowT_len]; exact hp)
          rw [Nat.zero_add] at s1
          have f1 := (HTB4.out.tab.row r hr).free p
          have HTB5 := Lib.hid (HTB4.out.step hr hp (q : Int))
          have k1 : IntKind.i64.wrap (3 - 2) = 1 := by decide
          have k2 : IntKind.i64.wrap (1 - 0) = 1 := by decide
          have k3 : IntKind.i64.wrap 1 = 1 := by decide
          have k4 : IntKind.i64.wrap 1 = 1 := by decide
          go_still_tail 16, (by kernel_rfl)
          change wpList _ _ _ _ _ V4.drew
          have s2 : V4.drew.cell? ⟨gs r, p, none⟩ = some _ := s1
          have f2 : V4.drew.frozen? ⟨gs r, p, none⟩ = false := f1
          clear c0 c1 c2 o1 s1 f1 k1 k2 k3 k4
          go_wp2_with fail
          obtain ⟨V5, hV5⟩ : ∃ V, V = (V4.setCell ⟨gs r, p, none⟩ (.int .i64 (q : Int))).drew := ⟨_, rfl⟩
          rw [← hV5] at HTB5 ⊢
          clear hV5 s2 f2 HTB4
          rw [rounds_succ]
          go_wp2_with fail
          have c0 := HTB5.out.c0
          have c1 := HTB5.out.c1
          have c2 := HTB5.out.c2
          have o1 := HTB5.out.tab.cell r hr
          rw [rowT_len] at o1
          have s1 := (HTB5.out.tab.row r hr).at_ q (by rw [rowT_len]; exact hq)
          rw [Nat.zero_add] at s1
          have f1 := (HTB5.out.tab.row r hr).free q
          have HTB6 := Lib.hid (HTB5.out.step hr hq (p : Int))
          have k1 : IntKind.i64.wrap (3 - 2) = 1 := by decide
          have k2 : IntKind.i64.wrap (1 - 1) = 0 := by decide
          have k3 : IntKind.i64.wrap 0 = 0 := by decide
          have k4 : IntKind.i64.wrap 1 = 1 := by decide
          go_still_tail 16, (by kernel_rfl)
          change wpList _ _ _ _ _ V5.drew
          have s2 : V5.drew.cell? ⟨gs r, q, none⟩ = some _ := s1
          have f2 : V5.drew.frozen? ⟨gs r, q, none⟩ = false := f1
          clear c0 c1 c2 o1 s1 f1 k1 k2 k3 k4
          go_wp2_with fail
          obtain ⟨V6, hV6⟩ : ∃ V, V = (V5.setCell ⟨gs r, q, none⟩ (.int .i64 (p : Int))).drew := ⟨_, rfl⟩
          rw [← hV6] at HTB6 ⊢
          clear hV6 s2 f2 HTB5
          rw [rounds_succ]
          go_wp2_with fail
          rw [rounds_succ]
          go_wp2_with fail
          rw [rounds_succ]
          go_wp2_with fail
          go_roundw
          case rel => exact ⟨m + 1, by omega, by go_num, HTB6.out.below, HTB6.out.tab.congr fun j _ => rowT_congr fun q _ => HSIX.out j q⟩
          case measure => simp [intOf]; omega
        · have e : m = bs.length := by omega
          subst e
          rw [List.take_length] at HSm
          have hS := HSm.out
          go_wp2
          go_ret
          exact ⟨_, gs, caps, rfl, by omega, HB1.out.trans (HBm.out.mono (by omega)), ⟨hS.cell, hS.row, hS.ne, hS.inc, fun k hk => Nat.le_trans (by omega) (hS.low k hk), hS.lt⟩⟩
end Go.Proofs.Ytahgialnhomefaa

namespace Go.Proofs.Ytahgialnhomefaa
open Go.RowKit Go.Maps
def cyCode (v : Int) (bs : List Blk) (a b : Int) : Int := if isSysImpl v bs then (if inP v a && inP v b && !(a == b) then (if fullB v bs then 0 else 5) else 2) else 1
noncomputable def cyF (v : Int) (bs : List Blk) (a b : Int) : List (List Int) × Int := if cyCode v bs a b = 0 then (cyS bs a.toNat b.toNat v.toNat, 0) else ([], cyCode v bs a b)
end Go.Proofs.Ytahgialnhomefaa

namespace Go.Proofs.Ytahgialnhomefaa
def ascL (l : List Int) : List Int := l.mergeSort fun x y => decide (x ≤ y)
def lensL (L : List (List Int)) : List Int := L.map fun r => (r.length : Int)
def typL (L : List (List Int)) : List Int := (ascL (lensL L)).reverse
noncomputable def tyF (v : Int) (bs : List Blk) (a b : Int) : List Int × Int := if cyCode v bs a b = 0 then (typL (cyS bs a.toNat b.toNat v.toNat), 0) else ([], cyCode v bs a b)
theorem ascL_perm (l : List Int) : (ascL l).Perm l := List.mergeSort_perm l _
theorem ascL_asc (l : List Int) : (ascL l).Pairwise (· ≤ ·) := by
  have := List.pairwise_mergeSort (le := fun (x y : Int) => decide (x ≤ y)) (fun a b c => by simp; omega) (fun a b => by simp; omega) l
  exact this.imp (by simp)
theorem ascL_of {l s : List Int} (hp : s.Perm l) (hs : s.Pairwise (· ≤ ·)) : s = ascL l :=
  (hp.trans (ascL_perm l).symm).eq_of_pairwise (fun _ _ _ _ h1 h2 => Int.le_antisymm h1 h2) hs (ascL_asc l)
theorem ascL_len (l : List Int) : (ascL l).length = l.length := (ascL_perm l).length_eq
theorem typL_len (L : List (List Int)) : (typL L).length = L.length := by simp [typL, ascL_len, lensL]
theorem lensL_take {L : List (List Int)} {k : Nat} (hk : k < L.length) : lensL (L.take (k + 1)) = lensL (L.take k) ++ [((rowsF L k).length : Int)] := by
  unfold lensL rowsF
  rw [List.take_add_one, List.getElem?_eq_getElem hk, List.map_append]
  rfl
theorem lensL_len (L : List (List Int)) : (lensL L).length = L.length := by simp [lensL]
/-- The negative lengths, ascending, are the lengths, descending. -/
theorem typL_neg (L : List (List Int)) : (ascL ((lensL L).map fun x => -x)).map (fun x => -x) = typL L := by
  have h1 : (((ascL ((lensL L).map fun x => -x)).map (fun x => -x)).reverse).Perm (lensL L) := by
    refine (List.reverse_perm _).trans (((ascL_perm _).map _).trans ?_)
    rw [List.map_map]
    have e : ((fun x : Int => -x) ∘ fun x => -x) = id := by funext x; simp
    rw [e, List.map_id]
  have h2 : (((ascL ((lensL L).map fun x => -x)).map (fun x => -x)).reverse).Pairwise (· ≤ ·) := by
    rw [List.pairwise_reverse, List.pairwise_map]
    exact (ascL_asc _).imp (by intro a b h; omega)
  have h3 := ascL_of h1 h2
  unfold typL
  rw [← h3, List.reverse_reverse]
end Go.Proofs.Ytahgialnhomefaa

namespace Go.Proofs.Ytahgialnhomefaa
open Go.RowKit Go.Maps
def ins (s : List Int) (j : Nat) (y : Int) : List Int := s.take j ++ y :: s.drop j
theorem ins_len (s : List Int) (j : Nat) (y : Int) : (ins s j y).length = s.length + 1 := by
  unfold ins
  simp
  omega
theorem ins_end (s : List Int) (y : Int) : ins s s.length y = s ++ [y] := by simp [ins]
theorem ins_set (s : List Int) (j : Nat) (y x : Int) (h : j ≤ s.length) : (ins s j y).set j x = ins s j x := by
  have e : (s.take j).length = j := by rw [List.length_take]; omega
  unfold ins
  rw [List.set_append_right _ _ (by omega), e, Nat.sub_self, List.set_cons_zero]
theorem ins_get (s : List Int) (j : Nat) (y : Int) (h : j < s.length) : (ins s (j + 1) y)[j]?.getD 0 = s[j]?.getD 0 := by
  unfold ins
  rw [List.getElem?_append_left (by rw [List.length_take]; omega), List.getElem?_take_of_lt (by omega)]
theorem ins_shift (s : List Int) (j : Nat) (y : Int) (h : j < s.length) : (ins s (j + 1) y).set (j + 1) (s[j]?.getD 0) = ins s j (s[j]?.getD 0) := by
  rw [ins_set s (j + 1) y _ (by omega)]
  unfold ins
  rw [List.take_add_one, List.getElem?_eq_getElem h, List.append_assoc]
  conv => rhs; rw [List.drop_eq_getElem_cons h]
  simp
theorem ins_perm {s zs : List Int} {k : Nat} {x : Int} (hp : s.Perm (zs.take k)) (hx : zs.take (k + 1) = zs.take k ++ [x]) (j : Nat) : (ins s j x).Perm (zs.take (k + 1)) := by
  unfold ins
  refine List.perm_middle.trans ?_
  rw [List.take_append_drop, hx]
  exact (hp.cons x).trans (List.perm_append_comm (l₁ := [x]) (l₂ := zs.take k))
theorem ins_sorted {s : List Int} {j : Nat} {x : Int} (hs : s.Pairwise (· ≤ ·)) (_hj : j ≤ s.length) (hle : ∀ z ∈ s.take j, z ≤ x) (hgt : ∀ z ∈ s.drop j, x < z) : (ins s j x).Pairwise (· ≤ ·) := by
  have h0 := hs
  rw [← List.take_append_drop j s, List.pairwise_append] at h0
  unfold ins
  rw [List.pairwise_append, List.pairwise_cons]
  refine ⟨h0.1, ⟨fun z hz => by have := hgt z hz; omega, h0.2.1⟩, fun p hp q hq => ?_⟩
  rcases List.mem_cons.1 hq with rfl | hq
  · exact hle p hp
  · exact h0.2.2 p hp q hq
theorem sorted_le {s : List Int} {j : Nat} {x : Int} (hs : s.Pairwise (· ≤ ·)) (hj : j < s.length) (h : s[j]?.getD 0 ≤ x) : ∀ z ∈ s.take (j + 1), z ≤ x := by
  rw [List.getElem?_eq_getElem hj, Option.getD_some] at h
  intro z hz
  obtain ⟨i, hi, rfl⟩ := List.mem_iff_getElem.1 hz
  rw [List.length_take] at hi
  rw [List.getElem_take]
  rcases Nat.lt_or_ge i j with h1 | h1
  · have := List.pairwise_iff_getElem.1 hs i j (by omega) hj h1
    omega
  · have e : i = j := by omega
    subst e
    exact h
theorem OwnJ.setT {w : World} {base g n cap : Nat} {zs : List Int} (h : OwnJ w base (.slice (some ⟨g, 0, none⟩) n cap) zs) {i : Nat} {x : Int} (_hi : i < zs.length) :
    OwnJ (w.setCell ⟨g, i, none⟩ (.int .i64 x)) base (.slice (some ⟨g, 0, none⟩) n cap) (zs.set i x) ∧ w.grownBy (w.setCell ⟨g, i, none⟩ (.int .i64 x)) (some g) := by
  refine ⟨?_, only_setCell (only_refl w (some g)) rfl _⟩
  obtain ⟨_, h | ⟨g', cap', cur, e, hb, hcur, hn, hc, hsz, hx⟩⟩ := h
  · simp at h
  · simp at e
    obtain ⟨rfl, rfl, rfl⟩ := e
    have hl : (zs.set i x).length = zs.length := List.length_set
    unfold OwnJ
    rw [hl]
    refine ⟨by simp, .inr ⟨g, cap, cur.setIfInBounds i (.int .i64 x), rfl, hb, heap_setCell_same w g i cur _ _ hcur, hn, hc, by simp [hsz], ?_⟩⟩
    rw [Array.toList_setIfInBounds, List.take_set, hx, List.map_set]
theorem OwnJ.at_ {w : World} {base g n cap : Nat} {zs : List Int} (h : OwnJ w base (.slice (some ⟨g, 0, none⟩) n cap) zs) {i : Nat} (hi : i < zs.length) : w.cell? ⟨g, i, none⟩ = some (.int .i64 (zs[i]?.getD 0)) ∧ base ≤ g ∧ g < w.heap.size ∧ n = zs.length ∧ w.frozen? ⟨g, i, none⟩ = false := by
  obtain ⟨_, h | ⟨g', cap', cur, e, hb, hcur, hn, hc, hsz, hx⟩⟩ := h
  · simp at h
  · simp at e
    obtain ⟨rfl, rfl, rfl⟩ := e
    refine ⟨?_, hb, (Array.getElem?_eq_some_iff.1 hcur).1, rfl, by simp [World.frozen?, hcur]⟩
    have e : (zs.map (Value.int .i64))[i]? = some (.int .i64 zs[i]) := by simp [hi]
    rw [← hx, List.getElem?_take_of_lt (by omega)] at e
    rw [List.getElem?_eq_getElem hi, Option.getD_some]
    simp [World.cell?, hcur]
    simpa using e
set_option maxRecDepth 100000 in
set_option maxHeartbeats 2000000 in
theorem l03Ascending_any (b0 off cap : Nat) (zs : List Int) (w : World) (h : Ints w b0 off zs) (hlt : b0 < w.heap.size) (hl : zs.length ≤ 1000) :
    Calls Try.prog 60 #[.slice (some ⟨b0, off, none⟩) zs.length cap] w (fun e w' => ∃ u, e = .returned u ∧ (∃ g c, u = .slice (some ⟨g, 0, none⟩) zs.length c) ∧ OwnJ w' w.heap.size u (ascL zs) ∧ Below w.heap.size w w') := by
  have HI := Lib.hid h
  obtain ⟨m, hm⟩ : ∃ m, m = zs.length := ⟨_, rfl⟩
  have HM := Lib.hid hm
  rw [← hm] at hl ⊢
  clear h hm
  obtain ⟨W0, rfl⟩ : ∃ W0, W0 = w := ⟨_, rfl⟩
  go_enter Try.func60, Try.ntmps60
  go_wp2_with fail
  go_loopw [3, 4, 5] (fun o i _ wr => ∃ (k : Nat) (s : List Int) (g c : Nat), k ≤ m ∧ i = .int .i64 k ∧ o = .slice (some ⟨g, 0, none⟩) k c ∧ Below W0.heap.size W0 wr ∧ OwnJ wr W0.heap.size (.slice (some ⟨g, 0, none⟩) k c) s ∧ Hid (s.Perm (zs.take k) ∧ s.Pairwise (· ≤ ·) ∧ s.length = k)) (fun _ i _ _ => m - (intOf i).toNat)
  case atStart => exact ⟨0, [], _, _, Nat.zero_le _, rfl, rfl, (Below.refl _ _).alloc (Nat.le_refl _) _, OwnJ.new0 _ (Nat.le_refl _), Lib.hid ⟨by simp, List.Pairwise.nil, rfl⟩⟩
  case round =>
    obtain ⟨k, s, g, c, hk, rfl, rfl, hB, hO, HP⟩ := hrel
    have hz := hB.size
    by_cases hkl : k < m
    · have q := (hB.cell (p := ⟨b0, off + k, none⟩) hlt).trans (HI.out k (by rw [← HM.out]; exact hkl))
      have hxk : zs.take (k + 1) = zs.take k ++ [zs[k]?.getD 0] := by
        have hk' : k < zs.length := by rw [← HM.out]; exact hkl
        rw [List.take_add_one, List.getElem?_eq_getElem hk']
        rfl
      obtain ⟨x, hx⟩ : ∃ x, x = zs[k]?.getD 0 := ⟨_, rfl⟩
      rw [← hx] at q hxk
      have HXK := Lib.hid hxk
      have HO := Lib.hid hO
      have HB := Lib.hid hB
      have HQ := Lib.hid q
      have g0 : (0 : Int) ≤ (k : Int) := by omega
      have g1 : (k : Int) < (m : Int) := by omega
      clear hx hxk hB hO
      go_wp2_with (at_builtin; refine wpList_append_int rfl _ _ rfl W0.heap.size _ s rfl (HO.out.below ((Below.refl _ _).alloc (Nat.le_refl _) _) (Nat.le_refl _)) _ _ x rfl (by simp [go_sem]) (by have := HP.out.2.2; omega) (by simp; omega) ?_; intro g' cap' w4 hO4 hg4)
      have hrow := HO.out.row
      have hgo : wr.grownBy w4 (some g) := ⟨hg4.os, hg4.tape, hg4.output, by have := hg4.size; simp at this; omega, fun i hi hne => by
        rw [hg4.block i (by simp; omega) hne, Below.heap_alloc _ _ _ hi]⟩
      have hB4 := HB.out.grown hgo hz (fun r e => hrow r e)
      rw [HP.out.2.2] at hO4 ⊢
      have hz4 := hB4.size
      have HO4 := Lib.hid hO4
      have HB4 := Lib.hid hB4
      clear hg4 hgo hrow hO4 hB4 q
      go_wp2_with fail
      go_loopw [5] (fun t wr' => ∃ (j : Nat) (y : Int), j ≤ k ∧ t = .int .i64 j ∧ Below W0.heap.size W0 wr' ∧ OwnJ wr' W0.heap.size (.slice (some ⟨g', 0, none⟩) (k + 1) cap') (ins s j y) ∧ Hid (∀ z ∈ s.drop j, x < z)) (fun t _ => (intOf t).toNat)
      case atStart => exact ⟨k, x, Nat.le_refl _, rfl, HB4.out, by have := HP.out.2.2; rw [← this, ins_end, this]; exact HO4.out, Lib.hid (by rw [List.drop_of_length_le (by have := HP.out.2.2; omega)]; simp)⟩
      case round =>
        obtain ⟨j, y, hjk, rfl, hB5, hO5, HGT⟩ := hrel
        have hz5 := hB5.size
        have q5 := (hB5.cell (p := ⟨b0, off + k, none⟩) hlt).trans ((HB.out.cell (p := ⟨b0, off + k, none⟩) hlt).symm.trans HQ.out)
        have hO6a := Lib.hid hO5
        have hB6a := Lib.hid hB5
        have hls := HP.out.2.2
        have hAt := hO5.at_ (i := j) (by rw [ins_len]; omega)
        have hgl := hAt.2.1
        have fz := hAt.2.2.2.2
        have c6 := hAt.1
        generalize (ins s j y)[j]?.getD 0 = old at c6
        rcases Nat.eq_zero_or_pos j with rfl | hj0
        · have hjs : 0 ≤ s.length := Nat.zero_le _
          have HLE := Lib.hid (show ∀ z ∈ s.take 0, z ≤ x by simp)
          have i1 : decide ((0 : Int) < ((0 : Nat) : Int)) = false := by simp
          clear hB5 hO5 hAt
          go_wp2
          go_quiet (fail)
          have hB6 := Lib.hid (below_drewN hB6a.out nq)
          have hO6 := Lib.hid (show OwnJ (wr.drewN nq) _ _ _ from hO6a.out)
          have hs6 := hO6.out.setT (i := 0) (x := x) (by rw [ins_len]; omega)
          rw [ins_set s 0 y x hjs] at hs6
          have hB7 := hB6.out.grown hs6.2 (by have := hB6.out.size; omega) (fun r e => by cases e; exact hgl)
          have HS6 := Lib.hid hs6.1
          have HB7 := Lib.hid hB7
          have HFIN := Lib.hid (show (ins s 0 x).Perm (zs.take (k + 1)) ∧ (ins s 0 x).Pairwise (· ≤ ·) ∧ (ins s 0 x).length = k + 1 from ⟨ins_perm HP.out.1 HXK.out 0, ins_sorted HP.out.2.1 hjs HLE.out HGT.out, by rw [ins_len, HP.out.2.2]⟩)
          clear hs6 hB7
          go_wp2
          go_roundw
          case rel => exact ⟨k + 1, ins s 0 x, g', cap', by omega, by go_num, rfl, HB7.out, HS6.out, HFIN⟩
          case measure => simp [intOf]; omega
        · obtain ⟨j', rfl⟩ : ∃ j', j = j' + 1 := ⟨j - 1, by omega⟩
          have hjk2 : j' < s.length := by omega
          have hv := ins_get s j' y hjk2
          have hsh := ins_shift s j' y hjk2
          have hA2 := hO5.at_ (i := j') (by rw [ins_len]; omega)
          have c5 := hA2.1
          have fz2 := hA2.2.2.2.2
          rw [hv] at c5
          obtain ⟨v, hvv⟩ : ∃ v, v = s[j']?.getD 0 := ⟨_, rfl⟩
          rw [← hvv] at c5 hsh
          have hdr : s.drop j' = v :: s.drop (j' + 1) := by rw [List.drop_eq_getElem_cons hjk2, hvv, List.getElem?_eq_getElem hjk2]; rfl
          have HDR := Lib.hid hdr
          have HSH := Lib.hid hsh
          have HVV := Lib.hid hvv
          have i1 : decide ((0 : Int) < (j' : Int) + 1) = true := by simp
          have e5 : ((j' + 1 : Nat) : Int) = (j' : Int) + 1 := by omega
          rw [e5]
          clear hB5 hO5 hAt hA2 hv hsh hvv hdr hls
          by_cases hc : x < v
          · have i2 : decide (x < v) = true := decide_eq_true hc
            go_wp2
            go_quiet (fail)
            have hB6 := Lib.hid (below_drewN hB6a.out nq)
            have hO6 := Lib.hid (show OwnJ (wr.drewN nq) _ _ _ from hO6a.out)
            have hs6 := hO6.out.setT (i := j' + 1) (x := v) (by rw [ins_len]; omega)
            rw [HSH.out] at hs6
            have hB7 := hB6.out.grown hs6.2 (by have := hB6.out.size; omega) (fun r e => by cases e; exact hgl)
            have HS6 := Lib.hid hs6.1
            have HB7 := Lib.hid hB7
            have HGT2 := Lib.hid (show ∀ z ∈ s.drop j', x < z by
              rw [HDR.out]
              intro z hz
              rcases List.mem_cons.1 hz with rfl | hz
              · exact hc
              · exact HGT.out z hz)
            clear hs6 hB7
            go_wp2
            go_roundw
            case rel => exact ⟨j', v, by omega, by go_num, HB7.out, HS6.out, HGT2⟩
            case measure => simp [intOf] <;> omega
          · have i2 : decide (x < v) = false := decide_eq_false hc
            have hjs : j' + 1 ≤ s.length := hjk2
            have HLE := Lib.hid (sorted_le HP.out.2.1 hjk2 (x := x) (by rw [← HVV.out]; omega))
            go_wp2
            go_quiet (fail)
            have hB6 := Lib.hid (below_drewN hB6a.out nq)
            have hO6 := Lib.hid (show OwnJ (wr.drewN nq) _ _ _ from hO6a.out)
            have hs6 := hO6.out.setT (i := (j' + 1)) (x := x) (by rw [ins_len]; omega)
            rw [ins_set s (j' + 1) y x hjs] at hs6
            have hB7 := hB6.out.grown hs6.2 (by have := hB6.out.size; omega) (fun r e => by cases e; exact hgl)
            have HS6 := Lib.hid hs6.1
            have HB7 := Lib.hid hB7
            have HFIN := Lib.hid (show (ins s (j' + 1) x).Perm (zs.take (k + 1)) ∧ (ins s (j' + 1) x).Pairwise (· ≤ ·) ∧ (ins s (j' + 1) x).length = k + 1 from ⟨ins_perm HP.out.1 HXK.out (j' + 1), ins_sorted HP.out.2.1 hjs HLE.out HGT.out, by rw [ins_len, HP.out.2.2]⟩)
            clear hs6 hB7
            go_wp2
            go_roundw
            case rel => exact ⟨k + 1, ins s (j' + 1) x, g', cap', by omega, by go_num, rfl, HB7.out, HS6.out, HFIN⟩
            case measure => simp [intOf]; omega
    · have e : k = m := by omega
      subst e
      have e2 : s = ascL zs := ascL_of (by have := HP.out.1; rw [HM.out, List.take_length] at this; exact this) HP.out.2.1
      subst e2
      clear HP
      go_wp2
      go_ret
      exact ⟨_, rfl, ⟨_, _, rfl⟩, hO, hB⟩
end Go.Proofs.Ytahgialnhomefaa

namespace Go.Proofs.Ytahgialnhomefaa
open Go.RowKit Go.Maps
theorem OwnJ.made0 (W : World) {base : Nat} (n : Nat) (hn : n ≤ 1100000) (hb : base ≤ W.heap.size) : OwnJ (W.alloc (.cells (madeCells #[.int .i64 0] n) 2)) base (.slice (some ⟨W.heap.size, 0, none⟩) n n) (List.replicate n 0) := by
  have hml : 1100000 ≤ maxLen := by decide
  unfold OwnJ World.ownsRow
  refine ⟨by simp, .inr ⟨W.heap.size, n, madeCells #[.int .i64 0] n, by simp, hb, World.alloc_heap_new W _, by simp, by omega, by simp [madeCells], ?_⟩⟩
  apply List.ext_getElem
  · simp [madeCells]
  · intro i h1 h2
    simp [madeCells, Nat.mod_one]
end Go.Proofs.Ytahgialnhomefaa

namespace Go.Proofs.Ytahgialnhomefaa
open Go.RowKit Go.Maps
/-- How many blocks go through each of the first k points. -/
def degI (bs : List Blk) (k : Nat) : List Int := (List.range k).map fun (q : Nat) => ((idxI (q : Int) bs bs.length).length : Int)
theorem degI_succ (bs : List Blk) (k : Nat) : degI bs (k + 1) = degI bs k ++ [((idxI (k : Int) bs bs.length).length : Int)] := by
  simp [degI, List.range_succ]
theorem degI_len (bs : List Blk) (k : Nat) : (degI bs k).length = k := by simp [degI]
def degF (v : Int) (bs : List Blk) : List Int × Int := if isSysImpl v bs then (degI bs v.toNat, 0) else ([], 1)
end Go.Proofs.Ytahgialnhomefaa

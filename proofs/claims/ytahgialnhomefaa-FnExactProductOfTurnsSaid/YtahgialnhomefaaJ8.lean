
/- Two lists that grow beside each other: the points that were seen, and the cycles. impl.cyclesFrom. impl.thirdsOf. impl.fullCode of one system. CyclesOf: the program. The types: plain. Lengths of the cycles of a map: plain. What DoubleSystem answers: plain. Renumbered systems, and systems of blocks in any order: plain. The model's l01Order. The contract of slices.Sort, laid at []int64. The contract of slices.Reverse, laid at []int64. -/
import Derived.Test.YtahgialnhomefaaJ7
import Derived.StillTailTactics
import Derived.BigQuiet
import Derived.Shelf.SortM.Plain
import Derived.Ground.SlgmProg
import Derived.Test.YtahgialnhomefaaProg
import Derived.Shelf.SlicesG.Reverse
import Derived.Ground.SlgnProg
namespace Go.Proofs.Ytahgialnhomefaa
open Go.RowKit Go.Maps
/-- Appending all of a row to a list of one's own that is not empty: the grown list lies where it lay, or beyond all. -/
theorem wpList_append_ints_at {w : World} {ops : Array Oper} {rest : List Oper} {o : Oper} {a : Act} {Q : Exit → Act → World → Prop} (hgd : o.guard = none) (s x : Operand)
    (ho : o.op = .call { callee := .builtin .append, args := #[s, x], argTypes := #[38, 38] })
    (base : Nat) (v : Value) (zs : List Int) (hs : a.eval s = v) (hown : OwnJ w base v zs) (hne : 0 < zs.length) (b0 off c : Nat) (ys : List Int) (hx : a.eval x = .slice (some ⟨b0, off, none⟩) ys.length c)
    (hy : Ints w b0 off ys) (hl : zs.length + ys.length ≤ 3300000) (hbase : base ≤ w.heap.size)
    (h : ∀ (g cap : Nat) (w' : World), OwnJ w' base (.slice (some ⟨g, 0, none⟩) (zs.length + ys.length) cap) (zs ++ ys) → w.grownBy w' v.ownBlock → (v.ownBlock = some g ∨ g = w.heap.size) → wpList Try.prog ops Q rest (a.put o.dst (.slice (some ⟨g, 0, none⟩) (zs.length + ys.length) cap)) w') : wpList Try.prog ops Q (o :: rest) a w := by
  obtain ⟨i0, hi, hz0, hz1, hz2⟩ := info_parts infoInt64
  refine wpList_append_own_at w hgd s x 38 ho base 2 i0 _ 1 8 Try.underlying38 hi hz0 hz1 hz2 rfl (by decide) v zs.length (zs.map (Value.int .i64)) hs hown ⟨b0, off, none⟩ ys.length c (ys.map (Value.int .i64)) hx (by simp) ?_ ?_ (by unfold maxLen; omega) (by omega) hbase ?_
  · intro j u hj
    rw [addr_at]
    rw [List.getElem?_map] at hj
    cases hq : ys[j]? with
    | none => rw [hq] at hj; cases hj
    | some z =>
      rw [hq] at hj
      have hjl : j < ys.length := by
        rcases Nat.lt_or_ge j ys.length with h1 | h1
        · exact h1
        · rw [List.getElem?_eq_none h1] at hq; cases hq
      have := hy j hjl
      rw [hq] at this
      simp at hj
      rw [← hj]
      exact this
  · intro u hu
    obtain ⟨z, _, rfl⟩ := List.mem_map.1 hu
    rfl
  · intro v' w' hown' hg _ hob
    obtain ⟨m, hm⟩ : ∃ m, zs.length + ys.length = m + 1 := ⟨zs.length + ys.length - 1, by omega⟩
    have hv : ∃ g cap, v' = .slice (some ⟨g, 0, none⟩) (zs.length + ys.length) cap := by
      rcases hown'.2 with ⟨_, h0⟩ | ⟨g, cap, _, rfl, _⟩
      · omega
      · exact ⟨g, cap, rfl⟩
    obtain ⟨g, cap, rfl⟩ := hv
    refine h g cap w' ?_ hg ?_
    · unfold OwnJ
      rw [List.length_append, List.map_append]
      exact hown'
    · rcases hob with e | e
      · exact .inl (by rw [← e]; rfl)
      · exact .inr (by simpa [Value.ownBlock] using e)
theorem wpList_append_row_at {w : World} {ops : Array Oper} {rest : List Oper} {o : Oper} {a : Act} {Q : Exit → Act → World → Prop} (hgd : o.guard = none) (s x : Operand)
    (ho : o.op = .call { callee := .builtin .append, args := #[s, x], argTypes := #[57, 57] })
    (base : Nat) (v : Value) (n : Nat) (gs caps : Nat → Nat) (F : Nat → List Int) (hs : a.eval s = v) (hown : AccS w base v n gs caps F) (b0 c : Nat) (hx : a.eval x = .slice (some ⟨b0, 0, none⟩) 1 c) (g cg : Nat)
    (c1 : w.cell? ⟨b0, 0, none⟩ = some (.slice (some ⟨g, 0, none⟩) (F n).length cg)) (hrow : OwnAtI w g (F n)) (hgt : ∀ k, k < n → gs k < g) (hng : v.ownBlock ≠ some g) (hbg : base ≤ g) (hl : n ≤ 1100000) (hbase : base ≤ w.heap.size)
    (h : ∀ (G cap : Nat) (w' : World), AccS w' base (.slice (some ⟨G, 0, none⟩) (n + 1) cap) (n + 1) (fun k => if k = n then g else gs k) (fun k => if k = n then cg else caps k) F → w.grownBy w' v.ownBlock → (v.ownBlock = some G ∨ G = w.heap.size) → wpList Try.prog ops Q rest (a.put o.dst (.slice (some ⟨G, 0, none⟩) (n + 1) cap)) w') : wpList Try.prog ops Q (o :: rest) a w := by
  obtain ⟨i0, hi, hz0, hz1, hz2⟩ := info_parts infoRow
  refine wpList_append_own_at w hgd s x 57 ho base 38 i0 _ 1 24 Try.underlying57 hi hz0 hz1 hz2 rfl (by decide) v n _ hs hown.own ⟨b0, 0, none⟩ 1 c [.slice (some ⟨g, 0, none⟩) (F n).length cg] hx rfl ?_ ?_ (by unfold maxLen; omega) (by omega) hbase ?_
  · intro j u hj
    rw [addr_at, Nat.zero_add]
    match j, hj with
    | 0, hj => simp at hj; rw [← hj]; exact c1
    | j + 1, hj => simp at hj
  · intro u hu
    simp at hu
    rw [hu]
    rfl
  · intro v' w' hown' hg _ hob
    obtain ⟨G, cap, rfl⟩ := row_some hown'
    have hGg : G ≠ g := by
      rintro rfl
      rcases hob with e | e
      · exact hng (by rw [← e]; rfl)
      · simp [Value.ownBlock] at e
        have := hrow.lt
        omega
    refine h G cap w' ⟨?_, fun k hk => ?_, fun k hk => ?_, fun j k hjk hk => ?_, fun k hk => ?_⟩ hg ?_
    · rw [List.range_succ, List.map_append, List.map_singleton]
      have e1 : (List.range n).map (rowV (fun k => if k = n then g else gs k) (fun k => if k = n then cg else caps k) F) = (List.range n).map (rowV gs caps F) := map_congr' fun k hk => by
        have : k ≠ n := by have := List.mem_range.1 hk; omega
        simp [rowV, this]
      rw [e1]
      simpa [rowV] using hown'
    · split
      · subst k; exact hrow.kept hg (fun e => hng e.symm)
      · exact (hown.row k (by omega)).kept hg (fun e => hown.ne k (by omega) e.symm)
    · split
      · simpa [Value.ownBlock] using hGg
      · intro e
        have e' : G = gs k := by simpa [Value.ownBlock] using e
        rcases hob with e2 | e2
        · exact hown.ne k (by omega) (by rw [← e2, e])
        · simp [Value.ownBlock] at e2
          have := (hown.row k (by omega)).lt
          omega
    · rw [if_neg (by omega)]
      split
      · exact Nat.ne_of_lt (hgt j (by omega))
      · exact hown.inc j k hjk (by omega)
    · split
      · exact hbg
      · exact hown.low k (by omega)
    · rcases hob with e | e
      · exact .inl (by rw [← e]; rfl)
      · exact .inr (by simpa [Value.ownBlock] using e)
/-- The list of the points that were seen, in block sB, and the rows beside it. -/
structure CyM (w : World) (base sB sc : Nat) (sl : List Int) (cv : Value) (m : Nat) (gs caps : Nat → Nat) (F : Nat → List Int) : Prop where
  own : OwnJ w base (.slice (some ⟨sB, 0, none⟩) sl.length sc) sl
  acc : AccS w base cv m gs caps F
  ne : cv.ownBlock ≠ some sB
  nr : ∀ k, k < m → gs k ≠ sB
theorem CyM.kept {w w' : World} {base sB sc : Nat} {sl : List Int} {cv : Value} {m : Nat} {gs caps : Nat → Nat} {F : Nat → List Int} (h : CyM w base sB sc sl cv m gs caps F) (hg : w.grownBy w' none) : CyM w' base sB sc sl cv m gs caps F :=
  ⟨ownsRow_kept h.own hg (.inl rfl), h.acc.kept hg (.inl rfl) (fun _ _ e => by cases e), h.ne, h.nr⟩
end Go.Proofs.Ytahgialnhomefaa

namespace Go.Proofs.Ytahgialnhomefaa
open Go.RowKit Go.Maps
theorem inL_mem {p : Int} {l : List Int} : inL p l = true ↔ p ∈ l := by
  unfold inL
  rw [List.any_eq_true]
  constructor
  · rintro ⟨x, hx, e⟩
    have : p = x := by simpa using e
    exact this ▸ hx
  · intro h
    exact ⟨p, h, by simp⟩
theorem lit3J (W : World) (x y z : Int) {base : Nat} (hb : base ≤ W.heap.size) : OwnJ (W.alloc (.cells #[.int .i64 x, .int .i64 y, .int .i64 z] 2)) base (.slice (some ⟨W.heap.size, 0, none⟩) 3 3) [x, y, z] :=
  ⟨rfl, .inr ⟨W.heap.size, 3, #[.int .i64 x, .int .i64 y, .int .i64 z], rfl, hb, World.alloc_heap_new W _, Nat.le_refl _, by decide, rfl, rfl⟩⟩
theorem OwnJ.ints0 {w : World} {base sB k sc : Nat} {sl : List Int} (h : OwnJ w base (.slice (some ⟨sB, 0, none⟩) k sc) sl) (hl : sl.length ≤ 1100000) : Ints w sB 0 sl ∧ k = sl.length ∧ sB < w.heap.size ∧ base ≤ sB := by
  have hr := h.row sB rfl
  rcases h.res hl with ⟨_, a, c, e⟩ | ⟨g, cap, e, h1, h2, ho⟩
  · rcases h.2 with ⟨e2, _⟩ | ⟨g, cap, cur, e2, _⟩
    · cases e2
    · simp at e2
      have e3 := h.1
      cases e
      simp at e3
      have : sl = [] := List.length_eq_zero_iff.1 (by omega)
      subst this
      refine ⟨fun k hk => absurd hk (Nat.not_lt_zero k), rfl, ?_, hr⟩
      rcases h.2 with ⟨e5, _⟩ | ⟨g5, cap5, cur5, e5, _, hcur, _⟩
      · cases e5
      · simp at e5
        obtain ⟨rfl, _⟩ := e5
        exact (Array.getElem?_eq_some_iff.1 hcur).1
  · simp at e
    obtain ⟨rfl, rfl, _⟩ := e
    exact ⟨ho.at_, rfl, h2, hr⟩
theorem cyS_next_in {bs : List Blk} {a b k : Nat} (h : (k : Int) ∈ seen0 bs a b ++ (cyS bs a b k).flatten) : cyS bs a b (k + 1) = cyS bs a b k := by
  rw [show cyS bs a b (k + 1) = if (k : Int) ∈ seen0 bs a b ++ (cyS bs a b k).flatten then cyS bs a b k else cyS bs a b k ++ [cyc bs a b (k : Int)] from rfl, if_pos h]
theorem cyS_next_out {bs : List Blk} {a b k : Nat} (h : ¬ (k : Int) ∈ seen0 bs a b ++ (cyS bs a b k).flatten) : cyS bs a b (k + 1) = cyS bs a b k ++ [cyc bs a b (k : Int)] := by
  rw [show cyS bs a b (k + 1) = if (k : Int) ∈ seen0 bs a b ++ (cyS bs a b k).flatten then cyS bs a b k else cyS bs a b k ++ [cyc bs a b (k : Int)] from rfl, if_neg h]
theorem beyond_of {n k a b : Nat} {bs : List Blk} (hk : k < n) (h : ¬ (k : Int) ∈ seen0 bs a b ++ (cyS bs a b k).flatten) : Beyond n bs (a : Int) (b : Int) (k : Int) ∧ (k : Int) ∉ (cyS bs a b k).flatten := by
  simp only [seen0, List.mem_append, List.mem_cons, List.not_mem_nil, or_false, not_or] at h
  exact ⟨⟨by omega, h.1.1, h.1.2.1, h.1.2.2⟩, h.2⟩
theorem CyM.step1 {w w' : World} {base sB sc l g3 gS : Nat} {sl cy : List Int} {cv : Value} {m : Nat} {gs caps : Nat → Nat} {F : Nat → List Int} (h : CyM w base sB sc sl cv m gs caps F)
    (hg : w.grownBy w' (Value.slice (some ⟨sB, 0, none⟩) l sc).ownBlock) (he : (Value.slice (some ⟨sB, 0, none⟩) l sc).ownBlock = some gS ∨ gS = w.heap.size) (ho : OwnAtI w g3 cy) (hne : sB ≠ g3) :
    (gS = sB ∨ gS = w.heap.size) ∧ AccS w' base cv m gs caps F ∧ OwnAtI w' g3 cy := by
  refine ⟨?_, ?_, ?_⟩
  · rcases he with e | e
    · left
      simp [Value.ownBlock] at e
      exact e.symm
    · exact .inr e
  · exact h.acc.kept hg (.inr fun e => h.ne e) (fun j hj e => h.nr j hj (by simpa [Value.ownBlock] using e))
  · exact ho.kept hg (by simp [Value.ownBlock]; omega)
theorem CyM.step2 {w4 w5 w6 : World} {base sB N3 g3 gS capS gC capC : Nat} {sl : List Int} {cv : Value} {m : Nat} {gs gs' caps' : Nat → Nat} {F : Nat → List Int}
    (hO : OwnJ w4 base (.slice (some ⟨gS, 0, none⟩) sl.length capS) sl) (h45 : w4.grownBy w5 none) (h56 : w5.grownBy w6 cv.ownBlock) (he : cv.ownBlock = some gC ∨ gC = w5.heap.size)
    (hA : AccS w6 base (.slice (some ⟨gC, 0, none⟩) (m + 1) capC) (m + 1) gs' caps' F) (hgs : ∀ k, gs' k = if k = m then g3 else gs k) (hS : gS = sB ∨ gS = N3) (hxl : ∀ r, cv.ownBlock = some r → r < N3) (hne : cv.ownBlock ≠ some sB)
    (hg : ∀ j, j < m → gs j < N3 ∧ gs j ≠ sB) (h3 : g3 < N3 ∧ g3 ≠ sB) (hlt : gS < w4.heap.size) : CyM w6 base gS capS sl (.slice (some ⟨gC, 0, none⟩) (m + 1) capC) (m + 1) gs' caps' F := by
  have hcv : cv.ownBlock ≠ some gS := fun e => by
    rcases hS with rfl | rfl
    · exact hne e
    · exact Nat.lt_irrefl _ (hxl _ e)
  refine ⟨ownsRow_kept (ownsRow_kept hO h45 (.inl rfl)) h56 (.inr fun e => hcv e.symm), hA, ?_, fun k hk => ?_⟩
  · intro e
    have e : gC = gS := by simpa [Value.ownBlock] using e
    subst e
    rcases he with e | e
    · exact hcv e
    · have := h45.size; omega
  · rw [hgs]
    split
    · rcases hS with rfl | rfl
      · exact h3.2
      · omega
    · rcases hS with rfl | rfl
      · exact (hg k (by omega)).2
      · have := (hg k (by omega)).1; omega
theorem flat_le {l : List (List Int)} (h : ∀ r ∈ l, r.length ≤ 15) : l.flatten.length ≤ 15 * l.length := by
  induction l with
  | nil => simp
  | cons r l ih =>
    have h1 := h r List.mem_cons_self
    have h2 := ih fun x hx => h x (List.mem_cons_of_mem _ hx)
    simp only [List.flatten_cons, List.length_append, List.length_cons]
    omega
end Go.Proofs.Ytahgialnhomefaa

namespace Go.Proofs.Ytahgialnhomefaa
open Go.RowKit Go.Maps
set_option maxRecDepth 100000 in
set_option maxHeartbeats 8000000 in
theorem thirdsOf_any (n : Nat) (s : Value) (bs : List Blk) (w : World) (h : SB w s bs) (hi : isSysImpl (n : Int) bs = true) :
    Calls Try.prog 86 #[.agg #[.int .i64 (n : Int), s]] w (fun e w' => ∃ G gs caps, e = .returned (.slice (some ⟨G, 0, none⟩) n n) ∧ w.heap.size ≤ G ∧ Below w.heap.size w w' ∧ SSR w' w.heap.size G gs caps n (rowT n (tabN bs))) := by
  have hs := h.slice
  obtain ⟨hv3, hv15, hb35⟩ := sys_size hi
  have HI := Lib.hid hi
  have HG := Lib.hid (sys_good hi)
  have HSX := Lib.hid h.sx
  have hmr := mkRow n (by omega)
  have hmo := mkRows n (by omega)
  clear h hi
  obtain ⟨a0, c0, rfl⟩ := hs
  go_enter Try.func86, Try.ntmps86
  go_wp2_with fail
  obtain ⟨W1, hW1⟩ : ∃ W1, W1 = w.alloc (.cells #[.int .i64 (n : Int), .slice a0 bs.length c0] 30) := ⟨_, rfl⟩
  have hz1 : W1.heap.size = w.heap.size + 1 := by rw [hW1]; simp
  have p0 : W1.cell? ⟨w.heap.size, 0, none⟩ = some (.int .i64 (n : Int)) := by rw [hW1]; simp [go_sem]
  have p1 : W1.cell? ⟨w.heap.size, 1, none⟩ = some (.slice a0 bs.length c0) := by rw [hW1]; simp [go_sem]
  have HB1 := Lib.hid (show Below w.heap.size w W1 by rw [hW1]; exact (Below.refl _ _).alloc (Nat.le_refl _) _)
  rw [← hW1]
  clear hW1
  go_loopw [14] (fun i wr => ∃ (k : Nat) (gs caps : Nat → Nat), k ≤ n ∧ i = .int .i64 k ∧ Below (w.heap.size + 1) W1 wr ∧ w.heap.size + 1 < wr.heap.size ∧ SSR wr (w.heap.size + 1) (w.heap.size + 1) gs caps k (rowT n fun _ _ => 0) ∧ (∀ q, q < n → ∃ u, wr.cell? ⟨w.heap.size + 1, q, none⟩ = some u) ∧ (∀ o, wr.frozen? ⟨w.heap.size + 1, o, none⟩ = false)) (fun i _ => n - (intOf i).toNat)
  case atStart =>
    rw [← hz1]
    exact ⟨0, fun _ => 0, fun _ => 0, Nat.zero_le _, rfl, (Below.refl _ _).alloc (Nat.le_refl _) _, by simp, ⟨fun k hk => by omega, fun k hk => by omega, fun k hk => by omega, fun j k _ hk => by omega, fun k hk => by omega, by simp⟩, fun q hq => by rw [World.cell?_alloc_at _ _ _ _ rfl]; exact ⟨.slice none 0 0, by simp [madeCells, hq, Nat.mod_one]⟩, fun o => by simp⟩
  case round =>
    obtain ⟨k, gs, caps, hk, rfl, hB, hz, hS, hcs, hfz⟩ := hrel
    have HS := Lib.hid hS
    have HB := Lib.hid hB
    have r0 := (hB.cell (p := ⟨w.heap.size, 0, none⟩) (by simp)).trans p0
    have r1 := (hB.cell (p := ⟨w.heap.size, 1, none⟩) (by simp)).trans p1
    by_cases hkl : k < n
    · obtain ⟨u, hu⟩ := hcs k hkl
      have hf := hfz k
      have HC := Lib.hid hcs
      have HFZ := Lib.hid hfz
      have g0 : (0 : Int) ≤ (k : Int) := by omega
      have g1 : (k : Int) < (n : Int) := by omega
      clear hS hB hcs hfz
      obtain ⟨w1, hw1⟩ : ∃ w1, w1 = wr.alloc (.cells (madeCells #[.int .i64 0] n) 2) := ⟨_, rfl⟩
      have hb1 : Below wr.heap.size wr w1 := by rw [hw1]; exact (Below.refl _ _).alloc (Nat.le_refl _) _
      have ho1 : OwnAtI w1 wr.heap.size (List.replicate n 0) := by rw [hw1]; exact made_ints wr n _
      have hz2 : w1.heap.size = wr.heap.size + 1 := by rw [hw1]; simp
      have m1 : (wr.alloc (.cells (madeCells #[.int .i64 0] n) 2)).cell? ⟨w.heap.size + 1, k, none⟩ = some u := by rw [← hw1]; exact (hb1.cell (p := ⟨w.heap.size + 1, k, none⟩) hz).trans hu
      have f1 : (wr.alloc (.cells (madeCells #[.int .i64 0] n) 2)).frozen? ⟨w.heap.size + 1, k, none⟩ = false := by rw [← hw1]; exact (hb1.frozen (p := ⟨w.heap.size + 1, k, none⟩) hz).trans hf
      have HW := Lib.hid hw1
      have HB1 := Lib.hid hb1
      have HO1 := Lib.hid ho1
      clear hw1 hb1 ho1
      go_wp2_with fail
      rw [← HW.out] at m1 f1
      have hsw : (wr.setCell ⟨w.heap.size + 1, k, none⟩ (.slice (some ⟨wr.heap.size, 0, none⟩) n n)).alloc (.cells (madeCells #[.int .i64 0] n) 2) = w1.setCell ⟨w.heap.size + 1, k, none⟩ (.slice (some ⟨wr.heap.size, 0, none⟩) n n) := by rw [HW.out]; exact (World.setCell_alloc_past _ _ _ _ hz).symm
      rw [hsw]
      have hS1 := HS.out.below HB1.out (Nat.le_refl _)
      have hst := only_setCell (only_refl w1 (some (w.heap.size + 1))) (p := ⟨w.heap.size + 1, k, none⟩) rfl (.slice (some ⟨wr.heap.size, 0, none⟩) n n)
      go_roundw
      case rel =>
        refine ⟨k + 1, fun q => if q = k then wr.heap.size else gs q, fun q => if q = k then n else caps q, by omega, by go_num, (HB.out.trans (HB1.out.mono (by omega))).setCell (p := ⟨w.heap.size + 1, k, none⟩) (Nat.le_refl _) _, by simp [World.setCell]; omega, ⟨fun q hq => ?_, fun q hq => ?_, fun q hq => ?_, fun p q hpq hq => ?_, fun q hq => ?_, by simp [World.setCell]; omega⟩, fun q hq => ?_, fun o => by rw [World.frozen?_setCell]; exact (HB1.out.frozen (p := ⟨w.heap.size + 1, o, none⟩) hz).trans (HFZ.out o)⟩
        · by_cases e : q = k
          · subst e
            rw [World.cell?_setCell_same' _ _ _ (by rw [m1]; rfl)]
            simp [rowT_len]
          · rw [World.cell?_setCell_other _ _ _ _ (by simp <;> omega), hS1.cell q (by omega)]
            simp [e]
        · by_cases e : q = k
          · subst e
            simp only [if_pos]
            rw [rowT_zero]
            exact HO1.out.kept hst (by simp; omega)
          · simp only [if_neg e]
            exact (hS1.row q (by omega)).kept hst (by have := hS1.ne q (by omega); simpa using this)
        · by_cases e : q = k
          · simp only [if_pos e]; omega
          · simp only [if_neg e]; exact hS1.ne q (by omega)
        · have e1 : p ≠ k := by omega
          simp only [if_neg e1]
          by_cases e : q = k
          · simp only [if_pos e]
            exact Nat.ne_of_lt (HS.out.row p (by omega)).lt
          · simp only [if_neg e]
            exact hS1.inc p q hpq (by omega)
        · by_cases e : q = k
          · simp only [if_pos e]; omega
          · simp only [if_neg e]; exact hS1.low q (by omega)
        · by_cases e : q = k
          · subst e
            exact ⟨_, World.cell?_setCell_same' _ _ _ (by rw [m1]; rfl)⟩
          · obtain ⟨u', hu'⟩ := HC.out q hq
            exact ⟨u', by rw [World.cell?_setCell_other _ _ _ _ (by simp <;> omega)]; exact (HB1.out.cell (p := ⟨w.heap.size + 1, q, none⟩) hz).trans hu'⟩
      case measure => simp [intOf]; omega
    · have e : k = n := by omega
      have dk : (n : Int) ≤ (k : Int) := by omega
      have dk2 : decide (k < n) = false := by simp; omega
      rw [e] at HS
      have HS0 := Lib.hid (HS.out.congr (F' := rowT n (tabN (bs.take 0))) (fun j _ => rowT_congr fun q _ => by simp [tabN, tabI]))
      clear e hkl hk hS hB hcs hfz HS
      obtain ⟨W2, rfl⟩ : ∃ W2, W2 = wr := ⟨_, rfl⟩
      go_wp2_with fail
      clear dk dk2
      go_loopw [27] (fun i wr => ∃ m : Nat, m ≤ bs.length ∧ i = .int .i64 m ∧ Below (w.heap.size + 1) W1 wr ∧ SSR wr (w.heap.size + 1) (w.heap.size + 1) gs caps n (rowT n (tabN (bs.take m)))) (fun i _ => bs.length - (intOf i).toNat)
      case atStart => exact ⟨0, Nat.zero_le _, rfl, HB.out, HS0.out⟩
      case round =>
        obtain ⟨m, hm, rfl, hB, hS⟩ := hrel
        have HBm := Lib.hid hB
        have HSm := Lib.hid hS
        have hzm := hB.size
        clear hB hS
        by_cases hml : m < bs.length
        · have hbw : Below w.heap.size w wr := HB1.out.trans (HBm.out.mono (by omega))
          rcases HSX.out with ⟨_, _, _, hnil⟩ | ⟨b, off, cap, hv, hblt, hbl⟩
          · rw [hnil] at hml; simp at hml
          simp at hv
          obtain ⟨rfl, rfl⟩ := hv
          obtain ⟨x, hx, ex, x1, x2, x3⟩ := blks_at (hbl.below hbw hblt) hml
          have hgx := goodB_iff.1 (HG.out x hx)
          obtain ⟨xa, xb, xc⟩ := x
          dsimp only at hgx x1 x2 x3
          obtain ⟨p, rfl⟩ := Int.eq_ofNat_of_zero_le hgx.1
          obtain ⟨q, rfl⟩ := Int.eq_ofNat_of_zero_le (show 0 ≤ xb by omega)
          obtain ⟨r, rfl⟩ := Int.eq_ofNat_of_zero_le (show 0 ≤ xc by omega)
          have hp : p < n := by omega
          have hq : q < n := by omega
          have hr : r < n := by omega
          have HSIX := Lib.hid (fun j k => six_tab HI.out hml ex (show p < q by omega) (show q < r by omega) j k)
          have i0 : (0 : Int) ≤ (m : Int) := by omega
          have i1 : (m : Int) < (bs.length : Int) := by omega
          have hB0 := hzm
          have TB0 : TBx W1 (wr.alloc (.cells #[.int .i64 (p : Int), .int .i64 (q : Int), .int .i64 (r : Int)] 84)) (w.heap.size + 1) (w.heap.size + 1) wr.heap.size gs caps n (tabN (bs.take m)) p q r :=
            ⟨HBm.out.alloc (by omega) _, HSm.out.below ((Below.refl _ _).alloc (Nat.le_refl _) _) (Nat.le_refl _), by simp [go_sem], by simp [go_sem], by simp [go_sem], fun j hj => (HSm.out.row j hj).lt⟩
          have HTB0 := Lib.hid TB0
          clear TB0 hgx hx ex hbl
          go_wp2_with fail
          obtain ⟨V0, hV0⟩ : ∃ V0, V0 = wr.alloc (.cells #[.int .i64 (p : Int), .int .i64 (q : Int), .int .i64 (r : Int)] 84) := ⟨_, rfl⟩
          rw [← hV0] at HTB0 ⊢
          clear hV0 x1 x2 x3
          refine wp_loop_rounds 4 ?_
          rw [rounds_succ]
          go_wp2_with fail
          refine wp_loop_rounds 4 ?_
          rw [rounds_succ]
          go_wp2_with fail
          rw [rounds_succ]
          go_wp2_with fail
          have c0 := HTB0.out.c0
          have c1 := HTB0.out.c1
          have c2 := HTB0.out.c2
          have o1 := HTB0.out.tab.cell p hp
          rw [rowT_len] at o1
          have s1 := (HTB0.out.tab.row p hp).at_ q (by rw [rowT_len]; exact hq)
          rw [Nat.zero_add] at s1
          have f1 := (HTB0.out.tab.row p hp).free q
          have HTB1 := Lib.hid (HTB0.out.step hp hq (r : Int))
          have k1 : IntKind.i64.wrap (3 - 0) = 3 := by decide
          have k2 : IntKind.i64.wrap (3 - 1) = 2 := by decide
          have k3 : IntKind.i64.wrap 2 = 2 := by decide
          have k4 : IntKind.i64.wrap 3 = 3 := by decide
          go_still_tail 16, (by kernel_rfl)
          change wpList _ _ _ _ _ V0.drew
          have s2 : V0.drew.cell? ⟨gs p, q, none⟩ = some _ := s1
          have f2 : V0.drew.frozen? ⟨gs p, q, none⟩ = false := f1
          clear c0 c1 c2 o1 s1 f1 k1 k2 k3 k4
          go_wp2_with fail
          obtain ⟨V1, hV1⟩ : ∃ V, V = (V0.setCell ⟨gs p, q, none⟩ (.int .i64 (r : Int))).drew := ⟨_, rfl⟩
          rw [← hV1] at HTB1 ⊢
          clear hV1 s2 f2 HTB0
          rw [rounds_succ]
          go_wp2_with fail
          have c0 := HTB1.out.c0
          have c1 := HTB1.out.c1
          have c2 := HTB1.out.c2
          have o1 := HTB1.out.tab.cell p hp
          rw [rowT_len] at o1
          have s1 := (HTB1.out.tab.row p hp).at_ r (by rw [rowT_len]; exact hr)
          rw [Nat.zero_add] at s1
          have f1 := (HTB1.out.tab.row p hp).free r
          have HTB2 := Lib.hid (HTB1.out.step hp hr (q : Int))
          have k1 : IntKind.i64.wrap (3 - 0) = 3 := by decide
          have k2 : IntKind.i64.wrap (3 - 2) = 1 := by decide
          have k3 : IntKind.i64.wrap 1 = 1 := by decide
          have k4 : IntKind.i64.wrap 3 = 3 := by decide
          go_still_tail 16, (by kernel_rfl)
          change wpList _ _ _ _ _ V1.drew
          have s2 : V1.drew.cell? ⟨gs p, r, none⟩ = some _ := s1
          have f2 : V1.drew.frozen? ⟨gs p, r, none⟩ = false := f1
          clear c0 c1 c2 o1 s1 f1 k1 k2 k3 k4
          go_wp2_with fail
          obtain ⟨V2, hV2⟩ : ∃ V, V = (V1.setCell ⟨gs p, r, none⟩ (.int .i64 (q : Int))).drew := ⟨_, rfl⟩
          rw [← hV2] at HTB2 ⊢
          clear hV2 s2 f2 HTB1
          rw [rounds_succ]
          go_wp2_with fail
          rw [rounds_succ]
          go_wp2_with fail
          refine wp_loop_rounds 4 ?_
          rw [rounds_succ]
          go_wp2_with fail
          have c0 := HTB2.out.c0
          have c1 := HTB2.out.c1
          have c2 := HTB2.out.c2
          have o1 := HTB2.out.tab.cell q hq
          rw [rowT_len] at o1
          have s1 := (HTB2.out.tab.row q hq).at_ p (by rw [rowT_len]; exact hp)
          rw [Nat.zero_add] at s1
          have f1 := (HTB2.out.tab.row q hq).free p
          have HTB3 := Lib.hid (HTB2.out.step hq hp (r : Int))
          have k1 : IntKind.i64.wrap (3 - 1) = 2 := by decide
          have k2 : IntKind.i64.wrap (2 - 0) = 2 := by decide
          have k3 : IntKind.i64.wrap 2 = 2 := by decide
          have k4 : IntKind.i64.wrap 2 = 2 := by decide
          go_still_tail 16, (by kernel_rfl)
          change wpList _ _ _ _ _ V2.drew
          have s2 : V2.drew.cell? ⟨gs q, p, none⟩ = some _ := s1
          have f2 : V2.drew.frozen? ⟨gs q, p, none⟩ = false := f1
          clear c0 c1 c2 o1 s1 f1 k1 k2 k3 k4
          go_wp2_with fail
          obtain ⟨V3, hV3⟩ : ∃ V, V = (V2.setCell ⟨gs q, p, none⟩ (.int .i64 (r : Int))).drew := ⟨_, rfl⟩
          rw [← hV3] at HTB3 ⊢
          clear hV3 s2 f2 HTB2
          rw [rounds_succ]
          go_wp2_with fail
          rw [rounds_succ]
          go_wp2_with fail
          have c0 := HTB3.out.c0
          have c1 := HTB3.out.c1
          have c2 := HTB3.out.c2
          have o1 := HTB3.out.tab.cell q hq
          rw [rowT_len] at o1
          have s1 := (HTB3.out.tab.row q hq).at_ r (by rw [rowT_len]; exact hr)
          rw [Nat.zero_add] at s1
          have f1 := (HTB3.out.tab.row q hq).free r
          have HTB4 := Lib.hid (HTB3.out.step hq hr (p : Int))
          have k1 : IntKind.i64.wrap (3 - 1) = 2 := by decide
          have k2 : IntKind.i64.wrap (2 - 2) = 0 := by decide
          have k3 : IntKind.i64.wrap 0 = 0 := by decide
          have k4 : IntKind.i64.wrap 2 = 2 := by decide
          go_still_tail 16, (by kernel_rfl)
          change wpList _ _ _ _ _ V3.drew
          have s2 : V3.drew.cell? ⟨gs q, r, none⟩ = some _ := s1
          have f2 : V3.drew.frozen? ⟨gs q, r, none⟩ = false := f1
          clear c0 c1 c2 o1 s1 f1 k1 k2 k3 k4
          go_wp2_with fail
          obtain ⟨V4, hV4⟩ : ∃ V, V = (V3.setCell ⟨gs q, r, none⟩ (.int .i64 (p : Int))).drew := ⟨_, rfl⟩
          rw [← hV4] at HTB4 ⊢
          clear hV4 s2 f2 HTB3
          rw [rounds_succ]
          go_wp2_with fail
          rw [rounds_succ]
          go_wp2_with fail
          refine wp_loop_rounds 4 ?_
          rw [rounds_succ]
          go_wp2_with fail
          have c0 := HTB4.out.c0
          have c1 := HTB4.out.c1
          have c2 := HTB4.out.c2
          have o1 := HTB4.out.tab.cell r hr
          rw [rowT_len] at o1
          have s1 := (HTB4.out.tab.row r hr).at_ p (by rw [rowT_len]; exact hp)
          rw [Nat.zero_add] at s1
          have f1 := (HTB4.out.tab.row r hr).free p
          have HTB5 := Lib.hid (HTB4.out.step hr hp (q : Int))
          have k1 : IntKind.i64.wrap (3 - 2) = 1 := by decide
          have k2 : IntKind.i64.wrap (1 - 0) = 1 := by decide
          have k3 : IntKind.i64.wrap 1 = 1 := by decide
          have k4 : IntKind.i64.wrap 1 = 1 := by decide
          go_still_tail 16, (by kernel_rfl)
          change wpList _ _ _ _ _ V4.drew
          have s2 : V4.drew.cell? ⟨gs r, p, none⟩ = some _ := s1
          have f2 : V4.drew.frozen? ⟨gs r, p, none⟩ = false := f1
          clear c0 c1 c2 o1 s1 f1 k1 k2 k3 k4
          go_wp2_with fail
          obtain ⟨V5, hV5⟩ : ∃ V, V = (V4.setCell ⟨gs r, p, none⟩ (.int .i64 (q : Int))).drew := ⟨_, rfl⟩
          rw [← hV5] at HTB5 ⊢
          clear hV5 s2 f2 HTB4
          rw [rounds_succ]
          go_wp2_with fail
          have c0 := HTB5.out.c0
          have c1 := HTB5.out.c1
          have c2 := HTB5.out.c2
          have o1 := HTB5.out.tab.cell r hr
          rw [rowT_len] at o1
          have s1 := (HTB5.out.tab.row r hr).at_ q (by rw [rowT_len]; exact hq)
          rw [Nat.zero_add] at s1
          have f1 := (HTB5.out.tab.row r hr).free q
          have HTB6 := Lib.hid (HTB5.out.step hr hq (p : Int))
          have k1 : IntKind.i64.wrap (3 - 2) = 1 := by decide
          have k2 : IntKind.i64.wrap (1 - 1) = 0 := by decide
          have k3 : IntKind.i64.wrap 0 = 0 := by decide
          have k4 : IntKind.i64.wrap 1 = 1 := by decide
          go_still_tail 16, (by kernel_rfl)
          change wpList _ _ _ _ _ V5.drew
          have s2 : V5.drew.cell? ⟨gs r, q, none⟩ = some _ := s1
          have f2 : V5.drew.frozen? ⟨gs r, q, none⟩ = false := f1
          clear c0 c1 c2 o1 s1 f1 k1 k2 k3 k4
          go_wp2_with fail
          obtain ⟨V6, hV6⟩ : ∃ V, V = (V5.setCell ⟨gs r, q, none⟩ (.int .i64 (p : Int))).drew := ⟨_, rfl⟩
          rw [← hV6] at HTB6 ⊢
          clear hV6 s2 f2 HTB5
          rw [rounds_succ]
          go_wp2_with fail
          rw [rounds_succ]
          go_wp2_with fail
          rw [rounds_succ]
          go_wp2_with fail
          go_roundw
          case rel => exact ⟨m + 1, by omega, by go_num, HTB6.out.below, HTB6.out.tab.congr fun j _ => rowT_congr fun q _ => HSIX.out j q⟩
          case measure => simp [intOf]; omega
        · have e : m = bs.length := by omega
          subst e
          rw [List.take_length] at HSm
          have hS := HSm.out
          go_wp2
          go_ret
          exact ⟨_, gs, caps, rfl, by omega, HB1.out.trans (HBm.out.mono (by omega)), ⟨hS.cell, hS.row, hS.ne, hS.inc, fun k hk => Nat.le_trans (by omega) (hS.low k hk), hS.lt⟩⟩
end Go.Proofs.Ytahgialnhomefaa

namespace Go.Proofs.Ytahgialnhomefaa
open Go.RowKit Go.Maps
def fullC (v : Int) (bs : List Blk) : Int := if isSysImpl v bs then (if fullB v bs then 0 else 5) else 1
theorem fullV_cases (v : Int) (bs : List Blk) : (fullV v bs = boolCode true 0 ∧ fullC v bs = 0) ∨ (fullV v bs = boolCode false 0 ∧ fullC v bs = 5) ∨ (fullV v bs = boolCode false 1 ∧ fullC v bs = 1) := by
  unfold fullV fullC
  cases isSysImpl v bs
  · right; right; simp
  · cases fullB v bs
    · right; left; simp
    · left; simp
set_option maxRecDepth 100000 in
theorem fullCode_one (B : Nat) (v : Int) (s : Value) (bs : List Blk) (w : World) (h : SB w s bs) (c0 : w.cell? ⟨B, 0, none⟩ = some (.int .i64 v)) (c1 : w.cell? ⟨B, 1, none⟩ = some s) :
    Calls Try.prog 55 #[.slice (some ⟨B, 0, none⟩) 1 1] w (RV (.int .i64 (fullC v bs)) w) := by
  have hs := h.slice
  have HI := Lib.hid (IsFull_any v s bs (w.alloc (.cells #[.int .i64 v, s] 30)) (h.below ((Below.refl _ _).alloc (Nat.le_refl _) _) (Nat.le_refl _)))
  clear h
  obtain ⟨a, c, rfl⟩ := hs
  rcases fullV_cases v bs with ⟨e1, e2⟩ | ⟨e1, e2⟩ | ⟨e1, e2⟩
  all_goals
    rw [e1] at HI
    rw [e2]
    unfold boolCode at HI
    clear e1 e2
    go_enter Try.func55, Try.ntmps55
    go_wp2
    refine wp_loop_rounds 2 ?_
    rw [rounds_succ]
    go_wp2_with (go_at_call 85; refine HI.out.mono ?_; rintro e w1 ⟨rfl, hb1⟩)
  · rw [rounds_succ]
    go_wp2
    go_ret
    exact RV_of rfl (((Below.refl _ _).alloc (Nat.le_refl _) _).trans (hb1.mono (by simp)))
  · rw [rounds_succ]
    go_wp2
    go_ret
    exact RV_of rfl (((Below.refl _ _).alloc (Nat.le_refl _) _).trans (hb1.mono (by simp)))
  · go_ret
    exact RV_of rfl (((Below.refl _ _).alloc (Nat.le_refl _) _).trans (hb1.mono (by simp)))
end Go.Proofs.Ytahgialnhomefaa

namespace Go.Proofs.Ytahgialnhomefaa
open Go.RowKit Go.Maps
def cyCode (v : Int) (bs : List Blk) (a b : Int) : Int := if isSysImpl v bs then (if inP v a && inP v b && !(a == b) then (if fullB v bs then 0 else 5) else 2) else 1
noncomputable def cyF (v : Int) (bs : List Blk) (a b : Int) : List (List Int) × Int := if cyCode v bs a b = 0 then (cyS bs a.toNat b.toNat v.toNat, 0) else ([], cyCode v bs a b)
end Go.Proofs.Ytahgialnhomefaa

namespace Go.Proofs.Ytahgialnhomefaa
def ascL (l : List Int) : List Int := l.mergeSort fun x y => decide (x ≤ y)
def lensL (L : List (List Int)) : List Int := L.map fun r => (r.length : Int)
def typL (L : List (List Int)) : List Int := (ascL (lensL L)).reverse
noncomputable def tyF (v : Int) (bs : List Blk) (a b : Int) : List Int × Int := if cyCode v bs a b = 0 then (typL (cyS bs a.toNat b.toNat v.toNat), 0) else ([], cyCode v bs a b)
theorem ascL_perm (l : List Int) : (ascL l).Perm l := List.mergeSort_perm l _
theorem ascL_asc (l : List Int) : (ascL l).Pairwise (· ≤ ·) := by
  have := List.pairwise_mergeSort (le := fun (x y : Int) => decide (x ≤ y)) (fun a b c => by simp; omega) (fun a b => by simp; omega) l
  exact this.imp (by simp)
theorem ascL_of {l s : List Int} (hp : s.Perm l) (hs : s.Pairwise (· ≤ ·)) : s = ascL l :=
  (hp.trans (ascL_perm l).symm).eq_of_pairwise (fun _ _ _ _ h1 h2 => Int.le_antisymm h1 h2) hs (ascL_asc l)
theorem ascL_len (l : List Int) : (ascL l).length = l.length := (ascL_perm l).length_eq
theorem typL_len (L : List (List Int)) : (typL L).length = L.length := by simp [typL, ascL_len, lensL]
theorem lensL_take {L : List (List Int)} {k : Nat} (hk : k < L.length) : lensL (L.take (k + 1)) = lensL (L.take k) ++ [((rowsF L k).length : Int)] := by
  unfold lensL rowsF
  rw [List.take_add_one, List.getElem?_eq_getElem hk, List.map_append]
  rfl
theorem lensL_len (L : List (List Int)) : (lensL L).length = L.length := by simp [lensL]
/-- The negative lengths, ascending, are the lengths, descending. -/
theorem typL_neg (L : List (List Int)) : (ascL ((lensL L).map fun x => -x)).map (fun x => -x) = typL L := by
  have h1 : (((ascL ((lensL L).map fun x => -x)).map (fun x => -x)).reverse).Perm (lensL L) := by
    refine (List.reverse_perm _).trans (((ascL_perm _).map _).trans ?_)
    rw [List.map_map]
    have e : ((fun x : Int => -x) ∘ fun x => -x) = id := by funext x; simp
    rw [e, List.map_id]
  have h2 : (((ascL ((lensL L).map fun x => -x)).map (fun x => -x)).reverse).Pairwise (· ≤ ·) := by
    rw [List.pairwise_reverse, List.pairwise_map]
    exact (ascL_asc _).imp (by intro a b h; omega)
  have h3 := ascL_of h1 h2
  unfold typL
  rw [← h3, List.reverse_reverse]
end Go.Proofs.Ytahgialnhomefaa

namespace Go.Proofs.Ytahgialnhomefaa
/-- How many places below n are not seen. -/
def fls (n : Nat) (s : Nat → Bool) : Nat := ((List.range n).filter fun q => !s q).length
theorem fls_le (n : Nat) (s : Nat → Bool) : fls n s ≤ n := Nat.le_trans (List.length_filter_le _ _) (by simp)
def sen (s : Nat → Bool) (a : Nat) : Nat → Bool := fun q => if q = a then true else s q
theorem fls_sen {s : Nat → Bool} {a : Nat} : ∀ {n : Nat}, a < n → s a = false → fls n (sen s a) + 1 = fls n s := by
  intro n
  induction n with
  | zero => intro h; omega
  | succ n ih =>
    intro h hs
    have e : ∀ (t : Nat → Bool), fls (n + 1) t = fls n t + if t n = false then 1 else 0 := fun t => by
      unfold fls
      rw [List.range_succ, List.filter_append, List.length_append, List.filter_cons, List.filter_nil]
      cases t n <;> rfl
    rw [e, e]
    by_cases hn : a = n
    · subst hn
      have h1 : fls a (sen s a) = fls a s := by
        unfold fls
        congr 1
        apply List.filter_congr
        intro q hq
        have := List.mem_range.1 hq
        simp [sen, show q ≠ a by omega]
      rw [h1, hs]
      simp [sen]
    · have := ih (by omega) hs
      have h2 : sen s a n = s n := by simp [sen, show n ≠ a by omega]
      rw [h2]; omega
/-- The cycle from a place on, as far as it is not seen yet. -/
def cyGo (f : Nat → Nat) : Nat → (Nat → Bool) → Nat → Nat → (Nat → Bool) × Nat
  | 0, s, _, len => (s, len)
  | k + 1, s, a, len => if s a = true then (s, len) else cyGo f k (sen s a) (f a) (len + 1)
theorem cyGo_stop {f : Nat → Nat} {k : Nat} {s : Nat → Bool} {a len : Nat} (hk : 0 < k) (h : s a = true) : cyGo f k s a len = (s, len) := by
  obtain ⟨m, rfl⟩ : ∃ m, k = m + 1 := ⟨k - 1, by omega⟩
  rw [cyGo, if_pos h]
theorem cyGo_step {f : Nat → Nat} {k : Nat} {s : Nat → Bool} {a len : Nat} (hk : 0 < k) (h : s a = false) : cyGo f k s a len = cyGo f (k - 1) (sen s a) (f a) (len + 1) := by
  obtain ⟨m, rfl⟩ : ∃ m, k = m + 1 := ⟨k - 1, by omega⟩
  rw [cyGo, if_neg (by rw [h]; decide)]
  rfl
/-- What was seen, and the lengths, after so many starts. -/
def cyA (f : Nat → Nat) (n : Nat) : Nat → (Nat → Bool) × List Int
  | 0 => (fun _ => false, [])
  | k + 1 => ((cyGo f (n + 1) (cyA f n k).1 k 0).1, if 0 < (cyGo f (n + 1) (cyA f n k).1 k 0).2 then (cyA f n k).2 ++ [((cyGo f (n + 1) (cyA f n k).1 k 0).2 : Int)] else (cyA f n k).2)
theorem cyA_len (f : Nat → Nat) (n : Nat) : ∀ k, (cyA f n k).2.length ≤ k
  | 0 => Nat.le_refl _
  | k + 1 => by
    have := cyA_len f n k
    rw [show (cyA f n (k + 1)).2 = if 0 < (cyGo f (n + 1) (cyA f n k).1 k 0).2 then (cyA f n k).2 ++ [((cyGo f (n + 1) (cyA f n k).1 k 0).2 : Int)] else (cyA f n k).2 from rfl]
    split
    · rw [List.length_append, List.length_singleton]; omega
    · omega
/-- Ascending negatives, negated, are the descending list. -/
theorem ascL_neg (L : List Int) : (ascL (L.map fun x => -x)).map (fun x => -x) = (ascL L).reverse := by
  have h1 : (((ascL (L.map fun x => -x)).map (fun x => -x)).reverse).Perm L := by
    refine (List.reverse_perm _).trans (((ascL_perm _).map _).trans ?_)
    rw [List.map_map]
    have e : ((fun x : Int => -x) ∘ fun x => -x) = id := by funext x; simp
    rw [e, List.map_id]
  have h2 : (((ascL (L.map fun x => -x)).map (fun x => -x)).reverse).Pairwise (· ≤ ·) := by
    rw [List.pairwise_reverse, List.pairwise_map]
    exact (ascL_asc _).imp (by intro a b h; omega)
  have h3 := ascL_of h1 h2
  rw [← h3, List.reverse_reverse]
end Go.Proofs.Ytahgialnhomefaa

namespace Go.Proofs.Ytahgialnhomefaa
def dblB (v : Int) (x : Blk) : List Blk := [⟨x.a, v + x.b, v + x.c⟩, ⟨x.b, v + x.a, v + x.c⟩, ⟨x.c, v + x.a, v + x.b⟩]
def dblP (v : Int) (k : Nat) : List Blk := (List.range k).map fun (a : Nat) => ⟨(a : Int), v + (a : Int), 2 * v⟩
theorem dblP_succ (v : Int) (k : Nat) : dblP v (k + 1) = dblP v k ++ [⟨(k : Int), v + (k : Int), 2 * v⟩] := by simp [dblP, List.range_succ]
theorem dblP_len (v : Int) (k : Nat) : (dblP v k).length = k := by simp [dblP]
def dblA (v : Int) (bs : List Blk) (k : Nat) : List Blk := bs ++ (bs.take k).flatMap (dblB v)
theorem dblA_succ {v : Int} {bs : List Blk} {k : Nat} (hk : k < bs.length) {x : Blk} (hx : bs[k]? = some x) : dblA v bs (k + 1) = dblA v bs k ++ dblB v x := by
  have e : bs[k] = x := by
    rw [List.getElem?_eq_getElem hk] at hx
    simpa using hx
  unfold dblA
  rw [List.take_succ_eq_append_getElem hk, e, List.flatMap_append, List.append_assoc]
  simp
theorem dblB_len (v : Int) : ∀ l : List Blk, (l.flatMap (dblB v)).length = 3 * l.length
  | [] => rfl
  | x :: r => by rw [List.flatMap_cons, List.length_append, dblB_len v r]; simp [dblB]; omega
theorem dblA_len (v : Int) (bs : List Blk) {k : Nat} (hk : k ≤ bs.length) : (dblA v bs k).length = bs.length + 3 * k := by
  unfold dblA
  rw [List.length_append, dblB_len, List.length_take, Nat.min_eq_left hk]
def dblL (v : Int) (bs : List Blk) : List Blk := dblA v bs bs.length ++ dblP v v.toNat
theorem dblL_len (v : Int) (bs : List Blk) : (dblL v bs).length = bs.length + 3 * bs.length + v.toNat := by
  unfold dblL
  rw [List.length_append, dblA_len v bs (Nat.le_refl _), dblP_len]
theorem dblL_mem {v : Int} (hv : 0 ≤ v) (hv15 : v ≤ 15) {bs : List Blk} (hg : ∀ x ∈ bs, goodB v x = true) : ∀ x ∈ dblL v bs, (0 ≤ x.a ∧ x.a ≤ 1000) ∧ (0 ≤ x.b ∧ x.b ≤ 1000) ∧ (0 ≤ x.c ∧ x.c ≤ 1000) := by
  intro x hx
  unfold dblL dblA at hx
  rw [List.take_length] at hx
  rcases List.mem_append.1 hx with hx | hx
  · rcases List.mem_append.1 hx with hx | hx
    · have := goodB_iff.1 (hg x hx); omega
    · obtain ⟨y, hy, hxy⟩ := List.mem_flatMap.1 hx
      have := goodB_iff.1 (hg y hy)
      simp only [dblB, List.mem_cons, List.not_mem_nil, or_false] at hxy
      rcases hxy with rfl | rfl | rfl <;> (dsimp only; omega)
  · obtain ⟨a, ha, rfl⟩ := List.mem_map.1 hx
    have := List.mem_range.1 ha
    dsimp only
    omega
/-- The smallest, the middle and the greatest of three. -/
def blk3 (a b c : Int) : Blk := ⟨min (min a b) c, a + b + c - min (min a b) c - max (max a b) c, max (max a b) c⟩
theorem blk3_of {a b c p q r : Int} (hp : p = min (min a b) c) (hr : r = max (max a b) c) (hq : q = a + b + c - p - r) : blk3 a b c = ⟨p, q, r⟩ := by
  unfold blk3
  rw [← hp, ← hr, ← hq]
end Go.Proofs.Ytahgialnhomefaa

namespace Go.Proofs.Ytahgialnhomefaa
/-- Each number is a point, and comes once. -/
def rnGo (v : Int) : List Int → List Int → Bool
  | _, [] => true
  | seen, a :: r => inP v a && !(decide (a ∈ seen)) && rnGo v (seen ++ [a]) r
def isRen (v : Int) (p : List Int) : Bool := decide ((p.length : Int) = v) && rnGo v [] p
theorem rnGo_in {v : Int} : ∀ {l seen : List Int}, rnGo v seen l = true → ∀ a ∈ l, inP v a = true
  | [], _, _, a, h => by cases h
  | b :: r, seen, h, a, ha => by
    simp only [rnGo, Bool.and_eq_true] at h
    rcases List.mem_cons.1 ha with rfl | ha
    · exact h.1.1
    · exact rnGo_in h.2 a ha
theorem rnGo_bad {v : Int} {a : Int} {r seen : List Int} (h : inP v a = false) : rnGo v seen (a :: r) = false := by simp [rnGo, h]
theorem rnGo_dup {v : Int} {a : Int} {r seen : List Int} (h : a ∈ seen) : rnGo v seen (a :: r) = false := by simp [rnGo, h]
theorem rnGo_next {v : Int} {a : Int} {r seen : List Int} (h : inP v a = true) (h2 : a ∉ seen) : rnGo v seen (a :: r) = rnGo v (seen ++ [a]) r := by simp [rnGo, h, h2]
def at0 (p : List Int) (a : Int) : Int := p[a.toNat]?.getD 0
def renB (p : List Int) (x : Blk) : Blk := blk3 (at0 p x.a) (at0 p x.b) (at0 p x.c)
/-- A system and a code: points, blocks, code. -/
def renF (v : Int) (bs : List Blk) (p : List Int) : Int × List Blk × Int :=
  if isSysImpl v bs then (if isRen v p then (v, sortB (bs.map (renB p)), 0) else (0, [], 2)) else (0, [], 1)
theorem renF_len (v : Int) (bs : List Blk) (p : List Int) : (renF v bs p).2.1.length ≤ bs.length := by
  unfold renF
  split
  · split
    · simp only [sortB_length, List.length_map]; exact Nat.le_refl _
    · simp
  · simp
theorem at0_in {v : Int} {p : List Int} (h : isRen v p = true) {a : Int} (h0 : 0 ≤ a) (h1 : a < v) : 0 ≤ at0 p a ∧ at0 p a < v := by
  unfold isRen at h
  simp only [Bool.and_eq_true, decide_eq_true_eq] at h
  have hl : a.toNat < p.length := by omega
  have := rnGo_in h.2 p[a.toNat] (List.getElem_mem hl)
  rw [inP] at this
  simp only [Bool.and_eq_true, decide_eq_true_eq] at this
  unfold at0
  rw [List.getElem?_eq_getElem hl]
  exact this
theorem blk3_in {v a b c : Int} (ha : 0 ≤ a ∧ a < v) (hb : 0 ≤ b ∧ b < v) (hc : 0 ≤ c ∧ c < v) : (0 ≤ (blk3 a b c).a ∧ (blk3 a b c).a < v) ∧ (0 ≤ (blk3 a b c).b ∧ (blk3 a b c).b < v) ∧ (0 ≤ (blk3 a b c).c ∧ (blk3 a b c).c < v) := by
  unfold blk3
  dsimp only
  omega
/-- The middle one. -/
theorem blk3_good {v a b c : Int} : goodB v (blk3 a b c) = true ↔ (0 ≤ a ∧ a < v) ∧ (0 ≤ b ∧ b < v) ∧ (0 ≤ c ∧ c < v) ∧ a ≠ b ∧ b ≠ c ∧ a ≠ c := by
  rw [goodB_iff]
  unfold blk3
  dsimp only
  omega
def b3 (x : Blk) : Blk := blk3 x.a x.b x.c
def sysOfF (v : Int) (bs : List Blk) : Int × List Blk × Int :=
  if decide (3 ≤ v) && decide (v ≤ 15) && decide (bs.length ≤ 35) && bs.all (fun x => goodB v (b3 x)) then
    (if shareGo [] (bs.map b3) then (0, [], 5) else (v, sortB (bs.map b3), 0))
  else (0, [], 2)
theorem sort3 (a b c : Int) : [a, b, c].mergeSort (fun x y => decide (x ≤ y)) = [(blk3 a b c).a, (blk3 a b c).b, (blk3 a b c).c] := by
  have hs : ([a, b, c].mergeSort (fun x y => decide (x ≤ y))).Pairwise (· ≤ ·) := by
    have := List.pairwise_mergeSort (le := fun x y : Int => decide (x ≤ y)) (fun x y z h1 h2 => by simp at *; omega) (fun x y => by simp; omega) [a, b, c]
    exact this.imp (by simp)
  have hp := List.mergeSort_perm [a, b, c] (fun x y : Int => decide (x ≤ y))
  have hs2 : [(blk3 a b c).a, (blk3 a b c).b, (blk3 a b c).c].Pairwise (· ≤ ·) := by
    unfold blk3
    simp
    omega
  have hp2 : [(blk3 a b c).a, (blk3 a b c).b, (blk3 a b c).c].Perm [a, b, c] := by
    unfold blk3
    dsimp only
    rw [List.perm_iff_count]
    intro x
    simp only [List.count_cons, List.count_nil, beq_iff_eq]
    by_cases h1 : a ≤ b <;> by_cases h2 : b ≤ c <;> by_cases h3 : a ≤ c <;> simp only [Int.min_def, Int.max_def, h1, h2, h3, if_true, if_false] <;> (try omega) <;> (repeat' split) <;> omega
  exact (hp.trans hp2.symm).eq_of_pairwise (fun x y _ _ h1 h2 => by omega) hs hs2
end Go.Proofs.Ytahgialnhomefaa

namespace Go.Proofs.Ytahgialnhomefaa
open Go.RowKit Go.Maps
theorem infoBoolT : (Try.prog.info? 4).map (fun i => (i.zero, i.size, i.bytes)) = some (some (.bool false), 1, 1) := by kernel_rfl
theorem mkBoolsR (n : Nat) (hn : n ≤ 1100000) (W : World) : (Instr.makeSlice 66 (.int .i64 (n : Int)) (.int .i64 (n : Int))).run Try.prog W = .ok (.slice (some ⟨W.heap.size, 0, none⟩) n n) (W.alloc (.cells (madeCells #[.bool false] n) 4)) := by
  obtain ⟨i0, hi, hz0, hz1, hz2⟩ := info_parts infoBoolT
  have hr := run_make (P := Try.prog) W 66 4 i0 (.bool false) Try.underlying66 hi hz0 .i64 .i64 n n (by omega) (by omega) (by rw [hz2]; omega) (by omega)
  simp only [Int.toNat_natCast, hz1, Nat.mul_one] at hr
  exact hr
/-- A row of bools. -/
structure BoolsAt (w : World) (g n : Nat) (f : Nat → Bool) : Prop where
  lt : g < w.heap.size
  cell : ∀ q, q < n → w.cell? ⟨g, q, none⟩ = some (.bool (f q))
  free : ∀ o, w.frozen? ⟨g, o, none⟩ = false
theorem BoolsAt.made (w : World) (n : Nat) (T : TypeId) : BoolsAt (w.alloc (.cells (madeCells #[.bool false] n) T)) w.heap.size n (fun _ => false) := by
  refine ⟨by simp, fun k hk => ?_, fun o => by simp⟩
  rw [World.cell?_alloc_at _ _ _ _ rfl]
  simp [madeCells, hk, Nat.mod_one]
theorem BoolsAt.set {w : World} {g n : Nat} {f : Nat → Bool} (h : BoolsAt w g n f) {i : Nat} (hi : i < n) : BoolsAt (w.setCell ⟨g, i, none⟩ (.bool true)) g n (fun q => if q = i then true else f q) := by
  refine ⟨by simpa [World.setCell] using h.lt, fun q hq => ?_, fun o => by rw [World.frozen?_setCell]; exact h.free o⟩
  by_cases e : q = i
  · subst e
    rw [World.cell?_setCell_same' _ _ _ (by rw [h.cell q hq]; rfl)]
    simp
  · rw [World.cell?_setCell_other _ _ _ _ (by simp <;> omega), h.cell q hq, if_neg e]
theorem BoolsAt.congr {w : World} {g n : Nat} {f f' : Nat → Bool} (h : BoolsAt w g n f) (e : ∀ q, q < n → f q = f' q) : BoolsAt w g n f' := ⟨h.lt, fun q hq => by rw [← e q hq]; exact h.cell q hq, h.free⟩
theorem BoolsAt.kept {w w' : World} {g n : Nat} {f : Nat → Bool} {row : Option Nat} (h : BoolsAt w g n f) (hg : w.grownBy w' row) (hne : some g ≠ row) : BoolsAt w' g n f :=
  ⟨Nat.lt_of_lt_of_le h.lt hg.size, fun q hq => (World.cell?_of_block (w := w) (a := ⟨g, _, none⟩) (hg.block g h.lt hne)).trans (h.cell q hq), fun o => (World.frozen?_of_block (w := w) (a := ⟨g, o, none⟩) (hg.block g h.lt hne)).trans (h.free o)⟩
theorem take_snoc2 {l : List Int} {k : Nat} (h : k < l.length) : l.take (k + 1) = l.take k ++ [l[k]?.getD 0] := by
  rw [List.take_succ_eq_append_getElem h]; simp [h]
end Go.Proofs.Ytahgialnhomefaa

namespace Go.Proofs
open Go.Shelf
def Try.sortI_ren : Go.Shelf.Ren := ⟨fun | 5 => 92 | 8 => 117 | 7 => 116 | 19 => 137 | 20 => 138 | 10 => 128 | 11 => 129 | 12 => 130 | 13 => 131 | 14 => 132 | 15 => 133 | 16 => 134 | 17 => 135 | 18 => 136 | 30 => 142 | 31 => 143 | 32 => 144 | 33 => 145 | 34 => 146 | 35 => 147 | 40 => 148 | n => n, fun | 23 => 38 | 25 => 2 | 3 => 3 | 32 => 121 | 22 => 38 | 0 => 0 | 44 => 143 | 46 => 145 | 4 => 4 | 36 => 136 | 35 => 135 | 41 => 140 | 5 => 5 | 9 => 9 | 53 => 149 | 57 => 153 | 63 => 155 | 64 => 156 | n => n, fun | n => n⟩
theorem Try.sortI : Go.Proofs.SlLaysM.n5 Try.prog Try.sortI_ren := {
  mixed := by kernel_rfl
  f5 := ⟨Try.f92.name, by decide, Try.func92.trans (congrArg some (by kernel_rfl))⟩
  f7 := ⟨Try.f116.name, by decide, Try.func116.trans (congrArg some (by kernel_rfl))⟩
  f8 := Try.func117.trans (congrArg some (by kernel_rfl))
  f10 := ⟨Try.f128.name, by decide, Try.func128.trans (congrArg some (by kernel_rfl))⟩
  f11 := ⟨Try.f129.name, by decide, Try.func129.trans (congrArg some (by kernel_rfl))⟩
  f12 := ⟨Try.f130.name, by decide, Try.func130.trans (congrArg some (by kernel_rfl))⟩
  f13 := ⟨Try.f131.name, by decide, Try.func131.trans (congrArg some (by kernel_rfl))⟩
  f14 := ⟨Try.f132.name, by decide, Try.func132.trans (congrArg some (by kernel_rfl))⟩
  f15 := ⟨Try.f133.name, by decide, Try.func133.trans (congrArg some (by kernel_rfl))⟩
  f16 := ⟨Try.f134.name, by decide, Try.func134.trans (congrArg some (by kernel_rfl))⟩
  f17 := ⟨Try.f135.name, by decide, Try.func135.trans (congrArg some (by kernel_rfl))⟩
  f18 := ⟨Try.f136.name, by decide, Try.func136.trans (congrArg some (by kernel_rfl))⟩
  f19 := Try.func137.trans (congrArg some (by kernel_rfl))
  f20 := Try.func138.trans (congrArg some (by kernel_rfl))
  f30 := ⟨Try.f142.name, by decide, Try.func142.trans (congrArg some (by kernel_rfl))⟩
  f31 := Try.func143.trans (congrArg some (by kernel_rfl))
  f32 := Try.func144.trans (congrArg some (by kernel_rfl))
  f33 := ⟨Try.f145.name, by decide, Try.func145.trans (congrArg some (by kernel_rfl))⟩
  f34 := ⟨Try.f146.name, by decide, Try.func146.trans (congrArg some (by kernel_rfl))⟩
  f35 := ⟨Try.f147.name, by decide, Try.func147.trans (congrArg some (by kernel_rfl))⟩
  f40 := ⟨Try.f148.name, by decide, Try.func148.trans (congrArg some (by kernel_rfl))⟩
  t0 := Try.underlying0
  a0 := Try.isAgg0
  z0 := Try.sizeOf0
  v0 := Try.zeroValue0
  t3 := Try.underlying3
  a3 := Try.isAgg3
  z3 := Try.sizeOf3
  v3 := Try.zeroValue3
  t4 := Try.underlying4
  a4 := Try.isAgg4
  z4 := Try.sizeOf4
  v4 := Try.zeroValue4
  t5 := Try.underlying5
  a5 := Try.isAgg5
  z5 := Try.sizeOf5
  v5 := Try.zeroValue5
  t9 := Try.underlying9
  a9 := Try.isAgg9
  z9 := Try.sizeOf9
  v9 := Try.zeroValue9
  t22 := Try.underlying38
  a22 := Try.isAgg38
  z22 := Try.sizeOf38
  v22 := Try.zeroValue38
  t23 := Try.underlying38
  a23 := Try.isAgg38
  z23 := Try.sizeOf38
  v23 := Try.zeroValue38
  t25 := Try.underlying2
  a25 := Try.isAgg2
  z25 := Try.sizeOf2
  v25 := Try.zeroValue2
  t32 := Try.underlying121
  a32 := Try.isAgg121
  z32 := Try.sizeOf121
  v32 := Try.zeroValue121
  t35 := Try.underlying135
  a35 := Try.isAgg135
  z35 := Try.sizeOf135
  v35 := Try.zeroValue135
  t36 := Try.underlying136
  a36 := Try.isAgg136
  z36 := Try.sizeOf136
  v36 := Try.zeroValue136
  t41 := Try.underlying140
  a41 := Try.isAgg140
  z41 := Try.sizeOf140
  v41 := Try.zeroValue140
  t44 := Try.underlying143
  a44 := Try.isAgg143
  z44 := Try.sizeOf143
  v44 := Try.zeroValue143
  t46 := Try.underlying145
  a46 := Try.isAgg145
  z46 := Try.sizeOf145
  v46 := Try.zeroValue145
  t53 := Try.underlying149
  a53 := Try.isAgg149
  z53 := Try.sizeOf149
  v53 := Try.zeroValue149
  t57 := Try.underlying153
  a57 := Try.isAgg153
  z57 := Try.sizeOf153
  v57 := Try.zeroValue153
  t63 := Try.underlying155
  a63 := Try.isAgg155
  z63 := Try.sizeOf155
  v63 := Try.zeroValue155
  t64 := Try.underlying156
  a64 := Try.isAgg156
  z64 := Try.sizeOf156
  v64 := Try.zeroValue156 }
end Go.Proofs

namespace Go.Proofs
open Go.Shelf
def Try.revI_ren : Go.Shelf.Ren := ⟨fun | 35 => 93 | n => n, fun | 22 => 38 | 23 => 2 | 3 => 3 | 4 => 4 | 0 => 0 | n => n, fun | n => n⟩
theorem Try.revI : Go.Proofs.SlLaysN.n35 Try.prog Try.revI_ren := {
  mixed := by kernel_rfl
  f35 := ⟨Try.f93.name, by decide, Try.func93.trans (congrArg some (by kernel_rfl))⟩
  t0 := Try.underlying0
  a0 := Try.isAgg0
  z0 := Try.sizeOf0
  v0 := Try.zeroValue0
  t3 := Try.underlying3
  a3 := Try.isAgg3
  z3 := Try.sizeOf3
  v3 := Try.zeroValue3
  t4 := Try.underlying4
  a4 := Try.isAgg4
  z4 := Try.sizeOf4
  v4 := Try.zeroValue4
  t22 := Try.underlying38
  a22 := Try.isAgg38
  z22 := Try.sizeOf38
  v22 := Try.zeroValue38
  t23 := Try.underlying2
  a23 := Try.isAgg2
  z23 := Try.sizeOf2
  v23 := Try.zeroValue2 }
end Go.Proofs

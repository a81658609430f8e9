
/- impl.placesOf: the places of a block's points in a list. BlocksAt: the program and the model answer alike. A copy of a list by the model. A queue of pairs: a slice of the call's own that is cut at its head and appended to. Renumberings of full systems, plain: what the program's search finds. Marking and holding rows of integers. Rows of rows of integers: equality, marks, and that they are still there. -/
import Derived.Test.YtoicdfdfajfopaaJ4
import Derived.ArgAppend
import Derived.Deep.RegionWith
namespace Go.Proofs.Ytoicdfdfajfopaa
open Go.RowKit Go.Maps
def plO (pts : List Int) (z : Int) : List Int := if 0 ≤ place pts z then [place pts z] else []
def plK (pts : List Int) (x : Blk) : Nat → List Int
  | 0 => []
  | 1 => plO pts x.a
  | 2 => plO pts x.a ++ plO pts x.b
  | _ => plO pts x.a ++ plO pts x.b ++ plO pts x.c
theorem plO_len (pts : List Int) (z : Int) : (plO pts z).length ≤ 1 := by unfold plO; split <;> simp
theorem plK_len (pts : List Int) (x : Blk) (k : Nat) : (plK pts x k).length ≤ 3 := by
  have h1 := plO_len pts x.a
  have h2 := plO_len pts x.b
  have h3 := plO_len pts x.c
  unfold plK
  split <;> simp [List.length_append] <;> omega
theorem OwnJ.nil0 (W : World) (base : Nat) : OwnJ W base (.slice none 0 0) [] := ⟨rfl, .inl ⟨rfl, rfl⟩⟩
theorem OwnJ.formS {W : World} {base : Nat} {u : Value} {zs : List Int} (h : OwnJ W base u zs) : ∃ a c, u = .slice a zs.length c := by
  rcases h.2 with ⟨rfl, h0⟩ | ⟨g, cap, _, rfl, _⟩
  · exact ⟨_, _, by rw [h0]⟩
  · exact ⟨_, _, rfl⟩
end Go.Proofs.Ytoicdfdfajfopaa

namespace Go.Proofs.Ytoicdfdfajfopaa
open Go.RowKit Go.Maps
/-- The indices of the blocks through p, and the code. -/
def atF (v : Int) (bs : List Blk) (p : Int) : List Int × Int := if isSysImpl v bs then (if inP v p then (idxI p bs bs.length, 0) else ([], 2)) else ([], 1)
def RJ (r : List Int × Int) (w : World) (e : Ending) (w' : World) : Prop := ∃ u, e = .returned (.tuple #[u, .int .i64 r.2]) ∧ OwnJ w' w.heap.size u r.1 ∧ Below w.heap.size w w'
theorem OwnJ.nil (w : World) (base : Nat) : OwnJ w base (.slice none 0 0) [] := ⟨rfl, .inl ⟨rfl, rfl⟩⟩
theorem idxs_eq (p : Int) (bs : List Blk) : idxs (upTo p bs bs.length) = (idxI p bs bs.length).map (Value.int .i64) := by
  unfold idxs idxI
  rw [List.map_map]
  rfl
theorem ints1 {w : World} {b : Nat} {x : Int} (h0 : w.cell? ⟨b, 0, none⟩ = some (.int .i64 x)) : Ints w b 0 [x] := by
  intro k hk
  match k, hk with
  | 0, _ => simpa using h0
end Go.Proofs.Ytoicdfdfajfopaa

namespace Go.Proofs.Ytoicdfdfajfopaa
open Go.RowKit Go.Maps Go.Shelf
/-- A list in memory, at an address. -/
def IA (w : World) (s : Value) (zs : List Int) : Prop := ∃ b off cap, s = .slice (some ⟨b, off, none⟩) zs.length cap ∧ b < w.heap.size ∧ Ints w b off zs
theorem IA.ib {w : World} {s : Value} {zs : List Int} (h : IA w s zs) (hl : zs.length ≤ 1100000) : IB w s zs := by
  obtain ⟨b, off, cap, e, h1, h2⟩ := h
  exact ⟨hl, .inr ⟨b, off, cap, e, h1, h2⟩⟩
theorem IA.below {w w' : World} {s : Value} {zs : List Int} (h : IA w s zs) {B : Nat} (hb : Below B w w') (hB : w.heap.size ≤ B) : IA w' s zs := by
  obtain ⟨b, off, cap, e, h1, h2⟩ := h
  exact ⟨b, off, cap, e, Nat.lt_of_lt_of_le h1 hb.size, h2.below hb (by omega)⟩
/-- Appending a list that may be empty. -/
theorem wpList_append_intsE {w : World} {ops : Array Oper} {rest : List Oper} {o : Oper} {a : Act} {Q : Exit → Act → World → Prop} (hgd : o.guard = none) (s x : Operand)
    (ho : o.op = .call { callee := .builtin .append, args := #[s, x], argTypes := #[25, 25] })
    (base G : Nat) (hs : a.eval s = .slice (some ⟨G, 0, none⟩) 0 0) (hown : OwnJ w base (.slice (some ⟨G, 0, none⟩) 0 0) []) (xv : Value) (ys : List Int) (hxv : a.eval x = xv) (hx : IA w xv ys) (hl : ys.length ≤ 3300000) (hbase : base ≤ w.heap.size)
    (h : ∀ (g cap : Nat) (w' : World), OwnJ w' base (.slice (some ⟨g, 0, none⟩) ys.length cap) ys → w.grownBy w' (some G) → wpList Try.prog ops Q rest (a.put o.dst (.slice (some ⟨g, 0, none⟩) ys.length cap)) w') : wpList Try.prog ops Q (o :: rest) a w := by
  obtain ⟨i0, hi, hz0, hz1, hz2⟩ := info_parts infoInt64
  obtain ⟨b0, off, c, rfl, _, c1⟩ := hx
  refine wpList_append_own w hgd s x 25 ho base 2 i0 _ 1 8 Try.underlying25 hi hz0 hz1 hz2 rfl (by decide) (.slice (some ⟨G, 0, none⟩) 0 0) 0 [] hs hown ⟨b0, off, none⟩ ys.length c (ys.map (Value.int .i64)) hxv (by simp) ?_ ?_ (by unfold maxLen; omega) (by omega) hbase ?_
  · intro j u hj
    rw [addr_at]
    rw [List.getElem?_map] at hj
    have hjl : j < ys.length := by
      rcases Nat.lt_or_ge j ys.length with h1 | h1
      · exact h1
      · rw [List.getElem?_eq_none h1] at hj; cases hj
    have := c1 j hjl
    rw [List.getElem?_eq_getElem hjl] at hj this
    simp at hj
    rw [← hj]
    simpa using this
  · intro u hu
    obtain ⟨y, _, rfl⟩ := List.mem_map.1 hu
    rfl
  · intro v' w' hown' hg hiff
    rw [Nat.zero_add, List.nil_append] at hown'
    have hf : ∃ g cap, v' = .slice (some ⟨g, 0, none⟩) ys.length cap := by
      rcases hown'.2 with ⟨h1, _⟩ | ⟨g, cap, cur, e, _⟩
      · have := hiff.1 h1
        simp at this
      · exact ⟨g, cap, e⟩
    obtain ⟨g, cap, rfl⟩ := hf
    refine h g cap w' ?_ hg
    unfold OwnJ
    exact hown'
theorem OwnJ.ia {W : World} {base g n cap : Nat} {zs : List Int} (h : OwnJ W base (.slice (some ⟨g, 0, none⟩) n cap) zs) (hl : zs.length ≤ 1100000) : IA W (.slice (some ⟨g, 0, none⟩) n cap) zs := by
  have hib := h.ib hl
  rcases hib.2 with ⟨a, c, e, hnil⟩ | ⟨b, off, cap', e, h1, h2⟩
  · subst hnil
    simp at e
    rcases h.2 with ⟨h1, _⟩ | ⟨g', cap', cur, h1, _, h2, _⟩
    · simp at h1
    · simp at h1
      obtain ⟨rfl, _⟩ := h1
      refine ⟨g, 0, cap, by rw [e.2.1]; rfl, (Array.getElem?_eq_some_iff.1 h2).1, fun k hk => by simp at hk⟩
  · simp at e
    obtain ⟨⟨rfl, rfl⟩, rfl, rfl⟩ := e
    exact ⟨g, 0, cap, rfl, h1, h2⟩
set_option maxRecDepth 100000 in
theorem l01Own_any (s : Value) (zs : List Int) (w : World) (h : IA w s zs) (hl : zs.length ≤ 1100000) : Calls Try.prog 119 #[s] w (fun e w' => ∃ g cap, e = .returned (.slice (some ⟨g, 0, none⟩) zs.length cap) ∧ OwnJ w' w.heap.size (.slice (some ⟨g, 0, none⟩) zs.length cap) zs ∧ Below w.heap.size w w') := by
  have hform : ∃ a c, s = .slice a zs.length c := by obtain ⟨b, off, cap, rfl, _⟩ := h; exact ⟨_, _, rfl⟩
  have H := Lib.hid h
  obtain ⟨a, c, rfl⟩ := hform
  clear h
  have ho0 := OwnJ.new0 w (base := w.heap.size) (Nat.le_refl _)
  have hB0 : Below w.heap.size w (w.alloc (.cells #[] 2)) := (Below.refl _ _).alloc (Nat.le_refl _) _
  have HO0 := Lib.hid ho0
  have HB0 := Lib.hid hB0
  clear ho0 hB0
  go_enter Try.func119, Try.ntmps119
  go_wp2_with (at_builtin; refine wpList_append_intsE rfl _ _ rfl w.heap.size w.heap.size rfl HO0.out _ zs rfl (H.out.below HB0.out (Nat.le_refl _)) (by omega) (by simp) ?_; intro g cap w4 hO4 hg4)
  go_ret
  exact ⟨g, cap, rfl, hO4, HB0.out.grown hg4 (by simp) (fun r e => by cases e; exact Nat.le_refl _)⟩
end Go.Proofs.Ytoicdfdfajfopaa

namespace Go.Proofs.Ytoicdfdfajfopaa
open Go.RowKit Go.Maps Go.Shelf
theorem infoPair : (Try.prog.info? 124).map (fun i => (i.zero, i.size, i.bytes)) = some (some (.agg #[.int .i64 0, .int .i64 0]), 2, 16) := by kernel_rfl
def cellsP (ps : List (Int × Int)) : List Value := ps.flatMap fun p => [.int .i64 p.1, .int .i64 p.2]
theorem cellsP_len : ∀ ps : List (Int × Int), (cellsP ps).length = ps.length * 2
  | [] => rfl
  | p :: ps => by
    have := cellsP_len ps
    unfold cellsP at this ⊢
    rw [List.flatMap_cons, List.length_append, this]
    simp
    omega
theorem cellsP_append (ps qs : List (Int × Int)) : cellsP (ps ++ qs) = cellsP ps ++ cellsP qs := by simp [cellsP]
/-- The pairs lie behind the value, in a block from base on. -/
def QuP (W : World) (base : Nat) (s : Value) (ps : List (Int × Int)) : Prop :=
  ∃ g off cap cur, s = .slice (some ⟨g, off, none⟩) ps.length cap ∧ base ≤ g ∧ W.heap[g]? = some (.cells cur 124 (0, 0)) ∧ ps.length ≤ cap ∧ cap ≤ maxLen ∧ off + cap * 2 ≤ cur.size ∧ ∀ j u, (cellsP ps)[j]? = some u → cur[off + j]? = some u
section
variable {W W' : World} {base : Nat} {s : Value} {ps : List (Int × Int)}
theorem QuP.mono {base' : Nat} (h : QuP W base s ps) (hb : base' ≤ base) : QuP W base' s ps := by
  obtain ⟨g, off, cap, cur, h1, h2, h3⟩ := h
  exact ⟨g, off, cap, cur, h1, by omega, h3⟩
theorem QuP.kept {row : Option Nat} (h : QuP W base s ps) (hg : W.grownBy W' row) (hr : ∀ r, row = some r → r < base) : QuP W' base s ps := by
  obtain ⟨g, off, cap, cur, h1, h2, h3, h4⟩ := h
  exact ⟨g, off, cap, cur, h1, h2, (hg.block g (Array.getElem?_eq_some_iff.1 h3).1 (fun e => by have := hr g e.symm; omega)).trans h3, h4⟩
theorem QuP.below (h : QuP W base s ps) (hb : Below W.heap.size W W') : QuP W' base s ps := by
  obtain ⟨g, off, cap, cur, h1, h2, h3, h4⟩ := h
  exact ⟨g, off, cap, cur, h1, h2, (hb.block g (Array.getElem?_eq_some_iff.1 h3).1).trans h3, h4⟩
theorem QuP.drew (h : QuP W base s ps) : QuP W.drew base s ps := h
theorem QuP.in_ (h : QuP W base s ps) : ∀ r, s.ownBlock = some r → base ≤ r ∧ r < W.heap.size := fun r e => by
  obtain ⟨g, off, cap, cur, rfl, h2, h3, _⟩ := h
  obtain rfl : g = r := by simpa [Value.ownBlock] using e
  exact ⟨h2, (Array.getElem?_eq_some_iff.1 h3).1⟩
theorem cell_of_block {g off j : Nat} {cur : Array Value} {t : TypeId} {u : Value} (h : W.heap[g]? = some (.cells cur t (0, 0))) (hu : cur[off + j]? = some u) : W.cell? ⟨g, off + j, none⟩ = some u := by
  simp [World.cell?, h, hu]
/-- The first pair, and what is left when it is cut off. -/
theorem QuP.head {p : Int × Int} (h : QuP W base s (p :: ps)) : ∃ g off cap, s = .slice (some ⟨g, off, none⟩) (ps.length + 1) (cap + 1) ∧ base ≤ g ∧ g < W.heap.size ∧ W.cell? ⟨g, off, none⟩ = some (.int .i64 p.1) ∧ W.cell? ⟨g, off + 1, none⟩ = some (.int .i64 p.2) ∧ ps.length ≤ cap ∧ cap ≤ maxLen ∧
    QuP W base (.slice (some ⟨g, off + 2, none⟩) ps.length cap) ps ∧ (cap = 0 → QuP W base (.slice (some ⟨g, off, none⟩) ps.length cap) ps) := by
  obtain ⟨g, off, cap, cur, rfl, h2, h3, h4, h5, h6, h7⟩ := h
  rw [List.length_cons] at h4
  obtain ⟨cap, rfl⟩ : ∃ c, cap = c + 1 := ⟨cap - 1, by omega⟩
  refine ⟨g, off, cap, rfl, h2, (Array.getElem?_eq_some_iff.1 h3).1, cell_of_block (j := 0) h3 (h7 0 _ (by simp [cellsP])), cell_of_block h3 (h7 1 _ (by simp [cellsP])), by omega, by omega, ⟨g, off + 2, cap, cur, rfl, h2, h3, by omega, by omega, by omega, fun j u hj => ?_⟩, fun h0 => ?_⟩
  · have := h7 (j + 2) u (by
      rw [show cellsP (p :: ps) = [.int .i64 p.1, .int .i64 p.2] ++ cellsP ps by simp [cellsP], List.getElem?_append_right (by simp)]
      simpa using hj)
    rw [show off + 2 + j = off + (j + 2) by omega]
    exact this
  · have hn : ps = [] := List.eq_nil_of_length_eq_zero (by omega)
    subst hn
    exact ⟨g, off, cap, cur, rfl, h2, h3, by simp, by omega, by omega, fun j u hj => by simp [cellsP] at hj⟩
/-- A queue of one pair, in new memory. -/
theorem QuP.one (w : World) (hb : base ≤ w.heap.size) (a b : Int) : QuP (w.alloc (.cells #[.int .i64 a, .int .i64 b] 124)) base (.slice (some ⟨w.heap.size, 0, none⟩) 1 1) [(a, b)] :=
  ⟨w.heap.size, 0, 1, _, rfl, hb, World.alloc_heap_new w _, by simp, by unfold maxLen; omega, by simp, fun j u hj => by
    match j, hj with
    | 0, hj => simp [cellsP] at hj ⊢; exact hj
    | 1, hj => simp [cellsP] at hj ⊢; exact hj
    | j + 2, hj => simp [cellsP] at hj⟩
end
theorem set_gb (w : World) (g o : Nat) (v : Value) : w.grownBy (w.setCell ⟨g, o, none⟩ v) (some g) :=
  ⟨rfl, rfl, rfl, by simp, fun k _ hne => by
    have : k ≠ g := fun e => hne (by rw [e])
    simp [World.setCell, Array.getElem?_modify, Ne.symm this]⟩
theorem setCells_grown (g : Nat) : ∀ (vs : List Value) (o : Nat) (w : World), w.grownBy (w.setCells g o vs) (some g)
  | [], _, w => ⟨rfl, rfl, rfl, Nat.le_refl _, fun _ _ _ => rfl⟩
  | v :: vs, o, w => (set_gb w g o v).trans (setCells_grown g vs (o + 1) _)
theorem setCells_block (g : Nat) (t : TypeId) : ∀ (vs : List Value) (o : Nat) (w : World) (cur : Array Value), w.heap[g]? = some (.cells cur t (0, 0)) →
    ∃ cur', (w.setCells g o vs).heap[g]? = some (.cells cur' t (0, 0)) ∧ cur'.size = cur.size ∧ (∀ i, i < o → cur'[i]? = cur[i]?) ∧ (o + vs.length ≤ cur.size → ∀ j u, vs[j]? = some u → cur'[o + j]? = some u)
  | [], o, w, cur, h => ⟨cur, h, rfl, fun _ _ => rfl, fun _ j u hj => by simp at hj⟩
  | v :: vs, o, w, cur, h => by
    have h1 := heap_setCell_same w g o cur t v h
    obtain ⟨cur', q1, q2, q3, q4⟩ := setCells_block g t vs (o + 1) _ _ h1
    refine ⟨cur', q1, by rw [q2]; simp, fun i hi => ?_, fun hle j u hj => ?_⟩
    · rw [q3 i (by omega)]
      simp [show o ≠ i by omega]
    · rw [List.length_cons] at hle
      match j, hj with
      | 0, hj =>
        simp at hj
        subst hj
        rw [Nat.add_zero, q3 o (by omega)]
        simp [show o < cur.size by omega]
      | j + 1, hj =>
        have := q4 (by simp; omega) j u (by simpa using hj)
        rw [show o + (j + 1) = o + 1 + j by omega]
        exact this
theorem step_append_q {w : World} {ops : Array Oper} {o : Oper} {a : Act} {K : Act → World → Prop} {Q : Exit → Act → World → Prop} {E : Prop} (hgd : o.guard = none) (s x : Operand)
    (ho : o.op = .call { callee := .builtin .append, args := #[s, x], argTypes := #[136, 136] })
    (lo : Nat) (u : Value) (ps : List (Int × Int)) (y z : Int) (hs : a.eval s = u) (h : QuP w lo u ps) (hlw : lo ≤ w.heap.size) (b0 c : Nat) (hx : a.eval x = .slice (some ⟨b0, 0, none⟩) 1 c)
    (hy : w.cell? ⟨b0, 0, none⟩ = some (.int .i64 y)) (hz : w.cell? ⟨b0, 1, none⟩ = some (.int .i64 z)) (hl : ps.length ≤ 1100000)
    (hk : ∀ (g off cap : Nat) (w' : World), QuP w' lo (.slice (some ⟨g, off, none⟩) (ps.length + 1) cap) (ps ++ [(y, z)]) → w.grownBy w' u.ownBlock → K (a.put o.dst (.slice (some ⟨g, off, none⟩) (ps.length + 1) cap)) w') :
    if Region.wanted o (yielded ops a.tmps) = true then Oper.wp Try.prog o a w K Q else E := by
  have hw : Region.wanted o (yielded ops a.tmps) = true := by simp [Region.wanted, hgd]
  rw [if_pos hw]
  obtain ⟨i0, hi, hz0, hz1, hz2⟩ := info_parts infoPair
  obtain ⟨g, off, cap, cur, rfl, h2, h3, h4, h5, h6, h7⟩ := h
  have hnews : ∀ j q, [Value.int .i64 y, Value.int .i64 z][j]? = some q → w.cell? ((⟨b0, 0, none⟩ : Addr).add j) = some q := fun j q hj => by
    rw [addr_at, Nat.zero_add]
    match j, hj with
    | 0, hj => simp at hj; rw [← hj]; exact hy
    | 1, hj => simp at hj; rw [← hj]; exact hz
    | j + 2, hj => simp at hj
  have h1c : ∀ q ∈ [Value.int .i64 y, Value.int .i64 z], q.oneCell' = true := fun q hq => by
    simp at hq
    rcases hq with rfl | rfl <;> rfl
  have hcp : cellsP (ps ++ [(y, z)]) = cellsP ps ++ [.int .i64 y, .int .i64 z] := by rw [cellsP_append]; rfl
  have main : ∃ u' w', (Builtin.append_ #[136, 136] o.type #[.slice (some ⟨g, off, none⟩) ps.length cap, .slice (some ⟨b0, 0, none⟩) 1 c]).run Try.prog w = .ok u' w' ∧ QuP w' lo u' (ps ++ [(y, z)]) ∧ w.grownBy w' (some g) := by
    by_cases hroom : ps.length + 1 ≤ cap
    · have hin : ∀ j, j < 2 → ∃ q, w.heap[g]? = some (.cells cur 124 (0, 0)) ∧ cur[off + ps.length * 2 + j]? = some q := fun j hj => ⟨_, h3, Array.getElem?_eq_getElem (by omega)⟩
      have hr := run_append_room_cells (P := Try.prog) w 136 o.type 124 i0 Try.underlying136 hi g off ps.length cap ⟨b0, 0, none⟩ 1 c [.int .i64 y, .int .i64 z] (by rw [hz1]; rfl) hnews h1c hroom
        (fun j hj => by
          obtain ⟨q, _, hq⟩ := hin j (by simpa using hj)
          rw [hz1, cell_of_block h3 hq]
          rfl)
        (fun j hj => by simp [World.frozen?, h3])
      rw [hz1] at hr
      obtain ⟨cur', q1, q2, q3, q4⟩ := setCells_block g 124 [.int .i64 y, .int .i64 z] (off + ps.length * 2) w cur h3
      refine ⟨_, _, hr, ⟨g, off, cap, cur', by rw [List.length_append]; rfl, h2, q1, by rw [List.length_append]; exact hroom, h5, by omega, fun j v hj => ?_⟩, setCells_grown g _ _ w⟩
      rw [hcp] at hj
      by_cases hjl : j < (cellsP ps).length
      · rw [List.getElem?_append_left hjl] at hj
        rw [cellsP_len] at hjl
        rw [q3 _ (by omega)]
        exact h7 j v hj
      · rw [List.getElem?_append_right (by omega), cellsP_len] at hj
        rw [cellsP_len] at hjl
        have := q4 (by simp; omega) _ v hj
        rw [show off + j = off + ps.length * 2 + (j - ps.length * 2) by omega]
        exact this
    · obtain ⟨v', w', r1, r2, r3⟩ := run_append_arg_grows (P := Try.prog) w 136 o.type 124 i0 _ 2 16 Try.underlying136 hi hz0 hz1 hz2 rfl (by decide) ⟨g, off, none⟩ ps.length cap (cellsP ps) (cellsP_len ps) (fun j q hj => by
        rw [addr_at]
        exact cell_of_block h3 (h7 j q hj)) ⟨b0, 0, none⟩ 1 c [.int .i64 y, .int .i64 z] rfl hnews (by omega) (by unfold maxLen; omega) (by omega)
      refine ⟨v', w', r1, ?_, ⟨r3.os, r3.tape, r3.output, r3.size, fun k hk _ => r3.block k hk (by simp)⟩⟩
      rcases r2 with ⟨r4, ⟨_, r5⟩ | ⟨g', cap', cur', rfl, r6, r7, r8, r9, r10, r11⟩⟩
      · omega
      · refine ⟨g', 0, cap', cur', by rw [List.length_append]; rfl, by omega, r7, by rw [List.length_append]; exact r8, r9, by omega, fun j v hj => ?_⟩
        rw [hcp, ← r11, List.getElem?_take] at hj
        split at hj
        · rw [Nat.zero_add]
          simpa using hj
        · cases hj
  obtain ⟨u', w', m1, m2, m3⟩ := main
  obtain ⟨g', off', cap', hu'⟩ : ∃ g off cap, u' = .slice (some ⟨g, off, none⟩) (ps.length + 1) cap := by
    obtain ⟨g', off', cap', _, e, _⟩ := m2
    exact ⟨g', off', cap', by rw [e, List.length_append]; rfl⟩
  subst hu'
  unfold Oper.wp execOp
  simp only [ho, resolve, invoke, builtin, Sem.run_bind, Sem.run_pure, Result.andThen_ok, List.map_toArray, List.map_cons, List.map_nil, hs, hx, m1]
  exact hk g' off' cap' w' m2 m3
end Go.Proofs.Ytoicdfdfajfopaa

namespace Go.Proofs.Ytoicdfdfajfopaa
/-- Third points of a full system of n points. -/
structure Thd (n : Nat) (T : Nat → Nat → Nat) : Prop where
  lt : ∀ a b, a < n → b < n → a ≠ b → T a b < n
  nl : ∀ a b, a < n → b < n → a ≠ b → T a b ≠ a
  nr : ∀ a b, a < n → b < n → a ≠ b → T a b ≠ b
  sym : ∀ a b, a < n → b < n → a ≠ b → T a b = T b a
  back : ∀ a b, a < n → b < n → a ≠ b → T a (T a b) = b
/-- The image of a point, if it is known. -/
def gm (m : List (Option Nat)) (a : Nat) : Option Nat := (m[a]?).join
theorem gm_set {m : List (Option Nat)} {a : Nat} (ha : a < m.length) (b c : Nat) : gm (m.set a (some b)) c = if c = a then some b else gm m c := by
  unfold gm
  by_cases h : c = a
  · subst h
    simp [ha]
  · rw [List.getElem?_set_ne (Ne.symm h), if_neg h]
theorem gm_mem {m : List (Option Nat)} {b : Nat} : some b ∈ m ↔ ∃ a, a < m.length ∧ gm m a = some b := by
  constructor
  · intro h
    obtain ⟨a, ha, e⟩ := List.mem_iff_getElem.1 h
    exact ⟨a, ha, by simp [gm, ha, e]⟩
  · rintro ⟨a, ha, e⟩
    simp [gm, ha] at e
    exact e ▸ List.getElem_mem ha
/-- How many images are not known yet. -/
def unk (m : List (Option Nat)) : Nat := m.countP fun x => x.isNone
theorem unk_set {m : List (Option Nat)} {a b : Nat} (ha : a < m.length) (h : gm m a = none) : unk (m.set a (some b)) + 1 = unk m := by
  unfold unk
  have h1 : m[a] = none := by simpa [gm, ha] using h
  have e : m = m.take a ++ none :: m.drop (a + 1) := by
    conv => lhs; rw [← List.take_append_drop a m, List.drop_eq_getElem_cons ha, h1]
  rw [List.set_eq_take_append_cons_drop, if_pos ha]
  conv => rhs; rw [e]
  simp [List.countP_append]
  omega
section
variable (n : Nat) (T1 T2 : Nat → Nat → Nat)
/-- What follows from leading a to b. -/
def news (m : List (Option Nat)) (a b : Nat) : List (Nat × Nat) := (List.range n).filterMap fun c => match gm m c with
  | none => none
  | some d => if gm m (T1 a c) = some (T2 b d) then none else some (T1 a c, T2 b d)
def mu (m : List (Option Nat)) (op : List (Nat × Nat)) : Nat := unk m * (n + 1) + op.length
def prop : Nat → List (Option Nat) → List (Nat × Nat) → Option (List (Option Nat))
  | 0, _, _ => none
  | _ + 1, m, [] => some m
  | f + 1, m, (a, b) :: r => if gm m a = some b then prop f m r else if gm m a ≠ none ∨ some b ∈ m then none else prop f (m.set a (some b)) (r ++ news n T1 T2 m a b)
/-- The pairs are in range. -/
def OpL (op : List (Nat × Nat)) : Prop := ∀ p ∈ op, p.1 < n ∧ p.2 < n
/-- The known images are in range, no two are equal, and what follows from each two is known or open. -/
structure Cl (m : List (Option Nat)) (op : List (Nat × Nat)) : Prop where
  len : m.length = n
  rng : ∀ a b, gm m a = some b → a < n ∧ b < n
  inj : ∀ a c b, gm m a = some b → gm m c = some b → a = c
  cons : ∀ a c b d, gm m a = some b → gm m c = some d → a ≠ c → gm m (T1 a c) = some (T2 b d) ∨ (T1 a c, T2 b d) ∈ op
structure IsoR (p : Nat → Nat) : Prop where
  lt : ∀ a, a < n → p a < n
  inj : ∀ a b, a < n → b < n → p a = p b → a = b
  third : ∀ a b, a < n → b < n → a ≠ b → p (T1 a b) = T2 (p a) (p b)
def Ext (p : Nat → Nat) (m : List (Option Nat)) : Prop := ∀ a b, gm m a = some b → p a = b
def Sat (p : Nat → Nat) (op : List (Nat × Nat)) : Prop := ∀ q ∈ op, p q.1 = q.2
end
section
variable {n : Nat} {T1 T2 : Nat → Nat → Nat}
theorem news_len (m : List (Option Nat)) (a b : Nat) : (news n T1 T2 m a b).length ≤ n := by
  unfold news
  refine Nat.le_trans (List.length_filterMap_le _ _) ?_
  simp
theorem news_mem {m : List (Option Nat)} {a b : Nat} {p : Nat × Nat} : p ∈ news n T1 T2 m a b ↔ ∃ c d, c < n ∧ gm m c = some d ∧ gm m (T1 a c) ≠ some (T2 b d) ∧ p = (T1 a c, T2 b d) := by
  unfold news
  rw [List.mem_filterMap]
  constructor
  · rintro ⟨c, hc, h⟩
    rw [List.mem_range] at hc
    cases hg : gm m c with
    | none => rw [hg] at h; cases h
    | some d =>
      rw [hg] at h
      dsimp only at h
      split at h
      · cases h
      · rename_i hne
        exact ⟨c, d, hc, hg, hne, (Option.some.inj h).symm⟩
  · rintro ⟨c, d, hc, hg, hne, rfl⟩
    exact ⟨c, List.mem_range.2 hc, by rw [hg]; dsimp only; rw [if_neg hne]⟩
variable (h1 : Thd n T1) (h2 : Thd n T2)
include h1 h2
/-- One more image. -/
theorem Cl.put {m : List (Option Nat)} {a b : Nat} {r : List (Nat × Nat)} (h : Cl n T1 T2 m ((a, b) :: r)) (ha : a < n) (hb : b < n) (hn : gm m a = none) (hbm : some b ∉ m) : Cl n T1 T2 (m.set a (some b)) (r ++ news n T1 T2 m a b) := by
  have hal : a < m.length := by rw [h.len]; exact ha
  have hne : ∀ c d, gm m c = some d → c ≠ a ∧ d ≠ b := fun c d hc => by
    refine ⟨fun e => ?_, fun e => ?_⟩
    · subst e; rw [hn] at hc; cases hc
    · subst e; exact hbm (gm_mem.2 ⟨c, by rw [h.len]; exact (h.rng c d hc).1, hc⟩)
  refine ⟨by rw [List.length_set, h.len], fun x y hx => ?_, fun x z y hx hz => ?_, fun x z y d hx hz hxz => ?_⟩
  · rw [gm_set hal] at hx
    split at hx
    · rename_i e; cases hx; exact ⟨e ▸ ha, hb⟩
    · exact h.rng x y hx
  · rw [gm_set hal] at hx hz
    split at hx
    · rename_i ex
      cases hx
      split at hz
      · rename_i ez; rw [ex, ez]
      · exact absurd rfl (hne z b hz).2
    · split at hz
      · cases hz; exact absurd rfl (hne x b hx).2
      · exact h.inj x z y hx hz
  · rw [gm_set hal] at hx hz
    by_cases ex : x = a
    · rw [if_pos ex] at hx
      cases hx
      have ez : z ≠ a := fun e => hxz (ex.trans e.symm)
      rw [if_neg ez] at hz
      subst ex
      have hz1 := h.rng z d hz
      by_cases hk : gm m (T1 x z) = some (T2 b d)
      · left
        rw [gm_set hal, if_neg (h1.nl x z ha hz1.1 hxz)]
        exact hk
      · exact .inr (List.mem_append.2 (.inr (news_mem.2 ⟨z, d, hz1.1, hz, hk, rfl⟩)))
    · rw [if_neg ex] at hx
      by_cases ez : z = a
      · rw [if_pos ez] at hz
        cases hz
        subst ez
        have hx1 := h.rng x y hx
        have hyb := (hne x y hx).2
        rw [h1.sym x z hx1.1 ha hxz, h2.sym y b hx1.2 hb hyb]
        by_cases hk : gm m (T1 z x) = some (T2 b y)
        · left
          rw [gm_set hal, if_neg (h1.nl z x ha hx1.1 (Ne.symm hxz))]
          exact hk
        · exact .inr (List.mem_append.2 (.inr (news_mem.2 ⟨x, y, hx1.1, hx, hk, rfl⟩)))
      · rw [if_neg ez] at hz
        rcases h.cons x z y d hx hz hxz with hk | hk
        · left
          rw [gm_set hal]
          split
          · rename_i e; rw [e, hn] at hk; cases hk
          · exact hk
        · rcases List.mem_cons.1 hk with e | hk
          · left
            have e1 : T1 x z = a := congrArg Prod.fst e
            have e2 : T2 y d = b := congrArg Prod.snd e
            rw [gm_set hal, if_pos e1, e2]
          · exact .inr (List.mem_append.2 (.inl hk))
theorem OpL.news {m : List (Option Nat)} {op : List (Nat × Nat)} (h : Cl n T1 T2 m op) {a b : Nat} (ha : a < n) (hb : b < n) (hn : gm m a = none) (hbm : some b ∉ m) : OpL n (news n T1 T2 m a b) := fun p hp => by
  obtain ⟨c, d, hc, hg, _, rfl⟩ := news_mem.1 hp
  have hr := h.rng c d hg
  have hca : a ≠ c := fun e => by rw [← e, hn] at hg; cases hg
  have hbd : b ≠ d := fun e => hbm (gm_mem.2 ⟨c, by rw [h.len]; exact hr.1, e ▸ hg⟩)
  exact ⟨h1.lt a c ha hc hca, h2.lt b d hb hr.2 hbd⟩
omit h1 h2 in
theorem Cl.drop {m : List (Option Nat)} {a b : Nat} {r : List (Nat × Nat)} (h : Cl n T1 T2 m ((a, b) :: r)) (hk : gm m a = some b) : Cl n T1 T2 m r :=
  ⟨h.len, h.rng, h.inj, fun x z y d hx hz hxz => by
    rcases h.cons x z y d hx hz hxz with e | e
    · exact .inl e
    · rcases List.mem_cons.1 e with e | e
      · left
        have e1 : T1 x z = a := congrArg Prod.fst e
        have e2 : T2 y d = b := congrArg Prod.snd e
        rw [e1, e2, hk]
      · exact .inr e⟩
/-- What the search comes to: closed, and with just the same renumberings. -/
theorem prop_spec : ∀ (f : Nat) (m : List (Option Nat)) (op : List (Nat × Nat)), Cl n T1 T2 m op → OpL n op → mu n m op < f →
    (∀ m', prop n T1 T2 f m op = some m' → Cl n T1 T2 m' [] ∧ unk m' ≤ unk m ∧ (∀ a b, gm m a = some b → gm m' a = some b) ∧ (∀ q ∈ op, gm m' q.1 = some q.2) ∧ ∀ p, IsoR n T1 T2 p → Ext p m → Sat p op → Ext p m') ∧
    (prop n T1 T2 f m op = none → ∀ p, IsoR n T1 T2 p → Ext p m → Sat p op → False)
  | 0, _, _, _, _, h => by omega
  | f + 1, m, [], hC, _, _ => ⟨fun m' h => by
      have h : some m = some m' := h
      cases h
      exact ⟨hC, Nat.le_refl _, fun _ _ h => h, by simp, fun _ _ h _ => h⟩, fun h => by
      have h : some m = none := h
      cases h⟩
  | f + 1, m, (a, b) :: r, hC, hO, hf => by
    have ha := (hO (a, b) (by simp)).1
    have hb := (hO (a, b) (by simp)).2
    unfold prop
    by_cases hk : gm m a = some b
    · rw [if_pos hk]
      obtain ⟨i1, i2⟩ := prop_spec f m r (hC.drop hk) (fun p hp => hO p (by simp [hp])) (by unfold mu at hf ⊢; simp at hf; omega)
      refine ⟨fun m' h => ?_, fun h p hp he hs => i2 h p hp he fun q hq => hs q (by simp [hq])⟩
      obtain ⟨j1, j2, j3, j4, j5⟩ := i1 m' h
      refine ⟨j1, j2, j3, fun q hq => ?_, fun p hp he hs => j5 p hp he fun q hq => hs q (by simp [hq])⟩
      rcases List.mem_cons.1 hq with rfl | hq
      · exact j3 a b hk
      · exact j4 q hq
    · rw [if_neg hk]
      by_cases hbad : gm m a ≠ none ∨ some b ∈ m
      · rw [if_pos hbad]
        refine ⟨fun m' h => (by cases h), fun _ p hp he hs => ?_⟩
        have hpa : p a = b := hs (a, b) (by simp)
        rcases hbad with h | h
        · cases hg : gm m a with
          | none => exact h hg
          | some c =>
            have := he a c hg
            rw [hpa] at this
            exact hk (by rw [hg, this])
        · obtain ⟨c, hc, hg⟩ := gm_mem.1 h
          have hpc := he c b hg
          rw [hC.len] at hc
          have := hp.inj a c ha hc (hpa.trans hpc.symm)
          exact hk (by rw [this]; exact hg)
      · rw [if_neg hbad]
        have hn : gm m a = none := Classical.byContradiction fun h => hbad (.inl h)
        have hbm : some b ∉ m := fun h => hbad (.inr h)
        have hal : a < m.length := by rw [hC.len]; exact ha
        have hu := unk_set (b := b) hal hn
        have hmu : mu n (m.set a (some b)) (r ++ news n T1 T2 m a b) < f := by
          unfold mu at hf ⊢
          have hl := news_len (n := n) (T1 := T1) (T2 := T2) m a b
          rw [← hu, Nat.add_mul] at hf
          simp only [List.length_append, List.length_cons] at hf ⊢
          omega
        obtain ⟨i1, i2⟩ := prop_spec f (m.set a (some b)) (r ++ news n T1 T2 m a b) (hC.put h1 h2 ha hb hn hbm) (fun p hp => by
          rcases List.mem_append.1 hp with hp | hp
          · exact hO p (by simp [hp])
          · exact OpL.news h1 h2 hC ha hb hn hbm p hp) hmu
        have hsat : ∀ p, IsoR n T1 T2 p → Ext p m → Sat p ((a, b) :: r) → Ext p (m.set a (some b)) ∧ Sat p (r ++ news n T1 T2 m a b) := fun p hp he hs => by
          have hpa : p a = b := hs (a, b) (by simp)
          refine ⟨fun x y hx => ?_, fun q hq => ?_⟩
          · rw [gm_set hal] at hx
            split at hx
            · rename_i e; cases hx; rw [e]; exact hpa
            · exact he x y hx
          · rcases List.mem_append.1 hq with hq | hq
            · exact hs q (by simp [hq])
            · obtain ⟨c, d, hc, hg, _, rfl⟩ := news_mem.1 hq
              have hca : a ≠ c := fun e => by rw [← e, hn] at hg; cases hg
              dsimp only
              rw [hp.third a c ha hc hca, hpa, he c d hg]
        refine ⟨fun m' h => ?_, fun h p hp he hs => i2 h p hp (hsat p hp he hs).1 (hsat p hp he hs).2⟩
        obtain ⟨j1, j2, j3, j4, j5⟩ := i1 m' h
        refine ⟨j1, by omega, fun x y hx => j3 x y ?_, fun q hq => ?_, fun p hp he hs => j5 p hp (hsat p hp he hs).1 (hsat p hp he hs).2⟩
        · rw [gm_set hal]
          split
          · rename_i e; rw [e, hn] at hx; cases hx
          · exact hx
        · rcases List.mem_cons.1 hq with rfl | hq
          · exact j3 a b (by rw [gm_set hal, if_pos rfl])
          · exact j4 q (List.mem_append.2 (.inl hq))
end
end Go.Proofs.Ytoicdfdfajfopaa

namespace Go.Proofs.Ytoicdfdfajfopaa
open Go.RowKit Go.Maps
/-- The row at the head of block g holds just these integers and may be written. -/
structure OwnAtI (w : World) (g : Nat) (zs : List Int) : Prop where
  lt : g < w.heap.size
  at_ : Ints w g 0 zs
  free : ∀ o, w.frozen? ⟨g, o, none⟩ = false
theorem OwnAtI.kept {w w' : World} {g : Nat} {zs : List Int} {row : Option Nat} (h : OwnAtI w g zs) (hg : w.grownBy w' row) (hne : some g ≠ row) : OwnAtI w' g zs := by
  have hb := hg.block g h.lt hne
  exact ⟨Nat.lt_of_lt_of_le h.lt hg.size, fun k hk => (World.cell?_of_block (w := w) (a := ⟨g, _, none⟩) hb).trans (h.at_ k hk), fun o => (World.frozen?_of_block (w := w) (a := ⟨g, o, none⟩) hb).trans (h.free o)⟩
theorem Ints.set {w : World} {g : Nat} {l : List Int} (h : Ints w g 0 l) {i : Nat} (hi : i < l.length) (x : Int) : Ints (w.setCell ⟨g, i, none⟩ (.int .i64 x)) g 0 (l.set i x) := by
  intro k hk
  rw [List.length_set] at hk
  have hk' := h k hk
  have hi' := h i hi
  rw [Nat.zero_add] at hk' hi' ⊢
  by_cases e : k = i
  · subst e
    rw [World.cell?_setCell_same' _ _ _ (by rw [hi']; rfl)]
    simp [hk]
  · rw [World.cell?_setCell_other _ _ _ _ (by simp <;> omega), hk', List.getElem?_set_ne (Ne.symm e)]
def markI (k : Int) (n : Nat) : List Int := (List.range n).map fun (t : Nat) => k + (t : Int)
theorem markI_length (k : Int) (n : Nat) : (markI k n).length = n := by simp [markI]
theorem markI_next {k : Int} {i : Nat} {zs : List Int} (h : i < zs.length) : (markI k i ++ zs.drop i).set i (k + i) = markI k (i + 1) ++ zs.drop (i + 1) := by
  rw [List.drop_eq_getElem_cons h, List.set_append_right _ _ (by rw [markI_length]; omega), markI_length, Nat.sub_self, List.set_cons_zero]
  simp [markI, List.range_succ]
theorem markI_at {k : Int} {n j : Nat} (h : j < n) : (markI k n)[j]?.getD 0 = k + j := by
  simp [markI, h]
set_option maxRecDepth 100000 in
theorem markInt64S_nil (a : Option Addr) (c : Nat) (k : Int) (w : World) : Calls Try.prog 25 #[.slice a 0 c, .int .i64 k] w (RS (.int .i64 k) w) := by
  go_enter Try.func25, Try.ntmps25
  go_wp2
  refine wp_loop_rounds 1 ?_
  rw [rounds_succ]
  go_wp2
  go_ret
  exact RS_of rfl
set_option maxRecDepth 100000 in
theorem heldInt64S_nil (a : Option Addr) (c : Nat) (k : Int) (w : World) : Calls Try.prog 26 #[.slice a 0 c, .int .i64 k] w (RS (.int .i64 k) w) := by
  go_enter Try.func26, Try.ntmps26
  go_wp2
  refine wp_loop_rounds 1 ?_
  rw [rounds_succ]
  go_wp2
  go_ret
  exact RS_of rfl
set_option maxRecDepth 100000 in
theorem markInt64S_any (g cap : Nat) (zs : List Int) (k : Int) (w : World) (h : OwnAtI w g zs) (hl : zs.length ≤ 1100000) (h0 : 0 ≤ k) (h1 : k ≤ 9000000) :
    Calls Try.prog 25 #[.slice (some ⟨g, 0, none⟩) zs.length cap, .int .i64 k] w (fun e w' => e = .returned (.int .i64 (k + zs.length)) ∧ w.grownBy w' (some g) ∧ OwnAtI w' g (markI k zs.length)) := by
  have H := Lib.hid h
  clear h
  go_enter Try.func25, Try.ntmps25
  go_wp2
  go_loopw [1, 5] (fun t i wr => ∃ j : Nat, j ≤ zs.length ∧ i = .int .i64 j ∧ t = .int .i64 (k + j) ∧ w.grownBy wr (some g) ∧ OwnAtI wr g (markI k j ++ zs.drop j)) (fun _ i _ => zs.length - (intOf i).toNat)
  case atStart => exact ⟨0, Nat.zero_le _, rfl, by simp, only_refl _ _, by simpa [markI] using H.out⟩
  case round =>
    obtain ⟨j, hj, rfl, rfl, hg, ho⟩ := hrel
    by_cases hjl : j < zs.length
    · have hlj : j < (markI k j ++ zs.drop j).length := by simp [markI_length]; omega
      have c1 := ho.at_ j hlj
      rw [Nat.zero_add] at c1
      have f1 := ho.free
      have hs := Ints.set ho.at_ hlj (k + j)
      rw [markI_next hjl] at hs
      have HS := Lib.hid hs
      have hlt := ho.lt
      clear hs ho
      have g0 : (0 : Int) ≤ (j : Int) := by omega
      have g1 : (j : Int) < (zs.length : Int) := by omega
      obtain ⟨m, hm⟩ : ∃ m, m = k + (j : Int) := ⟨_, rfl⟩
      rw [← hm] at HS ⊢
      have m0 : 0 ≤ m := by omega
      have m1 : m ≤ 90000000 := by omega
      have HM := Lib.hid hm
      clear hm
      go_wp2
      go_roundw
      case rel => exact ⟨j + 1, by omega, by go_num, int_eq (by rw [HM.out]; omega), only_setCell hg rfl _, ⟨by simpa [World.setCell] using hlt, HS.out, fun o => by rw [World.frozen?_setCell]; exact f1 o⟩⟩
      case measure => simp [intOf]; omega
    · go_wp2
      go_ret
      have e : j = zs.length := by omega
      subst e
      rw [List.drop_length, List.append_nil] at ho
      exact ⟨rfl, hg, ho⟩
set_option maxRecDepth 100000 in
theorem heldInt64S_any (g cap n : Nat) (k : Int) (w : World) (h : Ints w g 0 (markI k n)) (hl : n ≤ 1100000) (h0 : 0 ≤ k) (h1 : k ≤ 9000000) :
    Calls Try.prog 26 #[.slice (some ⟨g, 0, none⟩) n cap, .int .i64 k] w (RS (.int .i64 (k + n)) w) := by
  have H := Lib.hid h
  clear h
  go_enter Try.func26, Try.ntmps26
  go_wp2
  go_loop [1, 5] (fun t i => ∃ j : Nat, j ≤ n ∧ i = .int .i64 j ∧ t = .int .i64 (k + j)) (fun _ i => n - (intOf i).toNat)
  case atStart => exact ⟨0, Nat.zero_le _, rfl, by simp⟩
  case round =>
    obtain ⟨j, hj, rfl, rfl⟩ := hrel
    by_cases hjl : j < n
    · have hc := H.out j (by rw [markI_length]; exact hjl)
      rw [markI_at hjl, Nat.zero_add] at hc
      obtain ⟨m, hm⟩ : ∃ m, m = k + (j : Int) := ⟨_, rfl⟩
      rw [← hm] at hc ⊢
      have m0 : 0 ≤ m := by omega
      have m1 : m ≤ 90000000 := by omega
      have HM := Lib.hid hm
      clear hm
      have g0 : (0 : Int) ≤ (j : Int) := by omega
      have g1 : (j : Int) < (n : Int) := by omega
      have n1 : (m != m) = false := by simp
      go_wp2
      go_round
      case rel => exact ⟨j + 1, by omega, by go_num, int_eq (by rw [HM.out]; omega)⟩
      case measure => simp [intOf]; omega
    · go_wp2
      go_ret
      have e : j = n := by omega
      subst e
      exact RS_of rfl
/-- A result that is a list of integers: empty anywhere, or memory of its own between lo and hi. -/
def ResI (w : World) (lo hi : Nat) (s : Value) (zs : List Int) : Prop := (zs = [] ∧ ∃ a c, s = .slice a 0 c) ∨ ∃ g cap, s = .slice (some ⟨g, 0, none⟩) zs.length cap ∧ lo ≤ g ∧ g < hi ∧ OwnAtI w g zs
theorem OwnJ.res {w : World} {base : Nat} {v : Value} {zs : List Int} (h : OwnJ w base v zs) (hl : zs.length ≤ 1100000) : ResI w base w.heap.size v zs := by
  have hib := h.ib hl
  obtain ⟨hl, h | ⟨g, cap, cur, rfl, hb, hcur, hn, hc, hsz, hx⟩⟩ := h
  · obtain ⟨rfl, h0⟩ := h
    exact .inl ⟨List.length_eq_zero_iff.1 h0, _, _, rfl⟩
  · have hg : g < w.heap.size := (Array.getElem?_eq_some_iff.1 hcur).1
    rcases hib.2 with ⟨a, c, e1, rfl⟩ | ⟨b, off, cap', e1, _, hI⟩
    · exact .inl ⟨rfl, _, _, rfl⟩
    · simp at e1
      obtain ⟨⟨rfl, rfl⟩, _⟩ := e1
      exact .inr ⟨g, cap, rfl, hb, hg, hg, hI, fun o => by simp [World.frozen?, hcur]⟩
theorem ResI.ib {w : World} {lo hi : Nat} {s : Value} {zs : List Int} (h : ResI w lo hi s zs) (hl : zs.length ≤ 1100000) : IB w s zs := by
  rcases h with ⟨rfl, a, c, rfl⟩ | ⟨g, cap, rfl, _, _, ho⟩
  · exact ⟨hl, .inl ⟨a, c, rfl, rfl⟩⟩
  · exact ⟨hl, .inr ⟨g, 0, cap, rfl, ho.lt, ho.at_⟩⟩
theorem ResI.kept {w w' : World} {lo hi : Nat} {s : Value} {zs : List Int} {row : Option Nat} (h : ResI w lo hi s zs) (hg : w.grownBy w' row) (hr : ∀ r, row = some r → r < lo ∨ hi ≤ r) : ResI w' lo hi s zs := by
  rcases h with h | ⟨g, cap, rfl, h1, h2, ho⟩
  · exact .inl h
  · exact .inr ⟨g, cap, rfl, h1, h2, ho.kept hg (fun e => by have := hr g e.symm; omega)⟩
theorem ResI.below {w w' : World} {lo hi : Nat} {s : Value} {zs : List Int} (h : ResI w lo hi s zs) {B : Nat} (hb : Below B w w') (hB : w.heap.size ≤ B) : ResI w' lo hi s zs :=
  h.kept (only_of_below (hb.mono hB) none) (by simp)
theorem markJ (lo hi : Nat) (s : Value) (zs : List Int) (k : Int) (w : World) (h : ResI w lo hi s zs) (hl : zs.length ≤ 1100000) (h0 : 0 ≤ k) (h1 : k ≤ 9000000) :
    Calls Try.prog 25 #[s, .int .i64 k] w (fun e w' => e = .returned (.int .i64 (k + zs.length)) ∧ (∃ row, w.grownBy w' row ∧ ∀ r, row = some r → lo ≤ r ∧ r < hi) ∧ ResI w' lo hi s (markI k zs.length)) := by
  rcases h with ⟨rfl, a, c, rfl⟩ | ⟨g, cap, rfl, h3, h4, ho⟩
  · refine (markInt64S_nil a c k w).mono ?_
    rintro e w' ⟨rfl, rfl⟩
    exact ⟨by simp, ⟨none, only_refl _ _, by simp⟩, .inl ⟨rfl, a, c, rfl⟩⟩
  · refine (markInt64S_any g cap zs k w ho hl h0 h1).mono ?_
    rintro e w' ⟨rfl, hg, ho'⟩
    exact ⟨rfl, ⟨some g, hg, fun r hr => by cases hr; exact ⟨h3, h4⟩⟩, .inr ⟨g, cap, by rw [markI_length], h3, h4, ho'⟩⟩
theorem heldJ (lo hi : Nat) (s : Value) (n : Nat) (k : Int) (w : World) (h : ResI w lo hi s (markI k n)) (hl : n ≤ 1100000) (h0 : 0 ≤ k) (h1 : k ≤ 9000000) :
    Calls Try.prog 26 #[s, .int .i64 k] w (RS (.int .i64 (k + n)) w) := by
  rcases h with ⟨hn, a, c, rfl⟩ | ⟨g, cap, rfl, h3, h4, ho⟩
  · have : n = 0 := by have := congrArg List.length hn; simpa [markI_length] using this
    subst this
    simpa using heldInt64S_nil a c k w
  · rw [markI_length]
    exact heldInt64S_any g cap n k w ho.at_ hl h0 h1
end Go.Proofs.Ytoicdfdfajfopaa

namespace Go.Proofs.Ytoicdfdfajfopaa
open Go.RowKit Go.Maps
/-- The value is a slice of just these n rows. -/
def SSB (w : World) (s : Value) (n : Nat) (F : Nat → List Int) : Prop :=
  n ≤ 1100000 ∧ ((n = 0 ∧ ∃ a c, s = .slice a 0 c) ∨ ∃ b off cap, s = .slice (some ⟨b, off, none⟩) n cap ∧ b < w.heap.size ∧ ∀ k, k < n → ∃ a c, w.cell? ⟨b, off + k, none⟩ = some (.slice a (F k).length c) ∧ IB w (.slice a (F k).length c) (F k))
theorem SSB.below {w w' : World} {s : Value} {n : Nat} {F : Nat → List Int} (h : SSB w s n F) {B : Nat} (hb : Below B w w') (hB : w.heap.size ≤ B) : SSB w' s n F := by
  obtain ⟨h1, h2⟩ := h
  refine ⟨h1, ?_⟩
  rcases h2 with h2 | ⟨b, off, cap, rfl, hl, hr⟩
  · exact .inl h2
  · refine .inr ⟨b, off, cap, rfl, by have := hb.size; omega, fun k hk => ?_⟩
    obtain ⟨a, c, hc, hi⟩ := hr k hk
    exact ⟨a, c, (hb.cell (by simp; omega)).trans hc, hi.below hb hB⟩
theorem SSB.slice {w : World} {s : Value} {n : Nat} {F : Nat → List Int} (h : SSB w s n F) : ∃ a c, s = .slice a n c := by
  rcases h.2 with ⟨rfl, a, c, rfl⟩ | ⟨b, off, cap, rfl, _⟩ <;> exact ⟨_, _, rfl⟩
set_option maxRecDepth 100000 in
theorem eqInt64SS_same (s t : Value) (n : Nat) (F : Nat → List Int) (w : World) (h : SSB w s n F) (k : SSB w t n F) : Calls Try.prog 33 #[s, t] w (RV (.bool true) w) := by
  have hn := h.1
  by_cases h0 : n = 0
  · obtain ⟨a, c, rfl⟩ := h.slice
    obtain ⟨a', c', rfl⟩ := k.slice
    subst h0
    clear h k hn
    go_enter Try.func33, Try.ntmps33
    go_wp2
    refine wp_loop_rounds 1 ?_
    rw [rounds_succ]
    go_wp2
    go_ret
    exact RV_of rfl (Below.refl _ _)
  · rcases h.2 with ⟨e, _⟩ | ⟨b, off, cap, rfl, hb, hB⟩
    · exact absurd e h0
    · rcases k.2 with ⟨e, _⟩ | ⟨b', off', cap', rfl, hb', hB'⟩
      · exact absurd e h0
      · have HB := Lib.hid hB
        have HB' := Lib.hid hB'
        clear hB hB' h k h0
        have hne : (((n : Nat) : Int) != (n : Nat)) = false := by simp
        go_enter Try.func33, Try.ntmps33
        go_wp2
        go_loopw [5] (fun i wr => ∃ k : Nat, k ≤ n ∧ i = .int .i64 k ∧ Below w.heap.size w wr) (fun i _ => n - (intOf i).toNat)
        case atStart => exact ⟨0, Nat.zero_le _, rfl, Below.refl _ _⟩
        case round =>
          obtain ⟨k, hk, rfl, hBw⟩ := hrel
          by_cases hkl : k < n
          · obtain ⟨a1, c1, q1, i1⟩ := HB.out k hkl
            obtain ⟨a2, c2, q2, i2⟩ := HB'.out k hkl
            have q1 := (hBw.cell (p := ⟨b, off + k, none⟩) hb).trans q1
            have q2 := (hBw.cell (p := ⟨b', off' + k, none⟩) hb').trans q2
            have I1 := Lib.hid (i1.below hBw (Nat.le_refl _))
            have I2 := Lib.hid (i2.below hBw (Nat.le_refl _))
            clear i1 i2
            have g0 : (0 : Int) ≤ (k : Int) := by omega
            have g1 : (k : Int) < (n : Int) := by omega
            go_wp2_with fail
            go_region_with (go_at_call 21; refine (eqInt64S_same _ _ (F k) _ (I1.out.below ((Below.refl _ _).drew) (Nat.le_refl _)) (I2.out.below ((Below.refl _ _).drew) (Nat.le_refl _))).mono ?_; rintro e w1 ⟨rfl, hb1⟩)
            all_goals
              go_wp2_with fail
              go_roundw
              case rel => exact ⟨k + 1, by omega, by go_num, (hBw.drew).trans (hb1.mono (by have := hBw.size; simp; omega))⟩
              case measure => simp [intOf]; omega
          · go_wp2
            go_ret
            exact RV_of rfl hBw
/-- Rows of its own: the head at block G, the k-th row at block gs k. -/
structure SSR (w : World) (lo G : Nat) (gs caps : Nat → Nat) (n : Nat) (F : Nat → List Int) : Prop where
  cell : ∀ k, k < n → w.cell? ⟨G, k, none⟩ = some (.slice (some ⟨gs k, 0, none⟩) (F k).length (caps k))
  row : ∀ k, k < n → OwnAtI w (gs k) (F k)
  ne : ∀ k, k < n → gs k ≠ G
  inc : ∀ j k, j < k → k < n → gs j ≠ gs k
  low : ∀ k, k < n → lo ≤ gs k
  lt : G < w.heap.size
theorem SSR.kept {w w' : World} {lo G : Nat} {gs caps : Nat → Nat} {n : Nat} {F : Nat → List Int} (h : SSR w lo G gs caps n F) {row : Option Nat} (hg : w.grownBy w' row) (hG : some G ≠ row) (hr : ∀ k, k < n → some (gs k) ≠ row) : SSR w' lo G gs caps n F :=
  ⟨fun k hk => hg.cell (h.cell k hk) (by simpa using hG), fun k hk => (h.row k hk).kept hg (hr k hk), h.ne, h.inc, h.low, Nat.lt_of_lt_of_le h.lt hg.size⟩
theorem SSR.below {w w' : World} {lo G : Nat} {gs caps : Nat → Nat} {n : Nat} {F : Nat → List Int} (h : SSR w lo G gs caps n F) {B : Nat} (hb : Below B w w') (hB : w.heap.size ≤ B) : SSR w' lo G gs caps n F :=
  h.kept (only_of_below (hb.mono hB) none) (by simp) (by simp)
theorem SSR.sb {w : World} {lo G cap : Nat} {gs caps : Nat → Nat} {n : Nat} {F : Nat → List Int} (h : SSR w lo G gs caps n F) (hn : n ≤ 1100000) (hF : ∀ k, k < n → (F k).length ≤ 1100000) : SSB w (.slice (some ⟨G, 0, none⟩) n cap) n F :=
  ⟨hn, .inr ⟨G, 0, cap, rfl, h.lt, fun k hk => ⟨_, _, by rw [Nat.zero_add]; exact h.cell k hk, ⟨hF k hk, .inr ⟨gs k, 0, caps k, rfl, (h.row k hk).lt, (h.row k hk).at_⟩⟩⟩⟩⟩
/-- How many integers the first k rows hold. -/
def tot (F : Nat → List Int) : Nat → Nat
  | 0 => 0
  | k + 1 => tot F k + (F k).length
theorem tot_le (F : Nat → List Int) {j n : Nat} (h : j ≤ n) : tot F j ≤ tot F n := by
  induction h with
  | refl => exact Nat.le_refl _
  | step _ ih => exact Nat.le_trans ih (by simp [tot])
/-- The rows after marking. -/
def markSS (k0 : Int) (F : Nat → List Int) (j : Nat) : List Int := markI (k0 + tot F j) (F j).length
theorem SSR.mark1 {w w' : World} {lo G : Nat} {gs caps : Nat → Nat} {n : Nat} {F : Nat → List Int} (h : SSR w lo G gs caps n F) {j : Nat} (hj : j < n) (L : List Int) (hL : L.length = (F j).length) (hg : w.grownBy w' (some (gs j))) (ho : OwnAtI w' (gs j) L) :
    SSR w' lo G gs caps n (fun k => if k = j then L else F k) := by
  refine ⟨fun k hk => ?_, fun k hk => ?_, h.ne, h.inc, h.low, Nat.lt_of_lt_of_le h.lt hg.size⟩
  · have hc := hg.cell (h.cell k hk) (by simpa using Ne.symm (h.ne j hj))
    split
    · subst k
      rw [hL]; exact hc
    · exact hc
  · split
    · subst k; exact ho
    · refine (h.row k hk).kept hg (fun e => ?_)
      have e : gs k = gs j := by simpa using e
      rcases Nat.lt_trichotomy k j with hlt | rfl | hlt
      · have := h.inc k j hlt hj; omega
      · contradiction
      · have := h.inc j k hlt hk; omega
def partSS (k0 : Int) (F : Nat → List Int) (j : Nat) : Nat → List Int := fun k => if k < j then markSS k0 F k else F k
theorem partSS_len (k0 : Int) (F : Nat → List Int) (j k : Nat) : (partSS k0 F j k).length = (F k).length := by
  unfold partSS markSS
  split
  · rw [markI_length]
  · rfl
theorem partSS_succ (k0 : Int) (F : Nat → List Int) (j : Nat) : (fun k => if k = j then markSS k0 F j else partSS k0 F j k) = partSS k0 F (j + 1) := by
  funext k
  unfold partSS
  by_cases h : k = j
  · subst h; simp
  · rw [if_neg h]
    by_cases h2 : k < j
    · rw [if_pos h2, if_pos (by omega)]
    · rw [if_neg h2, if_neg (by omega)]
theorem SSR.congr {w : World} {lo G : Nat} {gs caps : Nat → Nat} {n : Nat} {F F' : Nat → List Int} (h : SSR w lo G gs caps n F) (e : ∀ k, k < n → F k = F' k) : SSR w lo G gs caps n F' :=
  ⟨fun k hk => by rw [← e k hk]; exact h.cell k hk, fun k hk => by rw [← e k hk]; exact h.row k hk, h.ne, h.inc, h.low, h.lt⟩
set_option maxRecDepth 100000 in
theorem markInt64SS_any (lo G cap : Nat) (gs caps : Nat → Nat) (n : Nat) (F : Nat → List Int) (k0 : Int) (w : World) (h : SSR w lo G gs caps n F) (hl : n ≤ 1100000) (hlo : lo ≤ w.heap.size) (hT : tot F n ≤ 1100000) (h0 : 0 ≤ k0) (h1 : k0 ≤ 5000000) :
    Calls Try.prog 34 #[.slice (some ⟨G, 0, none⟩) n cap, .int .i64 k0] w (fun e w' => e = .returned (.int .i64 (k0 + tot F n)) ∧ Below lo w w' ∧ SSR w' lo G gs caps n (markSS k0 F)) := by
  have H := Lib.hid h
  clear h
  go_enter Try.func34, Try.ntmps34
  go_wp2
  go_loopw [1, 5] (fun t i wr => ∃ j : Nat, j ≤ n ∧ i = .int .i64 j ∧ t = .int .i64 (k0 + tot F j) ∧ Below lo w wr ∧ SSR wr lo G gs caps n (partSS k0 F j)) (fun _ i _ => n - (intOf i).toNat)
  case atStart => exact ⟨0, Nat.zero_le _, rfl, by simp [tot], Below.refl _ _, H.out.congr (fun k _ => by simp [partSS])⟩
  case round =>
    obtain ⟨j, hj, rfl, rfl, hB, hS⟩ := hrel
    have hSz := hB.size
    by_cases hjl : j < n
    · have c1 := hS.cell j hjl
      have hrow := hS.row j hjl
      have hlow := hS.low j hjl
      have hlen := partSS_len k0 F j j
      have hFj : partSS k0 F j j = F j := by simp [partSS]
      rw [hFj] at c1 hrow
      have htj : tot F (j + 1) ≤ tot F n := tot_le F hjl
      have htj' : tot F (j + 1) = tot F j + (F j).length := rfl
      have HS := Lib.hid hS
      have HM := Lib.hid (markInt64S_any (gs j) (caps j) (F j) (k0 + tot F j) wr hrow (by omega) (by omega) (by omega))
      clear hlen hFj hrow hS
      have g0 : (0 : Int) ≤ (j : Int) := by omega
      have g1 : (j : Int) < (n : Int) := by omega
      go_wp2_with (go_at_call 25; refine HM.out.mono ?_; rintro e w1 ⟨rfl, hg1, ho1⟩)
      go_roundw
      case rel => exact ⟨j + 1, by omega, by go_num, int_eq (by rw [htj']; omega), hB.grown hg1 (by omega) (fun r e => by simp at e; omega), by
        have := HS.out.mark1 hjl (markSS k0 F j) (by unfold markSS; rw [markI_length, partSS_len]) hg1 ho1
        rw [partSS_succ] at this
        exact this⟩
      case measure => simp [intOf]; omega
    · go_wp2
      go_ret
      have e : j = n := by omega
      subst e
      exact ⟨rfl, hB, hS.congr (fun k hk => by simp [partSS, hk])⟩
set_option maxRecDepth 100000 in
theorem heldInt64SS_any (lo G cap : Nat) (gs caps : Nat → Nat) (n : Nat) (F : Nat → List Int) (k0 : Int) (w : World) (h : SSR w lo G gs caps n (markSS k0 F)) (hl : n ≤ 1100000) (hT : tot F n ≤ 1100000) (h0 : 0 ≤ k0) (h1 : k0 ≤ 5000000) :
    Calls Try.prog 35 #[.slice (some ⟨G, 0, none⟩) n cap, .int .i64 k0] w (RS (.int .i64 (k0 + tot F n)) w) := by
  have H := Lib.hid h
  clear h
  go_enter Try.func35, Try.ntmps35
  go_wp2
  go_loop [1, 5] (fun t i => ∃ j : Nat, j ≤ n ∧ i = .int .i64 j ∧ t = .int .i64 (k0 + tot F j)) (fun _ i => n - (intOf i).toNat)
  case atStart => exact ⟨0, Nat.zero_le _, rfl, by simp [tot]⟩
  case round =>
    obtain ⟨j, hj, rfl, rfl⟩ := hrel
    by_cases hjl : j < n
    · have c1 := H.out.cell j hjl
      have hrow := (H.out.row j hjl).at_
      have htj : tot F (j + 1) ≤ tot F n := tot_le F hjl
      have htj' : tot F (j + 1) = tot F j + (F j).length := rfl
      have hmm : (markSS k0 F j).length = (F j).length := by unfold markSS; rw [markI_length]
      rw [hmm] at c1
      have HM := Lib.hid (heldInt64S_any (gs j) (caps j) (F j).length (k0 + tot F j) w hrow (by omega) (by omega) (by omega))
      clear hmm hrow
      obtain ⟨m, hm⟩ : ∃ m, m = k0 + (tot F j : Int) + ((F j).length : Int) := ⟨_, rfl⟩
      rw [← hm] at HM
      have hm0 : 0 ≤ m := by omega
      have HME := Lib.hid hm
      clear hm
      have g0 : (0 : Int) ≤ (j : Int) := by omega
      have g1 : (j : Int) < (n : Int) := by omega
      go_wp2_with (go_at_call 26; refine HM.out.mono ?_; rintro e w1 ⟨rfl, rfl⟩)
      go_round
      case rel => exact ⟨j + 1, by omega, by go_num, int_eq (by rw [htj', HME.out]; omega)⟩
      case measure => simp [intOf]; omega
    · go_wp2
      go_ret
      have e : j = n := by omega
      subst e
      exact RS_of rfl
end Go.Proofs.Ytoicdfdfajfopaa

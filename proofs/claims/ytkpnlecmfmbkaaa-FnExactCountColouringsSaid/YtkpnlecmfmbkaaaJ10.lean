
/- Rows of blocks that are written and sorted in place. append of many blocks to a list of the call's own. Worlds that grow behind a draw. The program's table of blocks by their last points. The program's test of a list of colours. Lists that grow in a search: the list before comes back. -/
import Derived.Test.YtkpnlecmfmbkaaaJ9
import Derived.Shelf.SlSortCmp.NoneTotal
import Derived.Deep.RegionLaw
import Derived.Deep.AppendLies
namespace Go.Proofs.Ytkpnlecmfmbkaaa
open Go.RowKit Go.Maps Go.Sort
theorem heap_set_own {w : World} {g o : Nat} {u : Value} {cs : Array Value} {e : TypeId} {fr : Nat × Nat} (h : w.heap[g]? = some (.cells cs e fr)) : (w.setCell ⟨g, o, none⟩ u).heap[g]? = some (.cells (cs.setIfInBounds o u) e fr) := by
  obtain ⟨hlt, hk⟩ := Array.getElem?_eq_some_iff.1 h
  show (w.heap.modify g _)[g]? = _
  rw [Array.getElem?_eq_getElem (by rw [Array.size_modify]; exact hlt), Array.getElem_modify_self, hk]
  rfl
theorem flat_set : ∀ (bs : List Blk) (i : Nat) (x : Blk), i < bs.length → (((bs.flatMap cells3).set (i * 3) (.int .i64 x.a)).set (i * 3 + 1) (.int .i64 x.b)).set (i * 3 + 2) (.int .i64 x.c) = (bs.set i x).flatMap cells3
  | [], _, _, h => by simp at h
  | y :: r, 0, x, _ => by simp [cells3]
  | y :: r, i + 1, x, h => by
    have ih := flat_set r i x (by simpa using h)
    rw [List.set_cons_succ, List.flatMap_cons, List.flatMap_cons, ← ih]
    rw [show (i + 1) * 3 = i * 3 + 1 + 1 + 1 by omega, show i * 3 + 1 + 1 + 1 + 1 = i * 3 + 1 + 1 + 1 + 1 from rfl, show i * 3 + 1 + 1 + 1 + 2 = i * 3 + 2 + 1 + 1 + 1 by omega]
    simp only [cells3, List.cons_append, List.nil_append, List.set_cons_succ]
theorem OwnR.set3 {w : World} {base g n cap : Nat} {bs : List Blk} (h : OwnR w base (.slice (some ⟨g, 0, none⟩) n cap) bs) {i : Nat} (hi : i < bs.length) (x : Blk) :
    OwnR (((w.setCell ⟨g, i * 3, none⟩ (.int .i64 x.a)).setCell ⟨g, i * 3 + 1, none⟩ (.int .i64 x.b)).setCell ⟨g, i * 3 + 2, none⟩ (.int .i64 x.c)) base (.slice (some ⟨g, 0, none⟩) n cap) (bs.set i x) := by
  obtain ⟨hl, h | ⟨g', cap', cur, hv, hb, hcur, hn, hc, hsz, hx⟩⟩ := h
  · cases h.1
  · cases hv
    refine ⟨by rw [flat_length, List.length_set], .inr ⟨g, cap, _, by rw [List.length_set], hb, heap_set_own (heap_set_own (heap_set_own hcur)), by rw [List.length_set]; exact hn, hc, by simpa using hsz, ?_⟩⟩
    rw [List.length_set, Array.toList_setIfInBounds, Array.toList_setIfInBounds, Array.toList_setIfInBounds, List.take_set, List.take_set, List.take_set, hx]
    exact flat_set bs i x hi
theorem OwnR.at_ {w : World} {base g n cap : Nat} {bs : List Blk} (h : OwnR w base (.slice (some ⟨g, 0, none⟩) n cap) bs) : n = bs.length ∧ base ≤ g ∧ OwnAt w g bs := by
  rcases h.res with ⟨rfl, a, c, e⟩ | ⟨g', cap', e, h1, h2, h3⟩
  · cases e
    obtain ⟨hl, h | ⟨g', cap', cur, hv, hb, hcur, hn, hc, hsz, hx⟩⟩ := h
    · cases h.1
    · cases hv
      exact ⟨rfl, hb, ⟨(Array.getElem?_eq_some_iff.1 hcur).1, fun k hk => by simp at hk, fun o => by simp [World.frozen?, hcur]⟩⟩
  · cases e
    exact ⟨rfl, h1, h3⟩

theorem heap_put {w : World} {g n : Nat} {os : Array Obj} {cur : Array Value} {e : TypeId} {fr : Nat × Nat} (F : Array Value) (hb : w.heap[g]? = some (.cells cur e fr)) :
    (grow (putRow id (Sort.ahead w n) g 0 F) os).heap[g]? = some (.cells (putCells id 0 F cur) e fr) := by
  have hg : g < w.heap.size := (Array.getElem?_eq_some_iff.1 hb).1
  rw [heap_grow_old _ _ (by simpa using hg)]
  simp [putRow, mapBlock, Sort.ahead, Array.getElem?_modify, hb, onCells]
theorem grownBy_put {w : World} {g n : Nat} {os : Array Obj} (F : Array Value) : w.grownBy (grow (putRow id (Sort.ahead w n) g 0 F) os) (some g) := by
  refine ⟨rfl, rfl, rfl, by simp, fun k hk hne => ?_⟩
  rw [heap_grow_old _ _ (by simpa using hk)]
  have : g ≠ k := fun e => hne (by rw [e])
  simp [putRow, mapBlock, Sort.ahead, Array.getElem?_modify, this]
theorem take_put (cur F : Array Value) (h : F.size ≤ cur.size) : (putCells id 0 F cur).toList.take F.size = F.toList := by
  apply List.ext_getElem?
  intro j
  by_cases hj : j < F.size
  · rw [List.getElem?_take_of_lt hj, Array.getElem?_toList]
    simp [putCells, hj, show j < cur.size by omega]
  · rw [List.getElem?_take_eq_none (by omega), List.getElem?_eq_none (by simp; omega)]
theorem cells3_at (x : Blk) : (cells3 x)[0]! = .int .i64 x.a ∧ (cells3 x)[1]! = .int .i64 x.b ∧ (cells3 x)[2]! = .int .i64 x.c := ⟨rfl, rfl, rfl⟩
theorem flatK_at (bs : List Blk) (j : Nat) (h : j < bs.length * 3) : (flatK cells3 3 bs.toArray)[j]! = (bs.flatMap cells3)[j]?.getD undef := by
  rw [get_flatK _ _ _ _ (by simpa using h)]
  have hk : j / 3 < bs.length := by omega
  obtain ⟨h0, h1, h2⟩ := flat_at bs (j / 3) hk
  obtain ⟨c0, c1, c2⟩ := cells3_at (bs.toArray[j / 3]!)
  have e : bs.toArray[j / 3]! = bs[j / 3]?.getD default := by simp [hk]
  rw [e] at c0 c1 c2
  rw [e]
  have hm : j % 3 = 0 ∨ j % 3 = 1 ∨ j % 3 = 2 := by omega
  rcases hm with hm | hm | hm
  · rw [hm, c0]; rw [show j / 3 * 3 = j by omega] at h0; rw [h0]; rfl
  · rw [hm, c1]; rw [show j / 3 * 3 + 1 = j by omega] at h1; rw [h1]; rfl
  · rw [hm, c2]; rw [show j / 3 * 3 + 2 = j by omega] at h2; rw [h2]; rfl
theorem flatK_list (bs : List Blk) : (flatK cells3 3 bs.toArray).toList = bs.flatMap cells3 := by
  apply List.ext_getElem?
  intro j
  by_cases hj : j < bs.length * 3
  · have h1 := flatK_at bs j hj
    have hs : j < (flatK cells3 3 bs.toArray).size := by rw [size_flatK]; simpa using hj
    rw [getElem!_pos _ j hs] at h1
    rw [Array.getElem?_toList, Array.getElem?_eq_getElem hs, h1]
    have hf : j < (bs.flatMap cells3).length := by rw [flat_length]; exact hj
    rw [List.getElem?_eq_getElem hf]
    rfl
  · have h1 : (flatK cells3 3 bs.toArray).toList.length = bs.length * 3 := by rw [Array.length_toList, size_flatK]; simp
    rw [List.getElem?_eq_none (by omega), List.getElem?_eq_none (by rw [flat_length]; omega)]
theorem OwnAt.holds {w : World} {g : Nat} {bs : List Blk} (h : OwnAt w g bs) : HoldsK cells3 3 w g 0 bs.toArray := by
  intro j hj
  rw [size_flatK, List.size_toArray] at hj
  refine ⟨?_, h.free _⟩
  rw [flatK_at bs j hj, Nat.zero_add]
  obtain ⟨h0, h1, h2⟩ := h.at_ (j / 3) (by omega)
  obtain ⟨f0, f1, f2⟩ := flat_at bs (j / 3) (by omega)
  rw [Nat.zero_add] at h0 h1 h2
  have hm : j % 3 = 0 ∨ j % 3 = 1 ∨ j % 3 = 2 := by omega
  rcases hm with hm | hm | hm
  · rw [show j / 3 * 3 = j by omega] at h0 f0; rw [h0, f0]; rfl
  · rw [show j / 3 * 3 + 1 = j by omega] at h1 f1; rw [h1, f1]; rfl
  · rw [show j / 3 * 3 + 2 = j by omega] at h2 f2; rw [h2, f2]; rfl
/-- Behind the sort the same slice owns the blocks in order. -/
theorem OwnR.sorted {w : World} {base g n cap : Nat} {bs cs : List Blk} (h : OwnR w base (.slice (some ⟨g, 0, none⟩) n cap) bs) (hl : cs.length = bs.length) (m : Nat) (os : Array Obj) :
    OwnR (sortWorldK cells3 3 w g 0 m cs.toArray os) base (.slice (some ⟨g, 0, none⟩) n cap) cs ∧ w.grownBy (sortWorldK cells3 3 w g 0 m cs.toArray os) (some g) := by
  refine ⟨?_, grownBy_put _⟩
  obtain ⟨hl2, h | ⟨g', cap', cur, hv, hb, hcur, hn, hc, hsz, hx⟩⟩ := h
  · cases h.1
  · cases hv
    have hF : (flatK cells3 3 cs.toArray).size = cs.length * 3 := by rw [size_flatK]; simp
    refine ⟨by rw [flat_length], .inr ⟨g, cap, _, by rw [hl], hb, heap_put _ hcur, by rw [hl]; exact hn, hc, by simp [putCells]; omega, ?_⟩⟩
    rw [← hF, take_put _ _ (by rw [hF, hl]; have := Nat.mul_le_mul_right 3 hn; omega)]
    exact flatK_list cs
theorem lt_bef (x y : Blk) : ltOf cmpB x y = befB x y := by
  unfold ltOf
  rw [Bool.eq_iff_iff, ← cmpB_neg]
  simp
theorem swoB : SWO (ltOf cmpB) where
  irrefl x := by rw [lt_bef]; exact bef_irrefl x
  trans x y z h1 h2 := by rw [lt_bef] at *; exact bef_trans h1 h2
  ntrans x y z h1 h2 := by rw [lt_bef] at *; exact bef_ntrans h1 h2
theorem totB (x y : Blk) (h1 : ltOf cmpB x y = false) (h2 : ltOf cmpB y x = false) : x = y := by rw [lt_bef] at *; exact bef_total h1 h2
theorem mergeB (bs : List Blk) : (bs.mergeSort fun x y => !ltOf cmpB y x) = sortB bs := by
  rw [← sortB_merge]
  congr 1
  funext x y
  rw [lt_bef]
theorem compareBlocks_lays (x y : Blk) (w : World) : Calls Try.prog 164 #[bv x, bv y] w fun e w' => e = .returned (.int .i64 (cmpB x y)) ∧ ∃ q os, w' = grow (w.drewN q) os := by
  obtain ⟨a, b, c⟩ := x
  obtain ⟨d, e, f⟩ := y
  unfold bv
  dsimp only
  go_enter Try.func164, Try.ntmps164
  go_wp2
  go_quiet ((go_at_call 88; exact RS.quiet (Compare_any _ 0 _ _ 0 _ [a, b, c] [d, e, f] _ (ints3 (by simp [go_sem]) (by simp [go_sem]) (by simp [go_sem])) (ints3 (by simp [go_sem]) (by simp [go_sem]) (by simp [go_sem])) (by simp) (by simp))))
  go_wp2
  go_ret
  exact ⟨rfl, _, _, by rw [alloc_eq_grow, alloc_eq_grow, grow_grow]; rfl⟩
end Go.Proofs.Ytkpnlecmfmbkaaa

namespace Go.Proofs.Ytkpnlecmfmbkaaa
open Go.RowKit Go.Maps
/-- The value is a slice of just these blocks; of the numbers nothing is said. -/
def SX (w : World) (s : Value) (bs : List Blk) : Prop := (∃ a c, s = .slice a 0 c ∧ bs = []) ∨ ∃ b off cap, s = .slice (some ⟨b, off, none⟩) bs.length cap ∧ b < w.heap.size ∧ Blks w b off bs
theorem SB.sx {w : World} {s : Value} {bs : List Blk} (h : SB w s bs) : SX w s bs := h.2.2
theorem SX.below {w w' : World} {s : Value} {bs : List Blk} (h : SX w s bs) {B : Nat} (hb : Below B w w') (hB : w.heap.size ≤ B) : SX w' s bs := by
  rcases h with h3 | ⟨b, off, cap, rfl, hl, hr⟩
  · exact .inl h3
  · exact .inr ⟨b, off, cap, rfl, by have := hb.size; omega, hr.below hb (by omega)⟩
theorem OwnR.sx {w : World} {base : Nat} {s : Value} {bs : List Blk} (h : OwnR w base s bs) : SX w s bs := by
  rcases h.res with ⟨rfl, a, c, rfl⟩ | ⟨g, cap, rfl, _, _, ho⟩
  · exact .inl ⟨a, c, rfl, rfl⟩
  · exact .inr ⟨g, 0, cap, rfl, ho.lt, ho.at_⟩
theorem OwnR.form {w : World} {base : Nat} {s : Value} {bs : List Blk} (h : OwnR w base s bs) : ∃ a c, s = .slice a bs.length c := by
  rcases h.res with ⟨rfl, a, c, rfl⟩ | ⟨g, cap, rfl, _⟩ <;> exact ⟨_, _, rfl⟩
theorem blks_flat {w : World} {b off : Nat} {bs : List Blk} (h : Blks w b off bs) (j : Nat) (u : Value) (hu : (bs.flatMap cells3)[j]? = some u) : w.cell? ⟨b, off + j, none⟩ = some u := by
  have hj : j < bs.length * 3 := by
    rw [← flat_length]
    exact (List.getElem?_eq_some_iff.1 hu).1
  obtain ⟨h0, h1, h2⟩ := h (j / 3) (by omega)
  obtain ⟨f0, f1, f2⟩ := flat_at bs (j / 3) (by omega)
  have hm : j % 3 = 0 ∨ j % 3 = 1 ∨ j % 3 = 2 := by omega
  rcases hm with hm | hm | hm
  · rw [show j / 3 * 3 = j by omega] at f0
    rw [show off + j / 3 * 3 = off + j by omega] at h0
    rw [h0, ← hu, f0]
  · rw [show j / 3 * 3 + 1 = j by omega] at f1
    rw [show off + j / 3 * 3 + 1 = off + j by omega] at h1
    rw [h1, ← hu, f1]
  · rw [show j / 3 * 3 + 2 = j by omega] at f2
    rw [show off + j / 3 * 3 + 2 = off + j by omega] at h2
    rw [h2, ← hu, f2]
theorem flat_one (bs : List Blk) : ∀ u ∈ bs.flatMap cells3, u.oneCell' = true := by
  intro u hu
  obtain ⟨x, _, hx⟩ := List.mem_flatMap.1 hu
  simp [cells3] at hx
  rcases hx with rfl | rfl | rfl <;> rfl
theorem run_append_many (w : World) (ty : TypeId) (base : Nat) (v : Value) (bs : List Blk) (hown : OwnR w base v bs) (x : Value) (cs : List Blk) (hx : SX w x cs) (hl : bs.length + cs.length ≤ 2200000) (hb : base ≤ w.heap.size) :
    ∃ v' w', (Builtin.append_ #[30, 30] ty #[v, x]).run Try.prog w = .ok v' w' ∧ OwnR w' base v' (bs ++ cs) ∧ w.grownBy w' v.ownBlock := by
  obtain ⟨i0, hi, hz0, hz1, hz2⟩ := info_parts infoBlock
  have key : ∀ (a : Addr) (m c : Nat) (news : List Value), x = .slice (some a) m c → m = cs.length → news = cs.flatMap cells3 → (∀ j u, news[j]? = some u → w.cell? (a.add j) = some u) →
      ∃ v' w', (Builtin.append_ #[30, 30] ty #[v, x]).run Try.prog w = .ok v' w' ∧ OwnR w' base v' (bs ++ cs) ∧ w.grownBy w' v.ownBlock := by
    intro a m c news ex em en hn
    subst ex
    subst en
    subst em
    obtain ⟨v', w', h1, h2, h3, _⟩ := run_append_own_at (P := Try.prog) w base 30 ty 78 i0 _ 3 24 Try.underlying30 hi hz0 hz1 hz2 rfl (by decide) v bs.length (bs.flatMap cells3) hown a cs.length c (cs.flatMap cells3) (flat_length cs) hn (flat_one cs) (by unfold maxLen; omega) (by omega) hb
    exact ⟨v', w', h1, by unfold OwnR; rw [List.length_append, List.flatMap_append]; exact h2, h3⟩
  rcases hx with ⟨a, c, rfl, rfl⟩ | ⟨b, off, cap, rfl, _, hbl⟩
  · cases a with
    | some a => exact key a 0 c [] rfl rfl rfl (by simp)
    | none =>
      refine ⟨v, w, ?_, by rw [List.append_nil]; exact hown, only_refl _ _⟩
      obtain ⟨a, c', rfl⟩ := hown.form
      have hroom : bs.length ≤ c' := by
        rcases hown.2 with ⟨h, h0⟩ | ⟨g, cap, cur, h, _, _, hn, _⟩
        · rw [h0]; exact Nat.zero_le _
        · simp at h; omega
      have hc : ∀ W : World, (Builtin.lenOf (.slice none 0 c)).run Try.prog W = .ok 0 W := fun _ => rfl
      have hc2 : ∀ W : World, (Builtin.firstCells 3 0 (.slice none 0 c)).run Try.prog W = .ok #[] W := fun _ => rfl
      simp [Builtin.append_, run_underlying Try.underlying30, sizeOf, typeInfo, hi, hz1, hc, hc2, hroom]
      cases a <;> rfl
  · refine key ⟨b, off, none⟩ cs.length cap (cs.flatMap cells3) rfl rfl rfl fun j u hu => ?_
    rw [addr_at]
    exact blks_flat hbl j u hu
theorem wp_append_many {w : World} {o : Oper} {a : Act} {K : Act → World → Prop} {Q : Exit → Act → World → Prop} (s x : Operand)
    (ho : o.op = .call { callee := .builtin .append, args := #[s, x], argTypes := #[30, 30] })
    (base : Nat) (v : Value) (bs : List Blk) (hs : a.eval s = v) (hown : OwnR w base v bs) (xv : Value) (cs : List Blk) (hxv : a.eval x = xv) (hx : SX w xv cs) (hl : bs.length + cs.length ≤ 2200000) (hb : base ≤ w.heap.size)
    (h : ∀ (a' : Option Addr) (c' : Nat) (w' : World), OwnR w' base (.slice a' (bs.length + cs.length) c') (bs ++ cs) → w.grownBy w' v.ownBlock → K (a.put o.dst (.slice a' (bs.length + cs.length) c')) w') : o.wp Try.prog a w K Q := by
  obtain ⟨v', w', hr, h2, h3⟩ := run_append_many w o.type base v bs hown xv cs hx hl hb
  obtain ⟨a', c', hv⟩ := h2.form
  rw [List.length_append] at hv
  subst hv
  unfold Oper.wp execOp
  simp only [ho, resolve, invoke, builtin, Sem.run_bind, Sem.run_pure, Result.andThen_ok, List.map_toArray, List.map_cons, List.map_nil, hs, hxv, hr]
  exact h a' c' w' h2 h3
theorem wpList_append_many {w : World} {ops : Array Oper} {rest : List Oper} {o : Oper} {a : Act} {Q : Exit → Act → World → Prop} (hgd : o.guard = none) (s x : Operand)
    (ho : o.op = .call { callee := .builtin .append, args := #[s, x], argTypes := #[30, 30] })
    (base : Nat) (v : Value) (bs : List Blk) (hs : a.eval s = v) (hown : OwnR w base v bs) (xv : Value) (cs : List Blk) (hxv : a.eval x = xv) (hx : SX w xv cs) (hl : bs.length + cs.length ≤ 2200000) (hb : base ≤ w.heap.size)
    (h : ∀ (a' : Option Addr) (c' : Nat) (w' : World), OwnR w' base (.slice a' (bs.length + cs.length) c') (bs ++ cs) → w.grownBy w' v.ownBlock → wpList Try.prog ops Q rest (a.put o.dst (.slice a' (bs.length + cs.length) c')) w') : wpList Try.prog ops Q (o :: rest) a w :=
  wpList_plain hgd fun _ hK => wp_append_many s x ho base v bs hs hown xv cs hxv hx hl hb fun a' c' w' h1 h2 => hK _ _ (h a' c' w' h1 h2)
theorem step_append_many {w : World} {ops : Array Oper} {o : Oper} {a : Act} {K : Act → World → Prop} {Q : Exit → Act → World → Prop} {E : Prop} (hgd : o.guard = none) (s x : Operand)
    (ho : o.op = .call { callee := .builtin .append, args := #[s, x], argTypes := #[30, 30] })
    (base : Nat) (v : Value) (bs : List Blk) (hs : a.eval s = v) (hown : OwnR w base v bs) (xv : Value) (cs : List Blk) (hxv : a.eval x = xv) (hx : SX w xv cs) (hl : bs.length + cs.length ≤ 2200000) (hb : base ≤ w.heap.size)
    (h : ∀ (a' : Option Addr) (c' : Nat) (w' : World), OwnR w' base (.slice a' (bs.length + cs.length) c') (bs ++ cs) → w.grownBy w' v.ownBlock → K (a.put o.dst (.slice a' (bs.length + cs.length) c')) w') :
    if Region.wanted o (yielded ops a.tmps) = true then Oper.wp Try.prog o a w K Q else E := by
  have hw : Region.wanted o (yielded ops a.tmps) = true := by simp [Region.wanted, hgd]
  rw [if_pos hw]
  exact wp_append_many s x ho base v bs hs hown xv cs hxv hx hl hb h
end Go.Proofs.Ytkpnlecmfmbkaaa

namespace Go.Proofs.Ytkpnlecmfmbkaaa
theorem gb_drewL {w w' : World} {row : Option Nat} (h : w.drew.grownBy w' row) : w.grownBy w' row := ⟨h.os, h.tape, h.output, h.size, h.block⟩
end Go.Proofs.Ytkpnlecmfmbkaaa

namespace Go.Proofs.Ytkpnlecmfmbkaaa
open Go.RowKit Go.Maps Go.Shelf
theorem OwnR.off {w w' : World} {base : Nat} {s : Value} {bs : List Blk} {row : Option Nat} (h : OwnR w base s bs) (hg : w.grownBy w' row) (hr : ∀ r, s.ownBlock = some r → row ≠ some r) : OwnR w' base s bs := by
  obtain ⟨hl, h | ⟨g, cap, cur, rfl, hb', hcur, hrest⟩⟩ := h
  · exact ⟨hl, .inl h⟩
  · exact ⟨hl, .inr ⟨g, cap, cur, rfl, hb', (hg.block g (Array.getElem?_eq_some_iff.1 hcur).1 (fun e => hr g rfl e.symm)).trans hcur, hrest⟩⟩
theorem OwnR.in_ {w : World} {base : Nat} {s : Value} {bs : List Blk} (h : OwnR w base s bs) : ∀ r, s.ownBlock = some r → base ≤ r ∧ r < w.heap.size := fun r e => by
  obtain ⟨hl, h | ⟨g, cap, cur, rfl, hb', hcur, hrest⟩⟩ := h
  · rw [h.1] at e; simp [Value.ownBlock] at e
  · obtain rfl : g = r := by simpa [Value.ownBlock] using e
    exact ⟨hb', (Array.getElem?_eq_some_iff.1 hcur).1⟩
structure TabB (W : World) (G n : Nat) (F : Nat → List Blk) (u : Nat → Value) : Prop where
  cell : ∀ i, i < n → W.cell? ⟨G, i, none⟩ = some (u i)
  free : ∀ i, i < n → W.frozen? ⟨G, i, none⟩ = false
  own : ∀ i, i < n → OwnR W (G + 1) (u i) (F i)
  apart : ∀ i j, i < n → j < n → i ≠ j → ∀ r, (u i).ownBlock = some r → (u j).ownBlock ≠ some r
  lt : G < W.heap.size
theorem TabB.below {W W' : World} {G n : Nat} {F : Nat → List Blk} {u : Nat → Value} (h : TabB W G n F u) (hb : Below W.heap.size W W') : TabB W' G n F u :=
  ⟨fun i hi => (hb.cell (p := ⟨G, i, none⟩) h.lt).trans (h.cell i hi), fun i hi => (hb.frozen (p := ⟨G, i, none⟩) h.lt).trans (h.free i hi), fun i hi => (h.own i hi).below hb (Nat.le_refl _), h.apart, Nat.lt_of_lt_of_le h.lt hb.size⟩
theorem setG_gb (w : World) (b o : Nat) (v : Value) : w.grownBy (w.setCell ⟨b, o, none⟩ v) (some b) := only_setCell (only_refl w (some b)) rfl v
theorem TabB.set {W : World} {G n b o : Nat} {F : Nat → List Blk} {u : Nat → Value} (h : TabB W G n F u) (hb : b < G) (v : Value) : TabB (W.setCell ⟨b, o, none⟩ v) G n F u := by
  have hg := setG_gb W b o v
  have hne : some G ≠ some b := fun e => by cases e; omega
  exact ⟨fun i hi => hg.cell (h.cell i hi) hne, fun i hi => (World.frozen?_of_block (w := W) (a := ⟨G, i, none⟩) (hg.block G h.lt hne)).trans (h.free i hi), fun i hi => (h.own i hi).kept hg (fun r hr => by cases hr; omega), h.apart, Nat.lt_of_lt_of_le h.lt hg.size⟩
theorem TabB.step {W W1 : World} {G n m : Nat} {F : Nat → List Blk} {u : Nat → Value} (h : TabB W G n F u) (hm : m < n) {x : Blk} {v' : Value} (hown : OwnR W1 (G + 1) v' (F m ++ [x])) (hg : W.grownBy W1 (u m).ownBlock)
    (hat : v'.ownBlock = (u m).ownBlock ∨ ∀ r, v'.ownBlock = some r → W.heap.size ≤ r) :
    TabB (W1.setCell ⟨G, m, none⟩ v') G n (fun i => if i = m then F m ++ [x] else F i) (fun i => if i = m then v' else u i) := by
  have hGm : some G ≠ (u m).ownBlock := fun e => by have := (h.own m hm).in_ G e.symm; omega
  refine ⟨fun i hi => ?_, fun i hi => ?_, fun i hi => ?_, fun i j hi hj hij r hr => ?_, ?_⟩
  · by_cases e : i = m
    · subst e
      rw [if_pos rfl]
      exact World.cell?_setCell_same _ _ _ (hg.cell (h.cell i hi) hGm)
    · rw [if_neg e, World.cell?_setCell_other (a := ⟨G, m, none⟩) (b := ⟨G, i, none⟩) (h := by simp; try omega)]
      exact hg.cell (h.cell i hi) hGm
  · have := (World.frozen?_of_block (w := W) (w' := W1) (a := ⟨G, i, none⟩) (hg.block G h.lt hGm)).trans (h.free i hi)
    simpa using this
  · by_cases e : i = m
    · subst e
      simp only [if_true]
      exact hown.kept (setG_gb W1 G i v') (fun r hr => by cases hr; omega)
    · simp only [if_neg e]
      have h1 := (h.own i hi).off hg (fun r hr e2 => h.apart i m hi hm e r hr e2)
      exact h1.kept (setG_gb W1 G m v') (fun r hr => by cases hr; omega)
  · by_cases ei : i = m
    · subst ei
      simp only [if_true] at hr
      simp only [if_neg (Ne.symm hij)]
      intro e2
      rcases hat with hat | hat
      · rw [hat] at hr
        exact h.apart i j hi hj hij r hr e2
      · have := hat r hr
        have := (h.own j hj).in_ r e2
        omega
    · simp only [if_neg ei] at hr
      by_cases ej : j = m
      · subst ej
        simp only [if_true]
        intro e2
        rcases hat with hat | hat
        · rw [hat] at e2
          exact h.apart i j hi hj hij r hr e2
        · have := hat r e2
          have := (h.own i hi).in_ r hr
          omega
      · simp only [if_neg ej]
        exact h.apart i j hi hj hij r hr
  · have := hg.size
    have := h.lt
    simp [World.setCell]
    omega
theorem step_append_blk {w : World} {ops : Array Oper} {o : Oper} {a : Act} {K : Act → World → Prop} {Q : Exit → Act → World → Prop} {E : Prop} (hgd : o.guard = none) (s x : Operand)
    (ho : o.op = .call { callee := .builtin .append, args := #[s, x], argTypes := #[30, 30] })
    (base : Nat) (v : Value) (bs : List Blk) (hs : a.eval s = v) (hown : OwnR w base v bs) (b0 c : Nat) (y : Blk) (hx : a.eval x = .slice (some ⟨b0, 0, none⟩) 1 c) (hy : Blks w b0 0 [y]) (hl : bs.length ≤ 1100000) (hb : base ≤ w.heap.size)
    (h : ∀ (g cap : Nat) (w' : World), OwnR w' base (.slice (some ⟨g, 0, none⟩) (bs.length + 1) cap) (bs ++ [y]) → w.grownBy w' v.ownBlock → (v.ownBlock = some g ∨ g = w.heap.size) → K (a.put o.dst (.slice (some ⟨g, 0, none⟩) (bs.length + 1) cap)) w') :
    if Region.wanted o (yielded ops a.tmps) = true then Oper.wp Try.prog o a w K Q else E := by
  have hw : Region.wanted o (yielded ops a.tmps) = true := by simp [Region.wanted, hgd]
  rw [if_pos hw]
  obtain ⟨i0, hi, hz0, hz1, hz2⟩ := info_parts infoBlock
  obtain ⟨v', w', h1, h2, h3, h4, h5⟩ := run_append_own_at (P := Try.prog) w base 30 o.type 78 i0 _ 3 24 Try.underlying30 hi hz0 hz1 hz2 rfl (by decide) v bs.length (bs.flatMap cells3) hown ⟨b0, 0, none⟩ 1 c ([y].flatMap cells3) (by simp [cells3]) (fun j u hj => by rw [addr_at]; exact blks_flat hy j u hj) (flat_one [y]) (by unfold maxLen; omega) (by omega) hb
  have h2' : OwnR w' base v' (bs ++ [y]) := by unfold OwnR; rw [List.length_append, List.flatMap_append]; exact h2
  have hf : ∃ g cap, v' = .slice (some ⟨g, 0, none⟩) (bs.length + 1) cap := by
    rcases h2.2 with ⟨e, e2⟩ | ⟨g, cap, _, e, _⟩
    · omega
    · exact ⟨g, cap, e⟩
  obtain ⟨g, cap, rfl⟩ := hf
  unfold Oper.wp execOp
  simp only [ho, resolve, invoke, builtin, Sem.run_bind, Sem.run_pure, Result.andThen_ok, List.map_toArray, List.map_cons, List.map_nil, hs, hx, h1]
  refine h g cap w' h2' h3 ?_
  rcases h5 with e | e
  · exact .inl (by rw [← e]; rfl)
  · exact .inr (by simpa [Value.ownBlock] using e)
theorem endB_take {bs : List Blk} {k : Nat} (hk : k < bs.length) (i : Nat) : endB (bs.take (k + 1)) i = if (i : Int) = (bs[k]?.getD default).c then endB (bs.take k) i ++ [bs[k]?.getD default] else endB (bs.take k) i := by
  unfold endB
  rw [List.take_succ_eq_append_getElem hk, List.filter_append]
  simp only [List.getElem?_eq_getElem hk, Option.getD_some, List.filter_cons, List.filter_nil]
  by_cases h : bs[k].c = (i : Int)
  · have h2 : (i : Int) = bs[k].c := h.symm
    rw [if_pos h2]; simp [h]
  · have h2 : ¬ (i : Int) = bs[k].c := fun e => h e.symm
    rw [if_neg h2]; simp [h]
theorem endB_len (bs : List Blk) (i : Nat) : (endB bs i).length ≤ bs.length := List.length_filter_le _ _
theorem infoRowB : (Try.prog.info? 30).map (fun i => (i.zero, i.size, i.bytes)) = some (some (.slice none 0 0), 1, 24) := by kernel_rfl
theorem mkEnds (n : Nat) (hn : n ≤ 1100000) (W : World) : (Instr.makeSlice 120 (.int .i64 (n : Int)) (.int .i64 (n : Int))).run Try.prog W = .ok (.slice (some ⟨W.heap.size, 0, none⟩) n n) (W.alloc (.cells (madeCells #[.slice none 0 0] n) 30)) := by
  obtain ⟨i0, hi, hz0, hz1, hz2⟩ := info_parts infoRowB
  have hr := run_make (P := Try.prog) W 120 30 i0 (.slice none 0 0) Try.underlying120 hi hz0 .i64 .i64 n n (by omega) (by omega) (by rw [hz2]; omega) (by omega)
  simp only [Int.toNat_natCast, hz1, Nat.mul_one] at hr
  exact hr
theorem TabB.made (W : World) (n : Nat) (T : TypeId) : TabB (W.alloc (.cells (madeCells #[.slice none 0 0] n) T)) W.heap.size n (fun _ => []) (fun _ => .slice none 0 0) :=
  ⟨fun i hi => by rw [World.cell?_alloc_at _ _ _ _ rfl]; simp [madeCells, hi, Nat.mod_one], fun i _ => by simp, fun i _ => OwnR.nil _ _, fun i j _ _ _ r hr => by simp [Value.ownBlock] at hr, by simp⟩
/-- Where the table begins. -/
structure Srch (w : World) (v : Int) (s : Value) (n : Nat) (W : World) : Prop where
  low : Below w.heap.size w W
  size : W.heap.size = w.heap.size + 3
  p0 : W.cell? ⟨w.heap.size, 0, none⟩ = some (.int .i64 v)
  p1 : W.cell? ⟨w.heap.size, 1, none⟩ = some s
  r0 : W.cell? ⟨w.heap.size + 1, 0, none⟩ = some .nilIface
  r1 : W.cell? ⟨w.heap.size + 1, 1, none⟩ = some (.int .i64 0)
  r2 : W.cell? ⟨w.heap.size + 1, 2, none⟩ = some (.int .i64 0)
  r3 : W.cell? ⟨w.heap.size + 1, 3, none⟩ = some (.slice none 0 0)
  fr : ∀ i, W.frozen? ⟨w.heap.size + 1, i, none⟩ = false
  tab : TabB W (w.heap.size + 2) n (fun _ => []) (fun _ => .slice none 0 0)
theorem Srch.new (w : World) (v : Int) (s : Value) (n : Nat) (T1 T2 T3 : TypeId) : Srch w v s n (((w.alloc (.cells #[.int .i64 v, s] T1)).alloc (.cells #[.nilIface, .int .i64 0, .int .i64 0, .slice none 0 0] T2)).alloc (.cells (madeCells #[.slice none 0 0] n) T3)) := by
  obtain ⟨w1, h1⟩ : ∃ w1, w1 = w.alloc (.cells #[.int .i64 v, s] T1) := ⟨_, rfl⟩
  obtain ⟨w2, h2⟩ : ∃ w2, w2 = w1.alloc (.cells #[.nilIface, .int .i64 0, .int .i64 0, .slice none 0 0] T2) := ⟨_, rfl⟩
  obtain ⟨w3, h3⟩ : ∃ w3, w3 = w2.alloc (.cells (madeCells #[.slice none 0 0] n) T3) := ⟨_, rfl⟩
  have b1 : Below w.heap.size w w1 := by rw [h1]; exact (Below.refl _ _).alloc (Nat.le_refl _) _
  have b2 : Below w1.heap.size w1 w2 := by rw [h2]; exact (Below.refl _ _).alloc (Nat.le_refl _) _
  have b3 : Below w2.heap.size w2 w3 := by rw [h3]; exact (Below.refl _ _).alloc (Nat.le_refl _) _
  have z1 : w1.heap.size = w.heap.size + 1 := by rw [h1]; simp
  have z2 : w2.heap.size = w.heap.size + 2 := by rw [h2]; simp [z1]
  have z3 : w3.heap.size = w.heap.size + 3 := by rw [h3]; simp [z2]
  have a0 : w1.cell? ⟨w.heap.size, 0, none⟩ = some (.int .i64 v) := by rw [h1]; simp
  have a1 : w1.cell? ⟨w.heap.size, 1, none⟩ = some s := by rw [h1]; simp
  have c0 : w2.cell? ⟨w.heap.size + 1, 0, none⟩ = some .nilIface := by rw [h2, ← z1]; simp
  have c1 : w2.cell? ⟨w.heap.size + 1, 1, none⟩ = some (.int .i64 0) := by rw [h2, ← z1]; simp
  have c2 : w2.cell? ⟨w.heap.size + 1, 2, none⟩ = some (.int .i64 0) := by rw [h2, ← z1]; simp
  have c3 : w2.cell? ⟨w.heap.size + 1, 3, none⟩ = some (.slice none 0 0) := by rw [h2, ← z1]; simp
  have fz : ∀ i, w2.frozen? ⟨w.heap.size + 1, i, none⟩ = false := fun i => by rw [h2, ← z1]; simp
  have tb : TabB w3 (w.heap.size + 2) n (fun _ => []) (fun _ => .slice none 0 0) := by rw [h3, ← z2]; exact TabB.made w2 n T3
  rw [← h1, ← h2, ← h3]
  refine ⟨b1.trans ((b2.mono (by omega)).trans (b3.mono (by omega))), z3, ?_, ?_, ?_, ?_, ?_, ?_, fun i => ?_, tb⟩
  · rw [b3.cell (by simp; omega), b2.cell (by simp; omega)]; exact a0
  · rw [b3.cell (by simp; omega), b2.cell (by simp; omega)]; exact a1
  · rw [b3.cell (by simp; omega)]; exact c0
  · rw [b3.cell (by simp; omega)]; exact c1
  · rw [b3.cell (by simp; omega)]; exact c2
  · rw [b3.cell (by simp; omega)]; exact c3
  · rw [b3.frozen (p := ⟨w.heap.size + 1, i, none⟩) (by simp; omega)]; exact fz i
set_option maxRecDepth 100000 in
set_option maxHeartbeats 4000000 in
theorem searchOf_any (strict : Bool) (n k least : Nat) (s : Value) (bs : List Blk) (w : World) (h : SB w s bs) (hok : ∀ x ∈ bs, okB x ∧ x.c < (n : Int)) (hn3 : 3 ≤ n) (hn : n ≤ 15) :
    Calls Try.prog 137 #[.agg #[.int .i64 (n : Int), s], ruleV strict, .int .i64 (k : Int), .int .i64 (least : Int)] w (fun e w' => ∃ G u, e = .returned (.agg #[ruleV strict, .int .i64 (k : Int), .int .i64 (least : Int), .slice (some ⟨G, 0, none⟩) n n]) ∧ TabB w' G n (endB bs) u ∧ w.heap.size ≤ G ∧ Below w.heap.size w w') := by
  have hs := h.slice
  have hl := h.2.1
  have H := Lib.hid h
  have HOK := Lib.hid hok
  clear h hok
  obtain ⟨a0, c0, rfl⟩ := hs
  obtain ⟨T0, hT0⟩ := ruleV_form strict
  rw [hT0]
  clear hT0
  have hmk := mkEnds n (by omega)
  go_enter Try.func137, Try.ntmps137
  go_wp2
  obtain ⟨w3, HS3⟩ : ∃ w3, Hid (Srch w (n : Int) (.slice a0 bs.length c0) n w3) ∧ w3 = (((w.alloc (.cells #[.int .i64 (n : Int), .slice a0 bs.length c0] 32)).alloc (.cells #[.nilIface, .int .i64 0, .int .i64 0, .slice none 0 0] 122)).alloc (.cells (madeCells #[.slice none 0 0] n) 30)) := ⟨_, Lib.hid (Srch.new w (n : Int) _ n _ _ _), rfl⟩
  obtain ⟨HS3, hw3⟩ := HS3
  rw [← hw3]
  clear hw3 hmk
  go_loopw [18] (fun t wr => ∃ (j : Nat) (u : Nat → Value), j ≤ bs.length ∧ t = .int .i64 j ∧ Below (w.heap.size + 2) w3 wr ∧ TabB wr (w.heap.size + 2) n (endB (bs.take j)) u) (fun t _ => bs.length - (intOf t).toNat)
  case atStart => exact ⟨0, fun _ => .slice none 0 0, Nat.zero_le _, rfl, Below.refl _ _, HS3.out.tab⟩
  case round =>
    obtain ⟨j, u, hj, rfl, hB, hT⟩ := hrel
    have hz := hB.size
    have hz3 := HS3.out.size
    by_cases hjl : j < bs.length
    · rcases H.out.2.2 with ⟨_, _, _, hnil⟩ | ⟨bb, off, cap, hval, hblt, hbl⟩
      · rw [hnil] at hjl; simp at hjl
      simp at hval
      obtain ⟨rfl, rfl⟩ := hval
      have hBw : Below w.heap.size w wr := HS3.out.low.trans (hB.mono (by omega))
      obtain ⟨x1, x2, x3⟩ := (hbl.below hBw hblt) j hjl
      have HE := Lib.hid fun i => endB_take hjl i
      obtain ⟨hokx, hcx⟩ := HOK.out (bs[j]?.getD default) (by simp [hjl])
      obtain ⟨x, hx⟩ : ∃ x, x = bs[j]?.getD default := ⟨_, rfl⟩
      rw [← hx] at x1 x2 x3 HE hokx hcx
      obtain ⟨xa, xb, xc⟩ := x
      obtain ⟨h1, h2, h3, h4⟩ := hokx
      dsimp only at x1 x2 x3 h1 h2 h3 h4 hcx
      obtain ⟨m, rfl⟩ : ∃ m : Nat, xc = (m : Int) := ⟨xc.toNat, by omega⟩
      have hmn : m < n := by omega
      have HT := Lib.hid hT
      have t0 := hT.cell m hmn
      have f0 := hT.free m hmn
      have hO := hT.own m hmn
      have hle : (endB (bs.take j) m).length ≤ 1100000 := by have := endB_len (bs.take j) m; rw [List.length_take] at this; omega
      obtain ⟨a5, c5, hu5⟩ := hO.form
      have HU5 := Lib.hid hu5
      rw [hu5] at t0 hO
      have HO := Lib.hid hO
      obtain ⟨F, hF⟩ : ∃ F, F = endB (bs.take j) := ⟨_, rfl⟩
      rw [← hF] at HO HT HE t0 hle HU5
      have hGlt : w.heap.size + 2 < wr.heap.size := by omega
      have g0 : (0 : Int) ≤ (j : Int) := by omega
      have g1 : (j : Int) < (bs.length : Int) := by omega
      have gm0 : (0 : Int) ≤ (m : Int) := by omega
      have gm1 : (m : Int) < (n : Int) := by omega
      have hwb : Below wr.heap.size wr (wr.alloc (.cells #[.int .i64 xa, .int .i64 xb, .int .i64 (m : Int)] 78)) := (Below.refl _ _).alloc (Nat.le_refl _) _
      have t0 := (hwb.cell (p := ⟨w.heap.size + 2, m, none⟩) hGlt).trans t0
      have f0 := (hwb.frozen (p := ⟨w.heap.size + 2, m, none⟩) hGlt).trans f0
      have b0 : (wr.alloc (.cells #[.int .i64 xa, .int .i64 xb, .int .i64 (m : Int)] 78)).cell? ⟨wr.heap.size, 0, none⟩ = some (.int .i64 xa) := by simp
      have b1 : (wr.alloc (.cells #[.int .i64 xa, .int .i64 xb, .int .i64 (m : Int)] 78)).cell? ⟨wr.heap.size, 1, none⟩ = some (.int .i64 xb) := by simp
      have b2 : (wr.alloc (.cells #[.int .i64 xa, .int .i64 xb, .int .i64 (m : Int)] 78)).cell? ⟨wr.heap.size, 2, none⟩ = some (.int .i64 (m : Int)) := by simp
      clear hbl hx hF hT hO hu5 h1 h2 h3 h4 hcx
      go_wp2_with fail
      obtain ⟨wa, hwa⟩ : ∃ wa, wa = wr.alloc (.cells #[.int .i64 xa, .int .i64 xb, .int .i64 (m : Int)] 78) := ⟨_, rfl⟩
      have hza : wa.heap.size = wr.heap.size + 1 := by rw [hwa]; simp
      rw [← hwa] at t0 f0 b0 b1 b2 hwb ⊢
      clear hwa
      have HWB := Lib.hid hwb
      have HOA := Lib.hid (HO.out.below hwb (Nat.le_refl _))
      clear hwb x1 x2 x3
      obtain ⟨G, hG⟩ : ∃ G, G = w.heap.size + 1 + 1 := ⟨_, rfl⟩
      have t0 : wa.cell? ⟨w.heap.size + 1 + 1, m, none⟩ = some (.slice a5 (F m).length c5) := t0
      have f0 : wa.frozen? ⟨w.heap.size + 1 + 1, m, none⟩ = false := f0
      have HROW := Lib.hid (show ∀ r, (Value.slice a5 (F m).length c5).ownBlock = some r → w.heap.size + 2 + 1 ≤ r ∧ r < wr.heap.size from fun r e => HO.out.in_ r e)
      obtain ⟨nF, hnF⟩ : ∃ nF, nF = (F m).length := ⟨_, rfl⟩
      have HNF := Lib.hid hnF
      have hy1 : Blks (wa.alloc (.cells #[.int .i64 xa, .int .i64 xb, .int .i64 (m : Int)] 78)) wa.heap.size 0 [⟨xa, xb, m⟩] := fun k hk => by
        have : k = 0 := by simp at hk; omega
        subst this
        simp
      rw [hza] at hy1
      have HY := Lib.hid hy1
      have hG1 : w.heap.size + 1 + 1 < wr.heap.size + 1 := by omega
      have hG2 : w.heap.size + 1 + 1 < wa.heap.size := by omega
      have HFE := Lib.hid (show (fun i => if i = m then F m ++ [(⟨xa, xb, (m : Int)⟩ : Blk)] else F i) = endB (bs.take (j + 1)) from by
        funext i
        rw [HE.out i]
        by_cases ei : i = m
        · subst ei; simp
        · have : ¬ (i : Int) = (m : Int) := by omega
          simp [ei, this])
      clear hy1 hG hnF
      go_region_law (refine step_append_blk rfl (.tmp 29) (.tmp 31) rfl (w.heap.size + 2 + 1) (.slice a5 (F m).length c5) (F m) (by simp [Act.eval]) (by first | exact HOA.out.below ((Below.refl _ _).alloc (Nat.le_refl _) _) (Nat.le_refl _) | exact HOA.out.below (((Below.refl _ _).alloc (Nat.le_refl _) _).drew) (Nat.le_refl _)) (wr.heap.size + 1) 1 ⟨xa, xb, m⟩ (by simp [Act.eval]) (by first | exact HY.out | exact HY.out.below ((Below.refl _ _).drew) (by simp)) hle (by simp; omega) ?_; intro g cap w3 ho3 hg3 hat3; have hgw : wa.grownBy w3 (Value.slice a5 (F m).length c5).ownBlock := gb_trans (World.grownBy_alloc _ _ none) (by first | exact hg3 | exact gb_drewL hg3); have m0 := hgw.cell t0 (fun e => by have := HROW.out _ e.symm; first | omega | (simp at this; done) | (simp at this; omega)); have m2 : w3.frozen? ⟨w.heap.size + 1 + 1, m, none⟩ = false := (World.frozen?_of_block (a := ⟨w.heap.size + 1 + 1, m, none⟩) (hgw.block (w.heap.size + 1 + 1) (by omega) (fun e => by have := HROW.out _ e.symm; omega))).trans f0; have m3 := hgw.cell b2 (fun e => by have := HROW.out _ e.symm; first | omega | (simp at this; done) | (simp at this; omega)))
      all_goals
        have hgr : wr.grownBy w3 (u m).ownBlock := by rw [HU5.out]; exact gb_trans (only_of_below HWB.out none) hgw
        have hT2 := HT.out.step hmn (x := ⟨xa, xb, (m : Int)⟩) (v' := .slice (some ⟨g, 0, none⟩) ((F m).length + 1) cap) ho3 hgr (by
          rw [HU5.out]
          rcases hat3 with e | e
          · exact .inl (by rw [e]; rfl)
          · exact .inr (fun r hr => by simp [Value.ownBlock] at hr; simp at e; omega))
        rw [HFE.out] at hT2
        have hB2 := (hB.grown hgr (by omega) (fun r e => by have := ((HT.out.own m hmn).in_ r e).1; omega)).setCell (p := ⟨w.heap.size + 2, m, none⟩) (Nat.le_refl _) (.slice (some ⟨g, 0, none⟩) ((F m).length + 1) cap)
        go_wp2
        go_roundw
        case rel => exact ⟨j + 1, _, by omega, by go_num, hB2, hT2⟩
        case measure => simp [intOf]; omega
    · have e : j = bs.length := by omega
      have HE := Lib.hid (show endB (bs.take j) = endB bs by rw [e, List.take_length])
      have hBw : Below w.heap.size w wr := HS3.out.low.trans (hB.mono (by omega))
      have r0 : wr.cell? ⟨w.heap.size + 1, 0, none⟩ = some .nilIface := by rw [hB.cell (by simp)]; exact HS3.out.r0
      have r1 : wr.cell? ⟨w.heap.size + 1, 1, none⟩ = some (.int .i64 0) := by rw [hB.cell (by simp)]; exact HS3.out.r1
      have r2 : wr.cell? ⟨w.heap.size + 1, 2, none⟩ = some (.int .i64 0) := by rw [hB.cell (by simp)]; exact HS3.out.r2
      have r3 : wr.cell? ⟨w.heap.size + 1, 3, none⟩ = some (.slice none 0 0) := by rw [hB.cell (by simp)]; exact HS3.out.r3
      have f0 : wr.frozen? ⟨w.heap.size + 1, 0, none⟩ = false := by rw [hB.frozen (by simp)]; exact HS3.out.fr 0
      have f1 : wr.frozen? ⟨w.heap.size + 1, 1, none⟩ = false := by rw [hB.frozen (by simp)]; exact HS3.out.fr 1
      have f2 : wr.frozen? ⟨w.heap.size + 1, 2, none⟩ = false := by rw [hB.frozen (by simp)]; exact HS3.out.fr 2
      have f3 : wr.frozen? ⟨w.heap.size + 1, 3, none⟩ = false := by rw [hB.frozen (by simp)]; exact HS3.out.fr 3
      have HT := Lib.hid hT
      rw [HE.out] at HT
      have HBW := Lib.hid hBw
      clear hT HE e
      go_wp2
      exact bodyPost_ret (v := .agg #[.iface T0 (.agg #[]), .int .i64 (k : Int), .int .i64 (least : Int), .slice (some ⟨w.heap.size + 1 + 1, 0, none⟩) n n]) (by simp [results, Try.results137, go_sem, *]) rfl ⟨w.heap.size + 1 + 1, u, rfl, (((HT.out.set (by omega) _).set (by omega) _).set (by omega) _).set (by omega) _, by omega, (((HBW.out.setCell (p := ⟨w.heap.size + 1, 0, none⟩) (by simp) _).setCell (p := ⟨w.heap.size + 1, 1, none⟩) (by simp) _).setCell (p := ⟨w.heap.size + 1, 2, none⟩) (by simp) _).setCell (p := ⟨w.heap.size + 1, 3, none⟩) (by simp) _⟩
end Go.Proofs.Ytkpnlecmfmbkaaa

namespace Go.Proofs.Ytkpnlecmfmbkaaa
open Go.RowKit Go.Maps Go.Shelf
/-- The search as a value. -/
def srchV (strict : Bool) (k least n G : Nat) : Value := .agg #[ruleV strict, .int .i64 (k : Int), .int .i64 (least : Int), .slice (some ⟨G, 0, none⟩) n n]
theorem all_drop {α : Type} [Inhabited α] {p : α → Bool} {l : List α} {j : Nat} (hj : j < l.length) : (l.drop j).all p = (p (l[j]?.getD default) && (l.drop (j + 1)).all p) := by
  rw [List.drop_eq_getElem_cons hj, List.all_cons]
  simp [hj]
theorem endB_mem {bs : List Blk} {n : Nat} {x : Blk} (h : x ∈ endB bs n) : x ∈ bs ∧ x.c = (n : Int) := by
  obtain ⟨h1, h2⟩ := List.mem_filter.1 h
  exact ⟨h1, by simpa using h2⟩
set_option maxRecDepth 100000 in
set_option maxHeartbeats 1000000 in
theorem fits_any (strict : Bool) (k least n G : Nat) (uu : Nat → Value) (bs : List Blk) (t : Value) (zs : List Int) (w : World) (hT : TabB w G n (endB bs) uu) (hlb : bs.length ≤ 1100000) (hok : ∀ x ∈ bs, okB x) (ht : IB w t zs) (h0 : 0 < zs.length) (hn : zs.length ≤ n) (hn15 : n ≤ 15) :
    Calls Try.prog 200 #[srchV strict k least n G, t] w (RV (.bool (goodE strict bs zs)) w) := by
  obtain ⟨m, hm⟩ : ∃ m, zs.length = m + 1 := ⟨zs.length - 1, by omega⟩
  have HGE := Lib.hid (show goodE strict bs zs = (endB bs m).all (blkOk strict zs) by unfold goodE; rw [hm, Nat.add_sub_cancel])
  have t0 := hT.cell m (by omega)
  have hO := hT.own m (by omega)
  have hGl := hT.lt
  have hll : (endB bs m).length ≤ 1100000 := Nat.le_trans (endB_len bs m) hlb
  obtain ⟨a5, c5, hu5⟩ := hO.form
  rw [hu5] at t0 hO
  have HSX := Lib.hid hO.sx
  have HMEM := Lib.hid fun x (hx : x ∈ endB bs m) => (show inB3 zs.length x from by
    have h1 := endB_mem hx
    exact okB_in3 (hok x h1.1) (by rw [h1.2, hm]; omega))
  obtain ⟨E, hE⟩ : ∃ E, E = endB bs m := ⟨_, rfl⟩
  rw [← hE] at HGE HSX HMEM t0 hll
  have HT := Lib.hid ht
  obtain ⟨a1, c1, rfl⟩ := ht.form
  have HC := Lib.hid fun x (hx : inB3 zs.length x) W (hb : Below w.heap.size w W) => coloursOf_any _ zs x W (ht.below hb (Nat.le_refl _)) hx.1 hx.2.1 hx.2.2
  obtain ⟨T, hTT⟩ : ∃ T, T = zs.length := ⟨_, rfl⟩
  have gl : ((zs.length : Nat) : Int) - 1 = (m : Int) := by omega
  have gm0 : (0 : Int) ≤ (m : Int) := by omega
  have gm1 : (m : Int) < (n : Int) := by omega
  have hm2 := Lib.hid hm
  clear hT hO hu5 hE hok ht hTT hlb hm
  unfold srchV
  cases strict with
  | false =>
    have hrv : ruleV false = .iface 113 (.agg #[]) := rfl
    rw [hrv]
    clear hrv
    go_enter Try.func200, Try.ntmps200
    have hb0 : Below w.heap.size w (w.alloc (.cells #[.iface 113 (.agg #[]), .int .i64 (k : Int), .int .i64 (least : Int), .slice (some ⟨G, 0, none⟩) n n] 122)) := (Below.refl _ _).alloc (Nat.le_refl _) _
    have t0 := (hb0.cell (p := ⟨G, m, none⟩) hGl).trans t0
    go_wp2
    obtain ⟨w2, hw2⟩ : ∃ w2, w2 = w.alloc (.cells #[.iface 113 (.agg #[]), .int .i64 (k : Int), .int .i64 (least : Int), .slice (some ⟨G, 0, none⟩) n n] 122) := ⟨_, rfl⟩
    have hz2 : w2.heap.size = w.heap.size + 1 := by rw [hw2]; simp
    have hc0 : w2.cell? ⟨w.heap.size, 0, none⟩ = some (.iface 113 (.agg #[])) := by rw [hw2]; simp
    rw [← hw2] at hb0 ⊢
    clear hw2 t0
    go_loopw [15] (fun i wr => ∃ j : Nat, j ≤ E.length ∧ i = .int .i64 j ∧ Below (w.heap.size + 1) w2 wr ∧ Hid (goodE false bs zs = (E.drop j).all (blkOk false zs))) (fun i _ => E.length - (intOf i).toNat)
    case atStart => exact ⟨0, Nat.zero_le _, rfl, Below.refl _ _, HGE⟩
    case round =>
      obtain ⟨j, hj, rfl, hB, HR⟩ := hrel
      have hz := hB.size
      have p0 : wr.cell? ⟨w.heap.size, 0, none⟩ = some (.iface 113 (.agg #[])) := by rw [hB.cell (by simp)]; exact hc0
      have hBw : Below w.heap.size w wr := hb0.trans (hB.mono (by omega))
      by_cases hjl : j < E.length
      · rcases HSX.out with ⟨_, _, _, hnil⟩ | ⟨bb, off, cap, hval, hblt, hbl⟩
        · rw [hnil] at hjl; simp at hjl
        simp at hval
        obtain ⟨rfl, rfl⟩ := hval
        obtain ⟨x1, x2, x3⟩ := (hbl.below hBw hblt) j hjl
        have HD := Lib.hid (all_drop (p := blkOk false zs) hjl)
        have hxm := HMEM.out (E[j]?.getD default) (by simp [hjl])
        obtain ⟨x, hx⟩ : ∃ x, x = E[j]?.getD default := ⟨_, rfl⟩
        rw [← hx] at x1 x2 x3 HD hxm
        have HCX := Lib.hid (HC.out x hxm)
        obtain ⟨y, hy⟩ : ∃ y, y = clrB zs x := ⟨_, rfl⟩
        have HY := Lib.hid (show blkOk false zs x = ruleB false y.a y.b y.c by rw [hy]; rfl)
        rw [← hy] at HCX
        have HA := Lib.hid fun W => allows1_any y W
        obtain ⟨xa, xb, xc⟩ := x
        obtain ⟨ya, yb, yc⟩ := y
        unfold bv at HCX HA
        dsimp only at HCX HA HY x1 x2 x3
        obtain ⟨β, hβ⟩ : ∃ β, β = ruleB false ya yb yc := ⟨_, rfl⟩
        rw [← hβ] at HA HY
        rw [HY.out] at HD
        have g0 : (0 : Int) ≤ (j : Int) := by omega
        have g1 : (j : Int) < (E.length : Int) := by omega
        have hwb : Below wr.heap.size wr (wr.alloc (.cells #[.int .i64 xa, .int .i64 xb, .int .i64 xc] 78)) := (Below.refl _ _).alloc (Nat.le_refl _) _
        have p0 := (hwb.cell (p := ⟨w.heap.size, 0, none⟩) (by show w.heap.size < _; omega)).trans p0
        clear hbl hx hxm hβ hy
        go_wp2_with fail
        have r0 := cell_regrown p0
        have r2 := cell_regrown (by simp : (wr.alloc (.cells #[.int .i64 xa, .int .i64 xb, .int .i64 xc] 78)).cell? ⟨wr.heap.size, 0, none⟩ = some (.int .i64 xa))
        have r3 := cell_regrown (by simp : (wr.alloc (.cells #[.int .i64 xa, .int .i64 xb, .int .i64 xc] 78)).cell? ⟨wr.heap.size, 1, none⟩ = some (.int .i64 xb))
        have r4 := cell_regrown (by simp : (wr.alloc (.cells #[.int .i64 xa, .int .i64 xb, .int .i64 xc] 78)).cell? ⟨wr.heap.size, 2, none⟩ = some (.int .i64 xc))
        have HWW := Lib.hid (hBw.trans (hwb.mono hBw.size))
        have hzw := HWW.out.size
        refine wp_region_quiet_below (by kernel_rfl) (by kernel_rfl) ?_
        repeat (go_big_quiet_step (first | (go_at_call 195; exact Calls.regrown_of (HCX.out _ (HWW.out.trans ((below_regrown _ _ _).mono hzw)))) | (go_at_call 301; exact Calls.regrown_of (HA.out _))))
        refine wpQuiet_step fun K hK => ?_
        rw [if_pos (by rfl)]
        refine quiet_invoke _ _ rfl (by rfl) (by rfl) (inv_one _) _ (by rintro _ ⟨p, rfl⟩; exact Calls.regrown_of (HA.out _)) ?_
        go_simp
        refine hK _ ?_
        clear hK K
        repeat (go_big_quiet_step (fail))
        refine wpQuiet_nil ?_
        intro _ hw'
        obtain ⟨⟨dq, osq⟩, hw''⟩ := hw'
        have hbq := below_regrown (wr.alloc (.cells #[.int .i64 xa, .int .i64 xb, .int .i64 xc] 78)) dq osq
        rw [← hw''] at hbq
        have hB2 := hB.trans ((hwb.trans (hbq.mono hwb.size)).mono (by omega))
        have hBw2 := hb0.trans (hB2.mono (by omega))
        clear hw'' r0 r2 r3 r4 p0 hbq hwb HWW hzw
        cases β with
        | true =>
          have HN := Lib.hid (show goodE false bs zs = (E.drop (j + 1)).all (blkOk false zs) by rw [HR.out, HD.out]; rfl)
          clear HD
          go_wp2
          go_roundw
          case rel => exact ⟨j + 1, by omega, by go_num, hB2, HN⟩
          case measure => simp [intOf]; omega
        | false =>
          have HN := Lib.hid (show goodE false bs zs = false by rw [HR.out, HD.out]; rfl)
          clear HD
          go_wp2
          go_ret
          exact RV_of (bool_eq (by rw [HN.out])) hBw2
      · have HN := Lib.hid (show goodE false bs zs = true by rw [HR.out, show j = E.length by omega, List.drop_length]; rfl)
        go_wp2
        go_ret
        exact RV_of (bool_eq (by rw [HN.out])) hBw
  | true =>
    have hrv : ruleV true = .iface 114 (.agg #[]) := rfl
    rw [hrv]
    clear hrv
    go_enter Try.func200, Try.ntmps200
    have hb0 : Below w.heap.size w (w.alloc (.cells #[.iface 114 (.agg #[]), .int .i64 (k : Int), .int .i64 (least : Int), .slice (some ⟨G, 0, none⟩) n n] 122)) := (Below.refl _ _).alloc (Nat.le_refl _) _
    have t0 := (hb0.cell (p := ⟨G, m, none⟩) hGl).trans t0
    go_wp2
    obtain ⟨w2, hw2⟩ : ∃ w2, w2 = w.alloc (.cells #[.iface 114 (.agg #[]), .int .i64 (k : Int), .int .i64 (least : Int), .slice (some ⟨G, 0, none⟩) n n] 122) := ⟨_, rfl⟩
    have hz2 : w2.heap.size = w.heap.size + 1 := by rw [hw2]; simp
    have hc0 : w2.cell? ⟨w.heap.size, 0, none⟩ = some (.iface 114 (.agg #[])) := by rw [hw2]; simp
    rw [← hw2] at hb0 ⊢
    clear hw2 t0
    go_loopw [15] (fun i wr => ∃ j : Nat, j ≤ E.length ∧ i = .int .i64 j ∧ Below (w.heap.size + 1) w2 wr ∧ Hid (goodE true bs zs = (E.drop j).all (blkOk true zs))) (fun i _ => E.length - (intOf i).toNat)
    case atStart => exact ⟨0, Nat.zero_le _, rfl, Below.refl _ _, HGE⟩
    case round =>
      obtain ⟨j, hj, rfl, hB, HR⟩ := hrel
      have hz := hB.size
      have p0 : wr.cell? ⟨w.heap.size, 0, none⟩ = some (.iface 114 (.agg #[])) := by rw [hB.cell (by simp)]; exact hc0
      have hBw : Below w.heap.size w wr := hb0.trans (hB.mono (by omega))
      by_cases hjl : j < E.length
      · rcases HSX.out with ⟨_, _, _, hnil⟩ | ⟨bb, off, cap, hval, hblt, hbl⟩
        · rw [hnil] at hjl; simp at hjl
        simp at hval
        obtain ⟨rfl, rfl⟩ := hval
        obtain ⟨x1, x2, x3⟩ := (hbl.below hBw hblt) j hjl
        have HD := Lib.hid (all_drop (p := blkOk true zs) hjl)
        have hxm := HMEM.out (E[j]?.getD default) (by simp [hjl])
        obtain ⟨x, hx⟩ : ∃ x, x = E[j]?.getD default := ⟨_, rfl⟩
        rw [← hx] at x1 x2 x3 HD hxm
        have HCX := Lib.hid (HC.out x hxm)
        obtain ⟨y, hy⟩ : ∃ y, y = clrB zs x := ⟨_, rfl⟩
        have HY := Lib.hid (show blkOk true zs x = ruleB true y.a y.b y.c by rw [hy]; rfl)
        rw [← hy] at HCX
        have HA := Lib.hid fun W => allows2_any y W
        obtain ⟨xa, xb, xc⟩ := x
        obtain ⟨ya, yb, yc⟩ := y
        unfold bv at HCX HA
        dsimp only at HCX HA HY x1 x2 x3
        obtain ⟨β, hβ⟩ : ∃ β, β = ruleB true ya yb yc := ⟨_, rfl⟩
        rw [← hβ] at HA HY
        rw [HY.out] at HD
        have g0 : (0 : Int) ≤ (j : Int) := by omega
        have g1 : (j : Int) < (E.length : Int) := by omega
        have hwb : Below wr.heap.size wr (wr.alloc (.cells #[.int .i64 xa, .int .i64 xb, .int .i64 xc] 78)) := (Below.refl _ _).alloc (Nat.le_refl _) _
        have p0 := (hwb.cell (p := ⟨w.heap.size, 0, none⟩) (by show w.heap.size < _; omega)).trans p0
        clear hbl hx hxm hβ hy
        go_wp2_with fail
        have r0 := cell_regrown p0
        have r2 := cell_regrown (by simp : (wr.alloc (.cells #[.int .i64 xa, .int .i64 xb, .int .i64 xc] 78)).cell? ⟨wr.heap.size, 0, none⟩ = some (.int .i64 xa))
        have r3 := cell_regrown (by simp : (wr.alloc (.cells #[.int .i64 xa, .int .i64 xb, .int .i64 xc] 78)).cell? ⟨wr.heap.size, 1, none⟩ = some (.int .i64 xb))
        have r4 := cell_regrown (by simp : (wr.alloc (.cells #[.int .i64 xa, .int .i64 xb, .int .i64 xc] 78)).cell? ⟨wr.heap.size, 2, none⟩ = some (.int .i64 xc))
        have HWW := Lib.hid (hBw.trans (hwb.mono hBw.size))
        have hzw := HWW.out.size
        refine wp_region_quiet_below (by kernel_rfl) (by kernel_rfl) ?_
        repeat (go_big_quiet_step (first | (go_at_call 195; exact Calls.regrown_of (HCX.out _ (HWW.out.trans ((below_regrown _ _ _).mono hzw)))) | (go_at_call 302; exact Calls.regrown_of (HA.out _))))
        refine wpQuiet_step fun K hK => ?_
        rw [if_pos (by rfl)]
        refine quiet_invoke _ _ rfl (by rfl) (by rfl) (inv_two _) _ (by rintro _ ⟨p, rfl⟩; exact Calls.regrown_of (HA.out _)) ?_
        go_simp
        refine hK _ ?_
        clear hK K
        repeat (go_big_quiet_step (fail))
        refine wpQuiet_nil ?_
        intro _ hw'
        obtain ⟨⟨dq, osq⟩, hw''⟩ := hw'
        have hbq := below_regrown (wr.alloc (.cells #[.int .i64 xa, .int .i64 xb, .int .i64 xc] 78)) dq osq
        rw [← hw''] at hbq
        have hB2 := hB.trans ((hwb.trans (hbq.mono hwb.size)).mono (by omega))
        have hBw2 := hb0.trans (hB2.mono (by omega))
        clear hw'' r0 r2 r3 r4 p0 hbq hwb HWW hzw
        cases β with
        | true =>
          have HN := Lib.hid (show goodE true bs zs = (E.drop (j + 1)).all (blkOk true zs) by rw [HR.out, HD.out]; rfl)
          clear HD
          go_wp2
          go_roundw
          case rel => exact ⟨j + 1, by omega, by go_num, hB2, HN⟩
          case measure => simp [intOf]; omega
        | false =>
          have HN := Lib.hid (show goodE true bs zs = false by rw [HR.out, HD.out]; rfl)
          clear HD
          go_wp2
          go_ret
          exact RV_of (bool_eq (by rw [HN.out])) hBw2
      · have HN := Lib.hid (show goodE true bs zs = true by rw [HR.out, show j = E.length by omega, List.drop_length]; rfl)
        go_wp2
        go_ret
        exact RV_of (bool_eq (by rw [HN.out])) hBw
end Go.Proofs.Ytkpnlecmfmbkaaa

namespace Go.Proofs.Ytkpnlecmfmbkaaa
open Go.RowKit Go.Maps Go.Shelf
/-- The list before: it lies in the same block, or it is kept. -/
def Back (w w' : World) (base : Nat) (v : Value) (zs : List Int) (g cap : Nat) : Prop :=
  (v = .slice (some ⟨g, 0, none⟩) zs.length cap) ∨ (v.ownBlock ≠ some g ∧ w.heap.size ≤ g ∧ OwnJ w' base v zs)
theorem OwnJ.pre {w : World} {base g cap : Nat} {zs : List Int} {y : Int} (h : OwnJ w base (.slice (some ⟨g, 0, none⟩) (zs.length + 1) cap) (zs ++ [y])) : OwnJ w base (.slice (some ⟨g, 0, none⟩) zs.length cap) zs := by
  obtain ⟨hl, h | ⟨g', cap', cur, e, hb, hcur, hn, hc, hsz, hx⟩⟩ := h
  · have := h.2; simp at this
  · simp at e
    obtain ⟨rfl, rfl⟩ := e
    refine ⟨by simp, .inr ⟨g, cap, cur, rfl, hb, hcur, ?_, hc, hsz, ?_⟩⟩
    · rw [List.length_append, List.length_singleton] at hn; omega
    · have h2 := congrArg (List.take zs.length) hx
      rw [List.take_take, List.map_append, List.take_append_of_le_length (by simp)] at h2
      rw [List.length_append, List.length_singleton, Nat.mul_one, show min zs.length (zs.length + 1) = zs.length by omega] at h2
      rw [Nat.mul_one, h2]
      exact List.take_of_length_le (by simp)
theorem Back.own {w w' w3 : World} {base g cap : Nat} {v : Value} {zs : List Int} {y : Int} (h : Back w w' base v zs g cap) (hg : w'.grownBy w3 (some g)) (ho : OwnJ w3 base (.slice (some ⟨g, 0, none⟩) (zs.length + 1) cap) (zs ++ [y])) : OwnJ w3 base v zs := by
  rcases h with rfl | ⟨hne, _, h⟩
  · exact ho.pre
  · obtain ⟨hl, h | ⟨g', cap', cur, rfl, hb, hcur, hrest⟩⟩ := h
    · exact ⟨hl, .inl h⟩
    · exact ⟨hl, .inr ⟨g', cap', cur, rfl, hb, (hg.block g' (Array.getElem?_eq_some_iff.1 hcur).1 (fun e => hne (by rw [Value.ownBlock]; exact e))).trans hcur, hrest⟩⟩
theorem Back.grown {w w' w3 : World} {base g cap : Nat} {v : Value} {zs : List Int} (h : Back w w' base v zs g cap) (hg : w.grownBy w' v.ownBlock) (hg3 : w'.grownBy w3 (some g)) : w.grownBy w3 v.ownBlock := by
  refine ⟨hg3.os.trans hg.os, hg3.tape.trans hg.tape, hg3.output.trans hg.output, Nat.le_trans hg.size hg3.size, fun k hk hne => ?_⟩
  refine (hg3.block k (Nat.lt_of_lt_of_le hk hg.size) (fun e => ?_)).trans (hg.block k hk hne)
  cases e
  rcases h with rfl | ⟨_, h2, _⟩
  · exact hne rfl
  · omega
/-- One number more: where it goes, and what becomes of the list before. -/
theorem run_append_one (w : World) (ty : TypeId) (base : Nat) (v : Value) (zs : List Int) (hown : OwnJ w base v zs) (b0 c : Nat) (y : Int) (c1 : w.cell? ⟨b0, 0, none⟩ = some (.int .i64 y)) (hl : zs.length ≤ 1100000) (hbase : base ≤ w.heap.size) :
    ∃ g cap w', (Builtin.append_ #[27, 27] ty #[v, .slice (some ⟨b0, 0, none⟩) 1 c]).run Try.prog w = .ok (.slice (some ⟨g, 0, none⟩) (zs.length + 1) cap) w' ∧ OwnJ w' base (.slice (some ⟨g, 0, none⟩) (zs.length + 1) cap) (zs ++ [y]) ∧ w.grownBy w' v.ownBlock ∧ Back w w' base v zs g cap := by
  obtain ⟨i0, hi, hz0, hz1, hz2⟩ := info_parts infoInt64
  have hnews : ∀ j u, [Value.int .i64 y][j]? = some u → w.cell? ((⟨b0, 0, none⟩ : Addr).add j) = some u := fun j u hj => by
    rw [addr_at, Nat.zero_add]
    match j, hj with
    | 0, hj => simp at hj; rw [← hj]; exact c1
    | j + 1, hj => simp at hj
  obtain ⟨v', w', hr, hown', hg, hiff, hat⟩ := run_append_own_at (P := Try.prog) w base 27 ty 2 i0 _ 1 8 Try.underlying27 hi hz0 hz1 hz2 rfl (by decide) v zs.length (zs.map (Value.int .i64)) hown ⟨b0, 0, none⟩ 1 c [.int .i64 y] rfl hnews (fun u hu => by simp at hu; rw [hu]; rfl) (by unfold maxLen; omega) (by omega) hbase
  have hO : OwnJ w' base v' (zs ++ [y]) := by
    unfold OwnJ
    rw [List.length_append, List.length_singleton, List.map_append, List.map_singleton]
    exact hown'
  have hf : ∃ g cap, v' = .slice (some ⟨g, 0, none⟩) (zs.length + 1) cap := by
    rcases hown'.2 with ⟨e, e2⟩ | ⟨g, cap, _, e, _⟩
    · omega
    · exact ⟨g, cap, e⟩
  obtain ⟨g, cap, rfl⟩ := hf
  refine ⟨g, cap, w', hr, hO, hg, ?_⟩
  rcases hown.2 with ⟨rfl, h0⟩ | ⟨g0, cap0, cur, rfl, hb, hcur, hn, hc, hsz, hx⟩
  · have hz : zs = [] := by simpa using h0
    refine .inr ⟨by simp [Value.ownBlock], ?_, by rw [hz]; exact OwnJ.nil0 _ _⟩
    rcases hat with e | e
    · simp [Value.ownBlock] at e
    · simp [Value.ownBlock] at e; omega
  · by_cases hroom : zs.length + 1 ≤ cap0
    · have hr2 := run_append_room (P := Try.prog) w 27 ty 2 i0 Try.underlying27 hi g0 zs.length cap0 cur hcur ⟨b0, 0, none⟩ 1 c [.int .i64 y] (by rw [hz1]; rfl) hnews (fun u hu => by simp at hu; rw [hu]; rfl) hroom (by rw [hz1, hsz]; simp; omega)
      rw [hr] at hr2
      simp at hr2
      obtain ⟨⟨rfl, rfl⟩, _⟩ := hr2
      exact .inl rfl
    · have hnew : g = w.heap.size := by
        have hr2 := run_append_grow (P := Try.prog) w 27 ty 2 i0 _ Try.underlying27 hi hz0 ⟨g0, 0, none⟩ zs.length cap0 (zs.map (Value.int .i64)) (by rw [hz1]; simp) (fun j u hj => hown.cells (g := g0) rfl j u hj) ⟨b0, 0, none⟩ 1 c [.int .i64 y] (by rw [hz1]; rfl) hnews (by omega) (by omega) (by rw [hz2]; exact growslice_fits (by omega) (by omega))
        rw [hr] at hr2
        simp at hr2
        exact hr2.1.1
      refine .inr ⟨fun e => ?_, by omega, ?_⟩
      · simp [Value.ownBlock] at e
        have := (Array.getElem?_eq_some_iff.1 hcur).1
        omega
      · have hr2 := run_append_grow (P := Try.prog) w 27 ty 2 i0 _ Try.underlying27 hi hz0 ⟨g0, 0, none⟩ zs.length cap0 (zs.map (Value.int .i64)) (by rw [hz1]; simp) (fun j u hj => hown.cells (g := g0) rfl j u hj) ⟨b0, 0, none⟩ 1 c [.int .i64 y] (by rw [hz1]; rfl) hnews (by omega) (by omega) (by rw [hz2]; exact growslice_fits (by omega) (by omega))
        rw [hr] at hr2
        simp at hr2
        obtain ⟨_, hw'⟩ := hr2
        have hlt := (Array.getElem?_eq_some_iff.1 hcur).1
        refine ⟨by simp, .inr ⟨g0, cap0, cur, rfl, hb, ?_, hn, hc, hsz, hx⟩⟩
        rw [hw']
        exact (((Below.refl w.heap.size w).drew.alloc (Nat.le_refl _) _).block g0 hlt).trans hcur
theorem wpList_append_one {w : World} {ops : Array Oper} {rest : List Oper} {o : Oper} {a : Act} {Q : Exit → Act → World → Prop} (hgd : o.guard = none) (s x : Operand)
    (ho : o.op = .call { callee := .builtin .append, args := #[s, x], argTypes := #[27, 27] })
    (base : Nat) (v : Value) (zs : List Int) (hs : a.eval s = v) (hown : OwnJ w base v zs) (b0 c : Nat) (y : Int) (hx : a.eval x = .slice (some ⟨b0, 0, none⟩) 1 c)
    (c1 : w.cell? ⟨b0, 0, none⟩ = some (.int .i64 y)) (hl : zs.length ≤ 1100000) (hbase : base ≤ w.heap.size)
    (h : ∀ (g cap : Nat) (w' : World), OwnJ w' base (.slice (some ⟨g, 0, none⟩) (zs.length + 1) cap) (zs ++ [y]) → w.grownBy w' v.ownBlock → Back w w' base v zs g cap → wpList Try.prog ops Q rest (a.put o.dst (.slice (some ⟨g, 0, none⟩) (zs.length + 1) cap)) w') : wpList Try.prog ops Q (o :: rest) a w := by
  refine wpList_plain hgd fun K hK => ?_
  obtain ⟨g, cap, w', hr, h1, h2, h3⟩ := run_append_one w o.type base v zs hown b0 c y c1 hl hbase
  unfold Oper.wp execOp
  simp only [ho, resolve, invoke, builtin, Sem.run_bind, Sem.run_pure, Result.andThen_ok, List.map_toArray, List.map_cons, List.map_nil, hs, hx, hr]
  exact hK _ _ (h g cap w' h1 h2 h3)
end Go.Proofs.Ytkpnlecmfmbkaaa

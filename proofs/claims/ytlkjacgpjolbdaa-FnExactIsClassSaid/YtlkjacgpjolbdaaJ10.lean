
/- Rows of blocks that are written and sorted in place. append of many blocks to a list of the call's own. The model's TakeBlock. The law FnExactIsClass returns true. The dump's head word by word, cheaply: what every row asks of it. -/
import Derived.Test.YtlkjacgpjolbdaaJ9
import Derived.Shelf.SlSortCmp.NoneTotal
import Derived.Deep.RegionLaw
import Derived.Deep.AppendLies
import Derived.Deep.RegionHeld3
import Derived.IntWalk
import Derived.Deep.RegionWith
import Derived.Deep.DeepCutAuto
namespace Go.Proofs.Ytlkjacgpjolbdaa
open Go.RowKit Go.Maps Go.Sort
theorem heap_set_own {w : World} {g o : Nat} {u : Value} {cs : Array Value} {e : TypeId} {fr : Nat × Nat} (h : w.heap[g]? = some (.cells cs e fr)) : (w.setCell ⟨g, o, none⟩ u).heap[g]? = some (.cells (cs.setIfInBounds o u) e fr) := by
  obtain ⟨hlt, hk⟩ := Array.getElem?_eq_some_iff.1 h
  show (w.heap.modify g _)[g]? = _
  rw [Array.getElem?_eq_getElem (by rw [Array.size_modify]; exact hlt), Array.getElem_modify_self, hk]
  rfl
theorem flat_set : ∀ (bs : List Blk) (i : Nat) (x : Blk), i < bs.length → (((bs.flatMap cells3).set (i * 3) (.int .i64 x.a)).set (i * 3 + 1) (.int .i64 x.b)).set (i * 3 + 2) (.int .i64 x.c) = (bs.set i x).flatMap cells3
  | [], _, _, h => by simp at h
  | y :: r, 0, x, _ => by simp [cells3]
  | y :: r, i + 1, x, h => by
    have ih := flat_set r i x (by simpa using h)
    rw [List.set_cons_succ, List.flatMap_cons, List.flatMap_cons, ← ih]
    rw [show (i + 1) * 3 = i * 3 + 1 + 1 + 1 by omega, show i * 3 + 1 + 1 + 1 + 1 = i * 3 + 1 + 1 + 1 + 1 from rfl, show i * 3 + 1 + 1 + 1 + 2 = i * 3 + 2 + 1 + 1 + 1 by omega]
    simp only [cells3, List.cons_append, List.nil_append, List.set_cons_succ]
theorem OwnR.set3 {w : World} {base g n cap : Nat} {bs : List Blk} (h : OwnR w base (.slice (some ⟨g, 0, none⟩) n cap) bs) {i : Nat} (hi : i < bs.length) (x : Blk) :
    OwnR (((w.setCell ⟨g, i * 3, none⟩ (.int .i64 x.a)).setCell ⟨g, i * 3 + 1, none⟩ (.int .i64 x.b)).setCell ⟨g, i * 3 + 2, none⟩ (.int .i64 x.c)) base (.slice (some ⟨g, 0, none⟩) n cap) (bs.set i x) := by
  obtain ⟨hl, h | ⟨g', cap', cur, hv, hb, hcur, hn, hc, hsz, hx⟩⟩ := h
  · cases h.1
  · cases hv
    refine ⟨by rw [flat_length, List.length_set], .inr ⟨g, cap, _, by rw [List.length_set], hb, heap_set_own (heap_set_own (heap_set_own hcur)), by rw [List.length_set]; exact hn, hc, by simpa using hsz, ?_⟩⟩
    rw [List.length_set, Array.toList_setIfInBounds, Array.toList_setIfInBounds, Array.toList_setIfInBounds, List.take_set, List.take_set, List.take_set, hx]
    exact flat_set bs i x hi
theorem OwnR.at_ {w : World} {base g n cap : Nat} {bs : List Blk} (h : OwnR w base (.slice (some ⟨g, 0, none⟩) n cap) bs) : n = bs.length ∧ base ≤ g ∧ OwnAt w g bs := by
  rcases h.res with ⟨rfl, a, c, e⟩ | ⟨g', cap', e, h1, h2, h3⟩
  · cases e
    obtain ⟨hl, h | ⟨g', cap', cur, hv, hb, hcur, hn, hc, hsz, hx⟩⟩ := h
    · cases h.1
    · cases hv
      exact ⟨rfl, hb, ⟨(Array.getElem?_eq_some_iff.1 hcur).1, fun k hk => by simp at hk, fun o => by simp [World.frozen?, hcur]⟩⟩
  · cases e
    exact ⟨rfl, h1, h3⟩

theorem heap_put {w : World} {g n : Nat} {os : Array Obj} {cur : Array Value} {e : TypeId} {fr : Nat × Nat} (F : Array Value) (hb : w.heap[g]? = some (.cells cur e fr)) :
    (grow (putRow id (Sort.ahead w n) g 0 F) os).heap[g]? = some (.cells (putCells id 0 F cur) e fr) := by
  have hg : g < w.heap.size := (Array.getElem?_eq_some_iff.1 hb).1
  rw [heap_grow_old _ _ (by simpa using hg)]
  simp [putRow, mapBlock, Sort.ahead, Array.getElem?_modify, hb, onCells]
theorem grownBy_put {w : World} {g n : Nat} {os : Array Obj} (F : Array Value) : w.grownBy (grow (putRow id (Sort.ahead w n) g 0 F) os) (some g) := by
  refine ⟨rfl, rfl, rfl, by simp, fun k hk hne => ?_⟩
  rw [heap_grow_old _ _ (by simpa using hk)]
  have : g ≠ k := fun e => hne (by rw [e])
  simp [putRow, mapBlock, Sort.ahead, Array.getElem?_modify, this]
theorem take_put (cur F : Array Value) (h : F.size ≤ cur.size) : (putCells id 0 F cur).toList.take F.size = F.toList := by
  apply List.ext_getElem?
  intro j
  by_cases hj : j < F.size
  · rw [List.getElem?_take_of_lt hj, Array.getElem?_toList]
    simp [putCells, hj, show j < cur.size by omega]
  · rw [List.getElem?_take_eq_none (by omega), List.getElem?_eq_none (by simp; omega)]
theorem cells3_at (x : Blk) : (cells3 x)[0]! = .int .i64 x.a ∧ (cells3 x)[1]! = .int .i64 x.b ∧ (cells3 x)[2]! = .int .i64 x.c := ⟨rfl, rfl, rfl⟩
theorem flatK_at (bs : List Blk) (j : Nat) (h : j < bs.length * 3) : (flatK cells3 3 bs.toArray)[j]! = (bs.flatMap cells3)[j]?.getD undef := by
  rw [get_flatK _ _ _ _ (by simpa using h)]
  have hk : j / 3 < bs.length := by omega
  obtain ⟨h0, h1, h2⟩ := flat_at bs (j / 3) hk
  obtain ⟨c0, c1, c2⟩ := cells3_at (bs.toArray[j / 3]!)
  have e : bs.toArray[j / 3]! = bs[j / 3]?.getD default := by simp [hk]
  rw [e] at c0 c1 c2
  rw [e]
  have hm : j % 3 = 0 ∨ j % 3 = 1 ∨ j % 3 = 2 := by omega
  rcases hm with hm | hm | hm
  · rw [hm, c0]; rw [show j / 3 * 3 = j by omega] at h0; rw [h0]; rfl
  · rw [hm, c1]; rw [show j / 3 * 3 + 1 = j by omega] at h1; rw [h1]; rfl
  · rw [hm, c2]; rw [show j / 3 * 3 + 2 = j by omega] at h2; rw [h2]; rfl
theorem flatK_list (bs : List Blk) : (flatK cells3 3 bs.toArray).toList = bs.flatMap cells3 := by
  apply List.ext_getElem?
  intro j
  by_cases hj : j < bs.length * 3
  · have h1 := flatK_at bs j hj
    have hs : j < (flatK cells3 3 bs.toArray).size := by rw [size_flatK]; simpa using hj
    rw [getElem!_pos _ j hs] at h1
    rw [Array.getElem?_toList, Array.getElem?_eq_getElem hs, h1]
    have hf : j < (bs.flatMap cells3).length := by rw [flat_length]; exact hj
    rw [List.getElem?_eq_getElem hf]
    rfl
  · have h1 : (flatK cells3 3 bs.toArray).toList.length = bs.length * 3 := by rw [Array.length_toList, size_flatK]; simp
    rw [List.getElem?_eq_none (by omega), List.getElem?_eq_none (by rw [flat_length]; omega)]
theorem OwnAt.holds {w : World} {g : Nat} {bs : List Blk} (h : OwnAt w g bs) : HoldsK cells3 3 w g 0 bs.toArray := by
  intro j hj
  rw [size_flatK, List.size_toArray] at hj
  refine ⟨?_, h.free _⟩
  rw [flatK_at bs j hj, Nat.zero_add]
  obtain ⟨h0, h1, h2⟩ := h.at_ (j / 3) (by omega)
  obtain ⟨f0, f1, f2⟩ := flat_at bs (j / 3) (by omega)
  rw [Nat.zero_add] at h0 h1 h2
  have hm : j % 3 = 0 ∨ j % 3 = 1 ∨ j % 3 = 2 := by omega
  rcases hm with hm | hm | hm
  · rw [show j / 3 * 3 = j by omega] at h0 f0; rw [h0, f0]; rfl
  · rw [show j / 3 * 3 + 1 = j by omega] at h1 f1; rw [h1, f1]; rfl
  · rw [show j / 3 * 3 + 2 = j by omega] at h2 f2; rw [h2, f2]; rfl
/-- Behind the sort the same slice owns the blocks in order. -/
theorem OwnR.sorted {w : World} {base g n cap : Nat} {bs cs : List Blk} (h : OwnR w base (.slice (some ⟨g, 0, none⟩) n cap) bs) (hl : cs.length = bs.length) (m : Nat) (os : Array Obj) :
    OwnR (sortWorldK cells3 3 w g 0 m cs.toArray os) base (.slice (some ⟨g, 0, none⟩) n cap) cs ∧ w.grownBy (sortWorldK cells3 3 w g 0 m cs.toArray os) (some g) := by
  refine ⟨?_, grownBy_put _⟩
  obtain ⟨hl2, h | ⟨g', cap', cur, hv, hb, hcur, hn, hc, hsz, hx⟩⟩ := h
  · cases h.1
  · cases hv
    have hF : (flatK cells3 3 cs.toArray).size = cs.length * 3 := by rw [size_flatK]; simp
    refine ⟨by rw [flat_length], .inr ⟨g, cap, _, by rw [hl], hb, heap_put _ hcur, by rw [hl]; exact hn, hc, by simp [putCells]; omega, ?_⟩⟩
    rw [← hF, take_put _ _ (by rw [hF, hl]; have := Nat.mul_le_mul_right 3 hn; omega)]
    exact flatK_list cs
theorem lt_bef (x y : Blk) : ltOf cmpB x y = befB x y := by
  unfold ltOf
  rw [Bool.eq_iff_iff, ← cmpB_neg]
  simp
theorem swoB : SWO (ltOf cmpB) where
  irrefl x := by rw [lt_bef]; exact bef_irrefl x
  trans x y z h1 h2 := by rw [lt_bef] at *; exact bef_trans h1 h2
  ntrans x y z h1 h2 := by rw [lt_bef] at *; exact bef_ntrans h1 h2
theorem totB (x y : Blk) (h1 : ltOf cmpB x y = false) (h2 : ltOf cmpB y x = false) : x = y := by rw [lt_bef] at *; exact bef_total h1 h2
theorem mergeB (bs : List Blk) : (bs.mergeSort fun x y => !ltOf cmpB y x) = sortB bs := by
  rw [← sortB_merge]
  congr 1
  funext x y
  rw [lt_bef]
theorem compareBlocks_lays (x y : Blk) (w : World) : Calls Try.prog 121 #[bv x, bv y] w fun e w' => e = .returned (.int .i64 (cmpB x y)) ∧ ∃ q os, w' = grow (w.drewN q) os := by
  obtain ⟨a, b, c⟩ := x
  obtain ⟨d, e, f⟩ := y
  unfold bv
  dsimp only
  go_enter Try.func121, Try.ntmps121
  go_wp2
  go_quiet ((go_at_call 132; exact RS.quiet (Compare_any _ 0 _ _ 0 _ [a, b, c] [d, e, f] _ (ints3 (by simp [go_sem]) (by simp [go_sem]) (by simp [go_sem])) (ints3 (by simp [go_sem]) (by simp [go_sem]) (by simp [go_sem])) (by simp) (by simp))))
  go_wp2
  go_ret
  exact ⟨rfl, _, _, by rw [alloc_eq_grow, alloc_eq_grow, grow_grow]; rfl⟩
end Go.Proofs.Ytlkjacgpjolbdaa

namespace Go.Proofs.Ytlkjacgpjolbdaa
open Go.RowKit Go.Maps
/-- The value is a slice of just these blocks; of the numbers nothing is said. -/
def SX (w : World) (s : Value) (bs : List Blk) : Prop := (∃ a c, s = .slice a 0 c ∧ bs = []) ∨ ∃ b off cap, s = .slice (some ⟨b, off, none⟩) bs.length cap ∧ b < w.heap.size ∧ Blks w b off bs
theorem SB.sx {w : World} {s : Value} {bs : List Blk} (h : SB w s bs) : SX w s bs := h.2.2
theorem SX.below {w w' : World} {s : Value} {bs : List Blk} (h : SX w s bs) {B : Nat} (hb : Below B w w') (hB : w.heap.size ≤ B) : SX w' s bs := by
  rcases h with h3 | ⟨b, off, cap, rfl, hl, hr⟩
  · exact .inl h3
  · exact .inr ⟨b, off, cap, rfl, by have := hb.size; omega, hr.below hb (by omega)⟩
theorem OwnR.sx {w : World} {base : Nat} {s : Value} {bs : List Blk} (h : OwnR w base s bs) : SX w s bs := by
  rcases h.res with ⟨rfl, a, c, rfl⟩ | ⟨g, cap, rfl, _, _, ho⟩
  · exact .inl ⟨a, c, rfl, rfl⟩
  · exact .inr ⟨g, 0, cap, rfl, ho.lt, ho.at_⟩
theorem OwnR.form {w : World} {base : Nat} {s : Value} {bs : List Blk} (h : OwnR w base s bs) : ∃ a c, s = .slice a bs.length c := by
  rcases h.res with ⟨rfl, a, c, rfl⟩ | ⟨g, cap, rfl, _⟩ <;> exact ⟨_, _, rfl⟩
theorem blks_flat {w : World} {b off : Nat} {bs : List Blk} (h : Blks w b off bs) (j : Nat) (u : Value) (hu : (bs.flatMap cells3)[j]? = some u) : w.cell? ⟨b, off + j, none⟩ = some u := by
  have hj : j < bs.length * 3 := by
    rw [← flat_length]
    exact (List.getElem?_eq_some_iff.1 hu).1
  obtain ⟨h0, h1, h2⟩ := h (j / 3) (by omega)
  obtain ⟨f0, f1, f2⟩ := flat_at bs (j / 3) (by omega)
  have hm : j % 3 = 0 ∨ j % 3 = 1 ∨ j % 3 = 2 := by omega
  rcases hm with hm | hm | hm
  · rw [show j / 3 * 3 = j by omega] at f0
    rw [show off + j / 3 * 3 = off + j by omega] at h0
    rw [h0, ← hu, f0]
  · rw [show j / 3 * 3 + 1 = j by omega] at f1
    rw [show off + j / 3 * 3 + 1 = off + j by omega] at h1
    rw [h1, ← hu, f1]
  · rw [show j / 3 * 3 + 2 = j by omega] at f2
    rw [show off + j / 3 * 3 + 2 = off + j by omega] at h2
    rw [h2, ← hu, f2]
theorem flat_one (bs : List Blk) : ∀ u ∈ bs.flatMap cells3, u.oneCell' = true := by
  intro u hu
  obtain ⟨x, _, hx⟩ := List.mem_flatMap.1 hu
  simp [cells3] at hx
  rcases hx with rfl | rfl | rfl <;> rfl
theorem run_append_many (w : World) (ty : TypeId) (base : Nat) (v : Value) (bs : List Blk) (hown : OwnR w base v bs) (x : Value) (cs : List Blk) (hx : SX w x cs) (hl : bs.length + cs.length ≤ 2200000) (hb : base ≤ w.heap.size) :
    ∃ v' w', (Builtin.append_ #[26, 26] ty #[v, x]).run Try.prog w = .ok v' w' ∧ OwnR w' base v' (bs ++ cs) ∧ w.grownBy w' v.ownBlock := by
  obtain ⟨i0, hi, hz0, hz1, hz2⟩ := info_parts infoBlock
  have key : ∀ (a : Addr) (m c : Nat) (news : List Value), x = .slice (some a) m c → m = cs.length → news = cs.flatMap cells3 → (∀ j u, news[j]? = some u → w.cell? (a.add j) = some u) →
      ∃ v' w', (Builtin.append_ #[26, 26] ty #[v, x]).run Try.prog w = .ok v' w' ∧ OwnR w' base v' (bs ++ cs) ∧ w.grownBy w' v.ownBlock := by
    intro a m c news ex em en hn
    subst ex
    subst en
    subst em
    obtain ⟨v', w', h1, h2, h3, _⟩ := run_append_own_at (P := Try.prog) w base 26 ty 70 i0 _ 3 24 Try.underlying26 hi hz0 hz1 hz2 rfl (by decide) v bs.length (bs.flatMap cells3) hown a cs.length c (cs.flatMap cells3) (flat_length cs) hn (flat_one cs) (by unfold maxLen; omega) (by omega) hb
    exact ⟨v', w', h1, by unfold OwnR; rw [List.length_append, List.flatMap_append]; exact h2, h3⟩
  rcases hx with ⟨a, c, rfl, rfl⟩ | ⟨b, off, cap, rfl, _, hbl⟩
  · cases a with
    | some a => exact key a 0 c [] rfl rfl rfl (by simp)
    | none =>
      refine ⟨v, w, ?_, by rw [List.append_nil]; exact hown, only_refl _ _⟩
      obtain ⟨a, c', rfl⟩ := hown.form
      have hroom : bs.length ≤ c' := by
        rcases hown.2 with ⟨h, h0⟩ | ⟨g, cap, cur, h, _, _, hn, _⟩
        · rw [h0]; exact Nat.zero_le _
        · simp at h; omega
      have hc : ∀ W : World, (Builtin.lenOf (.slice none 0 c)).run Try.prog W = .ok 0 W := fun _ => rfl
      have hc2 : ∀ W : World, (Builtin.firstCells 3 0 (.slice none 0 c)).run Try.prog W = .ok #[] W := fun _ => rfl
      simp [Builtin.append_, run_underlying Try.underlying26, sizeOf, typeInfo, hi, hz1, hc, hc2, hroom]
      cases a <;> rfl
  · refine key ⟨b, off, none⟩ cs.length cap (cs.flatMap cells3) rfl rfl rfl fun j u hu => ?_
    rw [addr_at]
    exact blks_flat hbl j u hu
theorem wp_append_many {w : World} {o : Oper} {a : Act} {K : Act → World → Prop} {Q : Exit → Act → World → Prop} (s x : Operand)
    (ho : o.op = .call { callee := .builtin .append, args := #[s, x], argTypes := #[26, 26] })
    (base : Nat) (v : Value) (bs : List Blk) (hs : a.eval s = v) (hown : OwnR w base v bs) (xv : Value) (cs : List Blk) (hxv : a.eval x = xv) (hx : SX w xv cs) (hl : bs.length + cs.length ≤ 2200000) (hb : base ≤ w.heap.size)
    (h : ∀ (a' : Option Addr) (c' : Nat) (w' : World), OwnR w' base (.slice a' (bs.length + cs.length) c') (bs ++ cs) → w.grownBy w' v.ownBlock → K (a.put o.dst (.slice a' (bs.length + cs.length) c')) w') : o.wp Try.prog a w K Q := by
  obtain ⟨v', w', hr, h2, h3⟩ := run_append_many w o.type base v bs hown xv cs hx hl hb
  obtain ⟨a', c', hv⟩ := h2.form
  rw [List.length_append] at hv
  subst hv
  unfold Oper.wp execOp
  simp only [ho, resolve, invoke, builtin, Sem.run_bind, Sem.run_pure, Result.andThen_ok, List.map_toArray, List.map_cons, List.map_nil, hs, hxv, hr]
  exact h a' c' w' h2 h3
theorem wpList_append_many {w : World} {ops : Array Oper} {rest : List Oper} {o : Oper} {a : Act} {Q : Exit → Act → World → Prop} (hgd : o.guard = none) (s x : Operand)
    (ho : o.op = .call { callee := .builtin .append, args := #[s, x], argTypes := #[26, 26] })
    (base : Nat) (v : Value) (bs : List Blk) (hs : a.eval s = v) (hown : OwnR w base v bs) (xv : Value) (cs : List Blk) (hxv : a.eval x = xv) (hx : SX w xv cs) (hl : bs.length + cs.length ≤ 2200000) (hb : base ≤ w.heap.size)
    (h : ∀ (a' : Option Addr) (c' : Nat) (w' : World), OwnR w' base (.slice a' (bs.length + cs.length) c') (bs ++ cs) → w.grownBy w' v.ownBlock → wpList Try.prog ops Q rest (a.put o.dst (.slice a' (bs.length + cs.length) c')) w') : wpList Try.prog ops Q (o :: rest) a w :=
  wpList_plain hgd fun _ hK => wp_append_many s x ho base v bs hs hown xv cs hxv hx hl hb fun a' c' w' h1 h2 => hK _ _ (h a' c' w' h1 h2)
theorem step_append_many {w : World} {ops : Array Oper} {o : Oper} {a : Act} {K : Act → World → Prop} {Q : Exit → Act → World → Prop} {E : Prop} (hgd : o.guard = none) (s x : Operand)
    (ho : o.op = .call { callee := .builtin .append, args := #[s, x], argTypes := #[26, 26] })
    (base : Nat) (v : Value) (bs : List Blk) (hs : a.eval s = v) (hown : OwnR w base v bs) (xv : Value) (cs : List Blk) (hxv : a.eval x = xv) (hx : SX w xv cs) (hl : bs.length + cs.length ≤ 2200000) (hb : base ≤ w.heap.size)
    (h : ∀ (a' : Option Addr) (c' : Nat) (w' : World), OwnR w' base (.slice a' (bs.length + cs.length) c') (bs ++ cs) → w.grownBy w' v.ownBlock → K (a.put o.dst (.slice a' (bs.length + cs.length) c')) w') :
    if Region.wanted o (yielded ops a.tmps) = true then Oper.wp Try.prog o a w K Q else E := by
  have hw : Region.wanted o (yielded ops a.tmps) = true := by simp [Region.wanted, hgd]
  rw [if_pos hw]
  exact wp_append_many s x ho base v bs hs hown xv cs hxv hx hl hb h
end Go.Proofs.Ytlkjacgpjolbdaa

namespace Go.Proofs.Ytlkjacgpjolbdaa
open Go.RowKit Go.Maps
theorem Blks.take {w : World} {b off : Nat} {bs : List Blk} (h : Blks w b off bs) (j : Nat) : Blks w b off (bs.take j) := fun k hk => by
  rw [List.length_take] at hk
  have := h k (by omega)
  rwa [List.getElem?_take_of_lt (by omega)]
theorem Blks.drop {w : World} {b off : Nat} {bs : List Blk} (h : Blks w b off bs) (j : Nat) : Blks w b (off + j * 3) (bs.drop j) := fun k hk => by
  rw [List.length_drop] at hk
  have := h (j + k) (by omega)
  rw [List.getElem?_drop, show off + j * 3 + k * 3 = off + (j + k) * 3 by omega]
  exact this
theorem lit_own (W : World) : OwnR (W.alloc (.cells #[] 70)) W.heap.size (.slice (some ⟨W.heap.size, 0, none⟩) 0 0) [] :=
  ⟨rfl, .inr ⟨W.heap.size, 0, #[], rfl, Nat.le_refl _, (MapKept.heap_alloc W (.cells #[] 70)).1, Nat.le_refl _, by unfold maxLen; omega, rfl, rfl⟩⟩
theorem OwnR.drew {w : World} {base : Nat} {v : Value} {bs : List Blk} (h : OwnR w base v bs) : OwnR w.drew base v bs := h
theorem SX.drew {w : World} {v : Value} {bs : List Blk} (h : SX w v bs) : SX w.drew v bs := h
theorem Blks.drew {w : World} {b off : Nat} {bs : List Blk} (h : Blks w b off bs) : Blks w.drew b off bs := h
theorem Blks.kept {w w' : World} {b off : Nat} {bs : List Blk} {row : Option Nat} (h : Blks w b off bs) (hg : w.grownBy w' row) (hne : some b ≠ row) : Blks w' b off bs := fun k hk => by
  obtain ⟨h1, h2, h3⟩ := h k hk
  exact ⟨hg.cell h1 hne, hg.cell h2 hne, hg.cell h3 hne⟩
theorem keep_cell {w w' : World} {row : Option Nat} {b o : Nat} {u : Value} (h : w.cell? ⟨b, o, none⟩ = some u) (hg : w.grownBy w' row) (hne : ∀ r, row = some r → b < r) : w'.cell? ⟨b, o, none⟩ = some u :=
  hg.cell h (fun e => by have := hne _ e.symm; simp at this)
theorem keep_frozen {w w' : World} {row : Option Nat} {b o : Nat} {u : Value} (hc : w.cell? ⟨b, o, none⟩ = some u) (h : w.frozen? ⟨b, o, none⟩ = false) (hg : w.grownBy w' row) (hne : ∀ r, row = some r → b < r) : w'.frozen? ⟨b, o, none⟩ = false :=
  (World.frozen?_of_block (w := w) (a := ⟨b, o, none⟩) (hg.block b (block_lt_of_cell hc) (fun e => by have := hne _ e.symm; omega))).trans h
theorem keep_some {w w' : World} {row : Option Nat} {b o : Nat} (h : (w.cell? ⟨b, o, none⟩).isSome = true) (hg : w.grownBy w' row) (hne : ∀ r, row = some r → b < r) : (w'.cell? ⟨b, o, none⟩).isSome = true := by
  obtain ⟨u, hu⟩ := Option.isSome_iff_exists.1 h
  rw [keep_cell hu hg hne]
  rfl
theorem keep_free {w w' : World} {row : Option Nat} {b o : Nat} (h : (w.cell? ⟨b, o, none⟩).isSome = true) (hf : w.frozen? ⟨b, o, none⟩ = false) (hg : w.grownBy w' row) (hne : ∀ r, row = some r → b < r) : w'.frozen? ⟨b, o, none⟩ = false := by
  obtain ⟨u, hu⟩ := Option.isSome_iff_exists.1 h
  exact keep_frozen hu hf hg hne
def Six (w' : World) (b : Nat) (v : Int) (s : Value) : Prop := w'.cell? ⟨b, 0, none⟩ = some (.int .i64 v) ∧ w'.cell? ⟨b, 1, none⟩ = some s ∧ w'.cell? ⟨b + 1, 0, none⟩ = some (.int .i64 0) ∧ w'.cell? ⟨b + 1, 1, none⟩ = some (.slice none 0 0) ∧ w'.frozen? ⟨b + 1, 0, none⟩ = false ∧ w'.frozen? ⟨b + 1, 1, none⟩ = false
theorem keep6 {w w' : World} {b : Nat} {v : Int} {s : Value} {row : Option Nat} (h : Six w b v s) (hg : w.grownBy w' row) (hr : ∀ r, row = some r → b + 1 < r) : Six w' b v s := by
  obtain ⟨h0, h1, h2, h3, h4, h5⟩ := h
  exact ⟨keep_cell h0 hg (fun r e => by have := hr r e; omega), keep_cell h1 hg (fun r e => by have := hr r e; omega), keep_cell h2 hg hr, keep_cell h3 hg hr, keep_frozen h2 h4 hg hr, keep_frozen h3 h5 hg hr⟩
theorem gb_drewL {w w' : World} {row : Option Nat} (h : w.drew.grownBy w' row) : w.grownBy w' row := ⟨h.os, h.tape, h.output, h.size, h.block⟩
theorem run_slice_drop (b off n cap j : Nat) (h1 : j ≤ n) (h2 : n ≤ cap) : ∃ x, (∀ W : World, (Instr.slice 26 (.slice (some ⟨b, off, none⟩) n cap) (some (.int .i64 (j : Int))) none none).run Try.prog W = .ok x W) ∧ ∀ (W : World) (bs : List Blk), bs.length = n → b < W.heap.size → Blks W b off bs → SX W x (bs.drop j) := by
  have hj0 : (0 : Int) ≤ (j : Int) := by omega
  have hj1 : (j : Int) ≤ (n : Int) := by omega
  by_cases hc : j = cap
  · refine ⟨.slice (some ⟨b, off, none⟩) 0 0, fun W => ?_, fun W bs e _ _ => .inl ⟨_, _, rfl, List.drop_eq_nil_of_le (by omega)⟩⟩
    have e1 : n = j := by omega
    subst e1
    subst hc
    simp [Instr.slice, Instr.sliceBounds, Instr.sliceBound, run_underlying Try.underlying26, go_sem, hj0]
  · refine ⟨.slice (some ⟨b, off + j * 3, none⟩) (n - j) (cap - j), fun W => ?_, fun W bs e h1 h2 => .inr ⟨b, off + j * 3, cap - j, by rw [List.length_drop, e], h1, h2.drop j⟩⟩
    have hc' : ¬ cap = j := fun e => hc e.symm
    simp [Instr.slice, Instr.sliceBounds, Instr.sliceBound, run_underlying Try.underlying26, go_sem, hj0, h1, hc', addr_at]
set_option maxRecDepth 100000 in
set_option maxHeartbeats 1000000 in
theorem l01Without_any (v : Int) (b off cap : Nat) (bs : List Blk) (j : Nat) (w : World) (hlen : bs.length ≤ 1100000) (hbl : Blks w b off bs) (hb : b < w.heap.size) (hj : j < bs.length) (hc : bs.length ≤ cap) :
    Calls Try.prog 68 #[.agg #[.int .i64 v, .slice (some ⟨b, off, none⟩) bs.length cap], .int .i64 j] w fun e w' => ∃ s, e = .returned (.agg #[.int .i64 v, s]) ∧ ResR w' w.heap.size w'.heap.size s (bs.take j ++ bs.drop (j + 1)) ∧ Below w.heap.size w w' := by
  obtain ⟨x, hx1, hx2⟩ := run_slice_drop b off bs.length cap (j + 1) hj hc
  rw [show ((j + 1 : Nat) : Int) = (j : Int) + 1 by omega] at hx1
  have HX2 := Lib.hid hx2
  have g0 : (0 : Int) ≤ (j : Int) := by omega
  have g1 : (j : Int) ≤ (bs.length : Int) := by omega
  have g3 : j ≤ cap := by omega
  have hwr : IntKind.i64.wrap ((j : Int) + 1) = (j : Int) + 1 := IntWalk.i64_in _ (by omega)
  have B0 : Below w.heap.size w ((((w.alloc (.cells #[.int .i64 v, .slice (some ⟨b, off, none⟩) bs.length cap] 28)).alloc (.cells #[.int .i64 0, .slice none 0 0] 28)).alloc (.cells #[] 70))) := (((Below.refl _ _).alloc (Nat.le_refl _) _).alloc (by simp) _).alloc (by simp; omega) _
  have ho := lit_own ((w.alloc (.cells #[.int .i64 v, .slice (some ⟨b, off, none⟩) bs.length cap] 28)).alloc (.cells #[.int .i64 0, .slice none 0 0] 28))
  simp only [World.size_alloc] at ho
  have hbl0 := hbl.below B0 hb
  have hs1 : SX ((((w.alloc (.cells #[.int .i64 v, .slice (some ⟨b, off, none⟩) bs.length cap] 28)).alloc (.cells #[.int .i64 0, .slice none 0 0] 28)).alloc (.cells #[] 70))) (.slice (some ⟨b, off, none⟩) j cap) (bs.take j) :=
    .inr ⟨b, off, cap, by rw [List.length_take, Nat.min_eq_left (by omega)], by simp; omega, hbl0.take j⟩
  have HBL := Lib.hid hbl0
  have HF := Lib.hid (show ∀ i, (((((w.alloc (.cells #[.int .i64 v, .slice (some ⟨b, off, none⟩) bs.length cap] 28)).alloc (.cells #[.int .i64 0, .slice none 0 0] 28)).alloc (.cells #[] 70)))).frozen? ⟨w.heap.size + 1, i, none⟩ = false from fun i => by
    rw [World.frozen?_alloc_past _ _ _ (by simp)]
    simp [go_sem])
  have HC := Lib.hid (show (((((w.alloc (.cells #[.int .i64 v, .slice (some ⟨b, off, none⟩) bs.length cap] 28)).alloc (.cells #[.int .i64 0, .slice none 0 0] 28)).alloc (.cells #[] 70)))).cell? ⟨w.heap.size, 0, none⟩ = some (.int .i64 v) ∧ (((((w.alloc (.cells #[.int .i64 v, .slice (some ⟨b, off, none⟩) bs.length cap] 28)).alloc (.cells #[.int .i64 0, .slice none 0 0] 28)).alloc (.cells #[] 70)))).cell? ⟨w.heap.size, 1, none⟩ = some (.slice (some ⟨b, off, none⟩) bs.length cap) ∧ (((((w.alloc (.cells #[.int .i64 v, .slice (some ⟨b, off, none⟩) bs.length cap] 28)).alloc (.cells #[.int .i64 0, .slice none 0 0] 28)).alloc (.cells #[] 70)))).cell? ⟨w.heap.size + 1, 0, none⟩ = some (.int .i64 0) ∧ (((((w.alloc (.cells #[.int .i64 v, .slice (some ⟨b, off, none⟩) bs.length cap] 28)).alloc (.cells #[.int .i64 0, .slice none 0 0] 28)).alloc (.cells #[] 70)))).cell? ⟨w.heap.size + 1, 1, none⟩ = some (.slice none 0 0) by
    refine ⟨?_, ?_, ?_, ?_⟩ <;> (rw [World.cell?_alloc_past _ _ _ (by simp <;> omega)]; simp [go_sem]))
  have HO := Lib.hid ho
  have HS1 := Lib.hid hs1
  have hlt : (bs.take j).length = j := by rw [List.length_take, Nat.min_eq_left (by omega)]
  have HLT := Lib.hid hlt
  have l0 : ([] : List Blk).length + (bs.take j).length ≤ 2200000 := by simp; omega
  have l1 : ([] ++ bs.take j : List Blk).length + (bs.drop (j + 1)).length ≤ 2200000 := by simp; omega
  have HK1 := Lib.hid fun w1 (hg : (((((w.alloc (.cells #[.int .i64 v, .slice (some ⟨b, off, none⟩) bs.length cap] 28)).alloc (.cells #[.int .i64 0, .slice none 0 0] 28)).alloc (.cells #[] 70)))).grownBy w1 (Value.slice (some ⟨w.heap.size + 1 + 1, 0, none⟩) 0 0).ownBlock) => keep6 (s := .slice (some ⟨b, off, none⟩) bs.length cap) (v := v) ⟨HC.out.1, HC.out.2.1, HC.out.2.2.1, HC.out.2.2.2, HF.out 0, HF.out 1⟩ hg (fun r e => by simp [Value.ownBlock] at e; omega)
  have HN1 := Lib.hid fun w1 (hg : (((((w.alloc (.cells #[.int .i64 v, .slice (some ⟨b, off, none⟩) bs.length cap] 28)).alloc (.cells #[.int .i64 0, .slice none 0 0] 28)).alloc (.cells #[] 70)))).grownBy w1 (Value.slice (some ⟨w.heap.size + 1 + 1, 0, none⟩) 0 0).ownBlock) => show SX w1 x (bs.drop (j + 1)) ∧ w.heap.size + 1 + 1 ≤ w1.heap.size from ⟨HX2.out w1 bs rfl (by have := hg.size; simp at this; omega) (HBL.out.kept hg (fun e => by simp [Value.ownBlock] at e; omega)), by have := hg.size; simp at this; omega⟩
  have HB1 := Lib.hid fun w1 (hg : (((((w.alloc (.cells #[.int .i64 v, .slice (some ⟨b, off, none⟩) bs.length cap] 28)).alloc (.cells #[.int .i64 0, .slice none 0 0] 28)).alloc (.cells #[] 70)))).grownBy w1 (Value.slice (some ⟨w.heap.size + 1 + 1, 0, none⟩) 0 0).ownBlock) => B0.grown hg B0.size (fun r e => by simp [Value.ownBlock] at e; omega)
  have HRES := Lib.hid fun (w2 : World) a2 c2 (h : OwnR w2 (w.heap.size + 1 + 1) (.slice a2 (([] ++ bs.take j : List Blk).length + (bs.drop (j + 1)).length) c2) ([] ++ bs.take j ++ bs.drop (j + 1))) => show ResR w2 (w.heap.size + 1 + 1) w2.heap.size (.slice a2 (min j bs.length + (bs.length - (j + 1))) c2) (bs.take j ++ bs.drop (j + 1)) from by
    have := h.res
    simpa using this
  clear hx2 hbl hbl0 ho hs1 B0 hlt
  go_enter Try.func68, Try.ntmps68
  go_wp2_with fail
  go_region_held3 (fun w' => w'.cell? ⟨w.heap.size, 0, none⟩ = some (.int .i64 v) ∧ w'.cell? ⟨w.heap.size, 1, none⟩ = some (.slice (some ⟨b, off, none⟩) bs.length cap))
    (first
      | exact ⟨f0, f1⟩
      | exact ⟨e0, e1⟩
      | go_keep)
    (first | (refine step_append_many rfl (.tmp 7) (.tmp 11) rfl (w.heap.size + 1 + 1) (.slice (some ⟨w.heap.size + 1 + 1, 0, none⟩) 0 0) [] (by simp [Act.eval]) (by first | exact HO.out | exact HO.out.drew | exact HO.out.drew.drew) (.slice (some ⟨b, off, none⟩) j cap) (bs.take j) (by simp [Act.eval]) (by first | exact HS1.out | exact HS1.out.drew | exact HS1.out.drew.drew) l0 (by simp) ?_; intro a1 c1 w1 ho1 hg1; obtain ⟨e0, e1, e2, e3, e4, e5⟩ := HK1.out w1 (by first | exact hg1 | exact gb_drewL hg1); have hn1 := HN1.out w1 (by first | exact hg1 | exact gb_drewL hg1); have hB1 := HB1.out w1 (by first | exact hg1 | exact gb_drewL hg1)) | (refine step_append_many rfl (.tmp 12) (.tmp 17) rfl (w.heap.size + 1 + 1) (.slice a1 (([] : List Blk).length + (bs.take j).length) c1) ([] ++ bs.take j) (by simp [Act.eval]) (by first | exact ho1 | exact ho1.drew | exact ho1.drew.drew) x (bs.drop (j + 1)) (by simp [Act.eval]) (by first | exact hn1.1 | exact hn1.1.drew) l1 (by exact hn1.2) ?_; intro a2 c2 w2 ho2 hg2; obtain ⟨f0, f1, f2, f3, f4, f5⟩ := keep6 ⟨e0, e1, e2, e3, e4, e5⟩ hg2 (fun r e => by have := ho1.row r e; omega); have hB2 := hB1.grown (by first | exact hg2 | exact gb_drewL hg2) hB1.size (fun r e => by have := ho1.row r e; omega); have hr2 := HRES.out w2 a2 c2 ho2))
  all_goals go_wp2
  all_goals exact bodyPost_ret (v := .agg #[.int .i64 v, .slice a2 (min j bs.length + (bs.length - (j + 1))) c2]) (by simp [results, Try.results68, go_sem, *]) rfl ⟨_, rfl, (hr2.kept (gb_set2 w2 (w.heap.size + 1) (.int .i64 v) (.slice a2 (min j bs.length + (bs.length - (j + 1))) c2)) (fun r e => by cases e; exact .inl (by omega))).wide (by omega) (by simp [World.setCell]), below_set2 hB2 (by omega) _ _⟩
/-- .. and the slice is no longer than its capacity. -/
def SC (w : World) (s : Value) (bs : List Blk) : Prop := SB w s bs ∧ ∀ a n c, s = .slice a n c → n ≤ c
theorem SC.below {w w' : World} {s : Value} {bs : List Blk} (h : SC w s bs) {B : Nat} (hb : Below B w w') (hB : w.heap.size ≤ B) : SC w' s bs := ⟨h.1.below hb hB, h.2⟩
theorem OwnB.sc {w : World} {lo : Nat} {s : Value} {bs : List Blk} (h : OwnB w lo s bs) (hwf : ∀ x ∈ bs, WFB x) (hl : bs.length ≤ 1100000) : SC w s bs := by
  refine ⟨h.sb hwf hl, fun a n c e => ?_⟩
  obtain ⟨g, cap, rfl, _, _, _, _, hc⟩ := h
  cases e
  exact hc
theorem l01In_out (n lo hi : Int) (W : World) (β : Bool) (hβ : (decide (lo ≤ n) && decide (n ≤ hi)) = β) : Calls Try.prog 67 #[.int .i64 n, .int .i64 lo, .int .i64 hi] W (RS (.bool β) W) := by
  rw [← hβ]
  exact l01In_any n lo hi W
set_option maxRecDepth 100000 in
theorem specTakeBlock_any (v : Int) (s : Value) (bs : List Blk) (i : Int) (w : World) (h : SC w s bs) :
    Calls Try.prog 20 #[.agg #[.int .i64 v, s], .int .i64 i] w (RSys (takeF v bs i) w) := by
  obtain ⟨h, hcap⟩ := h
  have hs := h.slice
  have HI := Lib.hid fun W (hb : Below w.heap.size w W) => l01Is_any v s bs W (h.below hb (Nat.le_refl _))
  have HSB := Lib.hid h
  have hlen := h.2.1
  clear h
  obtain ⟨a0, c0, rfl⟩ := hs
  have hcp := hcap _ _ _ rfl
  clear hcap
  cases hi : isSysImpl v bs with
  | false =>
    have hval : takeF v bs i = (0, [], 1) := by simp [takeF, hi]
    rw [hval]
    rw [hi] at HI
    clear hval hi HSB
    go_enter Try.func20, Try.ntmps20
    go_wp2_with (go_at_call 66; refine (HI.out _ (below2 _ _ _ _)).mono ?_; rintro e w1 ⟨rfl, hb1⟩; obtain ⟨_, _, d0, d1, f0, f1, hbw, hlt⟩ := boxes2 hb1)
    exact bodyPost_ret (v := .tuple #[.agg #[.int .i64 0, .slice none 0 0], .int .i64 1]) (by simp [results, Try.results20, go_sem, *]) rfl ⟨_, rfl, .inl ⟨rfl, _, _, rfl⟩, below_set2 hbw (by omega) _ _⟩
  | true =>
    by_cases hr : 0 ≤ i ∧ i < (bs.length : Int)
    · have hval : takeF v bs i = (v, bs.take i.toNat ++ bs.drop (i.toNat + 1), 0) := by simp [takeF, hi, hr]
      rw [hval]
      obtain ⟨j, rfl⟩ : ∃ j : Nat, i = (j : Int) := ⟨i.toNat, by omega⟩
      have hj : j < bs.length := by omega
      rw [Int.toNat_natCast]
      rw [hi] at HI
      have HIN := Lib.hid fun W => l01In_out (j : Int) 0 ((bs.length : Int) - 1) W true (by simp; omega)
      have HWO := Lib.hid fun (W : World) (hb : Below w.heap.size w W) => show Calls Try.prog 68 #[.agg #[.int .i64 v, .slice a0 bs.length c0], .int .i64 j] W fun e w' => ∃ s, e = .returned (.agg #[.int .i64 v, s]) ∧ ResR w' W.heap.size w'.heap.size s (bs.take j ++ bs.drop (j + 1)) ∧ Below W.heap.size W w' from by
        rcases (HSB.out.below hb (Nat.le_refl _)).2.2 with ⟨_, _, _, hnil⟩ | ⟨b, off, cap, hv, hblt, hbl⟩
        · rw [hnil] at hj; simp at hj
        · simp at hv
          obtain ⟨rfl, rfl⟩ := hv
          exact l01Without_any v b off c0 bs j W hlen hbl hblt hj hcp
      have g0 : (0 : Int) ≤ (bs.length : Int) - 1 := by omega
      clear hval hi hr HSB
      go_enter Try.func20, Try.ntmps20
      go_wp2_with fail
      refine (HI.out _ (below2 _ _ _ _)).mono ?_
      rintro e w1 ⟨rfl, hb1⟩
      obtain ⟨p0, p1, d0, d1, f0, f1, hbw, hlt⟩ := boxes2 hb1
      clear hb1
      go_wp2_with fail
      refine (HIN.out _).mono ?_
      rintro e w2 ⟨rfl, rfl⟩
      go_wp2_with fail
      refine (HWO.out _ hbw).mono ?_
      rintro e w3 ⟨s3, rfl, hr3, hb3⟩
      have d0' := (hb3.cell (p := ⟨w.heap.size + 1, 0, none⟩) hlt).trans d0
      have d1' := (hb3.cell (p := ⟨w.heap.size + 1, 1, none⟩) hlt).trans d1
      have f0' := (hb3.frozen (p := ⟨w.heap.size + 1, 0, none⟩) hlt).trans f0
      have f1' := (hb3.frozen (p := ⟨w.heap.size + 1, 1, none⟩) hlt).trans f1
      have hz3 := hb3.size
      obtain ⟨a3, n3, hs3⟩ : ∃ a n, s3 = .slice a (bs.take j ++ bs.drop (j + 1)).length n := hr3.slice
      have HS3 := Lib.hid hs3
      obtain ⟨m3, hm3⟩ : ∃ m, m = (bs.take j ++ bs.drop (j + 1)).length := ⟨_, rfl⟩
      rw [← hm3] at hs3
      clear hm3 HS3
      subst hs3
      go_wp2
      exact bodyPost_ret (v := .tuple #[.agg #[.int .i64 v, .slice a3 m3 n3], .int .i64 0]) (by simp [results, Try.results20, go_sem, *]) rfl ⟨_, rfl, (hr3.kept (gb_set2 w3 (w.heap.size + 1) (.int .i64 v) (.slice a3 m3 n3)) (fun r e => by cases e; exact .inl (by omega))).wide (by omega) (by simp [World.setCell]), below_set2 (hbw.trans (hb3.mono (by omega))) (by omega) _ _⟩
    · have hval : takeF v bs i = (0, [], 2) := by
        simp only [takeF, hi, if_true]
        rw [if_neg (by simpa using hr)]
      rw [hval]
      rw [hi] at HI
      have HIN := Lib.hid fun W => l01In_out i 0 ((bs.length : Int) - 1) W false (by
        rw [Bool.and_eq_false_iff]
        by_cases h0 : 0 ≤ i
        · right; simp; omega
        · left; simp; omega)
      clear hval hi HSB hr
      go_enter Try.func20, Try.ntmps20
      go_wp2_with (first | (go_at_call 66; refine (HI.out _ (below2 _ _ _ _)).mono ?_; rintro e w1 ⟨rfl, hb1⟩; obtain ⟨p0, p1, d0, d1, f0, f1, hbw, hlt⟩ := boxes2 hb1) | (go_at_call 67; refine (HIN.out _).mono ?_; rintro e w2 ⟨rfl, rfl⟩))
      exact bodyPost_ret (v := .tuple #[.agg #[.int .i64 0, .slice none 0 0], .int .i64 2]) (by simp [results, Try.results20, go_sem, *]) rfl ⟨_, rfl, .inl ⟨rfl, _, _, rfl⟩, below_set2 hbw (by omega) _ _⟩
end Go.Proofs.Ytlkjacgpjolbdaa



namespace Go.Proofs.Ytlkjacgpjolbdaa
open Go.RowKit Go.Maps
set_option maxRecDepth 100000 in
set_option maxHeartbeats 2000000 in
theorem FnExactIsClass_main (v0 : Int) (s0 : Value) (bs0 : List Blk) (s1 : Value) (zs1 : List Int) (w : World) (h0 : InB w s0 bs0) (h1 : InZ w s1 zs1) (hl : bs0.length ≤ 1048576) (hl1 : zs1.length ≤ 1048576) :
    Calls Try.prog 6 #[.agg #[.int .i64 v0, s0], s1] w (RV (.bool true) w) := by
  have hsl0 := h0.slice
  have hbd0 := h0.2.1
  have hsz0 := szSystem_any v0 s0 bs0.length hsl0 (by omega) 1048576 (by omega) (by omega)
  rw [if_neg (by omega)] at hsz0
  obtain ⟨m0, hm0⟩ : ∃ m, m = (1048576 : Int) - (bs0.length : Int) := ⟨_, rfl⟩
  rw [← hm0] at hsz0
  have hmp0 : 0 ≤ m0 := by omega
  have HSZ0 := Lib.hid hsz0
  have HSB0 := Lib.hid (h0.sb (by omega))
  have HBD0 := Lib.hid (show bs0.length ≤ 1100000 by omega)
  have HWF0 := Lib.hid h0.1
  have hsl1 := h1.slice
  have HIB1 := Lib.hid (h1.ib hl1)
  have HWF1 := Lib.hid h1.1
  have HBD1 := Lib.hid (show zs1.length ≤ 1100000 by omega)
  have hd1 : decide ((1048576 : Int) < (zs1.length : Int)) = false := by simp; omega
  have hdn1 : decide (1048576 < zs1.length) = false := by simp; omega
  obtain ⟨L, hL⟩ : ∃ L, L = (clsF v0 bs0 zs1).1 := ⟨_, rfl⟩
  obtain ⟨κ, hκ⟩ : ∃ κ, κ = (clsF v0 bs0 zs1).2 := ⟨_, rfl⟩
  have hp : clsF v0 bs0 zs1 = (L, κ) := by rw [hL, hκ]
  have HSP := Lib.hid fun (W : World) (t0 : Value) (r0 : SC W t0 bs0) (t1 : Value) (r1 : IB W t1 zs1) => specIsClass_any v0 t0 bs0 t1 zs1 W r0.1 r1
  have HIM := Lib.hid fun (W : World) (t0 : Value) (r0 : SB W t0 bs0) (t1 : Value) (r1 : IB W t1 zs1) => IsClass_any v0 t0 bs0 t1 zs1 W r0 r1
  rw [hp] at HSP HIM
  try unfold boolCode at HSP HIM
  try dsimp only at HSP HIM
  have hnk : (κ != κ) = false := by simp
  have hnb : (L != L) = false := by simp
  clear hsz0 hm0 hbd0 hL hκ hp h0 h1 hl
  obtain ⟨a0, c0, rfl⟩ := hsl0
  obtain ⟨a1, c1, rfl⟩ := hsl1
  go_enter Try.func6, Try.ntmps6
  have hm := ((Mem.start w).pushVar v0 (.slice a0 bs0.length c0) 24)
  have fA00 := (hm.var 0 rfl).c0
  have fA01 := (hm.var 0 rfl).c1
  have HM := Lib.hid hm
  clear hm
  go_wp2_with fail
  refine (HSZ0.out _).mono ?_
  rintro e w1 ⟨rfl, hbw1⟩
  have hm := HM.out.step (gb_below hbw1)
  clear fA00 fA01
  clear HM hbw1
  have fA00 := (hm.var 0 rfl).c0
  have fA01 := (hm.var 0 rfl).c1
  have HM := Lib.hid hm
  clear hm
  go_wp2_with fail
  refine (toSystem_any v0 _ bs0 _ (HSB0.out.below HM.out.below (Nat.le_refl _))).mono ?_
  rintro e w2 ⟨tw2, rfl, how2, hbw2⟩
  have r3 := how2.sc HWF0.out HBD0.out
  obtain ⟨gw2, capw2, hsw2, _⟩ := id how2
  subst hsw2
  have hm := HM.out.step (gb_below hbw2)
  clear fA00 fA01
  clear HM hbw2 how2
  have fA00 := (hm.var 0 rfl).c0
  have fA01 := (hm.var 0 rfl).c1
  have HM := Lib.hid hm
  clear hm
  go_wp2_with fail
  refine (toInt64S_own _ zs1 _ (HIB1.out.below HM.out.below (Nat.le_refl _))).mono ?_
  rintro e w4 ⟨tw4, rfl, ⟨gw4, capw4, hsw4⟩, hbw4, how4⟩
  subst hsw4
  have r5 := r3.below hbw4 (Nat.le_refl _)
  clear r3
  have r6 := how4.ib HBD1.out
  have hm := HM.out.step (gb_below hbw4)
  clear fA00 fA01
  clear HM hbw4 how4
  have fA00 := (hm.var 0 rfl).c0
  have fA01 := (hm.var 0 rfl).c1
  have HM := Lib.hid hm
  clear hm
  go_wp2_with fail
  refine (HSP.out _ _ r5 _ r6).mono ?_
  rintro e w7 ⟨rfl, hbw7⟩
  clear r5
  clear r6
  have hm := HM.out.step (gb_below hbw7)
  clear fA00 fA01
  clear HM hbw7
  have fA00 := (hm.var 0 rfl).c0
  have fA01 := (hm.var 0 rfl).c1
  have HM := Lib.hid hm
  clear hm
  go_wp2_with fail
  refine (toSystem_any v0 _ bs0 _ (HSB0.out.below HM.out.below (Nat.le_refl _))).mono ?_
  rintro e w8 ⟨tw8, rfl, how8, hbw8⟩
  have hrw8 := how8.res
  obtain ⟨gw8, capw8, hsw8, _⟩ := id how8
  subst hsw8
  have hm := (HM.out.pushB hbw8 hrw8).pushVar v0 (.slice (some ⟨gw8, 0, none⟩) bs0.length capw8) 28
  clear fA00 fA01
  clear HM hbw8 hrw8 how8
  have fVX00 := (hm.var 0 rfl).c0
  have fVX01 := (hm.var 0 rfl).c1
  have fA00 := (hm.var 2 rfl).c0
  have fA01 := (hm.var 2 rfl).c1
  have HM := Lib.hid hm
  clear hm
  go_wp2_with fail
  refine (toInt64S_own _ zs1 _ (HIB1.out.below HM.out.below (Nat.le_refl _))).mono ?_
  rintro e w9 ⟨tw9, rfl, ⟨gw9, capw9, hsw9⟩, hbw9, hrw9⟩
  subst hsw9
  have hm := HM.out.pushI hbw9 hrw9
  clear fVX00 fVX01 fA00 fA01
  clear HM hbw9 hrw9
  have fVX00 := (hm.var 1 rfl).c0
  have fVX01 := (hm.var 1 rfl).c1
  have fA00 := (hm.var 3 rfl).c0
  have fA01 := (hm.var 3 rfl).c1
  have HM := Lib.hid hm
  clear hm
  go_wp2_with fail
  refine (HIM.out _ _ ((HM.out.blks 2 rfl).sb HWF0.out HBD0.out) _ ((HM.out.ints 0 rfl).ib HBD1.out)).mono ?_
  rintro e w10 ⟨rfl, hbw10⟩
  have hm := HM.out.step (gb_below hbw10)
  clear fVX00 fVX01 fA00 fA01
  clear HM hbw10
  have fVX00 := (hm.var 1 rfl).c0
  have fVX01 := (hm.var 1 rfl).c1
  have fA00 := (hm.var 3 rfl).c0
  have fA01 := (hm.var 3 rfl).c1
  have HM := Lib.hid hm
  clear hm
  go_upto_region 13 with fail
  go_cut [50] (fun sq wx => sq = .bool false ∧ MemOf HM.out wx)
  case first =>
    go_region_with (first | (go_at_call 21; refine (toSystem_any v0 _ bs0 _ ?_).mono ?_; (exact HSB0.out.below HM.out.below.drew (Nat.le_refl _)); rintro e w11 ⟨tw11, rfl, how11, hbw11⟩; have hmx := (HM.out.step (gb_drew1 _)).step (gb_below hbw11); have ec0 := (hmx.var 1 rfl).c0; have ec1 := (hmx.var 1 rfl).c1; have HMX := Lib.hid hmx; clear hmx; have hsbw11 := how11.sb HWF0.out HBD0.out; obtain ⟨gw11, capw11, hsw11, _⟩ := id how11; subst hsw11) | (go_at_call 23; refine (eqSystem_same v0 _ _ bs0 _ ?_ ?_).mono ?_; (exact ((HMX.out.blks 2 rfl).sb HWF0.out HBD0.out)); (exact hsbw11); rintro e w12 ⟨rfl, hbw12⟩))
    all_goals
      go_wp2_with fail
      go_meet
      exact ⟨rfl, HMX.out.step (gb_below hbw12)⟩
  case rest =>
  obtain ⟨rfl, hm⟩ := hcut
  unfold MemOf at hm
  obtain ⟨yc0, rfl⟩ : ∃ W, W = wc := ⟨_, rfl⟩
  clear fVX00 fVX01 fA00 fA01
  clear HM
  have fVX00 := (hm.var 1 rfl).c0
  have fVX01 := (hm.var 1 rfl).c1
  have fA00 := (hm.var 3 rfl).c0
  have fA01 := (hm.var 3 rfl).c1
  have HM := Lib.hid hm
  clear hm
  go_wp2_with fail
  refine (toInt64S_own _ zs1 _ (HIB1.out.below HM.out.below (Nat.le_refl _))).mono ?_
  rintro e w13 ⟨tw13, rfl, ⟨gw13, capw13, hsw13⟩, hbw13, how13⟩
  subst hsw13
  have hkw13 := how13.ib HBD1.out
  have hm := HM.out.step (gb_below hbw13)
  clear fVX00 fVX01 fA00 fA01
  clear HM hbw13 how13
  have fVX00 := (hm.var 1 rfl).c0
  have fVX01 := (hm.var 1 rfl).c1
  have fA00 := (hm.var 3 rfl).c0
  have fA01 := (hm.var 3 rfl).c1
  have HM := Lib.hid hm
  clear hm
  go_wp2_with fail
  refine (eqInt64S_same _ _ zs1 _ ((HM.out.ints 0 rfl).ib HBD1.out) hkw13).mono ?_
  rintro e w14 ⟨rfl, hbw14⟩
  have hm := HM.out.step (gb_below hbw14)
  clear fVX00 fVX01 fA00 fA01
  clear HM hbw14 hkw13
  have fVX00 := (hm.var 1 rfl).c0
  have fVX01 := (hm.var 1 rfl).c1
  have fA00 := (hm.var 3 rfl).c0
  have fA01 := (hm.var 3 rfl).c1
  have HM := Lib.hid hm
  clear hm
  go_wp2
  go_ret
  exact RV_of rfl HM.out.below
set_option maxRecDepth 100000 in
theorem FnExactIsClass_top1 (v0 : Int) (s0 : Value) (bs0 : List Blk) (s1 : Value) (zs1 : List Int) (w : World) (h0 : InB w s0 bs0) (h1 : InZ w s1 zs1)  (hl1 : ¬ zs1.length ≤ 1048576) : Calls Try.prog 6 #[.agg #[.int .i64 v0, s0], s1] w (RV (.bool true) w) := by
  have hsl0 := h0.slice
  have hsl1 := h1.slice
  have hd1 : decide ((1048576 : Int) < (zs1.length : Int)) = true := by simp; omega
  have hdn1 : decide (1048576 < zs1.length) = true := by simp; omega
  have hdi1 : 1048576 < zs1.length := by omega
  clear hl1 h0 h1
  obtain ⟨a0, c0, rfl⟩ := hsl0
  obtain ⟨a1, c1, rfl⟩ := hsl1
  go_enter Try.func6, Try.ntmps6
  go_wp2
  go_ret
  exact RV_of rfl ((Below.refl _ _).alloc (by simp <;> omega) _)
set_option maxRecDepth 100000 in
theorem FnExactIsClass_long0 (v0 : Int) (s0 : Value) (bs0 : List Blk) (s1 : Value) (zs1 : List Int) (w : World) (h0 : InB w s0 bs0) (h1 : InZ w s1 zs1) (hl1 : zs1.length ≤ 1048576) (hl : ¬ bs0.length ≤ 1048576) : Calls Try.prog 6 #[.agg #[.int .i64 v0, s0], s1] w (RV (.bool true) w) := by
  have hsl0 := h0.slice
  have hbd0 := h0.2.1
  have hsz0 := szSystem_any v0 s0 bs0.length hsl0 (by omega) (1048576) (by omega) (by omega)
  rw [if_pos (by omega)] at hsz0
  have HSZ0 := Lib.hid hsz0
  have hsl1 := h1.slice
  have hd1 : decide ((1048576 : Int) < (zs1.length : Int)) = false := by simp; omega
  have hdn1 : decide (1048576 < zs1.length) = false := by simp; omega
  clear hl h0 h1 hsz0 hbd0
  obtain ⟨a0, c0, rfl⟩ := hsl0
  obtain ⟨a1, c1, rfl⟩ := hsl1
  go_enter Try.func6, Try.ntmps6
  go_wp2_with fail
  refine (HSZ0.out _).mono ?_
  rintro e y0 ⟨rfl, hy0⟩
  go_wp2
  go_ret
  exact RV_of rfl (((Below.refl _ _).alloc (by simp <;> omega) _).trans (hy0.mono (by first | (simp <;> omega) | (have := ((Below.refl _ _).alloc (by simp <;> omega) _).size; omega))))
theorem FnExactIsClass_any (v0 : Int) (s0 : Value) (bs0 : List Blk) (s1 : Value) (zs1 : List Int) (w : World) (h0 : InB w s0 bs0) (h1 : InZ w s1 zs1) : Calls Try.prog 6 #[.agg #[.int .i64 v0, s0], s1] w (RV (.bool true) w) := by
  by_cases hl1 : zs1.length ≤ 1048576
  case neg => exact FnExactIsClass_top1 v0 s0 bs0 s1 zs1 w h0 h1  hl1
  by_cases hs0 : bs0.length ≤ 1048576
  case neg => exact FnExactIsClass_long0 v0 s0 bs0 s1 zs1 w h0 h1 hl1  hs0
  exact FnExactIsClass_main v0 s0 bs0 s1 zs1 w h0 h1 hs0 hl1
end Go.Proofs.Ytlkjacgpjolbdaa

namespace Go.Proofs.Ytlkjacgpjolbdaa
set_option maxRecDepth 100000 in
noncomputable def iniP : { L : List Char // Try.prog.initOrder = String.ofList L } := ⟨_, by unfold Try.prog; rfl⟩
theorem iniL : Try.prog.initOrder.toList = iniP.1 := (congrArg String.toList iniP.2).trans String.toList_ofList
theorem words_cons (c : Char) (r : List Char) (h : c ≠ Char.ofNat 32) : wordsSigns (c :: r) = match wordsSigns r with | w :: ws => (c :: w) :: ws | [] => [[c]] := by
  rw [wordsSigns]
  all_goals first | rfl | exact h | (intro e; exact h e)
theorem words_word : ∀ (a b : List Char), (a.all fun c => c != Char.ofNat 32) = true → wordsSigns (a ++ Char.ofNat 32 :: b) = a :: wordsSigns b
  | [], b, _ => rfl
  | c :: a, b, h => by
    simp only [List.all_cons, Bool.and_eq_true, bne_iff_ne, ne_eq] at h
    rw [List.cons_append, words_cons _ _ h.1, words_word a b (by simpa using h.2)]
set_option maxRecDepth 100000 in
theorem split1 : iniP.1 = iniP.1.take 7 ++ Char.ofNat 32 :: iniP.1.drop 8 := by kernel_rfl
set_option maxRecDepth 100000 in
theorem split2 : iniP.1.drop 8 = (iniP.1.drop 8).take 64 ++ Char.ofNat 32 :: iniP.1.drop 73 := by kernel_rfl
set_option maxRecDepth 100000 in
theorem split3 : iniP.1.drop 73 = (iniP.1.drop 73).take 3 ++ Char.ofNat 32 :: iniP.1.drop 77 := by kernel_rfl
theorem isCut : (iniP.1.drop 73).take 3 = "cut".toList := by kernel_rfl
set_option maxRecDepth 100000 in
theorem isHead : ((iniP.1.take 7 == "harness".toList || iniP.1.take 7 == "ownmain".toList) && isSumSigns ((iniP.1.drop 8).take 64)) = true := by kernel_rfl
theorem wordsL : wordsSigns iniP.1 = iniP.1.take 7 :: (iniP.1.drop 8).take 64 :: "cut".toList :: wordsSigns (iniP.1.drop 77) := by
  rw [← isCut]
  conv => lhs; rw [split1]
  rw [words_word _ _ (by kernel_rfl)]
  conv => lhs; rw [split2]
  rw [words_word _ _ (by kernel_rfl)]
  conv => lhs; rw [split3]
  rw [words_word _ _ (by kernel_rfl)]
theorem behindL : behindMainWord (wordsSigns Try.prog.initOrder.toList) = "cut".toList :: wordsSigns (iniP.1.drop 77) := by
  rw [iniL, wordsL]
  unfold behindMainWord
  simp only [isHead, if_true]
theorem stripL (ws : List (List Char)) : stripLifts liftWords ("cut".toList :: ws) = ([], "cut".toList :: ws) := by kernel_rfl
section
variable (P : Program) (ws : List (List Char)) (h : behindMainWord (wordsSigns P.initOrder.toList) = "cut".toList :: ws)
include h
theorem head_of : P.headLifts = [] := by
  unfold Program.headLifts
  rw [h]
  simp only [stripL]
  kernel_rfl
theorem make_of : P.make = some .cut := by
  unfold Program.make
  rw [h, head_of P ws h]
  kernel_rfl
theorem lifts_of : P.liftsFinal = false := by
  unfold Program.liftsFinal
  rw [h, head_of P ws h]
  kernel_rfl
theorem enter_of (h1 : P.laysLater = false) (h2 : P.bearsReflect = false) (h3 : P.doorFits [] = true) : P.mayEnter = true := by
  unfold Program.mayEnter
  rw [h]
  simp only [stripL]
  rw [h1, h2, h3]
  kernel_rfl
end
theorem mayE : Try.pinned.checked.prog.mayEnter = true := enter_of _ _ behindL (by kernel_rfl) (by kernel_rfl) (by kernel_rfl)
theorem liftsF : Try.pinned.checked.prog.liftsFinal = false := lifts_of _ _ behindL
theorem makeF : Try.pinned.checked.prog.make = some .cut := make_of _ _ behindL
theorem both {a b : Bool} (h : a = true) (k : b = true) : (a && b) = true := by rw [h, k]; rfl
end Go.Proofs.Ytlkjacgpjolbdaa


/- The model's sets of blocks. MeetingBlocks of the model. The numbers from 0 on: plain. Rows of blocks that are written in place. append of many blocks to a list of the call's own. Worlds that grow behind a draw. What a law over two systems knows of the memory between two of its steps. Systems in memory whose capacity holds them. The model's TakeBlock. blockNumbers. slices.Contains at a slice that may be nil. oneIf. BlockGraphDegrees and CommonNeighbours of the program. -/
import Derived.Test.YtahgialnhomefaaJ6
import Derived.Deep.QuietTactic
import Derived.IntWalk
import Derived.Deep.RegionLaw
import Derived.Deep.AppendLies
import Derived.Deep.RegionHeld3
namespace Go.Proofs.Ytahgialnhomefaa
open Go.RowKit Go.Maps
/-- The code of a system and a set of its blocks. -/
def nsCode (v : Int) (bs : List Blk) (zs : List Int) : Int := if isSysImpl v bs then (if ptGo (bs.length : Int) none zs then 0 else 2) else 1
theorem ptGo_at {v : Int} {zs : List Int} {k : Nat} (hk : k < zs.length) (p : Option Int) : ptGo v p (zs.drop k) = (inP v (zs[k]?.getD 0) && (match p with | none => true | some q => decide (q < zs[k]?.getD 0)) && ptGo v (some (zs[k]?.getD 0)) (zs.drop (k + 1))) := by
  rw [List.drop_eq_getElem_cons hk]
  cases p <;> simp [ptGo, hk]
end Go.Proofs.Ytahgialnhomefaa

namespace Go.Proofs.Ytahgialnhomefaa
open Go.RowKit Go.Maps
theorem commonN_pos {x y : Blk} : 0 < commonN x y ↔ (x.a = y.a ∨ x.a = y.b ∨ x.a = y.c ∨ x.b = y.a ∨ x.b = y.b ∨ x.b = y.c ∨ x.c = y.a ∨ x.c = y.b ∨ x.c = y.c) := by
  constructor
  · intro h
    apply Classical.byContradiction
    intro hc
    simp only [not_or] at hc
    obtain ⟨h1, h2, h3, h4, h5, h6, h7, h8, h9⟩ := hc
    unfold commonN eq1 at h
    rw [if_neg h1, if_neg h2, if_neg h3, if_neg h4, if_neg h5, if_neg h6, if_neg h7, if_neg h8, if_neg h9] at h
    omega
  · rintro (h | h | h | h | h | h | h | h | h) <;> (unfold commonN eq1; rw [if_pos h]; omega)
theorem touch_common (x y : Blk) : touch y x = decide (0 < commonN x y) := by
  rw [Bool.eq_iff_iff, touch_iff, decide_eq_true_eq, commonN_pos]
  unfold ptsB
  simp only [List.mem_cons, List.not_mem_nil, or_false]
  constructor
  · rintro ⟨z, rfl | rfl | rfl, h | h | h⟩ <;> simp [h]
  · rintro (h | h | h | h | h | h | h | h | h)
    · exact ⟨y.a, by simp, by simp [h]⟩
    · exact ⟨y.b, by simp, by simp [h]⟩
    · exact ⟨y.c, by simp, by simp [h]⟩
    · exact ⟨y.a, by simp, by simp [h]⟩
    · exact ⟨y.b, by simp, by simp [h]⟩
    · exact ⟨y.c, by simp, by simp [h]⟩
    · exact ⟨y.a, by simp, by simp [h]⟩
    · exact ⟨y.b, by simp, by simp [h]⟩
    · exact ⟨y.c, by simp, by simp [h]⟩
def numCode (v : Int) (bs : List Blk) (i : Int) : Int := if isSysImpl v bs then (if inP (bs.length : Int) i then 0 else 2) else 1
set_option maxRecDepth 100000 in
theorem l05Number_any (v : Int) (s : Value) (bs : List Blk) (i : Int) (w : World) (h : SB w s bs) :
    Calls Try.prog 76 #[.agg #[.int .i64 v, s], .int .i64 i] w (RV (.int .i64 (numCode v bs i)) w) := by
  have hs := h.slice
  have hc := l01Is_any v s bs (w.alloc (.cells #[.int .i64 v, s] 30)) (h.below ((Below.refl _ _).alloc (Nat.le_refl _) _) (Nat.le_refl _))
  have hlen := h.2.1
  clear h
  obtain ⟨a0, c0, rfl⟩ := hs
  cases hi : isSysImpl v bs with
  | false =>
    rw [hi] at hc
    have HC := Lib.hid hc
    have HV := Lib.hid (show numCode v bs i = 1 by simp [numCode, hi])
    clear hc hi
    go_enter Try.func76, Try.ntmps76
    go_wp2_with fail
    refine HC.out.mono ?_
    rintro e w1 ⟨rfl, hb1⟩
    have hb2 := below_new hb1
    go_wp2
    go_ret
    exact RV_of (int_eq (by rw [HV.out])) hb2
  | true =>
    rw [hi] at hc
    have HC := Lib.hid hc
    have HV := Lib.hid (show numCode v bs i = if inP (bs.length : Int) i then 0 else 2 by simp [numCode, hi])
    clear hc hi
    have hwn : IntKind.i64.wrap ((bs.length : Int) - 1) = (bs.length : Int) - 1 := IntWalk.i64_in _ (by omega)
    have HIN := Lib.hid fun W => l01In_any i 0 ((bs.length : Int) - 1) W
    have hinp : (decide (0 ≤ i) && decide (i ≤ (bs.length : Int) - 1)) = inP (bs.length : Int) i := by rw [Bool.eq_iff_iff]; simp [inP]; omega
    rw [hinp] at HIN
    clear hinp
    cases hin : inP (bs.length : Int) i with
    | true =>
      rw [hin] at HIN
      have HW := Lib.hid (show numCode v bs i = 0 by rw [HV.out, hin]; rfl)
      clear hin HV
      go_enter Try.func76, Try.ntmps76
      go_wp2_with fail
      refine HC.out.mono ?_
      rintro e w1 ⟨rfl, hb1⟩
      have hb2 := below_new hb1
      have p1 := cell_new hb1 1 rfl
      clear hb1
      go_wp2_with fail
      refine (HIN.out _).mono ?_
      rintro e w2 ⟨rfl, rfl⟩
      go_wp2
      go_ret
      exact RV_of (int_eq (by rw [HW.out])) hb2
    | false =>
      rw [hin] at HIN
      have HW := Lib.hid (show numCode v bs i = 2 by rw [HV.out, hin]; rfl)
      clear hin HV
      go_enter Try.func76, Try.ntmps76
      go_wp2_with fail
      refine HC.out.mono ?_
      rintro e w1 ⟨rfl, hb1⟩
      have hb2 := below_new hb1
      have p1 := cell_new hb1 1 rfl
      clear hb1
      go_wp2_with fail
      refine (HIN.out _).mono ?_
      rintro e w2 ⟨rfl, rfl⟩
      go_wp2
      go_ret
      exact RV_of (int_eq (by rw [HW.out])) hb2
end Go.Proofs.Ytahgialnhomefaa

namespace Go.Proofs.Ytahgialnhomefaa
def numL (m : Nat) : List Int := (List.range m).map fun (k : Nat) => (k : Int)
theorem numL_succ (m : Nat) : numL (m + 1) = numL m ++ [(m : Int)] := by simp [numL, List.range_succ]
theorem numL_len (m : Nat) : (numL m).length = m := by simp [numL]
theorem numL_asc (m : Nat) : (numL m).Pairwise (· ≤ ·) := by
  unfold numL
  rw [List.pairwise_map]
  exact List.pairwise_lt_range.imp (by intro a b h; omega)
theorem numL_nodup (m : Nat) : (numL m).Nodup := by
  unfold numL
  rw [List.Nodup, List.pairwise_map]
  exact List.nodup_range.imp fun h e => h (by omega)
end Go.Proofs.Ytahgialnhomefaa

namespace Go.Proofs.Ytahgialnhomefaa
open Go.RowKit Go.Maps Go.Sort
theorem heap_set_own {w : World} {g o : Nat} {u : Value} {cs : Array Value} {e : TypeId} {fr : Nat × Nat} (h : w.heap[g]? = some (.cells cs e fr)) : (w.setCell ⟨g, o, none⟩ u).heap[g]? = some (.cells (cs.setIfInBounds o u) e fr) := by
  obtain ⟨hlt, hk⟩ := Array.getElem?_eq_some_iff.1 h
  show (w.heap.modify g _)[g]? = _
  rw [Array.getElem?_eq_getElem (by rw [Array.size_modify]; exact hlt), Array.getElem_modify_self, hk]
  rfl
theorem flat_set : ∀ (bs : List Blk) (i : Nat) (x : Blk), i < bs.length → (((bs.flatMap cells3).set (i * 3) (.int .i64 x.a)).set (i * 3 + 1) (.int .i64 x.b)).set (i * 3 + 2) (.int .i64 x.c) = (bs.set i x).flatMap cells3
  | [], _, _, h => by simp at h
  | y :: r, 0, x, _ => by simp [cells3]
  | y :: r, i + 1, x, h => by
    have ih := flat_set r i x (by simpa using h)
    rw [List.set_cons_succ, List.flatMap_cons, List.flatMap_cons, ← ih]
    rw [show (i + 1) * 3 = i * 3 + 1 + 1 + 1 by omega, show i * 3 + 1 + 1 + 1 + 1 = i * 3 + 1 + 1 + 1 + 1 from rfl, show i * 3 + 1 + 1 + 1 + 2 = i * 3 + 2 + 1 + 1 + 1 by omega]
    simp only [cells3, List.cons_append, List.nil_append, List.set_cons_succ]
theorem OwnR.set3 {w : World} {base g n cap : Nat} {bs : List Blk} (h : OwnR w base (.slice (some ⟨g, 0, none⟩) n cap) bs) {i : Nat} (hi : i < bs.length) (x : Blk) :
    OwnR (((w.setCell ⟨g, i * 3, none⟩ (.int .i64 x.a)).setCell ⟨g, i * 3 + 1, none⟩ (.int .i64 x.b)).setCell ⟨g, i * 3 + 2, none⟩ (.int .i64 x.c)) base (.slice (some ⟨g, 0, none⟩) n cap) (bs.set i x) := by
  obtain ⟨hl, h | ⟨g', cap', cur, hv, hb, hcur, hn, hc, hsz, hx⟩⟩ := h
  · cases h.1
  · cases hv
    refine ⟨by rw [flat_length, List.length_set], .inr ⟨g, cap, _, by rw [List.length_set], hb, heap_set_own (heap_set_own (heap_set_own hcur)), by rw [List.length_set]; exact hn, hc, by simpa using hsz, ?_⟩⟩
    rw [List.length_set, Array.toList_setIfInBounds, Array.toList_setIfInBounds, Array.toList_setIfInBounds, List.take_set, List.take_set, List.take_set, hx]
    exact flat_set bs i x hi
theorem OwnR.at_ {w : World} {base g n cap : Nat} {bs : List Blk} (h : OwnR w base (.slice (some ⟨g, 0, none⟩) n cap) bs) : n = bs.length ∧ base ≤ g ∧ OwnAt w g bs := by
  rcases h.res with ⟨rfl, a, c, e⟩ | ⟨g', cap', e, h1, h2, h3⟩
  · cases e
    obtain ⟨hl, h | ⟨g', cap', cur, hv, hb, hcur, hn, hc, hsz, hx⟩⟩ := h
    · cases h.1
    · cases hv
      exact ⟨rfl, hb, ⟨(Array.getElem?_eq_some_iff.1 hcur).1, fun k hk => by simp at hk, fun o => by simp [World.frozen?, hcur]⟩⟩
  · cases e
    exact ⟨rfl, h1, h3⟩
end Go.Proofs.Ytahgialnhomefaa

namespace Go.Proofs.Ytahgialnhomefaa
open Go.RowKit Go.Maps
/-- The value is a slice of just these blocks; of the numbers nothing is said. -/
def SX (w : World) (s : Value) (bs : List Blk) : Prop := (∃ a c, s = .slice a 0 c ∧ bs = []) ∨ ∃ b off cap, s = .slice (some ⟨b, off, none⟩) bs.length cap ∧ b < w.heap.size ∧ Blks w b off bs
theorem SB.sx {w : World} {s : Value} {bs : List Blk} (h : SB w s bs) : SX w s bs := h.2.2
theorem SX.below {w w' : World} {s : Value} {bs : List Blk} (h : SX w s bs) {B : Nat} (hb : Below B w w') (hB : w.heap.size ≤ B) : SX w' s bs := by
  rcases h with h3 | ⟨b, off, cap, rfl, hl, hr⟩
  · exact .inl h3
  · exact .inr ⟨b, off, cap, rfl, by have := hb.size; omega, hr.below hb (by omega)⟩
theorem OwnR.sx {w : World} {base : Nat} {s : Value} {bs : List Blk} (h : OwnR w base s bs) : SX w s bs := by
  rcases h.res with ⟨rfl, a, c, rfl⟩ | ⟨g, cap, rfl, _, _, ho⟩
  · exact .inl ⟨a, c, rfl, rfl⟩
  · exact .inr ⟨g, 0, cap, rfl, ho.lt, ho.at_⟩
theorem OwnR.form {w : World} {base : Nat} {s : Value} {bs : List Blk} (h : OwnR w base s bs) : ∃ a c, s = .slice a bs.length c := by
  rcases h.res with ⟨rfl, a, c, rfl⟩ | ⟨g, cap, rfl, _⟩ <;> exact ⟨_, _, rfl⟩
theorem blks_flat {w : World} {b off : Nat} {bs : List Blk} (h : Blks w b off bs) (j : Nat) (u : Value) (hu : (bs.flatMap cells3)[j]? = some u) : w.cell? ⟨b, off + j, none⟩ = some u := by
  have hj : j < bs.length * 3 := by
    rw [← flat_length]
    exact (List.getElem?_eq_some_iff.1 hu).1
  obtain ⟨h0, h1, h2⟩ := h (j / 3) (by omega)
  obtain ⟨f0, f1, f2⟩ := flat_at bs (j / 3) (by omega)
  have hm : j % 3 = 0 ∨ j % 3 = 1 ∨ j % 3 = 2 := by omega
  rcases hm with hm | hm | hm
  · rw [show j / 3 * 3 = j by omega] at f0
    rw [show off + j / 3 * 3 = off + j by omega] at h0
    rw [h0, ← hu, f0]
  · rw [show j / 3 * 3 + 1 = j by omega] at f1
    rw [show off + j / 3 * 3 + 1 = off + j by omega] at h1
    rw [h1, ← hu, f1]
  · rw [show j / 3 * 3 + 2 = j by omega] at f2
    rw [show off + j / 3 * 3 + 2 = off + j by omega] at h2
    rw [h2, ← hu, f2]
theorem flat_one (bs : List Blk) : ∀ u ∈ bs.flatMap cells3, u.oneCell' = true := by
  intro u hu
  obtain ⟨x, _, hx⟩ := List.mem_flatMap.1 hu
  simp [cells3] at hx
  rcases hx with rfl | rfl | rfl <;> rfl
theorem run_append_many (w : World) (ty : TypeId) (base : Nat) (v : Value) (bs : List Blk) (hown : OwnR w base v bs) (x : Value) (cs : List Blk) (hx : SX w x cs) (hl : bs.length + cs.length ≤ 2200000) (hb : base ≤ w.heap.size) :
    ∃ v' w', (Builtin.append_ #[28, 28] ty #[v, x]).run Try.prog w = .ok v' w' ∧ OwnR w' base v' (bs ++ cs) ∧ w.grownBy w' v.ownBlock := by
  obtain ⟨i0, hi, hz0, hz1, hz2⟩ := info_parts infoBlock
  have key : ∀ (a : Addr) (m c : Nat) (news : List Value), x = .slice (some a) m c → m = cs.length → news = cs.flatMap cells3 → (∀ j u, news[j]? = some u → w.cell? (a.add j) = some u) →
      ∃ v' w', (Builtin.append_ #[28, 28] ty #[v, x]).run Try.prog w = .ok v' w' ∧ OwnR w' base v' (bs ++ cs) ∧ w.grownBy w' v.ownBlock := by
    intro a m c news ex em en hn
    subst ex
    subst en
    subst em
    obtain ⟨v', w', h1, h2, h3, _⟩ := run_append_own_at (P := Try.prog) w base 28 ty 84 i0 _ 3 24 Try.underlying28 hi hz0 hz1 hz2 rfl (by decide) v bs.length (bs.flatMap cells3) hown a cs.length c (cs.flatMap cells3) (flat_length cs) hn (flat_one cs) (by unfold maxLen; omega) (by omega) hb
    exact ⟨v', w', h1, by unfold OwnR; rw [List.length_append, List.flatMap_append]; exact h2, h3⟩
  rcases hx with ⟨a, c, rfl, rfl⟩ | ⟨b, off, cap, rfl, _, hbl⟩
  · cases a with
    | some a => exact key a 0 c [] rfl rfl rfl (by simp)
    | none =>
      refine ⟨v, w, ?_, by rw [List.append_nil]; exact hown, only_refl _ _⟩
      obtain ⟨a, c', rfl⟩ := hown.form
      have hroom : bs.length ≤ c' := by
        rcases hown.2 with ⟨h, h0⟩ | ⟨g, cap, cur, h, _, _, hn, _⟩
        · rw [h0]; exact Nat.zero_le _
        · simp at h; omega
      have hc : ∀ W : World, (Builtin.lenOf (.slice none 0 c)).run Try.prog W = .ok 0 W := fun _ => rfl
      have hc2 : ∀ W : World, (Builtin.firstCells 3 0 (.slice none 0 c)).run Try.prog W = .ok #[] W := fun _ => rfl
      simp [Builtin.append_, run_underlying Try.underlying28, sizeOf, typeInfo, hi, hz1, hc, hc2, hroom]
      cases a <;> rfl
  · refine key ⟨b, off, none⟩ cs.length cap (cs.flatMap cells3) rfl rfl rfl fun j u hu => ?_
    rw [addr_at]
    exact blks_flat hbl j u hu
theorem wp_append_many {w : World} {o : Oper} {a : Act} {K : Act → World → Prop} {Q : Exit → Act → World → Prop} (s x : Operand)
    (ho : o.op = .call { callee := .builtin .append, args := #[s, x], argTypes := #[28, 28] })
    (base : Nat) (v : Value) (bs : List Blk) (hs : a.eval s = v) (hown : OwnR w base v bs) (xv : Value) (cs : List Blk) (hxv : a.eval x = xv) (hx : SX w xv cs) (hl : bs.length + cs.length ≤ 2200000) (hb : base ≤ w.heap.size)
    (h : ∀ (a' : Option Addr) (c' : Nat) (w' : World), OwnR w' base (.slice a' (bs.length + cs.length) c') (bs ++ cs) → w.grownBy w' v.ownBlock → K (a.put o.dst (.slice a' (bs.length + cs.length) c')) w') : o.wp Try.prog a w K Q := by
  obtain ⟨v', w', hr, h2, h3⟩ := run_append_many w o.type base v bs hown xv cs hx hl hb
  obtain ⟨a', c', hv⟩ := h2.form
  rw [List.length_append] at hv
  subst hv
  unfold Oper.wp execOp
  simp only [ho, resolve, invoke, builtin, Sem.run_bind, Sem.run_pure, Result.andThen_ok, List.map_toArray, List.map_cons, List.map_nil, hs, hxv, hr]
  exact h a' c' w' h2 h3
theorem wpList_append_many {w : World} {ops : Array Oper} {rest : List Oper} {o : Oper} {a : Act} {Q : Exit → Act → World → Prop} (hgd : o.guard = none) (s x : Operand)
    (ho : o.op = .call { callee := .builtin .append, args := #[s, x], argTypes := #[28, 28] })
    (base : Nat) (v : Value) (bs : List Blk) (hs : a.eval s = v) (hown : OwnR w base v bs) (xv : Value) (cs : List Blk) (hxv : a.eval x = xv) (hx : SX w xv cs) (hl : bs.length + cs.length ≤ 2200000) (hb : base ≤ w.heap.size)
    (h : ∀ (a' : Option Addr) (c' : Nat) (w' : World), OwnR w' base (.slice a' (bs.length + cs.length) c') (bs ++ cs) → w.grownBy w' v.ownBlock → wpList Try.prog ops Q rest (a.put o.dst (.slice a' (bs.length + cs.length) c')) w') : wpList Try.prog ops Q (o :: rest) a w :=
  wpList_plain hgd fun _ hK => wp_append_many s x ho base v bs hs hown xv cs hxv hx hl hb fun a' c' w' h1 h2 => hK _ _ (h a' c' w' h1 h2)
theorem step_append_many {w : World} {ops : Array Oper} {o : Oper} {a : Act} {K : Act → World → Prop} {Q : Exit → Act → World → Prop} {E : Prop} (hgd : o.guard = none) (s x : Operand)
    (ho : o.op = .call { callee := .builtin .append, args := #[s, x], argTypes := #[28, 28] })
    (base : Nat) (v : Value) (bs : List Blk) (hs : a.eval s = v) (hown : OwnR w base v bs) (xv : Value) (cs : List Blk) (hxv : a.eval x = xv) (hx : SX w xv cs) (hl : bs.length + cs.length ≤ 2200000) (hb : base ≤ w.heap.size)
    (h : ∀ (a' : Option Addr) (c' : Nat) (w' : World), OwnR w' base (.slice a' (bs.length + cs.length) c') (bs ++ cs) → w.grownBy w' v.ownBlock → K (a.put o.dst (.slice a' (bs.length + cs.length) c')) w') :
    if Region.wanted o (yielded ops a.tmps) = true then Oper.wp Try.prog o a w K Q else E := by
  have hw : Region.wanted o (yielded ops a.tmps) = true := by simp [Region.wanted, hgd]
  rw [if_pos hw]
  exact wp_append_many s x ho base v bs hs hown xv cs hxv hx hl hb h
end Go.Proofs.Ytahgialnhomefaa

namespace Go.Proofs.Ytahgialnhomefaa
theorem gb_drewL {w w' : World} {row : Option Nat} (h : w.drew.grownBy w' row) : w.grownBy w' row := ⟨h.os, h.tape, h.output, h.size, h.block⟩
end Go.Proofs.Ytahgialnhomefaa

namespace Go.Proofs.Ytahgialnhomefaa
open Go.RowKit Go.Maps
/-- The two boxes of the arguments; what was there before the call is as it was. -/
structure St2 (w : World) (v u : Int) (s t : Value) (W : World) : Prop where
  below : Below w.heap.size w W
  big : w.heap.size + 1 < W.heap.size
  x0 : W.cell? ⟨w.heap.size, 0, none⟩ = some (.int .i64 v)
  x1 : W.cell? ⟨w.heap.size, 1, none⟩ = some s
  y0 : W.cell? ⟨w.heap.size + 1, 0, none⟩ = some (.int .i64 u)
  y1 : W.cell? ⟨w.heap.size + 1, 1, none⟩ = some t
theorem St2.step {w : World} {v u : Int} {s t : Value} {W W' : World} {row : Option Nat} (h : St2 w v u s t W) (hg : W.grownBy W' row) (hr : ∀ r, row = some r → w.heap.size + 1 < r) : St2 w v u s t W' :=
  ⟨h.below.grown hg h.below.size (fun r e => by have := hr r e; omega), Nat.lt_of_lt_of_le h.big hg.size,
    hg.cell h.x0 (fun e => by have := hr _ e.symm; simp at this; omega), hg.cell h.x1 (fun e => by have := hr _ e.symm; simp at this; omega),
    hg.cell h.y0 (fun e => by have := hr _ e.symm; simp at this), hg.cell h.y1 (fun e => by have := hr _ e.symm; simp at this)⟩
theorem St2.start (w : World) (v u : Int) (s t : Value) : St2 w v u s t ((w.alloc (.cells #[.int .i64 v, s] 24)).alloc (.cells #[.int .i64 u, t] 24)) :=
  ⟨((Below.refl _ _).alloc (Nat.le_refl _) _).alloc (by simp) _, by simp, by simp [go_sem], by simp [go_sem], by simp [go_sem], by simp [go_sem]⟩
/-- A variable that holds a system. -/
structure VarB (W : World) (X : Nat) (v : Int) (s : Value) : Prop where
  lt : X < W.heap.size
  c0 : W.cell? ⟨X, 0, none⟩ = some (.int .i64 v)
  c1 : W.cell? ⟨X, 1, none⟩ = some s
theorem VarB.step {W W' : World} {X : Nat} {v : Int} {s : Value} {row : Option Nat} (h : VarB W X v s) (hg : W.grownBy W' row) (hr : row ≠ some X) : VarB W' X v s :=
  ⟨Nat.lt_of_lt_of_le h.lt hg.size, hg.cell h.c0 (fun e => hr e.symm), hg.cell h.c1 (fun e => hr e.symm)⟩
theorem VarB.new (W : World) (v : Int) (s : Value) (T : TypeId) : VarB (W.alloc (.cells #[.int .i64 v, s] T)) W.heap.size v s := ⟨by simp, by simp, by simp⟩

/-- The state of a law whose results are lists of blocks: the model's result (from i0 on, before i1), the two copies and their variables, the program's result. -/
structure CB (w : World) (v u : Int) (s t sW s8 s9 sG : Value) (X Y i0 i1 i2 i3 i4 i5 i6 : Nat) (LW L8 L9 LG : List Blk) (W : World) : Prop where
  st : St2 w v u s t W
  o0 : w.heap.size + 1 < i0
  o1 : i0 ≤ i1
  o2 : i1 ≤ i2
  oX : i2 ≤ X
  oX' : X < i3
  o4 : i3 ≤ i4
  oY : i4 ≤ Y
  oY' : Y < i5
  o6 : i5 ≤ i6
  rW : ResR W i0 i1 sW LW
  r8 : ResR W i1 i2 s8 L8
  vX : VarB W X v s8
  r9 : ResR W i3 i4 s9 L9
  vY : VarB W Y u s9
  rG : ResR W i5 i6 sG LG
section
variable {w : World} {v u : Int} {s t sW s8 s9 sG : Value} {X Y i0 i1 i2 i3 i4 i5 i6 : Nat} {LW L8 L9 LG : List Blk} {W W' : World}
theorem CB.step (h : CB w v u s t sW s8 s9 sG X Y i0 i1 i2 i3 i4 i5 i6 LW L8 L9 LG W) (hg : W.grownBy W' none) : CB w v u s t sW s8 s9 sG X Y i0 i1 i2 i3 i4 i5 i6 LW L8 L9 LG W' :=
  ⟨h.st.step hg (by simp), h.o0, h.o1, h.o2, h.oX, h.oX', h.o4, h.oY, h.oY', h.o6, h.rW.kept hg (by simp), h.r8.kept hg (by simp), h.vX.step hg (by simp), h.r9.kept hg (by simp), h.vY.step hg (by simp), h.rG.kept hg (by simp)⟩
theorem CB.mark8 (h : CB w v u s t sW s8 s9 sG X Y i0 i1 i2 i3 i4 i5 i6 LW L8 L9 LG W) {row : Option Nat} (hg : W.grownBy W' row) (hr : ∀ r, row = some r → i1 ≤ r ∧ r < i2) {L : List Blk} (hn : ResR W' i1 i2 s8 L) :
    CB w v u s t sW s8 s9 sG X Y i0 i1 i2 i3 i4 i5 i6 LW L L9 LG W' := by
  obtain ⟨st, o0, o1, o2, oX, oX', o4, oY, oY', o6, rW, r8, vX, r9, vY, rG⟩ := h
  exact ⟨st.step hg (fun r e => by have := hr r e; omega), o0, o1, o2, oX, oX', o4, oY, oY', o6, rW.kept hg (fun r e => by have := hr r e; omega), hn, vX.step hg (fun e => by have := hr _ e; omega), r9.kept hg (fun r e => by have := hr r e; omega), vY.step hg (fun e => by have := hr _ e; omega), rG.kept hg (fun r e => by have := hr r e; omega)⟩
theorem CB.mark9 (h : CB w v u s t sW s8 s9 sG X Y i0 i1 i2 i3 i4 i5 i6 LW L8 L9 LG W) {row : Option Nat} (hg : W.grownBy W' row) (hr : ∀ r, row = some r → i3 ≤ r ∧ r < i4) {L : List Blk} (hn : ResR W' i3 i4 s9 L) :
    CB w v u s t sW s8 s9 sG X Y i0 i1 i2 i3 i4 i5 i6 LW L8 L LG W' := by
  obtain ⟨st, o0, o1, o2, oX, oX', o4, oY, oY', o6, rW, r8, vX, r9, vY, rG⟩ := h
  exact ⟨st.step hg (fun r e => by have := hr r e; omega), o0, o1, o2, oX, oX', o4, oY, oY', o6, rW.kept hg (fun r e => by have := hr r e; omega), r8.kept hg (fun r e => by have := hr r e; omega), vX.step hg (fun e => by have := hr _ e; omega), hn, vY.step hg (fun e => by have := hr _ e; omega), rG.kept hg (fun r e => by have := hr r e; omega)⟩
theorem CB.markG (h : CB w v u s t sW s8 s9 sG X Y i0 i1 i2 i3 i4 i5 i6 LW L8 L9 LG W) {row : Option Nat} (hg : W.grownBy W' row) (hr : ∀ r, row = some r → i5 ≤ r ∧ r < i6) {L : List Blk} (hn : ResR W' i5 i6 sG L) :
    CB w v u s t sW s8 s9 sG X Y i0 i1 i2 i3 i4 i5 i6 LW L8 L9 L W' := by
  obtain ⟨st, o0, o1, o2, oX, oX', o4, oY, oY', o6, rW, r8, vX, r9, vY, rG⟩ := h
  exact ⟨st.step hg (fun r e => by have := hr r e; omega), o0, o1, o2, oX, oX', o4, oY, oY', o6, rW.kept hg (fun r e => by have := hr r e; omega), r8.kept hg (fun r e => by have := hr r e; omega), vX.step hg (fun e => by have := hr _ e; omega), r9.kept hg (fun r e => by have := hr r e; omega), vY.step hg (fun e => by have := hr _ e; omega), hn⟩
end
end Go.Proofs.Ytahgialnhomefaa

namespace Go.Proofs.Ytahgialnhomefaa
open Go.RowKit Go.Maps
def SC (w : World) (s : Value) (bs : List Blk) : Prop := SB w s bs ∧ ∀ a n c, s = .slice a n c → n ≤ c
theorem SC.below {w w' : World} {s : Value} {bs : List Blk} (h : SC w s bs) {B : Nat} (hb : Below B w w') (hB : w.heap.size ≤ B) : SC w' s bs := ⟨h.1.below hb hB, h.2⟩
theorem OwnB.sc {w : World} {lo : Nat} {s : Value} {bs : List Blk} (h : OwnB w lo s bs) (hwf : ∀ x ∈ bs, WFB x) (hl : bs.length ≤ 1100000) : SC w s bs := by
  refine ⟨h.sb hwf hl, fun a n c e => ?_⟩
  obtain ⟨g, cap, rfl, _, _, _, _, hc⟩ := h
  cases e
  exact hc
theorem l01In_out (n lo hi : Int) (W : World) (β : Bool) (hβ : (decide (lo ≤ n) && decide (n ≤ hi)) = β) : Calls Try.prog 80 #[.int .i64 n, .int .i64 lo, .int .i64 hi] W (RS (.bool β) W) := by
  rw [← hβ]
  exact l01In_any n lo hi W
end Go.Proofs.Ytahgialnhomefaa

namespace Go.Proofs.Ytahgialnhomefaa
open Go.RowKit Go.Maps
theorem Blks.take {w : World} {b off : Nat} {bs : List Blk} (h : Blks w b off bs) (j : Nat) : Blks w b off (bs.take j) := fun k hk => by
  rw [List.length_take] at hk
  have := h k (by omega)
  rwa [List.getElem?_take_of_lt (by omega)]
theorem Blks.drop {w : World} {b off : Nat} {bs : List Blk} (h : Blks w b off bs) (j : Nat) : Blks w b (off + j * 3) (bs.drop j) := fun k hk => by
  rw [List.length_drop] at hk
  have := h (j + k) (by omega)
  rw [List.getElem?_drop, show off + j * 3 + k * 3 = off + (j + k) * 3 by omega]
  exact this
theorem lit_own (W : World) : OwnR (W.alloc (.cells #[] 84)) W.heap.size (.slice (some ⟨W.heap.size, 0, none⟩) 0 0) [] :=
  ⟨rfl, .inr ⟨W.heap.size, 0, #[], rfl, Nat.le_refl _, (MapKept.heap_alloc W (.cells #[] 84)).1, Nat.le_refl _, by unfold maxLen; omega, rfl, rfl⟩⟩
theorem OwnR.drew {w : World} {base : Nat} {v : Value} {bs : List Blk} (h : OwnR w base v bs) : OwnR w.drew base v bs := h
theorem SX.drew {w : World} {v : Value} {bs : List Blk} (h : SX w v bs) : SX w.drew v bs := h
theorem Blks.drew {w : World} {b off : Nat} {bs : List Blk} (h : Blks w b off bs) : Blks w.drew b off bs := h
theorem Blks.kept {w w' : World} {b off : Nat} {bs : List Blk} {row : Option Nat} (h : Blks w b off bs) (hg : w.grownBy w' row) (hne : some b ≠ row) : Blks w' b off bs := fun k hk => by
  obtain ⟨h1, h2, h3⟩ := h k hk
  exact ⟨hg.cell h1 hne, hg.cell h2 hne, hg.cell h3 hne⟩
theorem keep_cell {w w' : World} {row : Option Nat} {b o : Nat} {u : Value} (h : w.cell? ⟨b, o, none⟩ = some u) (hg : w.grownBy w' row) (hne : ∀ r, row = some r → b < r) : w'.cell? ⟨b, o, none⟩ = some u :=
  hg.cell h (fun e => by have := hne _ e.symm; simp at this)
theorem keep_frozen {w w' : World} {row : Option Nat} {b o : Nat} {u : Value} (hc : w.cell? ⟨b, o, none⟩ = some u) (h : w.frozen? ⟨b, o, none⟩ = false) (hg : w.grownBy w' row) (hne : ∀ r, row = some r → b < r) : w'.frozen? ⟨b, o, none⟩ = false :=
  (World.frozen?_of_block (w := w) (a := ⟨b, o, none⟩) (hg.block b (block_lt_of_cell hc) (fun e => by have := hne _ e.symm; omega))).trans h
theorem keep_some {w w' : World} {row : Option Nat} {b o : Nat} (h : (w.cell? ⟨b, o, none⟩).isSome = true) (hg : w.grownBy w' row) (hne : ∀ r, row = some r → b < r) : (w'.cell? ⟨b, o, none⟩).isSome = true := by
  obtain ⟨u, hu⟩ := Option.isSome_iff_exists.1 h
  rw [keep_cell hu hg hne]
  rfl
theorem keep_free {w w' : World} {row : Option Nat} {b o : Nat} (h : (w.cell? ⟨b, o, none⟩).isSome = true) (hf : w.frozen? ⟨b, o, none⟩ = false) (hg : w.grownBy w' row) (hne : ∀ r, row = some r → b < r) : w'.frozen? ⟨b, o, none⟩ = false := by
  obtain ⟨u, hu⟩ := Option.isSome_iff_exists.1 h
  exact keep_frozen hu hf hg hne
def Six (w' : World) (b : Nat) (v : Int) (s : Value) : Prop := w'.cell? ⟨b, 0, none⟩ = some (.int .i64 v) ∧ w'.cell? ⟨b, 1, none⟩ = some s ∧ w'.cell? ⟨b + 1, 0, none⟩ = some (.int .i64 0) ∧ w'.cell? ⟨b + 1, 1, none⟩ = some (.slice none 0 0) ∧ w'.frozen? ⟨b + 1, 0, none⟩ = false ∧ w'.frozen? ⟨b + 1, 1, none⟩ = false
theorem keep6 {w w' : World} {b : Nat} {v : Int} {s : Value} {row : Option Nat} (h : Six w b v s) (hg : w.grownBy w' row) (hr : ∀ r, row = some r → b + 1 < r) : Six w' b v s := by
  obtain ⟨h0, h1, h2, h3, h4, h5⟩ := h
  exact ⟨keep_cell h0 hg (fun r e => by have := hr r e; omega), keep_cell h1 hg (fun r e => by have := hr r e; omega), keep_cell h2 hg hr, keep_cell h3 hg hr, keep_frozen h2 h4 hg hr, keep_frozen h3 h5 hg hr⟩
theorem run_slice_drop (b off n cap j : Nat) (h1 : j ≤ n) (h2 : n ≤ cap) : ∃ x, (∀ W : World, (Instr.slice 28 (.slice (some ⟨b, off, none⟩) n cap) (some (.int .i64 (j : Int))) none none).run Try.prog W = .ok x W) ∧ ∀ (W : World) (bs : List Blk), bs.length = n → b < W.heap.size → Blks W b off bs → SX W x (bs.drop j) := by
  have hj0 : (0 : Int) ≤ (j : Int) := by omega
  have hj1 : (j : Int) ≤ (n : Int) := by omega
  by_cases hc : j = cap
  · refine ⟨.slice (some ⟨b, off, none⟩) 0 0, fun W => ?_, fun W bs e _ _ => .inl ⟨_, _, rfl, List.drop_eq_nil_of_le (by omega)⟩⟩
    have e1 : n = j := by omega
    subst e1
    subst hc
    simp [Instr.slice, Instr.sliceBounds, Instr.sliceBound, run_underlying Try.underlying28, go_sem, hj0]
  · refine ⟨.slice (some ⟨b, off + j * 3, none⟩) (n - j) (cap - j), fun W => ?_, fun W bs e h1 h2 => .inr ⟨b, off + j * 3, cap - j, by rw [List.length_drop, e], h1, h2.drop j⟩⟩
    have hc' : ¬ cap = j := fun e => hc e.symm
    simp [Instr.slice, Instr.sliceBounds, Instr.sliceBound, run_underlying Try.underlying28, go_sem, hj0, h1, hc', addr_at]
end Go.Proofs.Ytahgialnhomefaa

namespace Go.Proofs.Ytahgialnhomefaa
open Go.RowKit Go.Maps
set_option maxRecDepth 100000 in
theorem blockNumbers_any (v : Int) (s : Value) (bs : List Blk) (w : World) (h : SB w s bs) :
    Calls Try.prog 74 #[.agg #[.int .i64 v, s]] w (fun e w' => ∃ u, e = .returned u ∧ OwnJ w' w.heap.size u (numL bs.length) ∧ Below w.heap.size w w') := by
  have hs := h.slice
  have hl := h.2.1
  clear h
  obtain ⟨a0, c0, rfl⟩ := hs
  obtain ⟨N, hN⟩ : ∃ N, N = bs.length := ⟨_, rfl⟩
  rw [← hN] at hl ⊢
  clear hN
  have hb0 : Below w.heap.size w (w.alloc (.cells #[.int .i64 v, .slice a0 N c0] 30)) := (Below.refl _ _).alloc (Nat.le_refl _) _
  have HB0 := Lib.hid hb0
  clear hb0
  go_enter Try.func74, Try.ntmps74
  go_wp2_with fail
  go_loopw [3, 8] (fun o i wr => ∃ k : Nat, k ≤ N ∧ i = .int .i64 k ∧ Below w.heap.size w wr ∧ OwnJ wr w.heap.size o (numL k) ∧ ∃ a n c, o = .slice a n c) (fun _ i _ => N - (intOf i).toNat)
  case atStart => exact ⟨0, Nat.zero_le _, rfl, HB0.out, OwnJ.nil _ _, _, _, _, rfl⟩
  case round =>
    obtain ⟨k, hk, rfl, hB, hO, hform⟩ := hrel
    have hz := hB.size
    obtain ⟨a3, n3, c3, rfl⟩ := hform
    have HO := Lib.hid hO
    have hln := numL_len k
    have HSU := Lib.hid (numL_succ k)
    have hle : (numL k).length ≤ 1100000 := by omega
    clear hO hln
    by_cases hkl : k < N
    · go_wp2_with (at_builtin; refine wpList_append_int rfl _ _ rfl w.heap.size _ (numL k) rfl (HO.out.below ((Below.refl _ _).alloc (Nat.le_refl _) _) (Nat.le_refl _)) _ _ (k : Int) rfl (by simp [go_sem]) hle (by simp; omega) ?_; intro g' cap' w4 hO4 hg4)
      have hrow := HO.out.row
      have hgo := gb_trans (World.grownBy_alloc _ _ none) hg4
      clear hg4
      go_roundw
      case rel => exact ⟨k + 1, by omega, by go_num, hB.grown hgo hz (fun j e => hrow j e), by rw [HSU.out]; exact hO4, _, _, _, rfl⟩
      case measure => simp [intOf]; omega
    · have e : k = N := by omega
      subst e
      go_wp2
      go_ret
      exact ⟨_, rfl, HO.out, hB⟩
theorem OwnJ.slice {w : World} {base : Nat} {u : Value} {zs : List Int} (h : OwnJ w base u zs) : ∃ a c, u = .slice a zs.length c := by
  rcases h.2 with ⟨rfl, h0⟩ | ⟨g, cap, cur, rfl, _⟩
  · exact ⟨none, 0, by rw [h0]⟩
  · exact ⟨_, _, rfl⟩
end Go.Proofs.Ytahgialnhomefaa

namespace Go.Proofs.Ytahgialnhomefaa
open Go.RowKit Go.Maps Go.Shelf
theorem Index_nil (a : Option Addr) (c : Nat) (p : Int) (w : World) : Calls Try.prog 111 #[.slice a 0 c, .int .i64 p] w fun e w' => e = .returned (.int .i64 (-1)) ∧ w = w' := by
  go_enter Try.func111, Try.ntmps111
  go_wp2
  refine wp_loop_rounds 1 ?_
  rw [rounds_succ]
  go_wp2
  go_ret
  exact ⟨rfl, rfl⟩
theorem ContainsI_any (s : Value) (zs : List Int) (p : Int) (w : World) (h : IB w s zs) : Calls Try.prog 79 #[s, .int .i64 p] w (RS (.bool (inL p zs)) w) := by
  rcases h.2 with ⟨a, c, rfl, rfl⟩ | ⟨b, off, cap, rfl, _, hr⟩
  · go_enter Try.func79, Try.ntmps79
    go_wp2_with (go_at_call 111; refine (Index_nil _ _ _ _).mono ?_; rintro e w' ⟨rfl, rfl⟩)
    go_ret
    exact RS_of rfl
  · exact Contains_any b off cap zs p w hr (by have := h.1; omega)
end Go.Proofs.Ytahgialnhomefaa

namespace Go.Proofs.Ytahgialnhomefaa
open Go.RowKit Go.Maps
theorem oneIf_any (b : Bool) (w : World) : Calls Try.prog 78 #[.bool b] w (RS (.int .i64 (if b then 1 else 0)) w) := by
  cases b with
  | false =>
    go_enter Try.func78, Try.ntmps78
    go_wp2
    go_ret
    exact RS_of rfl
  | true =>
    go_enter Try.func78, Try.ntmps78
    go_wp2
    go_ret
    exact RS_of rfl
end Go.Proofs.Ytahgialnhomefaa

namespace Go.Proofs.Ytahgialnhomefaa
open Go.RowKit Go.Maps
/-- A number of a list in memory. -/
theorem IB.get {w : World} {a : Option Addr} {n c : Nat} {zs : List Int} (h : IB w (.slice a n c) zs) {k : Nat} (hk : k < zs.length) : ∃ b off, a = some ⟨b, off, none⟩ ∧ b < w.heap.size ∧ w.cell? ⟨b, off + k, none⟩ = some (.int .i64 (zs[k]?.getD 0)) := by
  rcases h.2 with ⟨_, _, _, hnil⟩ | ⟨b, off, cap, e, hlt, hI⟩
  · rw [hnil] at hk; simp at hk
  · simp at e
    exact ⟨b, off, e.1, hlt, hI k hk⟩
def bgd (bs : List Blk) (k : Nat) : List Int := (List.range k).map fun i => ((meetI (bs[i]?.getD default) i bs bs.length).length : Int)
theorem bgd_succ (bs : List Blk) (k : Nat) : bgd bs (k + 1) = bgd bs k ++ [((meetI (bs[k]?.getD default) k bs bs.length).length : Int)] := by simp [bgd, List.range_succ]
theorem bgd_len (bs : List Blk) (k : Nat) : (bgd bs k).length = k := by simp [bgd]
def bgdF (v : Int) (bs : List Blk) : List Int × Int := if isSysImpl v bs then (bgd bs bs.length, 0) else ([], 1)
theorem bgdF_len (v : Int) (bs : List Blk) : (bgdF v bs).1.length ≤ bs.length := by
  unfold bgdF
  split
  · rw [bgd_len]; omega
  · simp
/-- The blocks that touch both of two. -/
def comN (bs : List Blk) (i k : Nat) (t : Nat) : Nat := (((meetI (bs[i]?.getD default) i bs bs.length).take t).filter fun z => inL z (meetI (bs[k]?.getD default) k bs bs.length)).length
def comC (v : Int) (bs : List Blk) (i k : Int) : Int := if isSysImpl v bs then (if inP (bs.length : Int) i = true ∧ inP (bs.length : Int) k = true ∧ i ≠ k then 0 else 2) else 1
def comV (v : Int) (bs : List Blk) (i k : Int) : Value := .tuple #[.int .i64 (if comC v bs i k = 0 then (comN bs i.toNat k.toNat bs.length : Int) else 0), .int .i64 (comC v bs i k)]
theorem comN_succ {bs : List Blk} {i k t : Nat} (h : t < (meetI (bs[i]?.getD default) i bs bs.length).length) : comN bs i k (t + 1) = comN bs i k t + if inL ((meetI (bs[i]?.getD default) i bs bs.length)[t]?.getD 0) (meetI (bs[k]?.getD default) k bs bs.length) then 1 else 0 := by
  unfold comN
  rw [List.take_add_one, List.getElem?_eq_getElem h, List.filter_append, List.length_append]
  simp only [Option.toList_some, Option.getD_some, List.filter_cons, List.filter_nil]
  split <;> rfl
theorem comN_end {bs : List Blk} {i k t : Nat} (h : (meetI (bs[i]?.getD default) i bs bs.length).length ≤ t) : comN bs i k t = comN bs i k bs.length := by
  unfold comN
  rw [List.take_of_length_le h, List.take_of_length_le (meetI_len _ _ _ _)]
theorem comN_le (bs : List Blk) (i k t : Nat) : comN bs i k t ≤ t := by
  unfold comN
  exact Nat.le_trans (List.length_filter_le _ _) (by rw [List.length_take]; omega)
set_option maxRecDepth 100000 in
set_option maxHeartbeats 1000000 in
theorem BlockGraphDegrees_any (v : Int) (s : Value) (bs : List Blk) (w : World) (h : SB w s bs) :
    Calls Try.prog 41 #[.agg #[.int .i64 v, s]] w (RJ (bgdF v bs) w) := by
  have hs := h.slice
  have HI := Lib.hid fun W (hb : Below w.heap.size w W) => IsSystem_any v s bs W (h.below hb (Nat.le_refl _))
  have HSB := Lib.hid h
  have hlen := h.2.1
  clear h
  obtain ⟨a0, c0, rfl⟩ := hs
  cases hi : isSysImpl v bs with
  | false =>
    have HV := Lib.hid (show bgdF v bs = ([], 1) by simp [bgdF, hi])
    rw [HV.out]
    rw [hi] at HI
    clear hi HSB
    go_enter Try.func41, Try.ntmps41
    go_wp2_with fail
    refine (HI.out _ ((Below.refl _ _).alloc (Nat.le_refl _) _)).mono ?_
    rintro e w1 ⟨rfl, hb1⟩
    have hb2 := below_new hb1
    clear hb1
    go_wp2
    go_ret2
    exact ⟨_, rfl, OwnJ.nil _ _, hb2⟩
  | true =>
    have HV := Lib.hid (show bgdF v bs = (bgd bs bs.length, 0) by simp [bgdF, hi])
    rw [HV.out]
    have HM := Lib.hid fun (k : Nat) (hk : k < bs.length) W (hb : Below w.heap.size w W) => (show Calls Try.prog 75 #[.agg #[.int .i64 v, .slice a0 bs.length c0], .int .i64 (k : Int)] W (RJ (meetI (bs[k]?.getD default) k bs bs.length, 0) W) by
      have := MeetingBlocks_any v _ bs (k : Int) W (HSB.out.below hb (Nat.le_refl _))
      rw [show meetF v bs (k : Int) = (meetI (bs[k]?.getD default) k bs bs.length, 0) by simp [meetF, hi, inP, hk]] at this
      exact this)
    rw [hi] at HI
    clear hi
    have HN := Lib.hid fun W (hb : Below w.heap.size w W) => blockNumbers_any v _ bs W (HSB.out.below hb (Nat.le_refl _))
    go_enter Try.func41, Try.ntmps41
    go_wp2_with fail
    refine (HI.out _ ((Below.refl _ _).alloc (Nat.le_refl _) _)).mono ?_
    rintro e w1 ⟨rfl, hb1⟩
    have hb2 := below_new hb1
    have q0 := cell_new hb1 0 rfl
    have q1 := cell_new hb1 1 rfl
    have hl1 := block_lt_of_cell q0
    clear hb1
    go_wp2_with fail
    refine (HN.out _ hb2).mono ?_
    rintro e w2 ⟨u, rfl, hO2, hb3⟩
    have p0 := (hb3.cell (p := ⟨w.heap.size, 0, none⟩) hl1).trans q0
    have p1 := (hb3.cell (p := ⟨w.heap.size, 1, none⟩) hl1).trans q1
    have hl2 : w.heap.size < w2.heap.size := by have := hb3.size; omega
    have HB2 := Lib.hid (hb2.trans (hb3.mono hb2.size))
    obtain ⟨a1, c1, hu⟩ := hO2.slice
    rw [numL_len] at hu
    have HIB := Lib.hid (hO2.ib (by rw [numL_len]; exact hlen))
    rw [hu] at HIB
    subst hu
    clear hb2 hb3 q0 q1 hl1 hO2
    go_wp2_with fail
    go_loopw [4, 15] (fun o i wr => ∃ k : Nat, k ≤ bs.length ∧ i = .int .i64 k ∧ Below w2.heap.size w2 wr ∧ OwnJ wr w2.heap.size o (bgd bs k) ∧ ∃ a n c, o = .slice a n c) (fun _ i _ => bs.length - (intOf i).toNat)
    case atStart => exact ⟨0, Nat.zero_le _, rfl, Below.refl _ _, OwnJ.nil _ _, _, _, _, rfl⟩
    case round =>
      obtain ⟨k, hk, rfl, hB, hO, hform⟩ := hrel
      have hz := hB.size
      have r0 := (hB.cell (p := ⟨w.heap.size, 0, none⟩) hl2).trans p0
      have r1 := (hB.cell (p := ⟨w.heap.size, 1, none⟩) hl2).trans p1
      obtain ⟨a3, n3, c3, rfl⟩ := hform
      have HO := Lib.hid hO
      clear hO
      by_cases hkl : k < bs.length
      · obtain ⟨b, off, rfl, hblt, hcell⟩ := (HIB.out.below hB (Nat.le_refl _)).get (k := k) (by rw [numL_len]; exact hkl)
        rw [show (numL bs.length)[k]?.getD 0 = (k : Int) by simp [numL, hkl]] at hcell
        have HS := Lib.hid (bgd_succ bs k)
        have hln : (bgd bs k).length ≤ 1100000 := by rw [bgd_len]; omega
        have HC := Lib.hid (HM.out k hkl wr (HB2.out.trans (hB.mono HB2.out.size)))
        obtain ⟨m, hm⟩ : ∃ m, m = meetI (bs[k]?.getD default) k bs bs.length := ⟨_, rfl⟩
        have hml : m.length ≤ bs.length := by rw [hm]; exact meetI_len _ _ _ _
        rw [← hm] at HC HS
        have g0 : (0 : Int) ≤ (k : Int) := by omega
        have g1 : (k : Int) < (bs.length : Int) := by omega
        clear hm
        go_wp2_with fail
        refine HC.out.mono ?_
        rintro e w3 ⟨u3, rfl, hO3, hb4⟩
        obtain ⟨a5, c5, hu3⟩ := hO3.slice
        subst hu3
        have HO3 := Lib.hid (HO.out.below hb4 (Nat.le_refl _))
        have hz4 := hb4.size
        clear hO3
        go_wp2_with (at_builtin; refine wpList_append_int rfl _ _ rfl w2.heap.size _ (bgd bs k) rfl (HO3.out.below ((Below.refl _ _).alloc (Nat.le_refl _) _) (Nat.le_refl _)) _ _ (m.length : Int) rfl (by simp [go_sem]) hln (by simp; omega) ?_; intro g' cap' w4 hO4 hg4)
        have hrow := HO3.out.row
        have hgo : w3.grownBy w4 (Value.slice a3 n3 c3).ownBlock := gb_trans (World.grownBy_alloc _ _ none) hg4
        have hB3 := hB.trans (hb4.mono hz)
        clear hg4
        go_roundw
        case rel => exact ⟨k + 1, by omega, by go_num, hB3.grown hgo (by omega) (fun j e => hrow j e), by rw [HS.out]; exact hO4, _, _, _, rfl⟩
        case measure => simp [intOf]; omega
      · have e : k = bs.length := by omega
        subst e
        go_wp2
        go_ret2
        exact ⟨_, rfl, ownsRow_base HO.out (by omega), HB2.out.trans (hB.mono (by omega))⟩
end Go.Proofs.Ytahgialnhomefaa

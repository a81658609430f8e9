
/- maps.Equal of two sets of pairs. Sets of blocks as maps: setOf, blocksIn, blocksWithout. impl.CommonBlocks answers as the plain function commonF. The members of the library that ask whether a value is in a slice; the iterator over the blocks through a point. The iterator over the blocks through a point. The program's ThirdPoint answers as the plain function thirdV. -/
import Derived.Test.YtmgpmcjbnooklaaJ3
import Derived.Lib.SlMapEqual
import Derived.Maps.RangeWalk
import Derived.Maps.OwnSet
import Derived.Deep.LoopGhost
import Derived.Deep.RegionWith
import Derived.RangeFuncNested
import Derived.RangeFuncBound
import Derived.RangeFuncCalls
import Derived.RangeFuncLeaves
import Derived.RangeFuncBox
import Derived.Shelf.Abstract
import Derived.Shelf.RegionOpen
import Derived.OwnWalkIn
import Derived.TacticsInMore
import Derived.LoopNIn
import Derived.LoopIn
import Derived.Lib.QuietBelowIn
namespace Go.Proofs.Ytmgpmcjbnooklaa
open Go.RowKit Go.Maps
theorem pv_of_key {key : Value} {kl : Lit} (h : keyOf Try.prog 121 key = some kl) : ∃ x : Int × Int, key = pv x ∧ WF x.1 ∧ WF x.2 := by
  obtain ⟨n, hn⟩ := typesSize
  have r2 : List.range 2 = [0, 1] := rfl
  cases key <;> simp [keyOf, Try.underlying121, pairT, Value.formed, pairCells, hn, Program.keyLits, int64Cells, Value.cells, r2] at h
  rename_i cs
  obtain ⟨hsz, ls, hls, _⟩ := h
  match cs, hsz with
  | ⟨[c0, c1]⟩, hsz2 =>
    clear hsz2
    cases c0 <;> simp at hls
    rename_i q0 x0
    by_cases h0 : q0 = IntKind.i64 ∧ (Lit.int IntKind.i64 x0).wf = true
    · obtain ⟨rfl, w0⟩ := h0
      simp [w0] at hls
      cases c1 <;> simp at hls
      rename_i q1 x1
      by_cases h1 : q1 = IntKind.i64 ∧ (Lit.int IntKind.i64 x1).wf = true
      · obtain ⟨rfl, w1⟩ := h1
        exact ⟨(x0, x1), rfl, w0, w1⟩
      · simp [h1] at hls
    · simp [h0] at hls
section
variable {P : Program} {k e : TypeId} {b n : Nat} {vs : List Value} {w : World}
/-- The keys of a set. -/
theorem BoolSet.has (h : BoolSet w P k e b n vs) (K : Keyed P k) {key : Value} {kl : Lit} (hkey : keyOf P k key = some kl) : Maps.has (setOf (H := Unit) (.lit (.bool true)) (vs.map (keyLit P k))) kl = true ↔ key ∈ vs := by
  have hkl : ∀ x ∈ vs.map (keyLit P k), WideAt.IsKeyLit x := fun x hx => by
    obtain ⟨y, hy, rfl⟩ := List.mem_map.1 hx
    exact K.key (h.keys y hy)
  rw [has_setOf _ _ _ hkl, List.any_eq_true]
  constructor
  · rintro ⟨x, hx, hs⟩
    obtain ⟨y, hy, rfl⟩ := List.mem_map.1 hx
    have e1 := WideAt.sameKey_eq hs
    rw [K.inj hkey ((h.keys y hy).trans (by rw [e1]))]
    exact hy
  · intro hx
    refine ⟨keyLit P k key, List.mem_map.2 ⟨key, hx, rfl⟩, ?_⟩
    have e1 : keyLit P k key = kl := by simp [keyLit, hkey]
    rw [e1]
    exact WideAt.sameKey_self (K.key hkey)
theorem BoolSet.elem (h : BoolSet w P k e b n vs) (K : Keyed P k) {key : Value} {kl : Lit} (hkey : keyOf P k key = some kl) {y : DataW Unit} (hat : ∀ zd, (setOf (H := Unit) (.lit (.bool true)) (vs.map (keyLit P k))).atKey kl zd = y) : key ∈ vs ∧ y = .lit (.bool true) := by
  have hkl : ∀ x ∈ vs.map (keyLit P k), WideAt.IsKeyLit x := fun x hx => by
    obtain ⟨y, hy, rfl⟩ := List.mem_map.1 hx
    exact K.key (h.keys y hy)
  have hin := (h.has K hkey).1 (has_true_of_atKey hat)
  refine ⟨hin, ?_⟩
  have e1 : keyLit P k key = kl := by simp [keyLit, hkey]
  rcases atKey_fold (.lit (.bool true)) .nil kl (vs.map (keyLit P k)) (.map []) isMap_empty hkl with ⟨_, h2⟩ | ⟨h1, _⟩
  · exact (hat .nil).symm.trans h2
  · exact absurd (List.mem_map.2 ⟨key, hin, e1⟩) h1
theorem addKey_len : ∀ (ls acc : List Lit), ls.Nodup → (∀ x ∈ ls, WideAt.IsKeyLit x) → (∀ x ∈ ls, x ∉ acc) → (ls.foldl addKey acc).length = acc.length + ls.length
  | [], acc, _, _, _ => by simp
  | x :: r, acc, hn, hk, hd => by
    rw [List.nodup_cons] at hn
    have e : addKey acc x = acc ++ [x] := by
      unfold addKey
      rw [if_neg]
      simp only [List.any_eq_true, not_exists, not_and]
      intro y hy hs
      exact hd x (by simp) (WideAt.sameKey_eq hs ▸ hy)
    rw [List.foldl_cons, e, addKey_len r _ hn.2 (fun y hy => hk y (by simp [hy])) (fun y hy => by
      simp only [List.mem_append, List.mem_singleton, not_or]
      exact ⟨hd y (by simp [hy]), fun e => hn.1 (e ▸ hy)⟩)]
    simp; omega
theorem BoolSet.size (h : BoolSet w P k e b n vs) (K : Keyed P k) (hn : vs.Nodup) : Maps.size (setOf (H := Unit) (.lit (.bool true)) (vs.map (keyLit P k))) = vs.length := by
  have hkl : ∀ x ∈ vs.map (keyLit P k), WideAt.IsKeyLit x := fun x hx => by
    obtain ⟨y, hy, rfl⟩ := List.mem_map.1 hx
    exact K.key (h.keys y hy)
  have hnd : (vs.map (keyLit P k)).Nodup := by
    refine List.pairwise_map.2 (hn.imp_of_mem fun {x y} hx hy hne e => hne ?_)
    exact K.inj (h.keys x hx) (by rw [e]; exact h.keys y hy)
  rw [size_setOf _ _ hkl, addKey_len _ _ hnd hkl (by simp)]
  simp
theorem BoolSet.look_ok (h : BoolSet w P k e b n vs) (K : Keyed P k) {t : TypeId} (ht : P.underlying t = some (.map k e)) (he : P.underlying e = some .bool) (hz : (zeroValue e).run P w = .ok (.bool false) w)
    {key : Value} {kl : Lit} (hkey : keyOf P k key = some kl) : ∃ β : Bool, (Instr.lookup t (.map (some b)) key true).run P w = .ok (.tuple #[.bool β, .bool β]) w ∧ (β = true ↔ key ∈ vs) := by
  obtain ⟨v, ps, hrun, hv⟩ := h.owns.look_ok K ht hz (plainElem_bool he false) hkey
  have hh := h.has K hkey
  have hkl : ∀ x ∈ vs.map (keyLit P k), WideAt.IsKeyLit x := fun x hx => by
    obtain ⟨y, hy, rfl⟩ := List.mem_map.1 hx
    exact K.key (h.keys y hy)
  have e1 : keyLit P k key = kl := by simp [keyLit, hkey]
  have hat := atKey_fold (.lit (.bool true)) (.lit (.bool false)) kl (vs.map (keyLit P k)) (.map []) isMap_empty hkl
  have e0 : (DataW.map (H := Unit) []).atKey kl (.lit (.bool false)) = .lit (.bool false) := atKey_of_not_has rfl _
  rw [e0] at hat
  refine ⟨Maps.has (setOf (H := Unit) (.lit (.bool true)) (vs.map (keyLit P k))) kl, ?_, hh⟩
  have hval : v = .bool (Maps.has (setOf (H := Unit) (.lit (.bool true)) (vs.map (keyLit P k))) kl) := by
    rcases hat with ⟨h1, h2⟩ | ⟨h1, h2⟩
    · have hin : key ∈ vs := by
        obtain ⟨y, hy, e2⟩ := List.mem_map.1 h1
        rw [K.inj hkey ((h.keys y hy).trans (by rw [e2]))]
        exact hy
      rw [hh.2 hin]
      rw [show (setOf (H := Unit) (.lit (.bool true)) (vs.map (keyLit P k))).atKey kl (.lit (.bool false)) = .lit (.bool true) from h2] at hv
      unfold plainElem at hv
      split at hv <;> simp_all
    · have hno : ¬ key ∈ vs := fun hin => h1 (List.mem_map.2 ⟨key, hin, e1⟩)
      have hf : Maps.has (setOf (H := Unit) (.lit (.bool true)) (vs.map (keyLit P k))) kl = false := by
        cases hc : Maps.has (setOf (H := Unit) (.lit (.bool true)) (vs.map (keyLit P k))) kl
        · rfl
        · exact absurd (hh.1 hc) hno
      rw [hf]
      rw [show (setOf (H := Unit) (.lit (.bool true)) (vs.map (keyLit P k))).atKey kl (.lit (.bool false)) = .lit (.bool false) from h2] at hv
      unfold plainElem at hv
      split at hv <;> simp_all
  rw [hrun, hval]
end
theorem wpList_look_set_ok {P : Program} (w : World) {ops : Array Oper} {rest : List Oper} {o : Oper} {a : Act} {Q : Exit → Act → World → Prop}
    (hg : o.guard = none) (m x : Operand) (t : TypeId) (hop : o.op = Op.lookup t m x true) (k e : TypeId) (K : Keyed P k) (ht : P.underlying t = some (.map k e)) (he : P.underlying e = some .bool)
    (hz : (zeroValue e).run P w = .ok (.bool false) w) (b n : Nat) (vs : List Value) (hm : a.eval m = .map (some b)) (hS : BoolSet w P k e b n vs) (key : Value) (kl : Lit) (hx : a.eval x = key) (hkey : keyOf P k key = some kl)
    (hK : ∀ β : Bool, Hid (β = true ↔ key ∈ vs) → wpList P ops Q rest (a.put o.dst (.tuple #[.bool β, .bool β])) w) : wpList P ops Q (o :: rest) a w := by
  refine wpList_plain hg fun K' hK' => ?_
  obtain ⟨β, hrun, hβ⟩ := hS.look_ok K ht he hz hkey
  unfold Oper.wp
  simp [execOp, hop, hm, hx, hrun, Result.andThen]
  exact hK' _ _ (hK β hβ)
theorem pv_mem {x : Int × Int} {ps : List (Int × Int)} : pv x ∈ ps.map pv ↔ x ∈ ps := ⟨fun h => by obtain ⟨y, hy, e⟩ := List.mem_map.1 h; rw [← pv_inj e]; exact hy, fun h => List.mem_map.2 ⟨x, h, rfl⟩⟩
theorem pv_nodup {ps : List (Int × Int)} (h : ps.Nodup) : (ps.map pv).Nodup := List.pairwise_map.2 (h.imp fun hne e => hne (pv_inj e))
/-- Returns v; what was there stays. -/
def GB (v : Value) (w : World) (e : Ending) (w' : World) : Prop := e = .returned v ∧ w.grownBy w' none
theorem GB_of {v u : Value} {w w' : World} (h : u = v) (hg : w.grownBy w' none) : GB v w (.returned u) w' := ⟨by rw [h], hg⟩
/-- As many, and those of the first are in the second. -/
def subP (ps qs : List (Int × Int)) : Bool := decide (ps.length = qs.length) && ps.all fun p => decide (p ∈ qs)
theorem mapPB : Try.prog.underlying 118 = some (.map 121 4) := Try.underlying118
end Go.Proofs.Ytmgpmcjbnooklaa

namespace Go.Proofs.Ytmgpmcjbnooklaa
open Go.RowKit Go.Maps
/-- The blocks as a map's keys. -/
def BSet (w : World) (b n : Nat) (cs : List Blk) : Prop := BoolSet w Try.prog 68 4 b n (cs.map bv)
/-- Returns new blocks. -/
def RA (bs : List Blk) (w : World) (e : Ending) (w' : World) : Prop := ∃ u, e = .returned u ∧ OwnR w' w.heap.size u bs ∧ Below w.heap.size w w'
theorem bv_mem {x : Blk} {cs : List Blk} : bv x ∈ cs.map bv ↔ x ∈ cs := ⟨fun h => by obtain ⟨y, hy, e⟩ := List.mem_map.1 h; rw [← bv_inj e]; exact hy, fun h => List.mem_map.2 ⟨x, h, rfl⟩⟩
theorem BSet.below {w w' : World} {b n B : Nat} {cs : List Blk} (h : BSet w b n cs) (hb : Below B w w') (hB : w.heap.size ≤ B) : BSet w' b n cs := BoolSet.below h hb (Nat.lt_of_lt_of_le (BoolSet.lt h) hB)
end Go.Proofs.Ytmgpmcjbnooklaa

namespace Go.Proofs.Ytmgpmcjbnooklaa
open Go.RowKit Go.Maps
end Go.Proofs.Ytmgpmcjbnooklaa

namespace Go.Proofs.Ytmgpmcjbnooklaa
open Go.RowKit Go.Maps Go.Shelf
/-- Whether p is in the list. -/
def inL (p : Int) (zs : List Int) : Bool := zs.any fun z => p == z
theorem Index_any (b off cap : Nat) (zs : List Int) (p : Int) (w : World) (h : Ints w b off zs) (m1 : zs.length ≤ 9223372036854775807) :
    Calls Try.prog 111 #[.slice (some ⟨b, off, none⟩) zs.length cap, .int .i64 p] w fun e w' => ∃ r : Int, e = .returned (.int .i64 r) ∧ w = w' ∧ (decide (r ≥ 0) = inL p zs) := by
  have H1 := Lib.hid h
  clear h
  go_enter Try.func111, Try.ntmps111
  go_wp2
  go_loop [8] (fun i => ∃ k : Nat, k ≤ zs.length ∧ i = .int .i64 k ∧ Hid (inL p zs = inL p (zs.drop k))) (fun i => zs.length - (intOf i).toNat)
  case atStart => exact ⟨0, Nat.zero_le _, rfl, Lib.hid (by simp)⟩
  case round =>
    obtain ⟨k, hk, rfl, HE⟩ := hrel
    by_cases hlt : k < zs.length
    · obtain ⟨x, r, e1, e2, hc1⟩ := ints_next H1.out hlt
      rw [e1] at HE
      have E2 := Lib.hid e2
      clear e1 e2
      go_wp2
      · have hne : (p == x) = true := by assumption
        go_ret
        exact ⟨_, rfl, rfl, by rw [HE.out]; simp [inL, hne]⟩
      · have hne : (p == x) = false := by assumption
        go_round
        case rel => exact ⟨k + 1, by omega, by go_num, Lib.hid (by rw [HE.out, E2.out]; simp [inL, hne])⟩
        case measure => simp [intOf]; omega
    · go_wp2
      go_ret
      exact ⟨_, rfl, rfl, by rw [HE.out, List.drop_eq_nil_of_le (by omega : zs.length ≤ k)]; simp [inL]⟩
theorem Contains_any (b off cap : Nat) (zs : List Int) (p : Int) (w : World) (h : Ints w b off zs) (m1 : zs.length ≤ 9223372036854775807) :
    Calls Try.prog 83 #[.slice (some ⟨b, off, none⟩) zs.length cap, .int .i64 p] w (RS (.bool (inL p zs)) w) := by
  go_enter Try.func83, Try.ntmps83
  go_wp2_with (go_at_call 111; refine (Index_any _ _ _ _ _ _ h m1).mono ?_; rintro e w' ⟨r, rfl, rfl, hr⟩)
  go_ret
  exact RS_of rfl
theorem inL3 (x : Blk) (p : Int) : inL p [x.a, x.b, x.c] = hasB x p := by
  unfold inL hasB
  rw [Bool.eq_iff_iff]
  simp [eq_comm (a := p), or_assoc]
theorem isPointI_any (v a : Int) (w : World) : Calls Try.prog 87 #[.int .i64 v, .int .i64 a] w (RS (.bool (inP v a)) w) := by
  unfold inP
  go_enter Try.func87, Try.ntmps87
  go_wp2
  all_goals go_ret
  all_goals refine RS_of (bool_eq ?_)
  all_goals simp_all
  all_goals omega
end Go.Proofs.Ytmgpmcjbnooklaa

namespace Go.Proofs.Ytmgpmcjbnooklaa
open Go.RowKit Go.Maps Go.Shelf
attribute [local go_sem] Oper.semAt_some
/-- The blocks through p among the first k, each with its index. -/
def upTo (p : Int) (bs : List Blk) (k : Nat) : List (Nat × Blk) := ((List.range k).map fun j => (j, bs[j]?.getD default)).filter fun q => hasB q.2 p
theorem upTo_succ (p : Int) (bs : List Blk) (k : Nat) : upTo p bs (k + 1) = upTo p bs k ++ if hasB (bs[k]?.getD default) p then [(k, bs[k]?.getD default)] else [] := by
  unfold upTo
  rw [List.range_succ, List.map_append, List.filter_append]
  congr 1
  simp [List.filter_cons]
theorem upTo_len (p : Int) (bs : List Blk) (k : Nat) : (upTo p bs k).length ≤ k := by
  unfold upTo
  refine Nat.le_trans (List.length_filter_le _ _) ?_
  simp
/-- What a round that goes on keeps: old memory, and the box at Bp. -/
def KpB (n₀ Bp : Nat) (A B : World) : Prop := Below n₀ A B ∧ ∀ v, A.cell? ⟨Bp, 0, none⟩ = some v → B.cell? ⟨Bp, 0, none⟩ = some v
theorem KpB.refl (n₀ Bp : Nat) (A : World) : KpB n₀ Bp A A := ⟨Below.refl _ _, fun _ h => h⟩
theorem KpB.trans {n₀ Bp : Nat} {A B C : World} (h : KpB n₀ Bp A B) (k : KpB n₀ Bp B C) : KpB n₀ Bp A C := ⟨h.1.trans k.1, fun v hv => k.2 v (h.2 v hv)⟩
theorem KpB.put {n₀ Bp : Nat} {w : World} (hn : n₀ ≤ w.heap.size) (W : World) (l : Nat) (o o' : Obj) (hl : w.heap.size ≤ l) (h : W.heap[l]? = some o) (hc : o.isCells = false) (hw : o.isWalk = false) : KpB n₀ Bp W (W.putObj l o') :=
  ⟨belowK_b hn W l o o' hl h hc hw, fun v hv => cell_kept hv (grownBy_putObj' W l o') (fun r e => by cases e; exact ⟨_, h, hc⟩)⟩
/-- The closure captures the box of the system and the box of the point. -/
theorem blocksWith_any (v : Int) (s : Value) (p : Int) (w : World) : Calls Try.prog 42 #[.agg #[.int .i64 v, s], .int .i64 p] w fun e w' =>
    e = .returned (.func (.func 82) #[] #[.pointer (some ⟨w.heap.size, 0, none⟩), .pointer (some ⟨w.heap.size + 1, 0, none⟩)]) ∧ w' = (w.alloc (.cells #[.int .i64 v, s] 31)).alloc (.cells #[.int .i64 p] 2) := by
  go_enter Try.func42, Try.ntmps42
  go_wp2
  go_ret
  exact ⟨rfl, rfl⟩
theorem RS.quietIn {r : Nat} {P : Program} {f : FuncId} {args : Array Value} {w : World} {n : Nat} {v : Value} (h : Calls P f args (w.drewN n) (RS v (w.drewN n))) :
    CallsIn Fence.wide r P f args (w.drewN n) fun e w'' => e = .returned v ∧ ∃ m, w'' = w.drewN m := callsIn_wide.2 (RS.quiet h)
theorem wide_asked {P : Program} {C : World → Prop} {o : Oper} {a : Act} : o.askedIn Fence.wide P a C := fun _ _ _ _ => trivial
theorem grown_drewN (w : World) (n : Nat) : w.grownBy (w.drewN n) none := ⟨rfl, rfl, rfl, Nat.le_refl _, fun _ _ _ => rfl⟩
theorem cell_drewN {w : World} {p : Addr} {u : Value} (h : w.cell? p = some u) (n : Nat) : (w.drewN n).cell? p = some u := h
theorem yes_no {e : Ending} {p q : Prop} (h : (e = .returned (.bool true) ∧ p) ∨ (e = .returned (.bool false) ∧ q)) : ∃ β, e = .returned (.bool β) ∧ (if β = true then p else q) := by
  rcases h with ⟨rfl, h⟩ | ⟨rfl, h⟩
  · exact ⟨true, rfl, by simpa using h⟩
  · exact ⟨false, rfl, by simpa using h⟩
set_option maxRecDepth 100000 in
set_option maxHeartbeats 2000000 in
theorem with1_in (n : Nat) (hn : 1 ≤ n) (l Bx Bp n₀ b off cap : Nat) (p : Int) (bs : List Blk) (hlen : bs.length ≤ 1100000) (hb : b < n₀) (J Jx : List (Nat × Blk) → World → Prop) (W : World)
    (hJ : AbidesFrom W.heap.size J)
    (hY : ∀ pre x W1, J pre W1 → pre.length < bs.length → YieldAt Fence.wide (n - 1) Try.prog l #[.int .i64 (x.1 : Int), bv x.2] W1 fun e W' =>
      (e = .returned (.bool true) ∧ J (pre ++ [x]) W' ∧ KpB n₀ Bp W1 W') ∨ (e = .returned (.bool false) ∧ Jx (pre ++ [x]) W'))
    (hx1 : W.cell? ⟨Bx, 1, none⟩ = some (.slice (some ⟨b, off, none⟩) bs.length cap)) (hp : W.cell? ⟨Bp, 0, none⟩ = some (.int .i64 p)) (hbl : Blks W b off bs) (_hbn : n₀ ≤ W.heap.size) (hBp : Bp < W.heap.size) (h0 : J [] W) :
    CallsIn Fence.wide n Try.prog 82 #[.func (.yield l) #[] #[], .pointer (some ⟨Bx, 0, none⟩), .pointer (some ⟨Bp, 0, none⟩)] W fun e W' => (∃ v, e = .returned v) ∧
      ((∃ ys, ys = upTo p bs bs.length ∧ J ys W') ∨ (∃ pre, (∃ k, k ≤ bs.length ∧ pre = upTo p bs k) ∧ Jx pre W')) := by
  have hro : Fence.wide.round = none := rfl
  have hmx : Try.prog.follows .mixedOrders = true := by kernel_rfl
  have HJ := Lib.hid hJ
  clear hJ
  refine callsIn_of_wp Try.func82 rfl trivial ?_ hro
  simp only [Try.ntmps82, List.size_toArray, List.length_cons, List.length_nil, Nat.reduceAdd, Nat.reduceSub, Array.replicate_succ, Array.replicate_zero, List.push_toArray, List.append_toArray, List.nil_append, List.cons_append]
  gi_wp2
  gi_loopw [9] (fun i wr => ∃ k : Nat, k ≤ bs.length ∧ i = .int .i64 k ∧ J (upTo p bs k) wr ∧ KpB n₀ Bp W wr ∧ W.heap.size ≤ wr.heap.size)
    (fun i _ => bs.length - (intOf i).toNat)
  case atStart => exact ⟨0, Nat.zero_le _, rfl, h0, KpB.refl _ _ _, Nat.le_refl _⟩
  case round =>
    obtain ⟨k, hk, rfl, hJs, hK, hsz⟩ := hrel
    have hcp := hK.2 _ hp
    have hbl1 : Bp < wr.heap.size := by omega
    have hcp2 : (wr.alloc (.cells #[.int .i64 (bs[k]?.getD default).a, .int .i64 (bs[k]?.getD default).b, .int .i64 (bs[k]?.getD default).c] 68)).cell? ⟨Bp, 0, none⟩ = some (.int .i64 p) := cell_past hcp hbl1
    have hcp3 := (below_drewN (Below.refl (Bp + 1) _) 1).cell (p := ⟨Bp, 0, none⟩) (by simp) |>.trans hcp2
    by_cases hlt : k < bs.length
    · obtain ⟨c1, c2, c3⟩ := (hbl.below hK.1 hb) k hlt
      obtain ⟨x, hx⟩ : ∃ x, x = bs[k]?.getD default := ⟨_, rfl⟩
      rw [← hx] at c1 c2 c3 hcp2 hcp3
      have hsucc := upTo_succ p bs k
      rw [← hx] at hsucc
      have hul := upTo_len p bs k
      have HX := Lib.hid hx
      have HS := Lib.hid hsucc
      clear hx hsucc
      have hcont : ∀ W', W'.cell? ⟨wr.heap.size, 0, none⟩ = some (.int .i64 x.a) → W'.cell? ⟨wr.heap.size, 1, none⟩ = some (.int .i64 x.b) → W'.cell? ⟨wr.heap.size, 2, none⟩ = some (.int .i64 x.c) → Calls Try.prog 83 #[.slice (some ⟨wr.heap.size, 0, none⟩) 3 3, .int .i64 p] W' (RS (.bool (hasB x p)) W') := fun W' g1 g2 g3 => by
        rw [← inL3]
        exact Contains_any wr.heap.size 0 3 [x.a, x.b, x.c] p W' (ints3 g1 g2 g3) (by simp)
      have HC := Lib.hid hcont
      clear hcont
      cases hB : hasB x p with
      | true =>
        rw [hB] at HC HS
        have hJ2 : J (upTo p bs k) (wr.alloc (.cells #[.int .i64 x.a, .int .i64 x.b, .int .i64 x.c] 68)).drew := HJ.out _ _ _ none (HJ.out _ _ _ none hJs (World.grownBy_alloc wr _ none) nofun) ⟨rfl, rfl, rfl, Nat.le_refl _, fun _ _ _ => rfl⟩ nofun
        obtain ⟨fn, tmps, assign, body, hy, hR⟩ := hY _ (k, x) _ hJ2 (by omega)
        dsimp only [bv] at hy
        gi_wp2
        gi_region_with_o (first | (refine ⟨trivial, ?_⟩; gi_at_call 83; refine (callsIn_wide.2 (HC.out _ (by simp) (by simp) (by simp))).mono ?_; rintro e w' ⟨rfl, rfl⟩) | (gi_at_call 83; refine (callsIn_wide.2 (HC.out _ (by simp) (by simp) (by simp))).mono ?_; rintro e w' ⟨rfl, rfl⟩) | (refine hR.mono ?_; intro e W3 hc; obtain ⟨β, rfl, hβ⟩ := yes_no hc; clear hc))
        cases β with
        | true =>
          rw [if_pos rfl] at hβ
          obtain ⟨hJ3, hK3⟩ := hβ
          have hsz3 := hK3.1.size
          simp at hsz3
          gi_wp2
          refine ⟨⟨k + 1, by omega, by simp, by rw [HS.out, if_pos trivial]; exact hJ3, hK.trans (KpB.trans ⟨((Below.refl _ _).alloc (by omega) _).trans (below_drewN (Below.refl _ _) 1), fun u hu => cell_drewN (cell_past hu hbl1) 1⟩ hK3), by omega⟩, by simp [intOf]; omega⟩
        | false =>
          rw [if_neg (by decide)] at hβ
          gi_wp2
          refine bodyPost_ret (results_none rfl _ _ _) rfl ?_
          exact ⟨⟨_, rfl⟩, .inr ⟨_, ⟨k + 1, by omega, by rw [HS.out, if_pos trivial]⟩, hβ⟩⟩
      | false =>
        rw [hB] at HC HS
        gi_wp2
        refine wpIn_region_quiet_lit rfl (by kernel_rfl) (by kernel_rfl) ?_
        repeat (refine wpQuietIn_step (by first | exact wide_asked | quiet_asked_in) (fun K hK => ?_); go_simp; first | (refine hK _ ?_; clear hK K) | (apply Exists.intro; refine ⟨fun _ => ?_, hK _ ?_⟩; (gi_at_call 83; exact RS.quietIn (HC.out _ (by simp [go_sem]) (by simp [go_sem]) (by simp [go_sem]))); clear hK K))
        refine wpQuietIn_nil ?_
        rintro _ ⟨nq, rfl⟩
        gi_wp2
        refine ⟨⟨k + 1, by omega, by simp, by rw [HS.out, if_neg (by decide), List.append_nil]; exact HJ.out _ _ _ none (HJ.out _ _ _ none hJs (World.grownBy_alloc wr _ none) nofun) (grown_drewN _ _) nofun, hK.trans ⟨((Below.refl _ _).alloc (by omega) _).trans (below_drewN (Below.refl _ _) _), fun u hu => (cell_drewN (cell_past hu hbl1) _)⟩, by simp; omega⟩, by simp [intOf]; omega⟩
    · obtain rfl : k = bs.length := by omega
      gi_wp2
      go_end0
      exact ⟨⟨_, rfl⟩, .inl ⟨_, rfl, hJs⟩⟩
set_option maxRecDepth 100000 in
theorem with1_nil_in (n : Nat) (l Bx Bp : Nat) (a0 : Option Addr) (c0 : Nat) (p : Int) (J : List (Nat × Blk) → World → Prop) (W : World) (hx1 : W.cell? ⟨Bx, 1, none⟩ = some (.slice a0 0 c0)) (_hp : W.cell? ⟨Bp, 0, none⟩ = some (.int .i64 p)) (h0 : J [] W) :
    CallsIn Fence.wide n Try.prog 82 #[.func (.yield l) #[] #[], .pointer (some ⟨Bx, 0, none⟩), .pointer (some ⟨Bp, 0, none⟩)] W fun e W' => (∃ v, e = .returned v) ∧ J [] W' := by
  have hro : Fence.wide.round = none := rfl
  refine callsIn_of_wp Try.func82 rfl trivial ?_ hro
  simp only [Try.ntmps82, List.size_toArray, List.length_cons, List.length_nil, Nat.reduceAdd, Nat.reduceSub, Array.replicate_succ, Array.replicate_zero, List.push_toArray, List.append_toArray, List.nil_append, List.cons_append]
  gi_wp2
  gi_loopw [9] (fun i wr => i = .int .i64 0 ∧ J [] wr) (fun _ _ => 0)
  case atStart => exact ⟨rfl, h0⟩
  case round =>
    obtain ⟨rfl, hJs⟩ := hrel
    gi_wp2
    go_end0
    exact ⟨⟨_, rfl⟩, hJs⟩
/-- The encoding of a round's two variables. -/
def encQ (x : Nat × Blk) : Array Value := #[.int .i64 (x.1 : Int), bv x.2]
theorem with_stops (n : Nat) (hn : 1 ≤ n) (Bx Bp : Nat) (p : Int) (s : Value) (bs : List Blk) (w0 w : World) (hS : SB w0 s bs) (hb0 : Below w0.heap.size w0 w) (hx : w.cell? ⟨Bx, 1, none⟩ = some s) (hBx : Bx < w.heap.size)
    (hp : w.cell? ⟨Bp, 0, none⟩ = some (.int .i64 p)) (hBp : Bp < w.heap.size) :
    SeqStopsK Fence.wide n Try.prog 82 #[.pointer (some ⟨Bx, 0, none⟩), .pointer (some ⟨Bp, 0, none⟩)] encQ (KpB w0.heap.size Bp) (fun ys => ys = upTo p bs bs.length)
      (fun pre => ∃ k, k ≤ bs.length ∧ pre = upTo p bs k) bs.length w := fun l J Jx W hW hJ _ hY h0 => by
  have hx' := (hW.cell (p := ⟨Bx, 1, none⟩) hBx).trans hx
  have hp' := (hW.cell (p := ⟨Bp, 0, none⟩) hBp).trans hp
  have hsz := hW.size
  have hsz0 := hb0.size
  obtain ⟨_, hlen, hr⟩ := hS
  rcases hr with ⟨a0, c0, rfl, rfl⟩ | ⟨b, off, cap, rfl, hb, hbl⟩
  · exact (with1_nil_in n l Bx Bp a0 c0 p J W hx' hp' h0).mono fun e W' ⟨he, hj⟩ => ⟨he, .inl ⟨_, rfl, hj⟩⟩
  · refine with1_in n hn l Bx Bp w0.heap.size b off cap p bs hlen hb J Jx W hJ hY hx' hp' (hbl.below (hb0.trans (hW.mono hsz0)) hb) (by omega) (by omega) h0
end Go.Proofs.Ytmgpmcjbnooklaa

namespace Go.Proofs.Ytmgpmcjbnooklaa
open Go.RowKit Go.Maps Go.Shelf
theorem Boxed.below {W W' : World} {B n : Nat} {t : TypeId} {v : Value} (h : Boxed W B t v) (hb : Below n W W') (hl : B < n) : Boxed W' B t v := (hb.block B hl).trans h
/-- The world behind the five boxes. -/
def w5 (v : Int) (s : Value) (a b : Int) (w : World) : World := ((((w.alloc (.cells #[.int .i64 v, s] 31)).alloc (.cells #[.int .i64 a] 2)).alloc (.cells #[.int .i64 b] 2)).alloc (.cells #[.int .i64 0] 2)).alloc (.cells #[.int .i64 0] 2)
theorem w5_size (v : Int) (s : Value) (a b : Int) (w : World) : (w5 v s a b w).heap.size = w.heap.size + 1 + 1 + 1 + 1 + 1 := by simp [w5]
theorem w5_below (v : Int) (s : Value) (a b : Int) (w : World) : Below w.heap.size w (w5 v s a b w) :=
  (((((Below.refl _ _).alloc (Nat.le_refl _) _).alloc (by simp) _).alloc (by simp; omega) _).alloc (by simp; omega) _).alloc (by simp; omega) _
theorem boxes5 {v : Int} {s : Value} {a b : Int} {w w1 : World} (h : Below (w5 v s a b w).heap.size (w5 v s a b w) w1) :
    w1.cell? ⟨w.heap.size, 0, none⟩ = some (.int .i64 v) ∧ w1.cell? ⟨w.heap.size, 1, none⟩ = some s ∧ Boxed w1 (w.heap.size + 1) 2 (.int .i64 a) ∧ Boxed w1 (w.heap.size + 1 + 1) 2 (.int .i64 b) ∧
    Boxed w1 (w.heap.size + 1 + 1 + 1) 2 (.int .i64 0) ∧ Boxed w1 (w.heap.size + 1 + 1 + 1 + 1) 2 (.int .i64 0) ∧ w.heap.size + 1 + 1 + 1 + 1 < w1.heap.size ∧ Below w.heap.size w w1 := by
  have hs := h.size
  have hz := w5_size v s a b w
  have past : ∀ j u, (w.alloc (.cells #[.int .i64 v, s] 31)).cell? ⟨w.heap.size, j, none⟩ = some u → (w5 v s a b w).cell? ⟨w.heap.size, j, none⟩ = some u := fun j u e =>
    cell_past (cell_past (cell_past (cell_past e (by simp)) (by simp; omega)) (by simp; omega)) (by simp; omega)
  refine ⟨(h.cell (p := ⟨w.heap.size, 0, none⟩) (by show w.heap.size < _; omega)).trans (past 0 _ (new_at 0 rfl)), (h.cell (p := ⟨w.heap.size, 1, none⟩) (by show w.heap.size < _; omega)).trans (past 1 _ (new_at 1 rfl)), ?_, ?_, ?_, ?_, by omega, (w5_below v s a b w).trans (h.mono (by omega))⟩
  · refine Boxed.below ?_ h (by omega)
    have := (((Boxed.new (w.alloc (.cells #[.int .i64 v, s] 31)) 2 (.int .i64 a)).alloc (.cells #[.int .i64 b] 2)).alloc (.cells #[.int .i64 0] 2)).alloc (.cells #[.int .i64 0] 2)
    simpa [w5] using this
  · refine Boxed.below ?_ h (by omega)
    have := ((Boxed.new ((w.alloc (.cells #[.int .i64 v, s] 31)).alloc (.cells #[.int .i64 a] 2)) 2 (.int .i64 b)).alloc (.cells #[.int .i64 0] 2)).alloc (.cells #[.int .i64 0] 2)
    simpa [w5] using this
  · refine Boxed.below ?_ h (by omega)
    have := (Boxed.new (((w.alloc (.cells #[.int .i64 v, s] 31)).alloc (.cells #[.int .i64 a] 2)).alloc (.cells #[.int .i64 b] 2)) 2 (.int .i64 0)).alloc (.cells #[.int .i64 0] 2)
    simpa [w5] using this
  · refine Boxed.below ?_ h (by omega)
    have := Boxed.new ((((w.alloc (.cells #[.int .i64 v, s] 31)).alloc (.cells #[.int .i64 a] 2)).alloc (.cells #[.int .i64 b] 2)).alloc (.cells #[.int .i64 0] 2)) 2 (.int .i64 0)
    simpa [w5] using this
theorem areTwo_any (v a b : Int) (w : World) : Calls Try.prog 112 #[.int .i64 v, .int .i64 a, .int .i64 b] w (RS (.bool (inP v a && inP v b && !(a == b))) w) := by
  have HA := Lib.hid fun W => isPointI_any v a W
  have HB := Lib.hid fun W => isPointI_any v b W
  cases ha : inP v a with
  | false =>
    rw [ha] at HA
    clear ha HB
    go_enter Try.func112, Try.ntmps112
    go_wp2_with (go_at_call 87; refine (HA.out _).mono ?_; rintro e w2 ⟨rfl, rfl⟩)
    go_ret
    exact RS_of rfl
  | true =>
    rw [ha] at HA
    cases hb : inP v b with
    | false =>
      rw [hb] at HB
      clear ha hb
      go_enter Try.func112, Try.ntmps112
      go_wp2_with fail
      refine (HA.out _).mono ?_
      rintro e w2 ⟨rfl, rfl⟩
      go_wp2_with fail
      refine (HB.out _).mono ?_
      rintro e w2 ⟨rfl, rfl⟩
      go_wp2
      go_ret
      exact RS_of rfl
    | true =>
      rw [hb] at HB
      clear ha hb
      go_enter Try.func112, Try.ntmps112
      go_wp2_with fail
      refine (HA.out _).mono ?_
      rintro e w2 ⟨rfl, rfl⟩
      go_wp2_with fail
      refine (HB.out _).mono ?_
      rintro e w2 ⟨rfl, rfl⟩
      go_wp2
      go_ret
      exact RS_of (bool_eq (by simp [bne]))
set_option maxRecDepth 100000 in
theorem ThirdPoint_no (v : Int) (s : Value) (bs : List Blk) (a b : Int) (w : World) (h : SB w s bs) (hn : (isSysImpl v bs && (inP v a && inP v b && !(a == b))) = false) :
    Calls Try.prog 86 #[.agg #[.int .i64 v, s], .int .i64 a, .int .i64 b] w (RV (thirdV v bs a b) w) := by
  have hs := h.slice
  have HI := Lib.hid fun W (hb : Below w.heap.size w W) => IsSystem_any v s bs W (h.below hb (Nat.le_refl _))
  clear h
  obtain ⟨a0, c0, rfl⟩ := hs
  have hval : thirdV v bs a b = if isSysImpl v bs then (if inP v a && inP v b then (if a = b then .tuple #[.int .i64 0, .int .i64 2] else
      (match bs.find? (bothB a b) with | some x => .tuple #[.int .i64 (thirdOf x a b), .int .i64 0] | none => .tuple #[.int .i64 0, .int .i64 4]))
      else .tuple #[.int .i64 0, .int .i64 2]) else .tuple #[.int .i64 0, .int .i64 1] := rfl
  cases hi : isSysImpl v bs with
  | false =>
    rw [hi] at HI hval
    rw [if_neg (by decide)] at hval
    rw [hval]
    clear hval hn hi
    go_enter Try.func86, Try.ntmps86
    go_wp2_with (go_at_call 41; refine (HI.out (w5 v _ a b w) (w5_below _ _ _ _ _)).mono ?_; rintro e w1 ⟨rfl, hb1⟩; obtain ⟨q0, q1, b1, b2, b3, b4, hsz, hbw⟩ := boxes5 hb1; have q2 := b1.cell; have q3 := b2.cell; have q6 := b3.cell; have q7 := b4.cell; have f6 := b3.frozen; have f7 := b4.frozen)
    have c6 := ((b3.set (.int .i64 0)).other (B' := w.heap.size + 1 + 1 + 1 + 1) (by omega) (.int .i64 1)).cell
    have c7 := ((b4.other (B' := w.heap.size + 1 + 1 + 1) (by omega) (.int .i64 0)).set (.int .i64 1)).cell
    refine bodyPost_ret (v := .tuple #[.int .i64 0, .int .i64 1]) (by simp [results, Try.f86, go_sem, c6, c7]) rfl ?_
    exact RV_of rfl ((hbw.setCell (p := ⟨w.heap.size + 1 + 1 + 1, 0, none⟩) (by simp; omega) _).setCell (p := ⟨w.heap.size + 1 + 1 + 1 + 1, 0, none⟩) (by simp; omega) _)
  | true =>
    rw [hi] at HI hn
    clear hval
    have hn2 : (inP v a && inP v b && !(a == b)) = false := by simpa using hn
    have HT := Lib.hid fun W => areTwo_any v a b W
    rw [hn2] at HT
    have hval : thirdV v bs a b = .tuple #[.int .i64 0, .int .i64 2] := by
      unfold thirdV
      rw [if_pos hi]
      cases ha : inP v a <;> cases hb : inP v b <;> simp [ha, hb] at hn2 ⊢
      exact fun h => absurd hn2 h
    rw [hval]
    clear hval hn hn2 hi
    go_enter Try.func86, Try.ntmps86
    go_wp2_with (first | (go_at_call 41; refine (HI.out (w5 v _ a b w) (w5_below _ _ _ _ _)).mono ?_; rintro e w1 ⟨rfl, hb1⟩; obtain ⟨q0, q1, b1, b2, b3, b4, hsz, hbw⟩ := boxes5 hb1; have q2 := b1.cell; have q3 := b2.cell; have q6 := b3.cell; have q7 := b4.cell; have f6 := b3.frozen; have f7 := b4.frozen) | (go_at_call 112; refine (HT.out _).mono ?_; rintro e w2 ⟨rfl, rfl⟩))
    have c6 := ((b3.set (.int .i64 0)).other (B' := w.heap.size + 1 + 1 + 1 + 1) (by omega) (.int .i64 2)).cell
    have c7 := ((b4.other (B' := w.heap.size + 1 + 1 + 1) (by omega) (.int .i64 0)).set (.int .i64 2)).cell
    refine bodyPost_ret (v := .tuple #[.int .i64 0, .int .i64 2]) (by simp [results, Try.f86, go_sem, c6, c7]) rfl ?_
    exact RV_of rfl ((hbw.setCell (p := ⟨w.heap.size + 1 + 1 + 1, 0, none⟩) (by simp; omega) _).setCell (p := ⟨w.heap.size + 1 + 1 + 1 + 1, 0, none⟩) (by simp; omega) _)
end Go.Proofs.Ytmgpmcjbnooklaa

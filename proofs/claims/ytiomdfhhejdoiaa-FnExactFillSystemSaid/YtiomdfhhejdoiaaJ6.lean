
/- The pairs of a list of blocks, as a map. maps.Equal of two sets of pairs. Sets of blocks as maps: setOf, blocksIn, blocksWithout. impl.CommonBlocks answers as the plain function commonF. The model's ThirdPoint answers as the plain function thirdV. The model's ThirdPoint answers as the plain function thirdV. Slices of integers: equality of two that hold the same. The model's list of the blocks through a point. -/
import Derived.Test.YtiomdfhhejdoiaaJ5
import Derived.Lib.SlMapEqual
import Derived.Maps.RangeWalk
import Derived.Maps.OwnSet
import Derived.Deep.LoopGhost
import Derived.Deep.RegionWith
namespace Go.Proofs.Ytiomdfhhejdoiaa
open Go.RowKit Go.Maps
set_option maxRecDepth 100000 in
theorem pairsIn_any (s : Value) (bs : List Blk) (w : World) (h : SB w s bs) (hb : bs.length ≤ 100000) : Calls Try.prog 57 #[s] w fun e w' =>
    e = .returned (.map (some w.heap.size)) ∧ BoolSet w' Try.prog 75 4 w.heap.size (3 * bs.length) ((bs.flatMap pairsL).map pv) ∧ Below w.heap.size w w' := by
  have hs := h.slice
  obtain ⟨hwf, hlen, h3⟩ := h
  obtain ⟨a0, c0, rfl⟩ := hs
  have hmm := run_makeMap_hint (P := Try.prog) 71 75 4 .i64 (3 * (bs.length : Int)) Try.underlying71
  go_enter Try.func57, Try.ntmps57
  go_wp2
  go_loopw [14] (fun i wr => ∃ k : Nat, k ≤ bs.length ∧ i = .int .i64 k ∧ BoolSet wr Try.prog 75 4 w.heap.size (3 * k) (((bs.take k).flatMap pairsL).map pv) ∧ Below w.heap.size w wr) (fun i _ => bs.length - (intOf i).toNat)
  case atStart => exact ⟨0, Nat.zero_le _, rfl, BoolSet.made _ _ _ _, (Below.refl _ _).alloc (Nat.le_refl _) _⟩
  case round =>
    obtain ⟨k, hk, rfl, hS, hB⟩ := hrel
    have hsz := hB.size
    have hlt' := hS.lt
    by_cases hkl : k < bs.length
    · rcases h3 with ⟨_, _, _, hnil⟩ | ⟨b, off, cap, hval, hblt, hbl⟩
      · rw [hnil] at hkl; simp at hkl
      · simp at hval
        obtain ⟨rfl, rfl⟩ := hval
        obtain ⟨x, r, hx, e1, e2, e3, c1, c2, c3⟩ := blks_next (hbl.below hB hblt) hkl
        have E3 := Lib.hid e3
        clear e1 e2 e3 hbl
        obtain ⟨x1, x2, x3⟩ := x
        obtain ⟨g1, g2, g3⟩ := hwf _ hx
        obtain ⟨seen, hseen⟩ : ∃ l, l = (bs.take k).flatMap pairsL := ⟨_, rfl⟩
        rw [← hseen] at hS
        have HSN := Lib.hid hseen
        clear hseen hx
        obtain ⟨k1, hk1⟩ := pv_key g1 g2
        obtain ⟨k2, hk2⟩ := pv_key g1 g3
        obtain ⟨k3, hk3⟩ := pv_key g2 g3
        have HK1 := Lib.hid hk1
        have HK2 := Lib.hid hk2
        have HK3 := Lib.hid hk3
        clear hk1 hk2 hk3 g1 g2 g3
        have i0 : ∀ w, (Instr.index 76 (.agg #[.int .i64 x1, .int .i64 x2, .int .i64 x1, .int .i64 x3, .int .i64 x2, .int .i64 x3]) (.int .i64 0)).run Try.prog w = .ok (.agg #[.int .i64 x1, .int .i64 x2]) w := fun _ => by kernel_rfl
        have i1 : ∀ w, (Instr.index 76 (.agg #[.int .i64 x1, .int .i64 x2, .int .i64 x1, .int .i64 x3, .int .i64 x2, .int .i64 x3]) (.int .i64 1)).run Try.prog w = .ok (.agg #[.int .i64 x1, .int .i64 x3]) w := fun _ => by kernel_rfl
        have i2 : ∀ w, (Instr.index 76 (.agg #[.int .i64 x1, .int .i64 x2, .int .i64 x1, .int .i64 x3, .int .i64 x2, .int .i64 x3]) (.int .i64 2)).run Try.prog w = .ok (.agg #[.int .i64 x2, .int .i64 x3]) w := fun _ => by kernel_rfl
        go_wp2_with (go_at_call 59; refine (pairsOf_any ⟨x1, x2, x3⟩ _).mono ?_; rintro e w2 ⟨rfl, hb2⟩; unfold prsv; dsimp only; have hSx := (hS.alloc (.cells #[.int .i64 x1, .int .i64 x2, .int .i64 x3] 68)).below hb2 (by simp; omega); have hz2 := hb2.size; simp at hz2)
        refine wp_loop_rounds 4 ?_
        rw [rounds_succ]
        go_wp2_with (at_mapUpdate; refine wpList_put_set _ rfl _ _ _ 71 rfl 75 4 pairKeyed Try.underlying71 Try.underlying4 w.heap.size (3 * k + 0) (seen.map pv) rfl (hSx.alloc _) (by unfold maxLen; omega) (pv (x1, x2)) k1 rfl rfl HK1.out ?_; intro w3 hS3 hg3)
        rw [rounds_succ]
        go_wp2_with (at_mapUpdate; refine wpList_put_set _ rfl _ _ _ 71 rfl 75 4 pairKeyed Try.underlying71 Try.underlying4 w.heap.size (3 * k + 1) (seen.map pv ++ [pv (x1, x2)]) rfl (hS3.alloc _) (by unfold maxLen; omega) (pv (x1, x3)) k2 rfl rfl HK2.out ?_; intro w4 hS4 hg4)
        rw [rounds_succ]
        go_wp2_with (at_mapUpdate; refine wpList_put_set _ rfl _ _ _ 71 rfl 75 4 pairKeyed Try.underlying71 Try.underlying4 w.heap.size (3 * k + 2) (seen.map pv ++ [pv (x1, x2)] ++ [pv (x1, x3)]) rfl (hS4.alloc _) (by unfold maxLen; omega) (pv (x2, x3)) k3 rfl rfl HK3.out ?_; intro w5 hS5 hg5)
        rw [rounds_succ]
        go_wp2
        have hBx := hB.trans (((Below.refl _ _).alloc hsz _).trans (hb2.mono (by simp; omega)))
        have hB3 := (hBx.alloc (by omega) (.cells #[.int .i64 x1, .int .i64 x2] 75)).grown hg3 (by simp; omega) (fun j e => by cases e; exact Nat.le_refl _)
        have hB4 := (hB3.alloc hB3.size (.cells #[.int .i64 x1, .int .i64 x3] 75)).grown hg4 (by have := hB3.size; simp; omega) (fun j e => by cases e; exact Nat.le_refl _)
        have hB5 := (hB4.alloc hB4.size (.cells #[.int .i64 x2, .int .i64 x3] 75)).grown hg5 (by have := hB4.size; simp; omega) (fun j e => by cases e; exact Nat.le_refl _)
        have hfin : BoolSet w5 Try.prog 75 4 w.heap.size (3 * (k + 1)) (((bs.take (k + 1)).flatMap pairsL).map pv) := by
          rw [E3.out, List.flatMap_append, ← HSN.out]
          have e : (seen ++ [Blk.mk x1 x2 x3].flatMap pairsL).map pv = seen.map pv ++ [pv (x1, x2)] ++ [pv (x1, x3)] ++ [pv (x2, x3)] := by simp [pairsL]
          rw [e]
          exact hS5.mono (by omega)
        go_roundw
        case rel => exact ⟨k + 1, by omega, by go_num, hfin, hB5⟩
        case measure => simp [intOf]; omega
    · have e : k = bs.length := by omega
      subst e
      rw [List.take_length] at hS
      go_wp2
      go_ret
      exact ⟨rfl, hS, hB⟩
end Go.Proofs.Ytiomdfhhejdoiaa

namespace Go.Proofs.Ytiomdfhhejdoiaa
open Go.RowKit Go.Maps
theorem pv_of_key {key : Value} {kl : Lit} (h : keyOf Try.prog 75 key = some kl) : ∃ x : Int × Int, key = pv x ∧ WF x.1 ∧ WF x.2 := by
  obtain ⟨n, hn⟩ := typesSize
  have r2 : List.range 2 = [0, 1] := rfl
  cases key <;> simp [keyOf, Try.underlying75, pairT, Value.formed, pairCells, hn, Program.keyLits, int64Cells, Value.cells, r2] at h
  rename_i cs
  obtain ⟨hsz, ls, hls, _⟩ := h
  match cs, hsz with
  | ⟨[c0, c1]⟩, hsz2 =>
    clear hsz2
    cases c0 <;> simp at hls
    rename_i q0 x0
    by_cases h0 : q0 = IntKind.i64 ∧ (Lit.int IntKind.i64 x0).wf = true
    · obtain ⟨rfl, w0⟩ := h0
      simp [w0] at hls
      cases c1 <;> simp at hls
      rename_i q1 x1
      by_cases h1 : q1 = IntKind.i64 ∧ (Lit.int IntKind.i64 x1).wf = true
      · obtain ⟨rfl, w1⟩ := h1
        exact ⟨(x0, x1), rfl, w0, w1⟩
      · simp [h1] at hls
    · simp [h0] at hls
section
variable {P : Program} {k e : TypeId} {b n : Nat} {vs : List Value} {w : World}
/-- The keys of a set. -/
theorem BoolSet.has (h : BoolSet w P k e b n vs) (K : Keyed P k) {key : Value} {kl : Lit} (hkey : keyOf P k key = some kl) : Maps.has (setOf (H := Unit) (.lit (.bool true)) (vs.map (keyLit P k))) kl = true ↔ key ∈ vs := by
  have hkl : ∀ x ∈ vs.map (keyLit P k), WideAt.IsKeyLit x := fun x hx => by
    obtain ⟨y, hy, rfl⟩ := List.mem_map.1 hx
    exact K.key (h.keys y hy)
  rw [has_setOf _ _ _ hkl, List.any_eq_true]
  constructor
  · rintro ⟨x, hx, hs⟩
    obtain ⟨y, hy, rfl⟩ := List.mem_map.1 hx
    have e1 := WideAt.sameKey_eq hs
    rw [K.inj hkey ((h.keys y hy).trans (by rw [e1]))]
    exact hy
  · intro hx
    refine ⟨keyLit P k key, List.mem_map.2 ⟨key, hx, rfl⟩, ?_⟩
    have e1 : keyLit P k key = kl := by simp [keyLit, hkey]
    rw [e1]
    exact WideAt.sameKey_self (K.key hkey)
theorem BoolSet.elem (h : BoolSet w P k e b n vs) (K : Keyed P k) {key : Value} {kl : Lit} (hkey : keyOf P k key = some kl) {y : DataW Unit} (hat : ∀ zd, (setOf (H := Unit) (.lit (.bool true)) (vs.map (keyLit P k))).atKey kl zd = y) : key ∈ vs ∧ y = .lit (.bool true) := by
  have hkl : ∀ x ∈ vs.map (keyLit P k), WideAt.IsKeyLit x := fun x hx => by
    obtain ⟨y, hy, rfl⟩ := List.mem_map.1 hx
    exact K.key (h.keys y hy)
  have hin := (h.has K hkey).1 (has_true_of_atKey hat)
  refine ⟨hin, ?_⟩
  have e1 : keyLit P k key = kl := by simp [keyLit, hkey]
  rcases atKey_fold (.lit (.bool true)) .nil kl (vs.map (keyLit P k)) (.map []) isMap_empty hkl with ⟨_, h2⟩ | ⟨h1, _⟩
  · exact (hat .nil).symm.trans h2
  · exact absurd (List.mem_map.2 ⟨key, hin, e1⟩) h1
theorem addKey_len : ∀ (ls acc : List Lit), ls.Nodup → (∀ x ∈ ls, WideAt.IsKeyLit x) → (∀ x ∈ ls, x ∉ acc) → (ls.foldl addKey acc).length = acc.length + ls.length
  | [], acc, _, _, _ => by simp
  | x :: r, acc, hn, hk, hd => by
    rw [List.nodup_cons] at hn
    have e : addKey acc x = acc ++ [x] := by
      unfold addKey
      rw [if_neg]
      simp only [List.any_eq_true, not_exists, not_and]
      intro y hy hs
      exact hd x (by simp) (WideAt.sameKey_eq hs ▸ hy)
    rw [List.foldl_cons, e, addKey_len r _ hn.2 (fun y hy => hk y (by simp [hy])) (fun y hy => by
      simp only [List.mem_append, List.mem_singleton, not_or]
      exact ⟨hd y (by simp [hy]), fun e => hn.1 (e ▸ hy)⟩)]
    simp; omega
theorem BoolSet.size (h : BoolSet w P k e b n vs) (K : Keyed P k) (hn : vs.Nodup) : Maps.size (setOf (H := Unit) (.lit (.bool true)) (vs.map (keyLit P k))) = vs.length := by
  have hkl : ∀ x ∈ vs.map (keyLit P k), WideAt.IsKeyLit x := fun x hx => by
    obtain ⟨y, hy, rfl⟩ := List.mem_map.1 hx
    exact K.key (h.keys y hy)
  have hnd : (vs.map (keyLit P k)).Nodup := by
    refine List.pairwise_map.2 (hn.imp_of_mem fun {x y} hx hy hne e => hne ?_)
    exact K.inj (h.keys x hx) (by rw [e]; exact h.keys y hy)
  rw [size_setOf _ _ hkl, addKey_len _ _ hnd hkl (by simp)]
  simp
theorem BoolSet.look_ok (h : BoolSet w P k e b n vs) (K : Keyed P k) {t : TypeId} (ht : P.underlying t = some (.map k e)) (he : P.underlying e = some .bool) (hz : (zeroValue e).run P w = .ok (.bool false) w)
    {key : Value} {kl : Lit} (hkey : keyOf P k key = some kl) : ∃ β : Bool, (Instr.lookup t (.map (some b)) key true).run P w = .ok (.tuple #[.bool β, .bool β]) w ∧ (β = true ↔ key ∈ vs) := by
  obtain ⟨v, ps, hrun, hv⟩ := h.owns.look_ok K ht hz (plainElem_bool he false) hkey
  have hh := h.has K hkey
  have hkl : ∀ x ∈ vs.map (keyLit P k), WideAt.IsKeyLit x := fun x hx => by
    obtain ⟨y, hy, rfl⟩ := List.mem_map.1 hx
    exact K.key (h.keys y hy)
  have e1 : keyLit P k key = kl := by simp [keyLit, hkey]
  have hat := atKey_fold (.lit (.bool true)) (.lit (.bool false)) kl (vs.map (keyLit P k)) (.map []) isMap_empty hkl
  have e0 : (DataW.map (H := Unit) []).atKey kl (.lit (.bool false)) = .lit (.bool false) := atKey_of_not_has rfl _
  rw [e0] at hat
  refine ⟨Maps.has (setOf (H := Unit) (.lit (.bool true)) (vs.map (keyLit P k))) kl, ?_, hh⟩
  have hval : v = .bool (Maps.has (setOf (H := Unit) (.lit (.bool true)) (vs.map (keyLit P k))) kl) := by
    rcases hat with ⟨h1, h2⟩ | ⟨h1, h2⟩
    · have hin : key ∈ vs := by
        obtain ⟨y, hy, e2⟩ := List.mem_map.1 h1
        rw [K.inj hkey ((h.keys y hy).trans (by rw [e2]))]
        exact hy
      rw [hh.2 hin]
      rw [show (setOf (H := Unit) (.lit (.bool true)) (vs.map (keyLit P k))).atKey kl (.lit (.bool false)) = .lit (.bool true) from h2] at hv
      unfold plainElem at hv
      split at hv <;> simp_all
    · have hno : ¬ key ∈ vs := fun hin => h1 (List.mem_map.2 ⟨key, hin, e1⟩)
      have hf : Maps.has (setOf (H := Unit) (.lit (.bool true)) (vs.map (keyLit P k))) kl = false := by
        cases hc : Maps.has (setOf (H := Unit) (.lit (.bool true)) (vs.map (keyLit P k))) kl
        · rfl
        · exact absurd (hh.1 hc) hno
      rw [hf]
      rw [show (setOf (H := Unit) (.lit (.bool true)) (vs.map (keyLit P k))).atKey kl (.lit (.bool false)) = .lit (.bool false) from h2] at hv
      unfold plainElem at hv
      split at hv <;> simp_all
  rw [hrun, hval]
end
theorem wpList_look_set_ok {P : Program} (w : World) {ops : Array Oper} {rest : List Oper} {o : Oper} {a : Act} {Q : Exit → Act → World → Prop}
    (hg : o.guard = none) (m x : Operand) (t : TypeId) (hop : o.op = Op.lookup t m x true) (k e : TypeId) (K : Keyed P k) (ht : P.underlying t = some (.map k e)) (he : P.underlying e = some .bool)
    (hz : (zeroValue e).run P w = .ok (.bool false) w) (b n : Nat) (vs : List Value) (hm : a.eval m = .map (some b)) (hS : BoolSet w P k e b n vs) (key : Value) (kl : Lit) (hx : a.eval x = key) (hkey : keyOf P k key = some kl)
    (hK : ∀ β : Bool, Hid (β = true ↔ key ∈ vs) → wpList P ops Q rest (a.put o.dst (.tuple #[.bool β, .bool β])) w) : wpList P ops Q (o :: rest) a w := by
  refine wpList_plain hg fun K' hK' => ?_
  obtain ⟨β, hrun, hβ⟩ := hS.look_ok K ht he hz hkey
  unfold Oper.wp
  simp [execOp, hop, hm, hx, hrun, Result.andThen]
  exact hK' _ _ (hK β hβ)
theorem pv_mem {x : Int × Int} {ps : List (Int × Int)} : pv x ∈ ps.map pv ↔ x ∈ ps := ⟨fun h => by obtain ⟨y, hy, e⟩ := List.mem_map.1 h; rw [← pv_inj e]; exact hy, fun h => List.mem_map.2 ⟨x, h, rfl⟩⟩
theorem pv_nodup {ps : List (Int × Int)} (h : ps.Nodup) : (ps.map pv).Nodup := List.pairwise_map.2 (h.imp fun hne e => hne (pv_inj e))
/-- Returns v; what was there stays. -/
def GB (v : Value) (w : World) (e : Ending) (w' : World) : Prop := e = .returned v ∧ w.grownBy w' none
theorem GB_of {v u : Value} {w w' : World} (h : u = v) (hg : w.grownBy w' none) : GB v w (.returned u) w' := ⟨by rw [h], hg⟩
/-- As many, and those of the first are in the second. -/
def subP (ps qs : List (Int × Int)) : Bool := decide (ps.length = qs.length) && ps.all fun p => decide (p ∈ qs)
theorem mapPB : Try.prog.underlying 71 = some (.map 75 4) := Try.underlying71
end Go.Proofs.Ytiomdfhhejdoiaa

namespace Go.Proofs.Ytiomdfhhejdoiaa
open Go.RowKit Go.Maps
/-- The blocks as a map's keys. -/
def BSet (w : World) (b n : Nat) (cs : List Blk) : Prop := BoolSet w Try.prog 68 4 b n (cs.map bv)
/-- Returns new blocks. -/
def RA (bs : List Blk) (w : World) (e : Ending) (w' : World) : Prop := ∃ u, e = .returned u ∧ OwnR w' w.heap.size u bs ∧ Below w.heap.size w w'
theorem bv_mem {x : Blk} {cs : List Blk} : bv x ∈ cs.map bv ↔ x ∈ cs := ⟨fun h => by obtain ⟨y, hy, e⟩ := List.mem_map.1 h; rw [← bv_inj e]; exact hy, fun h => List.mem_map.2 ⟨x, h, rfl⟩⟩
theorem BSet.below {w w' : World} {b n B : Nat} {cs : List Blk} (h : BSet w b n cs) (hb : Below B w w') (hB : w.heap.size ≤ B) : BSet w' b n cs := BoolSet.below h hb (Nat.lt_of_lt_of_le (BoolSet.lt h) hB)
end Go.Proofs.Ytiomdfhhejdoiaa

namespace Go.Proofs.Ytiomdfhhejdoiaa
open Go.RowKit Go.Maps
end Go.Proofs.Ytiomdfhhejdoiaa

namespace Go.Proofs.Ytiomdfhhejdoiaa
open Go.RowKit Go.Maps
set_option maxRecDepth 100000 in
theorem l01With_any (x : Blk) (p : Int) (w : World) : Calls Try.prog 74 #[bv x, .int .i64 p] w (RV (.bool (hasB x p)) w) := by
  obtain ⟨a, b, c⟩ := x
  unfold bv
  dsimp only
  by_cases h1 : a = p
  · have e1 : (a == p) = true := by simp [h1]
    have H1 := Lib.hid h1
    clear h1
    go_enter Try.func74, Try.ntmps74
    go_wp2
    go_ret
    exact RV_of (bool_eq (by simp [hasB, H1.out])) ((Below.refl _ _).alloc (Nat.le_refl _) _)
  · have e1 : (a == p) = false := by simp [h1]
    have H1 := Lib.hid h1
    clear h1
    by_cases h2 : b = p
    · have e2 : (b == p) = true := by simp [h2]
      have H2 := Lib.hid h2
      clear h2
      go_enter Try.func74, Try.ntmps74
      go_wp2
      go_ret
      exact RV_of (bool_eq (by simp [hasB, H2.out])) ((Below.refl _ _).alloc (Nat.le_refl _) _)
    · have e2 : (b == p) = false := by simp [h2]
      have H2 := Lib.hid h2
      clear h2
      go_enter Try.func74, Try.ntmps74
      go_wp2
      go_ret
      exact RV_of (bool_eq (by rw [Bool.eq_iff_iff]; simp [hasB, H1.out, H2.out])) ((Below.refl _ _).alloc (Nat.le_refl _) _)

set_option maxRecDepth 100000 in
theorem l01Third_any (v : Int) (s : Value) (bs : List Blk) (a b : Int) (w : World) (h : SB w s bs) (hg : ∀ x ∈ bs, goodB v x = true) (hv : v ≤ 15) (ha : 0 ≤ a) (ha' : a ≤ 15) (hb : 0 ≤ b) (hb' : b ≤ 15) :
    Calls Try.prog 105 #[.agg #[.int .i64 v, s], .int .i64 a, .int .i64 b] w (RV (.int .i64 (third1 bs a b)) w) := by
  have hs := h.slice
  have H := Lib.hid h
  have HG := Lib.hid hg
  have hl := h.2.1
  clear h hg
  obtain ⟨a0, c0, rfl⟩ := hs
  go_enter Try.func105, Try.ntmps105
  go_wp2
  go_loopw [7] (fun i wr => ∃ k : Nat, k ≤ bs.length ∧ i = .int .i64 k ∧ Below (w.heap.size + 1) (w.alloc (.cells #[.int .i64 v, .slice a0 bs.length c0] 31)) wr ∧ Hid ((bs.take k).find? (bothB a b) = none)) (fun i _ => bs.length - (intOf i).toNat)
  case atStart => exact ⟨0, Nat.zero_le _, rfl, Below.refl _ _, Lib.hid (by simp)⟩
  case round =>
    obtain ⟨k, hk, rfl, hB, HN⟩ := hrel
    have hz := hB.size
    simp at hz
    have p1 : wr.cell? ⟨w.heap.size, 1, none⟩ = some (.slice a0 bs.length c0) := by rw [hB.cell (by simp)]; simp
    have hBw : Below w.heap.size w wr := ((Below.refl _ _).alloc (Nat.le_refl _) _).trans (hB.mono (by omega))
    by_cases hkl : k < bs.length
    · rcases H.out.2.2 with ⟨_, _, _, hnil⟩ | ⟨bb, off, cap, hval, hblt, hbl⟩
      · rw [hnil] at hkl; simp at hkl
      · simp at hval
        obtain ⟨rfl, rfl⟩ := hval
        obtain ⟨x, hx, ex, x1, x2, x3⟩ := blks_at (hbl.below hBw hblt) hkl
        have hgx := HG.out x hx
        rw [goodB_iff] at hgx
        obtain ⟨b1, b2, b3, b4⟩ := hgx
        have hn := find_next hkl ex HN.out
        have hw1 := l01With_any x a
        have hw2 := l01With_any x b
        have hth : third1 bs a b = (match bs.find? (bothB a b) with | some x => thirdOf x a b | none => -1) := rfl
        have hbo : bothB a b x = (hasB x a && hasB x b) := rfl
        have htx : thirdOf x a b = x.a + x.b + x.c - a - b := rfl
        obtain ⟨p, q, r⟩ := x
        dsimp only at x1 x2 x3 b1 b2 b3 b4 htx
        have g0 : (0 : Int) ≤ (k : Int) := by omega
        have g1 : (k : Int) < (bs.length : Int) := by omega
        have HNX := Lib.hid hn
        have HTH := Lib.hid hth
        have HTX := Lib.hid htx
        clear hbl hx ex hn hth htx
        cases h1 : hasB ⟨p, q, r⟩ a with
        | false =>
          rw [h1] at hw1 hbo
          have HW1 := Lib.hid hw1
          have HBO := Lib.hid hbo
          clear hw1 hw2 h1 hbo
          go_wp2_with (go_at_call 74; refine (HW1.out _).mono ?_; rintro e w1 ⟨rfl, hb1⟩)
          go_roundw
          case rel => exact ⟨k + 1, by omega, by go_num, (hB.alloc (by omega) _).trans (hb1.mono (by simp; omega)), Lib.hid (HNX.out.2 (by rw [HBO.out]; rfl))⟩
          case measure => simp [intOf]; omega
        | true =>
          rw [h1] at hw1 hbo
          have HW1 := Lib.hid hw1
          clear hw1 h1
          cases h2 : hasB ⟨p, q, r⟩ b with
          | false =>
            rw [h2] at hw2 hbo
            have HW2 := Lib.hid hw2
            have HBO := Lib.hid hbo
            clear hw2 h2 hbo
            go_wp2_with fail
            refine (HW1.out _).mono ?_
            rintro e w1 ⟨rfl, hb1⟩
            have d1 := cell_new hb1 0 rfl
            have d2 := cell_new hb1 1 rfl
            have d3 := cell_new hb1 2 rfl
            have z1 := hb1.size
            simp at z1
            go_wp2_with (go_at_call 74; refine (HW2.out _).mono ?_; rintro e w2 ⟨rfl, hb2⟩)
            go_roundw
            case rel => exact ⟨k + 1, by omega, by go_num, ((hB.alloc (by omega) _).trans (hb1.mono (by simp; omega))).trans (hb2.mono (by omega)), Lib.hid (HNX.out.2 (by rw [HBO.out]; rfl))⟩
            case measure => simp [intOf]; omega
          | true =>
            rw [h2] at hw2 hbo
            have HW2 := Lib.hid hw2
            have HBO := Lib.hid hbo
            clear hw2 h2 hbo
            go_wp2_with fail
            refine (HW1.out _).mono ?_
            rintro e w1 ⟨rfl, hb1⟩
            have d1 := cell_new hb1 0 rfl
            have d2 := cell_new hb1 1 rfl
            have d3 := cell_new hb1 2 rfl
            have z1 := hb1.size
            simp at z1
            go_wp2_with (go_at_call 74; refine (HW2.out _).mono ?_; rintro e w2 ⟨rfl, hb2⟩; have e1 := (hb2.cell (p := ⟨wr.heap.size, 0, none⟩) (by show wr.heap.size < _; omega)).trans d1; have e2 := (hb2.cell (p := ⟨wr.heap.size, 1, none⟩) (by show wr.heap.size < _; omega)).trans d2; have e3 := (hb2.cell (p := ⟨wr.heap.size, 2, none⟩) (by show wr.heap.size < _; omega)).trans d3)
            go_ret
            refine RV_of (int_eq ?_) (((hBw.alloc (by omega) _).trans (hb1.mono (by simp; omega))).trans (hb2.mono (by omega)))
            rw [HTH.out, HNX.out.1 (by rw [HBO.out]; rfl)]
            exact HTX.out.symm
    · go_wp2
      go_ret
      have e : k = bs.length := by omega
      subst e
      refine RV_of (int_eq ?_) hBw
      have := HN.out
      rw [List.take_length] at this
      unfold third1
      rw [this]
end Go.Proofs.Ytiomdfhhejdoiaa

namespace Go.Proofs.Ytiomdfhhejdoiaa
open Go.RowKit Go.Maps
def pointsCode (v : Int) (bs : List Blk) (ps : List Int) : Int := if isSysImpl v bs then (if ps.all (inP v) then 0 else 2) else 1
theorem RS.quiet2 {P : Program} {f : FuncId} {args : Array Value} {w : World} {a n : Nat} {v : Value} (h : Calls P f args (w.drewN (a + n)) (RS v (w.drewN (a + n)))) :
    Calls P f args (w.drewN (a + n)) fun e w'' => e = .returned v ∧ ∃ m, w'' = w.drewN (a + m) :=
  h.mono fun _ _ ⟨he, hm⟩ => ⟨he, n, hm.symm⟩
theorem Ints.below {w w' : World} {b off B : Nat} {zs : List Int} (h : Ints w b off zs) (hb : Below B w w') (hl : b < B) : Ints w' b off zs := fun k hk => (hb.cell (p := ⟨b, off + k, none⟩) hl).trans (h k hk)
theorem ints2 {w : World} {b : Nat} {x y : Int} (h0 : w.cell? ⟨b, 0, none⟩ = some (.int .i64 x)) (h1 : w.cell? ⟨b, 1, none⟩ = some (.int .i64 y)) : Ints w b 0 [x, y] := by
  intro k hk
  match k, hk with
  | 0, _ => simpa using h0
  | 1, _ => simpa using h1
end Go.Proofs.Ytiomdfhhejdoiaa

namespace Go.Proofs.Ytiomdfhhejdoiaa
open Go.RowKit Go.Maps
/-- The value is a slice of just these integers. -/
def IB (w : World) (s : Value) (zs : List Int) : Prop :=
  zs.length ≤ 1100000 ∧ ((∃ a c, s = .slice a 0 c ∧ zs = []) ∨ ∃ b off cap, s = .slice (some ⟨b, off, none⟩) zs.length cap ∧ b < w.heap.size ∧ Ints w b off zs)
theorem IB.below {w w' : World} {s : Value} {zs : List Int} (h : IB w s zs) {B : Nat} (hb : Below B w w') (hB : w.heap.size ≤ B) : IB w' s zs := by
  obtain ⟨h1, h2⟩ := h
  refine ⟨h1, ?_⟩
  rcases h2 with h2 | ⟨b, off, cap, rfl, hl, hr⟩
  · exact .inl h2
  · exact .inr ⟨b, off, cap, rfl, by have := hb.size; omega, hr.below hb (by omega)⟩
theorem OwnI.ib {W : World} {base : Nat} {u : Value} {zs : List Int} (h : OwnI W base u (zs.map (Value.int .i64))) (hl : zs.length ≤ 1100000) : IB W u zs := by
  obtain ⟨⟨_, h | ⟨g, cap, cur, rfl, hb, hcur, hn, hc, hsz, hx⟩⟩, _⟩ := h
  · obtain ⟨rfl, h0⟩ := h
    refine ⟨hl, .inl ⟨_, _, rfl, ?_⟩⟩
    rw [List.length_map] at h0
    exact List.length_eq_zero_iff.1 h0
  · refine ⟨hl, .inr ⟨g, 0, cap, by rw [List.length_map], (Array.getElem?_eq_some_iff.1 hcur).1, fun k hk => ?_⟩⟩
    have e : (zs.map (Value.int .i64))[k]? = some (.int .i64 (zs[k]?.getD 0)) := by simp [hk]
    rw [← hx, List.getElem?_take_of_lt (by rw [List.length_map]; omega)] at e
    rw [Nat.zero_add]
    simp [World.cell?, hcur]
    simpa using e
set_option maxRecDepth 100000 in
theorem eqInt64S_same (s t : Value) (zs : List Int) (w : World) (h : IB w s zs) (k : IB w t zs) : Calls Try.prog 16 #[s, t] w (RV (.bool true) w) := by
  have hlen := h.1
  rcases h.2 with ⟨a0, c0, rfl, rfl⟩ | ⟨b, off, cap, rfl, hb, hB⟩
  · rcases k.2 with ⟨a1, c1, rfl, _⟩ | ⟨b', off', cap', rfl, hb', hB'⟩
    all_goals
      clear hlen h k
      go_enter Try.func16, Try.ntmps16
      go_wp2
      refine wp_loop_rounds 1 ?_
      rw [rounds_succ]
      go_wp2
      go_ret
      exact RV_of rfl (Below.refl _ _)
  · by_cases h0 : zs.length = 0
    · rcases k.2 with ⟨a1, c1, rfl, rfl⟩ | ⟨b', off', cap', rfl, hb', hB'⟩
      all_goals
        try rw [h0]
        clear hlen h k
        go_enter Try.func16, Try.ntmps16
        go_wp2
        refine wp_loop_rounds 1 ?_
        rw [rounds_succ]
        go_wp2
        go_ret
        exact RV_of rfl (Below.refl _ _)
    · rcases k.2 with ⟨a1, c1, rfl, rfl⟩ | ⟨b', off', cap', rfl, hb', hB'⟩
      · exact absurd rfl h0
      · have HB := Lib.hid hB
        have HB' := Lib.hid hB'
        clear hB hB' h k h0
        have hne : (((zs.length : Nat) : Int) != (zs.length : Nat)) = false := by simp
        go_enter Try.func16, Try.ntmps16
        go_wp2
        go_loopw [5] (fun i wr => ∃ k : Nat, k ≤ zs.length ∧ i = .int .i64 k ∧ Below w.heap.size w wr) (fun i _ => zs.length - (intOf i).toNat)
        case atStart => exact ⟨0, Nat.zero_le _, rfl, Below.refl _ _⟩
        case round =>
          obtain ⟨k, hk, rfl, hBw⟩ := hrel
          by_cases hkl : k < zs.length
          · have q1 := (hBw.cell (p := ⟨b, off + k, none⟩) hb).trans (HB.out k hkl)
            have q2 := (hBw.cell (p := ⟨b', off' + k, none⟩) hb').trans (HB'.out k hkl)
            obtain ⟨z, hz⟩ : ∃ z, z = zs[k]?.getD 0 := ⟨_, rfl⟩
            rw [← hz] at q1 q2
            clear hz
            have r1 := cell_regrown q1
            have r2 := cell_regrown q2
            clear q1 q2
            have g0 : (0 : Int) ≤ (k : Int) := by omega
            have g1 : (k : Int) < (zs.length : Int) := by omega
            have hzz : (z != z) = false := by simp
            go_wp2
            refine wp_region_quiet_below (by kernel_rfl) (by kernel_rfl) ?_
            repeat (go_big_quiet_step (fail))
            refine wpQuiet_nil ?_
            intro _ hw'
            obtain ⟨⟨dq, osq⟩, hw''⟩ := hw'
            subst hw''
            go_wp2
            go_roundw
            case rel => exact ⟨k + 1, by omega, by go_num, hBw.trans ((below_regrown _ dq osq).mono hBw.size)⟩
            case measure => simp [intOf]; omega
          · go_wp2
            go_ret
            exact RV_of rfl hBw
end Go.Proofs.Ytiomdfhhejdoiaa

namespace Go.Proofs.Ytiomdfhhejdoiaa
open Go.RowKit Go.Maps
/-- The value owns a row of just these integers, beyond base. -/
def OwnJ (W : World) (base : Nat) (u : Value) (zs : List Int) : Prop := W.ownsRow base 2 1 u zs.length (zs.map (Value.int .i64))
theorem OwnJ.kept {w w' : World} {base : Nat} {v : Value} {bs : List Int} {row : Option Nat} (h : OwnJ w base v bs) (hg : w.grownBy w' row) (hr : ∀ r, row = some r → r < base) : OwnJ w' base v bs := by
  obtain ⟨hl, h | ⟨g, cap, cur, rfl, hb, hcur, hrest⟩⟩ := h
  · exact ⟨hl, .inl h⟩
  · exact ⟨hl, .inr ⟨g, cap, cur, rfl, hb, (hg.block g (Array.getElem?_eq_some_iff.1 hcur).1 (fun e => by have := hr g e.symm; omega)).trans hcur, hrest⟩⟩
theorem OwnJ.below {w w' : World} {base : Nat} {v : Value} {bs : List Int} (h : OwnJ w base v bs) {B : Nat} (hb : Below B w w') (hB : w.heap.size ≤ B) : OwnJ w' base v bs :=
  h.kept (only_of_below (hb.mono hB) none) (by simp)
theorem OwnJ.row {w : World} {base : Nat} {v : Value} {bs : List Int} (h : OwnJ w base v bs) : ∀ r, v.ownBlock = some r → base ≤ r := fun r hr => by
  rcases h.2 with ⟨rfl, _⟩ | ⟨g, cap, cur, rfl, hb, _⟩
  · simp [Value.ownBlock] at hr
  · obtain rfl : g = r := by simpa [Value.ownBlock] using hr
    exact hb
theorem OwnJ.ib {W : World} {base : Nat} {u : Value} {zs : List Int} (h : OwnJ W base u zs) (hl : zs.length ≤ 1100000) : IB W u zs := by
  obtain ⟨_, h | ⟨g, cap, cur, rfl, hb, hcur, hn, hc, hsz, hx⟩⟩ := h
  · obtain ⟨rfl, h0⟩ := h
    exact ⟨hl, .inl ⟨_, _, rfl, List.length_eq_zero_iff.1 h0⟩⟩
  · refine ⟨hl, .inr ⟨g, 0, cap, rfl, (Array.getElem?_eq_some_iff.1 hcur).1, fun k hk => ?_⟩⟩
    have e : (zs.map (Value.int .i64))[k]? = some (.int .i64 (zs[k]?.getD 0)) := by simp [hk]
    rw [← hx, List.getElem?_take_of_lt (by omega)] at e
    rw [Nat.zero_add]
    simp [World.cell?, hcur]
    simpa using e
theorem wpList_append_int {w : World} {ops : Array Oper} {rest : List Oper} {o : Oper} {a : Act} {Q : Exit → Act → World → Prop} (hgd : o.guard = none) (s x : Operand)
    (ho : o.op = .call { callee := .builtin .append, args := #[s, x], argTypes := #[26, 26] })
    (base : Nat) (v : Value) (zs : List Int) (hs : a.eval s = v) (hown : OwnJ w base v zs) (b0 c : Nat) (y : Int) (hx : a.eval x = .slice (some ⟨b0, 0, none⟩) 1 c)
    (c1 : w.cell? ⟨b0, 0, none⟩ = some (.int .i64 y)) (hl : zs.length ≤ 1100000) (hbase : base ≤ w.heap.size)
    (h : ∀ (g cap : Nat) (w' : World), OwnJ w' base (.slice (some ⟨g, 0, none⟩) (zs.length + 1) cap) (zs ++ [y]) → w.grownBy w' v.ownBlock → wpList Try.prog ops Q rest (a.put o.dst (.slice (some ⟨g, 0, none⟩) (zs.length + 1) cap)) w') : wpList Try.prog ops Q (o :: rest) a w := by
  obtain ⟨i0, hi, hz0, hz1, hz2⟩ := info_parts infoInt64
  refine wpList_append_own w hgd s x 26 ho base 2 i0 _ 1 8 Try.underlying26 hi hz0 hz1 hz2 rfl (by decide) v zs.length (zs.map (Value.int .i64)) hs hown ⟨b0, 0, none⟩ 1 c [.int .i64 y] hx rfl ?_ ?_ (by unfold maxLen; omega) (by omega) hbase ?_
  · intro j u hj
    rw [addr_at, Nat.zero_add]
    match j, hj with
    | 0, hj => simp at hj; rw [← hj]; exact c1
    | j + 1, hj => simp at hj
  · intro u hu
    simp at hu
    rw [hu]
    rfl
  · intro v' w' hown' hg _
    obtain ⟨g, cap, rfl⟩ := row_some hown'
    refine h g cap w' ?_ hg
    unfold OwnJ
    rw [List.length_append, List.length_singleton, List.map_append, List.map_singleton]
    exact hown'
theorem OwnJ.new0 (W : World) {base : Nat} (hb : base ≤ W.heap.size) : OwnJ (W.alloc (.cells #[] 2)) base (.slice (some ⟨W.heap.size, 0, none⟩) 0 0) [] :=
  ⟨rfl, .inr ⟨W.heap.size, 0, #[], rfl, hb, World.alloc_heap_new W _, Nat.le_refl _, Nat.zero_le _, rfl, rfl⟩⟩
/-- The indices of the blocks through p among the first k. -/
def idxI (p : Int) (bs : List Blk) (k : Nat) : List Int := (upTo p bs k).map fun q => (q.1 : Int)
theorem idxI_succ (p : Int) (bs : List Blk) (k : Nat) : idxI p bs (k + 1) = idxI p bs k ++ if hasB (bs[k]?.getD default) p then [(k : Int)] else [] := by
  unfold idxI
  rw [upTo_succ, List.map_append]
  congr 1
  split <;> rfl
theorem idxI_len (p : Int) (bs : List Blk) (k : Nat) : (idxI p bs k).length ≤ k := by
  unfold idxI
  rw [List.length_map]
  exact upTo_len p bs k
set_option maxRecDepth 100000 in
theorem l01At_any (v : Int) (s : Value) (bs : List Blk) (p : Int) (w : World) (h : SB w s bs) :
    Calls Try.prog 46 #[.agg #[.int .i64 v, s], .int .i64 p] w fun e w' => ∃ u, e = .returned u ∧ OwnJ w' w.heap.size u (idxI p bs bs.length) ∧ Below w.heap.size w w' := by
  have hs := h.slice
  have H := Lib.hid h
  have hl := h.2.1
  clear h
  obtain ⟨a0, c0, rfl⟩ := hs
  go_enter Try.func46, Try.ntmps46
  go_wp2
  have ho0 := OwnJ.new0 (w.alloc (.cells #[.int .i64 v, .slice a0 bs.length c0] 31)) (base := w.heap.size + 1) (by simp)
  rw [World.size_alloc] at ho0
  obtain ⟨w2, hw2⟩ : ∃ w2, (w.alloc (.cells #[.int .i64 v, .slice a0 bs.length c0] 31)).alloc (.cells #[] 2) = w2 := ⟨_, rfl⟩
  have hB0 : Below w.heap.size w w2 := by rw [← hw2]; exact ((Below.refl _ _).alloc (Nat.le_refl _) _).alloc (by simp) _
  have hz2 : w2.heap.size = w.heap.size + 1 + 1 := by rw [← hw2]; simp
  have hc2 : w2.cell? ⟨w.heap.size, 1, none⟩ = some (.slice a0 bs.length c0) := by rw [← hw2]; exact cell_past (new_at 1 rfl) (by simp)
  rw [hw2] at ho0 ⊢
  have HO0 := Lib.hid ho0
  clear hw2 ho0
  go_loopw [5, 6] (fun o i wr => ∃ k : Nat, k ≤ bs.length ∧ i = .int .i64 k ∧ Below (w.heap.size + 1) w2 wr ∧ OwnJ wr (w.heap.size + 1) o (idxI p bs k) ∧ ∃ a n c, o = .slice a n c) (fun _ i _ => bs.length - (intOf i).toNat)
  case atStart => exact ⟨0, Nat.zero_le _, rfl, Below.refl _ _, HO0.out, _, _, _, rfl⟩
  case round =>
    obtain ⟨k, hk, rfl, hB, hO, hform⟩ := hrel
    have hz := hB.size
    have p1 : wr.cell? ⟨w.heap.size, 1, none⟩ = some (.slice a0 bs.length c0) := by rw [hB.cell (by simp)]; exact hc2
    have hBw : Below w.heap.size w wr := hB0.trans (hB.mono (by omega))
    obtain ⟨a3, n3, c3, rfl⟩ := hform
    have HO := Lib.hid hO
    clear hO
    by_cases hkl : k < bs.length
    · rcases H.out.2.2 with ⟨_, _, _, hnil⟩ | ⟨bb, off, cap, hval, hblt, hbl⟩
      · rw [hnil] at hkl; simp at hkl
      · simp at hval
        obtain ⟨rfl, rfl⟩ := hval
        obtain ⟨x1, x2, x3⟩ := (hbl.below hBw hblt) k hkl
        obtain ⟨x, hx⟩ : ∃ x, x = bs[k]?.getD default := ⟨_, rfl⟩
        have hsucc := idxI_succ p bs k
        rw [← hx] at x1 x2 x3 hsucc
        have hlen := idxI_len p bs k
        have hw1 := l01With_any x p
        clear hbl hx
        obtain ⟨y1, y2, y3⟩ := x
        dsimp only [bv] at x1 x2 x3 hw1
        have g0 : (0 : Int) ≤ (k : Int) := by omega
        have g1 : (k : Int) < (bs.length : Int) := by omega
        cases h1 : hasB ⟨y1, y2, y3⟩ p with
        | false =>
          rw [h1] at hw1 hsucc
          have HW1 := Lib.hid hw1
          have HS := Lib.hid hsucc
          clear hw1 h1 hsucc
          go_wp2_with (go_at_call 74; refine (HW1.out _).mono ?_; rintro e w1 ⟨rfl, hb1⟩)
          go_roundw
          case rel => exact ⟨k + 1, by omega, by go_num, hB.trans (hb1.mono (by omega)), by rw [HS.out, if_neg (by decide), List.append_nil]; exact HO.out.below hb1 (Nat.le_refl _), _, _, _, rfl⟩
          case measure => simp [intOf]; omega
        | true =>
          rw [h1, if_pos rfl] at hsucc
          rw [h1] at hw1
          have HW1 := Lib.hid hw1
          have HS := Lib.hid hsucc
          clear hw1 h1 hsucc
          go_wp2_with fail
          refine (HW1.out _).mono ?_
          rintro e w1 ⟨rfl, hb1⟩
          have hz1 := hb1.size
          have HO1 := Lib.hid (HO.out.below hb1 (Nat.le_refl _))
          go_wp2_with (at_builtin; refine wpList_append_int rfl _ _ rfl (w.heap.size + 1) _ (idxI p bs k) rfl (HO1.out.below ((Below.refl _ _).alloc (Nat.le_refl _) _) (Nat.le_refl _)) _ _ (k : Int) rfl (by simp [go_sem]) (by omega) (by simp; omega) ?_; intro g' cap' w4 hO4 hg4)
          have hrow := HO1.out.row
          have hgo : w1.grownBy w4 (Value.slice a3 n3 c3).ownBlock := ⟨hg4.os, hg4.tape, hg4.output, by have := hg4.size; simp at this; omega, fun i hi hne => by
            rw [hg4.block i (by simp; omega) hne, Below.heap_alloc _ _ _ hi]⟩
          clear hg4
          have hB1 := hB.trans (hb1.mono (by omega))
          go_roundw
          case rel => exact ⟨k + 1, by omega, by go_num, hB1.grown hgo (by omega) (fun j e => hrow j e), by rw [HS.out]; exact hO4, _, _, _, rfl⟩
          case measure => simp [intOf]; omega
    · go_wp2
      go_ret
      have e : k = bs.length := by omega
      subst e
      exact ⟨_, rfl, ownsRow_base HO.out (by omega), hBw⟩
end Go.Proofs.Ytiomdfhhejdoiaa

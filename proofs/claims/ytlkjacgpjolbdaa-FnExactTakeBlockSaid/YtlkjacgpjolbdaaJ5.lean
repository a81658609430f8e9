
/- The model's list of the blocks through a point. BlocksAt: the program and the model answer alike. Marking and holding rows of integers. What a law over two systems knows of the memory between two of its steps. What a law over one system whose result is a list of integers knows of the memory between two of its steps. What a law over one system whose result is a system knows of the memory between two of its steps. The law FnExactTakeBlock returns true. How the laws' arguments are read. The dump's head word by word, cheaply: what every row asks of it. -/
import Derived.Test.YtlkjacgpjolbdaaJ4
import Derived.Deep.RegionWith
import Derived.Deep.DeepCutAuto
import Derived.Test.YtlkjacgpjolbdaaRows
import Derived.ProofKit
import Derived.OpenShut
import Derived.Deep.Slices
import Derived.Lib.SmallJoins
import Derived.ChangeOld
namespace Go.Proofs.Ytlkjacgpjolbdaa
open Go.RowKit Go.Maps
/-- The value owns a row of just these integers, beyond base. -/
def OwnJ (W : World) (base : Nat) (u : Value) (zs : List Int) : Prop := W.ownsRow base 2 1 u zs.length (zs.map (Value.int .i64))
theorem OwnJ.kept {w w' : World} {base : Nat} {v : Value} {bs : List Int} {row : Option Nat} (h : OwnJ w base v bs) (hg : w.grownBy w' row) (hr : ∀ r, row = some r → r < base) : OwnJ w' base v bs := by
  obtain ⟨hl, h | ⟨g, cap, cur, rfl, hb, hcur, hrest⟩⟩ := h
  · exact ⟨hl, .inl h⟩
  · exact ⟨hl, .inr ⟨g, cap, cur, rfl, hb, (hg.block g (Array.getElem?_eq_some_iff.1 hcur).1 (fun e => by have := hr g e.symm; omega)).trans hcur, hrest⟩⟩
theorem OwnJ.below {w w' : World} {base : Nat} {v : Value} {bs : List Int} (h : OwnJ w base v bs) {B : Nat} (hb : Below B w w') (hB : w.heap.size ≤ B) : OwnJ w' base v bs :=
  h.kept (only_of_below (hb.mono hB) none) (by simp)
theorem OwnJ.row {w : World} {base : Nat} {v : Value} {bs : List Int} (h : OwnJ w base v bs) : ∀ r, v.ownBlock = some r → base ≤ r := fun r hr => by
  rcases h.2 with ⟨rfl, _⟩ | ⟨g, cap, cur, rfl, hb, _⟩
  · simp [Value.ownBlock] at hr
  · obtain rfl : g = r := by simpa [Value.ownBlock] using hr
    exact hb
theorem OwnJ.ib {W : World} {base : Nat} {u : Value} {zs : List Int} (h : OwnJ W base u zs) (hl : zs.length ≤ 1100000) : IB W u zs := by
  obtain ⟨_, h | ⟨g, cap, cur, rfl, hb, hcur, hn, hc, hsz, hx⟩⟩ := h
  · obtain ⟨rfl, h0⟩ := h
    exact ⟨hl, .inl ⟨_, _, rfl, List.length_eq_zero_iff.1 h0⟩⟩
  · refine ⟨hl, .inr ⟨g, 0, cap, rfl, (Array.getElem?_eq_some_iff.1 hcur).1, fun k hk => ?_⟩⟩
    have e : (zs.map (Value.int .i64))[k]? = some (.int .i64 (zs[k]?.getD 0)) := by simp [hk]
    rw [← hx, List.getElem?_take_of_lt (by omega)] at e
    rw [Nat.zero_add]
    simp [World.cell?, hcur]
    simpa using e
theorem wpList_append_int {w : World} {ops : Array Oper} {rest : List Oper} {o : Oper} {a : Act} {Q : Exit → Act → World → Prop} (hgd : o.guard = none) (s x : Operand)
    (ho : o.op = .call { callee := .builtin .append, args := #[s, x], argTypes := #[35, 35] })
    (base : Nat) (v : Value) (zs : List Int) (hs : a.eval s = v) (hown : OwnJ w base v zs) (b0 c : Nat) (y : Int) (hx : a.eval x = .slice (some ⟨b0, 0, none⟩) 1 c)
    (c1 : w.cell? ⟨b0, 0, none⟩ = some (.int .i64 y)) (hl : zs.length ≤ 1100000) (hbase : base ≤ w.heap.size)
    (h : ∀ (g cap : Nat) (w' : World), OwnJ w' base (.slice (some ⟨g, 0, none⟩) (zs.length + 1) cap) (zs ++ [y]) → w.grownBy w' v.ownBlock → wpList Try.prog ops Q rest (a.put o.dst (.slice (some ⟨g, 0, none⟩) (zs.length + 1) cap)) w') : wpList Try.prog ops Q (o :: rest) a w := by
  obtain ⟨i0, hi, hz0, hz1, hz2⟩ := info_parts infoInt64
  refine wpList_append_own w hgd s x 35 ho base 2 i0 _ 1 8 Try.underlying35 hi hz0 hz1 hz2 rfl (by decide) v zs.length (zs.map (Value.int .i64)) hs hown ⟨b0, 0, none⟩ 1 c [.int .i64 y] hx rfl ?_ ?_ (by unfold maxLen; omega) (by omega) hbase ?_
  · intro j u hj
    rw [addr_at, Nat.zero_add]
    match j, hj with
    | 0, hj => simp at hj; rw [← hj]; exact c1
    | j + 1, hj => simp at hj
  · intro u hu
    simp at hu
    rw [hu]
    rfl
  · intro v' w' hown' hg _
    obtain ⟨g, cap, rfl⟩ := row_some hown'
    refine h g cap w' ?_ hg
    unfold OwnJ
    rw [List.length_append, List.length_singleton, List.map_append, List.map_singleton]
    exact hown'
theorem OwnJ.new0 (W : World) {base : Nat} (hb : base ≤ W.heap.size) : OwnJ (W.alloc (.cells #[] 2)) base (.slice (some ⟨W.heap.size, 0, none⟩) 0 0) [] :=
  ⟨rfl, .inr ⟨W.heap.size, 0, #[], rfl, hb, World.alloc_heap_new W _, Nat.le_refl _, Nat.zero_le _, rfl, rfl⟩⟩
/-- The indices of the blocks through p among the first k. -/
def idxI (p : Int) (bs : List Blk) (k : Nat) : List Int := (upTo p bs k).map fun q => (q.1 : Int)
theorem idxI_succ (p : Int) (bs : List Blk) (k : Nat) : idxI p bs (k + 1) = idxI p bs k ++ if hasB (bs[k]?.getD default) p then [(k : Int)] else [] := by
  unfold idxI
  rw [upTo_succ, List.map_append]
  congr 1
  split <;> rfl
theorem idxI_len (p : Int) (bs : List Blk) (k : Nat) : (idxI p bs k).length ≤ k := by
  unfold idxI
  rw [List.length_map]
  exact upTo_len p bs k
end Go.Proofs.Ytlkjacgpjolbdaa

namespace Go.Proofs.Ytlkjacgpjolbdaa
open Go.RowKit Go.Maps
/-- The indices of the blocks through p, and the code. -/
def atF (v : Int) (bs : List Blk) (p : Int) : List Int × Int := if isSysImpl v bs then (if inP v p then (idxI p bs bs.length, 0) else ([], 2)) else ([], 1)
def RJ (r : List Int × Int) (w : World) (e : Ending) (w' : World) : Prop := ∃ u, e = .returned (.tuple #[u, .int .i64 r.2]) ∧ OwnJ w' w.heap.size u r.1 ∧ Below w.heap.size w w'
theorem OwnJ.nil (w : World) (base : Nat) : OwnJ w base (.slice none 0 0) [] := ⟨rfl, .inl ⟨rfl, rfl⟩⟩
theorem idxs_eq (p : Int) (bs : List Blk) : idxs (upTo p bs bs.length) = (idxI p bs bs.length).map (Value.int .i64) := by
  unfold idxs idxI
  rw [List.map_map]
  rfl
theorem ints1 {w : World} {b : Nat} {x : Int} (h0 : w.cell? ⟨b, 0, none⟩ = some (.int .i64 x)) : Ints w b 0 [x] := by
  intro k hk
  match k, hk with
  | 0, _ => simpa using h0
end Go.Proofs.Ytlkjacgpjolbdaa

namespace Go.Proofs.Ytlkjacgpjolbdaa
open Go.RowKit Go.Maps
/-- The row at the head of block g holds just these integers and may be written. -/
structure OwnAtI (w : World) (g : Nat) (zs : List Int) : Prop where
  lt : g < w.heap.size
  at_ : Ints w g 0 zs
  free : ∀ o, w.frozen? ⟨g, o, none⟩ = false
theorem OwnAtI.kept {w w' : World} {g : Nat} {zs : List Int} {row : Option Nat} (h : OwnAtI w g zs) (hg : w.grownBy w' row) (hne : some g ≠ row) : OwnAtI w' g zs := by
  have hb := hg.block g h.lt hne
  exact ⟨Nat.lt_of_lt_of_le h.lt hg.size, fun k hk => (World.cell?_of_block (w := w) (a := ⟨g, _, none⟩) hb).trans (h.at_ k hk), fun o => (World.frozen?_of_block (w := w) (a := ⟨g, o, none⟩) hb).trans (h.free o)⟩
theorem Ints.set {w : World} {g : Nat} {l : List Int} (h : Ints w g 0 l) {i : Nat} (hi : i < l.length) (x : Int) : Ints (w.setCell ⟨g, i, none⟩ (.int .i64 x)) g 0 (l.set i x) := by
  intro k hk
  rw [List.length_set] at hk
  have hk' := h k hk
  have hi' := h i hi
  rw [Nat.zero_add] at hk' hi' ⊢
  by_cases e : k = i
  · subst e
    rw [World.cell?_setCell_same' _ _ _ (by rw [hi']; rfl)]
    simp [hk]
  · rw [World.cell?_setCell_other _ _ _ _ (by simp <;> omega), hk', List.getElem?_set_ne (Ne.symm e)]
def markI (k : Int) (n : Nat) : List Int := (List.range n).map fun (t : Nat) => k + (t : Int)
theorem markI_length (k : Int) (n : Nat) : (markI k n).length = n := by simp [markI]
theorem markI_next {k : Int} {i : Nat} {zs : List Int} (h : i < zs.length) : (markI k i ++ zs.drop i).set i (k + i) = markI k (i + 1) ++ zs.drop (i + 1) := by
  rw [List.drop_eq_getElem_cons h, List.set_append_right _ _ (by rw [markI_length]; omega), markI_length, Nat.sub_self, List.set_cons_zero]
  simp [markI, List.range_succ]
theorem markI_at {k : Int} {n j : Nat} (h : j < n) : (markI k n)[j]?.getD 0 = k + j := by
  simp [markI, h]
set_option maxRecDepth 100000 in
theorem markInt64S_nil (a : Option Addr) (c : Nat) (k : Int) (w : World) : Calls Try.prog 30 #[.slice a 0 c, .int .i64 k] w (RS (.int .i64 k) w) := by
  go_enter Try.func30, Try.ntmps30
  go_wp2
  refine wp_loop_rounds 1 ?_
  rw [rounds_succ]
  go_wp2
  go_ret
  exact RS_of rfl
set_option maxRecDepth 100000 in
theorem heldInt64S_nil (a : Option Addr) (c : Nat) (k : Int) (w : World) : Calls Try.prog 37 #[.slice a 0 c, .int .i64 k] w (RS (.int .i64 k) w) := by
  go_enter Try.func37, Try.ntmps37
  go_wp2
  refine wp_loop_rounds 1 ?_
  rw [rounds_succ]
  go_wp2
  go_ret
  exact RS_of rfl
set_option maxRecDepth 100000 in
theorem markInt64S_any (g cap : Nat) (zs : List Int) (k : Int) (w : World) (h : OwnAtI w g zs) (hl : zs.length ≤ 1100000) (h0 : 0 ≤ k) (h1 : k ≤ 9000000) :
    Calls Try.prog 30 #[.slice (some ⟨g, 0, none⟩) zs.length cap, .int .i64 k] w (fun e w' => e = .returned (.int .i64 (k + zs.length)) ∧ w.grownBy w' (some g) ∧ OwnAtI w' g (markI k zs.length)) := by
  have H := Lib.hid h
  clear h
  go_enter Try.func30, Try.ntmps30
  go_wp2
  go_loopw [1, 5] (fun t i wr => ∃ j : Nat, j ≤ zs.length ∧ i = .int .i64 j ∧ t = .int .i64 (k + j) ∧ w.grownBy wr (some g) ∧ OwnAtI wr g (markI k j ++ zs.drop j)) (fun _ i _ => zs.length - (intOf i).toNat)
  case atStart => exact ⟨0, Nat.zero_le _, rfl, by simp, only_refl _ _, by simpa [markI] using H.out⟩
  case round =>
    obtain ⟨j, hj, rfl, rfl, hg, ho⟩ := hrel
    by_cases hjl : j < zs.length
    · have hlj : j < (markI k j ++ zs.drop j).length := by simp [markI_length]; omega
      have c1 := ho.at_ j hlj
      rw [Nat.zero_add] at c1
      have f1 := ho.free
      have hs := Ints.set ho.at_ hlj (k + j)
      rw [markI_next hjl] at hs
      have HS := Lib.hid hs
      have hlt := ho.lt
      clear hs ho
      have g0 : (0 : Int) ≤ (j : Int) := by omega
      have g1 : (j : Int) < (zs.length : Int) := by omega
      obtain ⟨m, hm⟩ : ∃ m, m = k + (j : Int) := ⟨_, rfl⟩
      rw [← hm] at HS ⊢
      have m0 : 0 ≤ m := by omega
      have m1 : m ≤ 90000000 := by omega
      have HM := Lib.hid hm
      clear hm
      go_wp2
      go_roundw
      case rel => exact ⟨j + 1, by omega, by go_num, int_eq (by rw [HM.out]; omega), only_setCell hg rfl _, ⟨by simpa [World.setCell] using hlt, HS.out, fun o => by rw [World.frozen?_setCell]; exact f1 o⟩⟩
      case measure => simp [intOf]; omega
    · go_wp2
      go_ret
      have e : j = zs.length := by omega
      subst e
      rw [List.drop_length, List.append_nil] at ho
      exact ⟨rfl, hg, ho⟩
set_option maxRecDepth 100000 in
theorem heldInt64S_any (g cap n : Nat) (k : Int) (w : World) (h : Ints w g 0 (markI k n)) (hl : n ≤ 1100000) (h0 : 0 ≤ k) (h1 : k ≤ 9000000) :
    Calls Try.prog 37 #[.slice (some ⟨g, 0, none⟩) n cap, .int .i64 k] w (RS (.int .i64 (k + n)) w) := by
  have H := Lib.hid h
  clear h
  go_enter Try.func37, Try.ntmps37
  go_wp2
  go_loop [1, 5] (fun t i => ∃ j : Nat, j ≤ n ∧ i = .int .i64 j ∧ t = .int .i64 (k + j)) (fun _ i => n - (intOf i).toNat)
  case atStart => exact ⟨0, Nat.zero_le _, rfl, by simp⟩
  case round =>
    obtain ⟨j, hj, rfl, rfl⟩ := hrel
    by_cases hjl : j < n
    · have hc := H.out j (by rw [markI_length]; exact hjl)
      rw [markI_at hjl, Nat.zero_add] at hc
      obtain ⟨m, hm⟩ : ∃ m, m = k + (j : Int) := ⟨_, rfl⟩
      rw [← hm] at hc ⊢
      have m0 : 0 ≤ m := by omega
      have m1 : m ≤ 90000000 := by omega
      have HM := Lib.hid hm
      clear hm
      have g0 : (0 : Int) ≤ (j : Int) := by omega
      have g1 : (j : Int) < (n : Int) := by omega
      have n1 : (m != m) = false := by simp
      go_wp2
      go_round
      case rel => exact ⟨j + 1, by omega, by go_num, int_eq (by rw [HM.out]; omega)⟩
      case measure => simp [intOf]; omega
    · go_wp2
      go_ret
      have e : j = n := by omega
      subst e
      exact RS_of rfl
/-- A result that is a list of integers: empty anywhere, or memory of its own between lo and hi. -/
def ResI (w : World) (lo hi : Nat) (s : Value) (zs : List Int) : Prop := (zs = [] ∧ ∃ a c, s = .slice a 0 c) ∨ ∃ g cap, s = .slice (some ⟨g, 0, none⟩) zs.length cap ∧ lo ≤ g ∧ g < hi ∧ OwnAtI w g zs
theorem OwnJ.res {w : World} {base : Nat} {v : Value} {zs : List Int} (h : OwnJ w base v zs) (hl : zs.length ≤ 1100000) : ResI w base w.heap.size v zs := by
  have hib := h.ib hl
  obtain ⟨hl, h | ⟨g, cap, cur, rfl, hb, hcur, hn, hc, hsz, hx⟩⟩ := h
  · obtain ⟨rfl, h0⟩ := h
    exact .inl ⟨List.length_eq_zero_iff.1 h0, _, _, rfl⟩
  · have hg : g < w.heap.size := (Array.getElem?_eq_some_iff.1 hcur).1
    rcases hib.2 with ⟨a, c, e1, rfl⟩ | ⟨b, off, cap', e1, _, hI⟩
    · exact .inl ⟨rfl, _, _, rfl⟩
    · simp at e1
      obtain ⟨⟨rfl, rfl⟩, _⟩ := e1
      exact .inr ⟨g, cap, rfl, hb, hg, hg, hI, fun o => by simp [World.frozen?, hcur]⟩
theorem ResI.ib {w : World} {lo hi : Nat} {s : Value} {zs : List Int} (h : ResI w lo hi s zs) (hl : zs.length ≤ 1100000) : IB w s zs := by
  rcases h with ⟨rfl, a, c, rfl⟩ | ⟨g, cap, rfl, _, _, ho⟩
  · exact ⟨hl, .inl ⟨a, c, rfl, rfl⟩⟩
  · exact ⟨hl, .inr ⟨g, 0, cap, rfl, ho.lt, ho.at_⟩⟩
theorem ResI.kept {w w' : World} {lo hi : Nat} {s : Value} {zs : List Int} {row : Option Nat} (h : ResI w lo hi s zs) (hg : w.grownBy w' row) (hr : ∀ r, row = some r → r < lo ∨ hi ≤ r) : ResI w' lo hi s zs := by
  rcases h with h | ⟨g, cap, rfl, h1, h2, ho⟩
  · exact .inl h
  · exact .inr ⟨g, cap, rfl, h1, h2, ho.kept hg (fun e => by have := hr g e.symm; omega)⟩
theorem ResI.below {w w' : World} {lo hi : Nat} {s : Value} {zs : List Int} (h : ResI w lo hi s zs) {B : Nat} (hb : Below B w w') (hB : w.heap.size ≤ B) : ResI w' lo hi s zs :=
  h.kept (only_of_below (hb.mono hB) none) (by simp)
theorem markJ (lo hi : Nat) (s : Value) (zs : List Int) (k : Int) (w : World) (h : ResI w lo hi s zs) (hl : zs.length ≤ 1100000) (h0 : 0 ≤ k) (h1 : k ≤ 9000000) :
    Calls Try.prog 30 #[s, .int .i64 k] w (fun e w' => e = .returned (.int .i64 (k + zs.length)) ∧ (∃ row, w.grownBy w' row ∧ ∀ r, row = some r → lo ≤ r ∧ r < hi) ∧ ResI w' lo hi s (markI k zs.length)) := by
  rcases h with ⟨rfl, a, c, rfl⟩ | ⟨g, cap, rfl, h3, h4, ho⟩
  · refine (markInt64S_nil a c k w).mono ?_
    rintro e w' ⟨rfl, rfl⟩
    exact ⟨by simp, ⟨none, only_refl _ _, by simp⟩, .inl ⟨rfl, a, c, rfl⟩⟩
  · refine (markInt64S_any g cap zs k w ho hl h0 h1).mono ?_
    rintro e w' ⟨rfl, hg, ho'⟩
    exact ⟨rfl, ⟨some g, hg, fun r hr => by cases hr; exact ⟨h3, h4⟩⟩, .inr ⟨g, cap, by rw [markI_length], h3, h4, ho'⟩⟩
theorem heldJ (lo hi : Nat) (s : Value) (n : Nat) (k : Int) (w : World) (h : ResI w lo hi s (markI k n)) (hl : n ≤ 1100000) (h0 : 0 ≤ k) (h1 : k ≤ 9000000) :
    Calls Try.prog 37 #[s, .int .i64 k] w (RS (.int .i64 (k + n)) w) := by
  rcases h with ⟨hn, a, c, rfl⟩ | ⟨g, cap, rfl, h3, h4, ho⟩
  · have : n = 0 := by have := congrArg List.length hn; simpa [markI_length] using this
    subst this
    simpa using heldInt64S_nil a c k w
  · rw [markI_length]
    exact heldInt64S_any g cap n k w ho.at_ hl h0 h1
end Go.Proofs.Ytlkjacgpjolbdaa

namespace Go.Proofs.Ytlkjacgpjolbdaa
open Go.RowKit Go.Maps
/-- The two boxes of the arguments; what was there before the call is as it was. -/
structure St2 (w : World) (v u : Int) (s t : Value) (W : World) : Prop where
  below : Below w.heap.size w W
  big : w.heap.size + 1 < W.heap.size
  x0 : W.cell? ⟨w.heap.size, 0, none⟩ = some (.int .i64 v)
  x1 : W.cell? ⟨w.heap.size, 1, none⟩ = some s
  y0 : W.cell? ⟨w.heap.size + 1, 0, none⟩ = some (.int .i64 u)
  y1 : W.cell? ⟨w.heap.size + 1, 1, none⟩ = some t
theorem St2.step {w : World} {v u : Int} {s t : Value} {W W' : World} {row : Option Nat} (h : St2 w v u s t W) (hg : W.grownBy W' row) (hr : ∀ r, row = some r → w.heap.size + 1 < r) : St2 w v u s t W' :=
  ⟨h.below.grown hg h.below.size (fun r e => by have := hr r e; omega), Nat.lt_of_lt_of_le h.big hg.size,
    hg.cell h.x0 (fun e => by have := hr _ e.symm; simp at this; omega), hg.cell h.x1 (fun e => by have := hr _ e.symm; simp at this; omega),
    hg.cell h.y0 (fun e => by have := hr _ e.symm; simp at this), hg.cell h.y1 (fun e => by have := hr _ e.symm; simp at this)⟩
theorem St2.start (w : World) (v u : Int) (s t : Value) : St2 w v u s t ((w.alloc (.cells #[.int .i64 v, s] 24)).alloc (.cells #[.int .i64 u, t] 24)) :=
  ⟨((Below.refl _ _).alloc (Nat.le_refl _) _).alloc (by simp) _, by simp, by simp [go_sem], by simp [go_sem], by simp [go_sem], by simp [go_sem]⟩
/-- A variable that holds a system. -/
structure VarB (W : World) (X : Nat) (v : Int) (s : Value) : Prop where
  lt : X < W.heap.size
  c0 : W.cell? ⟨X, 0, none⟩ = some (.int .i64 v)
  c1 : W.cell? ⟨X, 1, none⟩ = some s
theorem VarB.step {W W' : World} {X : Nat} {v : Int} {s : Value} {row : Option Nat} (h : VarB W X v s) (hg : W.grownBy W' row) (hr : row ≠ some X) : VarB W' X v s :=
  ⟨Nat.lt_of_lt_of_le h.lt hg.size, hg.cell h.c0 (fun e => hr e.symm), hg.cell h.c1 (fun e => hr e.symm)⟩
theorem VarB.new (W : World) (v : Int) (s : Value) (T : TypeId) : VarB (W.alloc (.cells #[.int .i64 v, s] T)) W.heap.size v s := ⟨by simp, by simp, by simp⟩

/-- The state of a law whose results are lists of blocks: the model's result (from i0 on, before i1), the two copies and their variables, the program's result. -/
structure CB (w : World) (v u : Int) (s t sW s8 s9 sG : Value) (X Y i0 i1 i2 i3 i4 i5 i6 : Nat) (LW L8 L9 LG : List Blk) (W : World) : Prop where
  st : St2 w v u s t W
  o0 : w.heap.size + 1 < i0
  o1 : i0 ≤ i1
  o2 : i1 ≤ i2
  oX : i2 ≤ X
  oX' : X < i3
  o4 : i3 ≤ i4
  oY : i4 ≤ Y
  oY' : Y < i5
  o6 : i5 ≤ i6
  rW : ResR W i0 i1 sW LW
  r8 : ResR W i1 i2 s8 L8
  vX : VarB W X v s8
  r9 : ResR W i3 i4 s9 L9
  vY : VarB W Y u s9
  rG : ResR W i5 i6 sG LG
section
variable {w : World} {v u : Int} {s t sW s8 s9 sG : Value} {X Y i0 i1 i2 i3 i4 i5 i6 : Nat} {LW L8 L9 LG : List Blk} {W W' : World}
theorem CB.step (h : CB w v u s t sW s8 s9 sG X Y i0 i1 i2 i3 i4 i5 i6 LW L8 L9 LG W) (hg : W.grownBy W' none) : CB w v u s t sW s8 s9 sG X Y i0 i1 i2 i3 i4 i5 i6 LW L8 L9 LG W' :=
  ⟨h.st.step hg (by simp), h.o0, h.o1, h.o2, h.oX, h.oX', h.o4, h.oY, h.oY', h.o6, h.rW.kept hg (by simp), h.r8.kept hg (by simp), h.vX.step hg (by simp), h.r9.kept hg (by simp), h.vY.step hg (by simp), h.rG.kept hg (by simp)⟩
theorem CB.mark8 (h : CB w v u s t sW s8 s9 sG X Y i0 i1 i2 i3 i4 i5 i6 LW L8 L9 LG W) {row : Option Nat} (hg : W.grownBy W' row) (hr : ∀ r, row = some r → i1 ≤ r ∧ r < i2) {L : List Blk} (hn : ResR W' i1 i2 s8 L) :
    CB w v u s t sW s8 s9 sG X Y i0 i1 i2 i3 i4 i5 i6 LW L L9 LG W' := by
  obtain ⟨st, o0, o1, o2, oX, oX', o4, oY, oY', o6, rW, r8, vX, r9, vY, rG⟩ := h
  exact ⟨st.step hg (fun r e => by have := hr r e; omega), o0, o1, o2, oX, oX', o4, oY, oY', o6, rW.kept hg (fun r e => by have := hr r e; omega), hn, vX.step hg (fun e => by have := hr _ e; omega), r9.kept hg (fun r e => by have := hr r e; omega), vY.step hg (fun e => by have := hr _ e; omega), rG.kept hg (fun r e => by have := hr r e; omega)⟩
theorem CB.mark9 (h : CB w v u s t sW s8 s9 sG X Y i0 i1 i2 i3 i4 i5 i6 LW L8 L9 LG W) {row : Option Nat} (hg : W.grownBy W' row) (hr : ∀ r, row = some r → i3 ≤ r ∧ r < i4) {L : List Blk} (hn : ResR W' i3 i4 s9 L) :
    CB w v u s t sW s8 s9 sG X Y i0 i1 i2 i3 i4 i5 i6 LW L8 L LG W' := by
  obtain ⟨st, o0, o1, o2, oX, oX', o4, oY, oY', o6, rW, r8, vX, r9, vY, rG⟩ := h
  exact ⟨st.step hg (fun r e => by have := hr r e; omega), o0, o1, o2, oX, oX', o4, oY, oY', o6, rW.kept hg (fun r e => by have := hr r e; omega), r8.kept hg (fun r e => by have := hr r e; omega), vX.step hg (fun e => by have := hr _ e; omega), hn, vY.step hg (fun e => by have := hr _ e; omega), rG.kept hg (fun r e => by have := hr r e; omega)⟩
theorem CB.markG (h : CB w v u s t sW s8 s9 sG X Y i0 i1 i2 i3 i4 i5 i6 LW L8 L9 LG W) {row : Option Nat} (hg : W.grownBy W' row) (hr : ∀ r, row = some r → i5 ≤ r ∧ r < i6) {L : List Blk} (hn : ResR W' i5 i6 sG L) :
    CB w v u s t sW s8 s9 sG X Y i0 i1 i2 i3 i4 i5 i6 LW L8 L9 L W' := by
  obtain ⟨st, o0, o1, o2, oX, oX', o4, oY, oY', o6, rW, r8, vX, r9, vY, rG⟩ := h
  exact ⟨st.step hg (fun r e => by have := hr r e; omega), o0, o1, o2, oX, oX', o4, oY, oY', o6, rW.kept hg (fun r e => by have := hr r e; omega), r8.kept hg (fun r e => by have := hr r e; omega), vX.step hg (fun e => by have := hr _ e; omega), r9.kept hg (fun r e => by have := hr r e; omega), vY.step hg (fun e => by have := hr _ e; omega), hn⟩
end
end Go.Proofs.Ytlkjacgpjolbdaa

namespace Go.Proofs.Ytlkjacgpjolbdaa
open Go.RowKit Go.Maps
theorem ResI.slice {w : World} {lo hi : Nat} {s : Value} {zs : List Int} (h : ResI w lo hi s zs) : ∃ a c, s = .slice a zs.length c := by
  rcases h with ⟨rfl, a, c, rfl⟩ | ⟨g, cap, rfl, _⟩ <;> exact ⟨_, _, rfl⟩
theorem ResI.wide {w : World} {lo hi lo' hi' : Nat} {s : Value} {zs : List Int} (h : ResI w lo hi s zs) (h1 : lo' ≤ lo) (h2 : hi ≤ hi') : ResI w lo' hi' s zs := by
  rcases h with h | ⟨g, cap, rfl, h3, h4, ho⟩
  · exact .inl h
  · exact .inr ⟨g, cap, rfl, by omega, by omega, ho⟩
structure St1 (w : World) (v : Int) (s : Value) (W : World) : Prop where
  below : Below w.heap.size w W
  big : w.heap.size < W.heap.size
  x0 : W.cell? ⟨w.heap.size, 0, none⟩ = some (.int .i64 v)
  x1 : W.cell? ⟨w.heap.size, 1, none⟩ = some s
theorem St1.step {w : World} {v : Int} {s : Value} {W W' : World} {row : Option Nat} (h : St1 w v s W) (hg : W.grownBy W' row) (hr : ∀ r, row = some r → w.heap.size < r) : St1 w v s W' :=
  ⟨h.below.grown hg h.below.size (fun r e => by have := hr r e; omega), Nat.lt_of_lt_of_le h.big hg.size,
    hg.cell h.x0 (fun e => by have := hr _ e.symm; simp at this), hg.cell h.x1 (fun e => by have := hr _ e.symm; simp at this)⟩
theorem St1.start (w : World) (v : Int) (s : Value) : St1 w v s (w.alloc (.cells #[.int .i64 v, s] 24)) :=
  ⟨(Below.refl _ _).alloc (Nat.le_refl _) _, by simp, by simp [go_sem], by simp [go_sem]⟩
structure CI (w : World) (v : Int) (s sW s8 sG : Value) (X i0 i1 i2 i5 i6 : Nat) (LW : List Int) (L8 : List Blk) (LG : List Int) (W : World) : Prop where
  st : St1 w v s W
  o0 : w.heap.size < i0
  o1 : i0 ≤ i1
  o2 : i1 ≤ i2
  oX : i2 ≤ X
  oX' : X < i5
  o6 : i5 ≤ i6
  rW : ResI W i0 i1 sW LW
  r8 : ResR W i1 i2 s8 L8
  vX : VarB W X v s8
  rG : ResI W i5 i6 sG LG
section
variable {w : World} {v : Int} {s sW s8 sG : Value} {X i0 i1 i2 i5 i6 : Nat} {LW LG : List Int} {L8 : List Blk} {W W' : World}
theorem CI.step (h : CI w v s sW s8 sG X i0 i1 i2 i5 i6 LW L8 LG W) (hg : W.grownBy W' none) : CI w v s sW s8 sG X i0 i1 i2 i5 i6 LW L8 LG W' :=
  ⟨h.st.step hg (by simp), h.o0, h.o1, h.o2, h.oX, h.oX', h.o6, h.rW.kept hg (by simp), h.r8.kept hg (by simp), h.vX.step hg (by simp), h.rG.kept hg (by simp)⟩
theorem CI.mark8 (h : CI w v s sW s8 sG X i0 i1 i2 i5 i6 LW L8 LG W) {row : Option Nat} (hg : W.grownBy W' row) (hr : ∀ r, row = some r → i1 ≤ r ∧ r < i2) {L : List Blk} (hn : ResR W' i1 i2 s8 L) :
    CI w v s sW s8 sG X i0 i1 i2 i5 i6 LW L LG W' := by
  obtain ⟨st, o0, o1, o2, oX, oX', o6, rW, r8, vX, rG⟩ := h
  exact ⟨st.step hg (fun r e => by have := hr r e; omega), o0, o1, o2, oX, oX', o6, rW.kept hg (fun r e => by have := hr r e; omega), hn, vX.step hg (fun e => by have := hr _ e; omega), rG.kept hg (fun r e => by have := hr r e; omega)⟩
theorem CI.markG (h : CI w v s sW s8 sG X i0 i1 i2 i5 i6 LW L8 LG W) {row : Option Nat} (hg : W.grownBy W' row) (hr : ∀ r, row = some r → i5 ≤ r ∧ r < i6) {L : List Int} (hn : ResI W' i5 i6 sG L) :
    CI w v s sW s8 sG X i0 i1 i2 i5 i6 LW L8 L W' := by
  obtain ⟨st, o0, o1, o2, oX, oX', o6, rW, r8, vX, rG⟩ := h
  exact ⟨st.step hg (fun r e => by have := hr r e; omega), o0, o1, o2, oX, oX', o6, rW.kept hg (fun r e => by have := hr r e; omega), r8.kept hg (fun r e => by have := hr r e; omega), vX.step hg (fun e => by have := hr _ e; omega), hn⟩
end
theorem gb_drew1 (w : World) : w.grownBy w.drew none := ⟨rfl, rfl, rfl, Nat.le_refl _, fun _ _ _ => rfl⟩
theorem gb_alloc1 (w : World) (o : Obj) : w.grownBy (w.alloc o) none := World.grownBy_alloc w o none
end Go.Proofs.Ytlkjacgpjolbdaa

namespace Go.Proofs.Ytlkjacgpjolbdaa
open Go.RowKit Go.Maps
structure CS (w : World) (v p : Int) (s sW s8 sG : Value) (XW X XG i0 i1 j1 j2 k1 k2 : Nat) (LW L8 LG : List Blk) (W : World) : Prop where
  st : St1 w v s W
  o0 : w.heap.size < i0
  o1 : i0 ≤ i1
  o2 : i1 ≤ XW
  o3 : XW < j1
  o4 : j1 ≤ j2
  o5 : j2 ≤ X
  o6 : X < k1
  o7 : k1 ≤ k2
  o8 : k2 ≤ XG
  rW : ResR W i0 i1 sW LW
  vW : VarB W XW p sW
  r8 : ResR W j1 j2 s8 L8
  vX : VarB W X v s8
  rG : ResR W k1 k2 sG LG
  vG : VarB W XG p sG
section
variable {w : World} {v p : Int} {s sW s8 sG : Value} {XW X XG i0 i1 j1 j2 k1 k2 : Nat} {LW L8 LG : List Blk} {W W' : World}
theorem CS.step (h : CS w v p s sW s8 sG XW X XG i0 i1 j1 j2 k1 k2 LW L8 LG W) (hg : W.grownBy W' none) : CS w v p s sW s8 sG XW X XG i0 i1 j1 j2 k1 k2 LW L8 LG W' :=
  ⟨h.st.step hg (by simp), h.o0, h.o1, h.o2, h.o3, h.o4, h.o5, h.o6, h.o7, h.o8, h.rW.kept hg (by simp), h.vW.step hg (by simp), h.r8.kept hg (by simp), h.vX.step hg (by simp), h.rG.kept hg (by simp), h.vG.step hg (by simp)⟩
theorem CS.mark8 (h : CS w v p s sW s8 sG XW X XG i0 i1 j1 j2 k1 k2 LW L8 LG W) {row : Option Nat} (hg : W.grownBy W' row) (hr : ∀ r, row = some r → j1 ≤ r ∧ r < j2) {L : List Blk} (hn : ResR W' j1 j2 s8 L) :
    CS w v p s sW s8 sG XW X XG i0 i1 j1 j2 k1 k2 LW L LG W' := by
  obtain ⟨st, o0, o1, o2, o3, o4, o5, o6, o7, o8, rW, vW, r8, vX, rG, vG⟩ := h
  exact ⟨st.step hg (fun r e => by have := hr r e; omega), o0, o1, o2, o3, o4, o5, o6, o7, o8, rW.kept hg (fun r e => by have := hr r e; omega), vW.step hg (fun e => by have := hr _ e; omega), hn, vX.step hg (fun e => by have := hr _ e; omega), rG.kept hg (fun r e => by have := hr r e; omega), vG.step hg (fun e => by have := hr _ e; omega)⟩
theorem CS.markG (h : CS w v p s sW s8 sG XW X XG i0 i1 j1 j2 k1 k2 LW L8 LG W) {row : Option Nat} (hg : W.grownBy W' row) (hr : ∀ r, row = some r → k1 ≤ r ∧ r < k2) {L : List Blk} (hn : ResR W' k1 k2 sG L) :
    CS w v p s sW s8 sG XW X XG i0 i1 j1 j2 k1 k2 LW L8 L W' := by
  obtain ⟨st, o0, o1, o2, o3, o4, o5, o6, o7, o8, rW, vW, r8, vX, rG, vG⟩ := h
  exact ⟨st.step hg (fun r e => by have := hr r e; omega), o0, o1, o2, o3, o4, o5, o6, o7, o8, rW.kept hg (fun r e => by have := hr r e; omega), vW.step hg (fun e => by have := hr _ e; omega), r8.kept hg (fun r e => by have := hr r e; omega), vX.step hg (fun e => by have := hr _ e; omega), hn, vG.step hg (fun e => by have := hr _ e; omega)⟩
end
end Go.Proofs.Ytlkjacgpjolbdaa

namespace Go.Proofs.Ytlkjacgpjolbdaa
open Go.RowKit Go.Maps
set_option maxRecDepth 100000 in
set_option maxHeartbeats 1000000 in
theorem FnExactTakeBlock_main (v : Int) (s : Value) (bs : List Blk) (pa : Int) (w : World) (h : InB w s bs) (hl : bs.length ≤ 1048576) :
    Calls Try.prog 3 #[.agg #[.int .i64 v, s], .int .i64 pa] w (RV (.bool true) w) := by
  have hsl := h.slice
  have hsz := szSystem_any v s bs.length hsl (by omega) 1048576 (by omega) (by omega)
  rw [if_neg (by omega)] at hsz
  obtain ⟨m, hm⟩ : ∃ m, m = (1048576 : Int) - (bs.length : Int) := ⟨_, rfl⟩
  rw [← hm] at hsz
  have hm0 : 0 ≤ m := by omega
  have HSZ := Lib.hid hsz
  have HSB := Lib.hid (h.sb hl)
  have HWF := Lib.hid h.1
  have HBD := Lib.hid (show bs.length ≤ 1100000 by omega)
  obtain ⟨p, hpp⟩ : ∃ p, p = (takeF v bs pa).1 := ⟨_, rfl⟩
  obtain ⟨L, hL⟩ : ∃ L, L = (takeF v bs pa).2.1 := ⟨_, rfl⟩
  obtain ⟨κ, hκ⟩ : ∃ κ, κ = (takeF v bs pa).2.2 := ⟨_, rfl⟩
  have hp : takeF v bs pa = (p, L, κ) := by rw [hpp, hL, hκ]
  have LBD := Lib.hid (show L.length ≤ 1100000 by rw [hL]; exact Nat.le_trans (takeF_len v bs pa) HBD.out)
  have LWF := Lib.hid (show ∀ x ∈ L, WFB x by rw [hL]; exact fun x hx => HWF.out x (takeF_sub v bs pa x hx))
  have HSP := Lib.hid fun (W : World) (s' : Value) (h1 : SC W s' bs) => specTakeBlock_any v s' bs pa W h1
  have HIM := Lib.hid fun (W : World) (s' : Value) (h1 : SC W s' bs) => TakeBlock_any v s' bs pa W h1.1
  rw [hp] at HSP HIM
  have hnk : (κ != κ) = false := by simp
  clear hsz hm h hl hpp hL hκ hp
  obtain ⟨a, c, rfl⟩ := hsl
  go_enter Try.func3, Try.ntmps3
  go_wp2_with fail
  refine (HSZ.out _).mono ?_
  rintro e w1 ⟨rfl, hb1⟩
  have st1 := (St1.start w v (.slice a bs.length c)).step (gb_below hb1) (by simp)
  have x0 := st1.x0
  have x1 := st1.x1
  have ST1 := Lib.hid st1
  clear hb1 st1
  go_wp2_with fail
  refine (toSystem_any v _ bs _ (HSB.out.below ST1.out.below (Nat.le_refl _))).mono ?_
  rintro e w2 ⟨s2, rfl, ho2, hb2⟩
  have st2 := ST1.out.step (gb_below hb2) (by simp)
  have hsb2 := ho2.sc HWF.out HBD.out
  have z2 := hb2.size
  have zz1 := ST1.out.big
  clear x0 x1 hb2 ho2
  have x0 := st2.x0
  have x1 := st2.x1
  have ST2 := Lib.hid st2
  clear st2
  go_wp2_with fail
  refine (HSP.out _ _ hsb2).mono ?_
  rintro e w3 ⟨sW, rfl, rW, hb3⟩
  have z3 := hb3.size
  obtain ⟨aW, nW, hsW⟩ := rW.slice
  subst hsW
  have n3 := gb_alloc1 w3 (.cells #[.int .i64 p, .slice aW L.length nW] 28)
  have st3 := (ST2.out.step (gb_below hb3) (by simp)).step n3 (by simp)
  have rW3 := rW.kept n3 (by simp)
  have vW3 := VarB.new w3 p (.slice aW L.length nW) 28
  clear x0 x1 hb3 hsb2 rW n3
  have x0 := st3.x0
  have x1 := st3.x1
  have ST3 := Lib.hid st3
  have RW := Lib.hid (And.intro rW3 vW3)
  clear st3 rW3 vW3 ST1 ST2
  go_wp2_with fail
  refine (toSystem_any v _ bs _ (HSB.out.below ST3.out.below (Nat.le_refl _))).mono ?_
  rintro e w6 ⟨s6, rfl, ho6, hb6⟩
  obtain ⟨g6, cap6, hs6, _⟩ := id ho6
  subst hs6
  have st6 := ST3.out.step (gb_below hb6) (by simp)
  have hsb6 := ho6.sc HWF.out HBD.out
  have r6 := ho6.res
  have z6 := hb6.size
  simp at z6
  have rW6 := RW.out.1.kept (gb_below hb6) (by simp)
  have vW6 := RW.out.2.step (gb_below hb6) (by simp)
  have n6 := gb_alloc1 w6 (.cells #[.int .i64 v, .slice (some ⟨g6, 0, none⟩) bs.length cap6] 28)
  have v7 := VarB.new w6 v (.slice (some ⟨g6, 0, none⟩) bs.length cap6) 28
  have st7 := st6.step n6 (by simp)
  have r7 := r6.kept n6 (by simp)
  have rW7 := rW6.kept n6 (by simp)
  have vW7 := vW6.step n6 (by simp)
  have hsb7 := hsb6.below ((Below.refl _ _).alloc (Nat.le_refl _) (.cells #[.int .i64 v, .slice (some ⟨g6, 0, none⟩) bs.length cap6] 28)) (Nat.le_refl _)
  clear x0 x1 hb6 ho6 st6 r6 rW6 vW6 hsb6
  have x0 := st7.x0
  have x1 := st7.x1
  have t0 := v7.c0
  have t1 := v7.c1
  have H7 := Lib.hid (And.intro v7 (And.intro st7 (And.intro r7 (And.intro rW7 (And.intro vW7 hsb7)))))
  clear v7 st7 r7 rW7 vW7 hsb7 n6
  go_wp2_with fail
  refine (HIM.out _ _ H7.out.2.2.2.2.2).mono ?_
  rintro e w10 ⟨s10, rfl, hr10, hb10⟩
  obtain ⟨a10, n10, hs10⟩ := hr10.slice
  subst hs10
  obtain ⟨v7, st7, r7, rW7, vW7, _⟩ := H7.out
  have z10 := hb10.size
  simp at z10
  have g10 := gb_trans (gb_below hb10) (gb_alloc1 w10 (.cells #[.int .i64 p, .slice a10 L.length n10] 28))
  have hcb : CS w v p (.slice a bs.length c) (.slice aW L.length nW) (.slice (some ⟨g6, 0, none⟩) bs.length cap6) (.slice a10 L.length n10) w3.heap.size w6.heap.size w10.heap.size w2.heap.size w3.heap.size (w3.heap.size + 1) w6.heap.size (w6.heap.size + 1) w10.heap.size L bs L (w10.alloc (.cells #[.int .i64 p, .slice a10 L.length n10] 28)) :=
    ⟨st7.step g10 (by simp), by omega, z3, Nat.le_refl _, by omega, by omega, Nat.le_refl _, by omega, by omega, Nat.le_refl _, rW7.kept g10 (by simp), vW7.step g10 (by simp), (r7.kept g10 (by simp)).wide (by simp) (Nat.le_refl _), v7.step g10 (by simp), (hr10.kept (gb_alloc1 _ _) (by simp)).wide (by simp) (Nat.le_refl _), VarB.new w10 p (.slice a10 L.length n10) 28⟩
  have HCB := Lib.hid hcb
  have u0 := hcb.vG.c0
  have u1 := hcb.vG.c1
  have y0 := hcb.vW.c0
  have y1 := hcb.vW.c1
  clear hcb v7 st7 r7 rW7 vW7 hr10 hb10 z10 g10 t0 t1 x0 x1 H7 ST3 RW
  go_wp2_with fail
  refine (eqSystem_same p _ _ L _ (HCB.out.rG.sb LWF.out LBD.out) (HCB.out.rW.sb LWF.out LBD.out)).mono ?_
  rintro e w11 ⟨rfl, hb11⟩
  have hcb := HCB.out.step (gb_below hb11)
  clear u0 u1 y0 y1
  have x0 := hcb.st.x0
  have x1 := hcb.st.x1
  have t0 := hcb.vX.c0
  have t1 := hcb.vX.c1
  have HCB1 := Lib.hid hcb
  clear hcb hb11 HCB
  go_upto_region 10 with fail
  go_cut [49] (fun sq wx => sq = .bool false ∧ CS w v p (.slice a bs.length c) (.slice aW L.length nW) (.slice (some ⟨g6, 0, none⟩) bs.length cap6) (.slice a10 L.length n10) w3.heap.size w6.heap.size w10.heap.size w2.heap.size w3.heap.size (w3.heap.size + 1) w6.heap.size (w6.heap.size + 1) w10.heap.size L bs L wx)
  case first =>
    go_region_with (first | (go_at_call 21; refine (toSystem_any v _ bs _ ?_).mono ?_; (exact HSB.out.below HCB1.out.st.below.drew (Nat.le_refl _)); rintro e w30 ⟨s30, rfl, ho30, hb30⟩; have hcb30 := (HCB1.out.step (gb_drew1 _)).step (gb_below hb30); have v0 := hcb30.vX.c0; have v1 := hcb30.vX.c1; have HCB30 := Lib.hid hcb30; clear hcb30; have hsb30 := ho30.sb HWF.out HBD.out; obtain ⟨g30, cap30, hs30, _⟩ := id ho30; subst hs30) | (go_at_call 23; refine (eqSystem_same v _ _ bs _ ?_ ?_).mono ?_; (exact HCB30.out.r8.sb HWF.out HBD.out); (exact hsb30); rintro e w31 ⟨rfl, hb31⟩))
    all_goals
      go_wp2_with fail
      go_meet
      exact ⟨rfl, HCB30.out.step (gb_below hb31)⟩
  case rest =>
  obtain ⟨rfl, hcb⟩ := hcut
  clear x0 x1 t0 t1
  have x0 := hcb.st.x0
  have x1 := hcb.st.x1
  have t0 := hcb.vX.c0
  have t1 := hcb.vX.c1
  have HCB3 := Lib.hid hcb
  clear hcb HCB1
  go_wp2_with fail
  refine (markSystem_any _ _ v _ bs 1 _ HCB3.out.r8 HBD.out (by omega) (by omega)).mono ?_
  rintro e w12 ⟨rfl, ⟨row, hg12, hrow⟩, hr12⟩
  have hcb := HCB3.out.mark8 hg12 hrow hr12
  clear x0 x1 t0 t1
  have u0 := hcb.vG.c0
  have u1 := hcb.vG.c1
  have y0 := hcb.vW.c0
  have y1 := hcb.vW.c1
  have HCB4 := Lib.hid hcb
  clear hcb hg12 hrow hr12 HCB3
  obtain ⟨m3, hm3⟩ : ∃ m3, m3 = 1 + 3 * (bs.length : Int) := ⟨_, rfl⟩
  rw [← hm3]
  have m30 : 0 ≤ m3 := by omega
  clear hm3
  go_wp2_with fail
  refine (eqSystem_same p _ _ L _ (HCB4.out.rG.sb LWF.out LBD.out) (HCB4.out.rW.sb LWF.out LBD.out)).mono ?_
  rintro e w14 ⟨rfl, hb14⟩
  have hcb := HCB4.out.step (gb_below hb14)
  clear u0 u1 y0 y1
  have u0 := hcb.vG.c0
  have u1 := hcb.vG.c1
  have HCB6 := Lib.hid hcb
  clear hcb hb14 HCB4
  go_wp2_with fail
  refine (markSystem_any _ _ p _ L 1 _ HCB6.out.rG LBD.out (by omega) (by omega)).mono ?_
  rintro e w15 ⟨rfl, ⟨row, hg15, hrow⟩, hr15⟩
  have hcb := HCB6.out.markG hg15 hrow hr15
  clear u0 u1
  have u0 := hcb.vG.c0
  have u1 := hcb.vG.c1
  have HCB7 := Lib.hid hcb
  clear hcb hg15 hrow hr15 HCB6
  obtain ⟨m5, hm5⟩ : ∃ m5, m5 = 1 + 3 * (L.length : Int) := ⟨_, rfl⟩
  have hheld := fun W (h : ResR W _ _ (Value.slice a10 L.length n10) (markL 1 L.length)) => heldSystem_any (w6.heap.size + 1) w10.heap.size p (.slice a10 L.length n10) L.length 1 W h LBD.out (by omega) (by omega)
  rw [← hm5] at hheld ⊢
  have HHELD := Lib.hid hheld
  have m50 : 0 ≤ m5 := by omega
  have hn5 : (m5 != m5) = false := by simp
  clear hm5 hheld
  go_wp2_with fail
  refine (HHELD.out _ HCB7.out.rG).mono ?_
  rintro e w16 ⟨rfl, hb16⟩
  have hcb := HCB7.out.step (gb_below hb16)
  clear u0 u1
  have x0 := hcb.st.x0
  have x1 := hcb.st.x1
  have HCB8 := Lib.hid hcb
  clear hcb hb16 HCB7
  go_wp2_with fail
  refine (toSystem_any v _ bs _ (HSB.out.below HCB8.out.st.below (Nat.le_refl _))).mono ?_
  rintro e w33 ⟨s33, rfl, ho33, hb33⟩
  have hsb33 := ho33.sc HWF.out HBD.out
  have HCB9 := Lib.hid (HCB8.out.step (gb_below hb33))
  clear hb33 ho33 x0 x1 HCB8
  go_wp2_with fail
  refine (HIM.out _ _ hsb33).mono ?_
  rintro e w34 ⟨s34, rfl, hr34, hb34⟩
  obtain ⟨a34, n34, hs34⟩ := hr34.slice
  subst hs34
  have n34' := gb_alloc1 w34 (.cells #[.int .i64 p, .slice a34 L.length n34] 28)
  have hcb := (HCB9.out.step (gb_below hb34)).step n34'
  have hsb34 := (hr34.kept n34' (by simp)).sb LWF.out LBD.out
  have v34 := VarB.new w34 p (.slice a34 L.length n34) 28
  have u0 := v34.c0
  have u1 := v34.c1
  have y0 := hcb.vW.c0
  have y1 := hcb.vW.c1
  have HCB10 := Lib.hid (And.intro hcb hsb34)
  clear hcb hsb34 v34 n34' hr34 hb34 hsb33 HCB9
  go_wp2_with fail
  refine (eqSystem_same p _ _ L _ HCB10.out.2 (HCB10.out.1.rW.sb LWF.out LBD.out)).mono ?_
  rintro e w36 ⟨rfl, hb36⟩
  have hcb := HCB10.out.1.step (gb_below hb36)
  clear u0 u1 y0 y1
  have u0 := hcb.vG.c0
  have u1 := hcb.vG.c1
  have HCB11 := Lib.hid hcb
  clear hcb hb36 HCB10
  go_wp2_with fail
  refine (HHELD.out _ HCB11.out.rG).mono ?_
  rintro e w37 ⟨rfl, hb37⟩
  go_wp2
  go_ret
  exact RV_of rfl (HCB11.out.step (gb_below hb37)).st.below

set_option maxRecDepth 100000 in
theorem FnExactTakeBlock_long (v : Int) (s : Value) (bs : List Blk) (pa : Int) (w : World) (h : InB w s bs) (hl : ¬ bs.length ≤ 1048576) : Calls Try.prog 3 #[.agg #[.int .i64 v, s], .int .i64 pa] w (RV (.bool true) w) := by
  have hsl := h.slice
  have hbd := h.2.1
  have hsz := szSystem_any v s bs.length hsl (by omega) 1048576 (by omega) (by omega)
  rw [if_pos (by omega)] at hsz
  have HSZ := Lib.hid hsz
  clear hsz h
  obtain ⟨a, c, rfl⟩ := hsl
  go_enter Try.func3, Try.ntmps3
  go_wp2_with (go_at_call 19; refine (HSZ.out _).mono ?_; rintro e w1 ⟨rfl, hb1⟩)
  go_ret
  exact RV_of rfl (((Below.refl _ _).alloc (Nat.le_refl _) _).trans (hb1.mono (by simp)))

theorem FnExactTakeBlock_any (v : Int) (s : Value) (bs : List Blk) (pa : Int) (_h1 : WF pa) (w : World) (h : InB w s bs) : Calls Try.prog 3 #[.agg #[.int .i64 v, s], .int .i64 pa] w (RV (.bool true) w) := by
  by_cases hl : bs.length ≤ 1048576
  · exact FnExactTakeBlock_main v s bs pa w h hl
  · exact FnExactTakeBlock_long v s bs pa w h hl
end Go.Proofs.Ytlkjacgpjolbdaa

namespace Go.Proofs.Ytlkjacgpjolbdaa
open Go.ChangeShapes Go.WideShapes Go.ChangeAt Go.RowKit Go.Deep Go.Joins
theorem ownKnobs : ownKnob Try.prog.godebug = none := by kernel_rfl
section
variable {H : Type} {enc : TypeId × Value → H} {W : World} {base : Nat} {held : Bool}
theorem arrCells : Try.prog.cellsOf 69 = 3 := by kernel_rfl
set_option maxRecDepth 100000 in
theorem open_arr3 {fuel : Nat} {cs : List Value} {x : DataW H × List MemPlace} (h : DataW.trod enc Try.prog W base (fun _ => true) held fuel 69 cs = some x) :
    ∃ a b c : Int, cs = [.int .i64 a, .int .i64 b, .int .i64 c] ∧ (Lit.int .i64 a).wf = true ∧ (Lit.int .i64 b).wf = true ∧ (Lit.int .i64 c).wf = true := by
  obtain ⟨xs, m, rfl, rfl, hl, hx, hat⟩ := DataW.trod_array Try.underlying69 h
  rw [arrCells] at hl
  match cs, hl with
  | [c0, c1, c2], _ =>
    match xs, hx with
    | [x0, x1, x2], _ =>
      have h0 := hat 0 (by omega)
      have h1 := hat 1 (by omega)
      have h2 := hat 2 (by omega)
      rw [int64Cells] at h0 h1 h2
      simp at h0 h1 h2
      obtain ⟨a, ha, _, wa⟩ := DataW.trod_int Try.underlying2 h0
      obtain ⟨b, hb, _, wb⟩ := DataW.trod_int Try.underlying2 h1
      obtain ⟨c, hc, _, wc⟩ := DataW.trod_int Try.underlying2 h2
      simp at ha hb hc
      exact ⟨a, b, c, by rw [ha, hb, hc], wa, wb, wc⟩
theorem add_at (b off i : Nat) : (⟨b, off, none⟩ : Addr).add i = ⟨b, off + i, none⟩ := by
  unfold Addr.add
  split
  · subst_vars; rfl
  · rfl
set_option maxRecDepth 100000 in
theorem open_arrs {fuel : Nat} {s : Value} {x : DataW H × List MemPlace} (h : DataW.trod enc Try.prog W base (fun _ => true) held fuel 22 [s] = some x) : ∃ bs, InB W s bs := by
  rcases open_slice Try.underlying22 h with ⟨hcs, _⟩ | ⟨a, len, cap, m, n, D, Pl, hcs, hb, hl, hm, hmm, hx, hi⟩
  · simp at hcs
    exact ⟨[], by simp, by simp, .inl ⟨none, 0, hcs, rfl⟩⟩
  · simp at hcs
    subst hcs
    simp at hmm
    subst hmm
    have hm' : m ≤ 9223372036854775807 := by unfold maxLen at hm; exact hm
    by_cases h0 : len = 0
    · subst h0
      exact ⟨[], by simp, by simp, .inl ⟨_, _, rfl, rfl⟩⟩
    · have cell : ∀ i, i < m → ∃ y : Blk, WFB y ∧ ∀ j (v : Value), [Value.int .i64 y.a, Value.int .i64 y.b, Value.int .i64 y.c][j]? = some v → W.cell? (a.add (i * 3 + j)) = some v := fun i him => by
        obtain ⟨cs', hc, ht⟩ := hi i him
        obtain ⟨p, q, r, rfl, wp, wq, wr⟩ := open_arr3 ht
        rw [arrCells] at hc
        obtain ⟨_, _, hat⟩ := World.cells?_some hc
        refine ⟨⟨p, q, r⟩, ⟨wp, wq, wr⟩, fun j v hv => ?_⟩
        have hj : j < 3 := by
          have := (List.getElem?_eq_some_iff.1 hv).1
          simpa using this
        rw [← Go.Deep.add_add, hat j hj]
        exact hv
      obtain ⟨F, hF⟩ := choose_lt (α := Blk) cell
      obtain ⟨b, off, spot⟩ := a
      have hc0 := (hF 0 (by omega)).2 0 _ rfl
      have hspot : spot = none := by simpa [Addr.add] using World.cell?_spot hc0
      subst hspot
      refine ⟨(List.range len).map F, ?_, by simp; omega, .inr ⟨b, off, m, by simp, ?_, ?_⟩⟩
      · intro y hy
        obtain ⟨i, hi', rfl⟩ := List.mem_map.1 hy
        exact (hF i (by have := List.mem_range.1 hi'; omega)).1
      · exact block_lt_of_cell hc0
      · intro k hk
        simp at hk
        have e : ((List.range len).map F)[k]?.getD default = F k := by simp [hk]
        rw [e]
        have := (hF k (by omega)).2
        refine ⟨?_, ?_, ?_⟩
        · have h0 := this 0 _ rfl
          rw [add_at] at h0
          exact h0
        · have h1 := this 1 _ rfl
          rw [add_at, ← Nat.add_assoc] at h1
          exact h1
        · have h2 := this 2 _ rfl
          rw [add_at, ← Nat.add_assoc] at h2
          exact h2
theorem isSys : ∃ f0 f1 : Field, Try.prog.underlying 24 = some (.struct #[f0, f1]) ∧ f0.type = 2 ∧ f1.type = 22 ∧ oneCellFields Try.prog #[f0, f1] = true :=
  ⟨_, _, Try.underlying24, rfl, rfl, by kernel_rfl⟩
theorem sysCells : Try.prog.cellsOf 24 = 2 := by kernel_rfl
set_option maxRecDepth 100000 in
theorem open_system {r : Reach} {b0 : Nat} {v : Value} {d : DataW H} {p : List MemPlace} (hv : Value.okWide Try.prog W r b0 24 v) (h : DataW.Trod enc Try.prog W base (fun _ => true) held 24 v d p) :
    ∃ (n : Int) (s : Value) (bs : List Blk), v = .agg #[.int .i64 n, s] ∧ WF n ∧ InB W s bs := by
  obtain ⟨f0, f1, hu, e0, e1, hone⟩ := isSys
  obtain ⟨v0, v1, y0, y1, n, rfl, _, _, h0, h1⟩ := open_agg2 hu hone sysCells hv h
  rw [e0] at h0
  rw [e1] at h1
  obtain ⟨k, hk, _, wk⟩ := DataW.trod_int Try.underlying2 h0
  simp at hk
  subst hk
  obtain ⟨bs, hbs⟩ := open_arrs h1
  exact ⟨k, v1, bs, rfl, wk, hbs⟩
end
end Go.Proofs.Ytlkjacgpjolbdaa

namespace Go.Proofs.Ytlkjacgpjolbdaa
set_option maxRecDepth 100000 in
noncomputable def iniP : { L : List Char // Try.prog.initOrder = String.ofList L } := ⟨_, by unfold Try.prog; rfl⟩
theorem iniL : Try.prog.initOrder.toList = iniP.1 := (congrArg String.toList iniP.2).trans String.toList_ofList
theorem words_cons (c : Char) (r : List Char) (h : c ≠ Char.ofNat 32) : wordsSigns (c :: r) = match wordsSigns r with | w :: ws => (c :: w) :: ws | [] => [[c]] := by
  rw [wordsSigns]
  all_goals first | rfl | exact h | (intro e; exact h e)
theorem words_word : ∀ (a b : List Char), (a.all fun c => c != Char.ofNat 32) = true → wordsSigns (a ++ Char.ofNat 32 :: b) = a :: wordsSigns b
  | [], b, _ => rfl
  | c :: a, b, h => by
    simp only [List.all_cons, Bool.and_eq_true, bne_iff_ne, ne_eq] at h
    rw [List.cons_append, words_cons _ _ h.1, words_word a b (by simpa using h.2)]
set_option maxRecDepth 100000 in
theorem split1 : iniP.1 = iniP.1.take 7 ++ Char.ofNat 32 :: iniP.1.drop 8 := by kernel_rfl
set_option maxRecDepth 100000 in
theorem split2 : iniP.1.drop 8 = (iniP.1.drop 8).take 64 ++ Char.ofNat 32 :: iniP.1.drop 73 := by kernel_rfl
set_option maxRecDepth 100000 in
theorem split3 : iniP.1.drop 73 = (iniP.1.drop 73).take 3 ++ Char.ofNat 32 :: iniP.1.drop 77 := by kernel_rfl
theorem isCut : (iniP.1.drop 73).take 3 = "cut".toList := by kernel_rfl
set_option maxRecDepth 100000 in
theorem isHead : ((iniP.1.take 7 == "harness".toList || iniP.1.take 7 == "ownmain".toList) && isSumSigns ((iniP.1.drop 8).take 64)) = true := by kernel_rfl
theorem wordsL : wordsSigns iniP.1 = iniP.1.take 7 :: (iniP.1.drop 8).take 64 :: "cut".toList :: wordsSigns (iniP.1.drop 77) := by
  rw [← isCut]
  conv => lhs; rw [split1]
  rw [words_word _ _ (by kernel_rfl)]
  conv => lhs; rw [split2]
  rw [words_word _ _ (by kernel_rfl)]
  conv => lhs; rw [split3]
  rw [words_word _ _ (by kernel_rfl)]
theorem behindL : behindMainWord (wordsSigns Try.prog.initOrder.toList) = "cut".toList :: wordsSigns (iniP.1.drop 77) := by
  rw [iniL, wordsL]
  unfold behindMainWord
  simp only [isHead, if_true]
theorem stripL (ws : List (List Char)) : stripLifts liftWords ("cut".toList :: ws) = ([], "cut".toList :: ws) := by kernel_rfl
section
variable (P : Program) (ws : List (List Char)) (h : behindMainWord (wordsSigns P.initOrder.toList) = "cut".toList :: ws)
include h
theorem head_of : P.headLifts = [] := by
  unfold Program.headLifts
  rw [h]
  simp only [stripL]
  kernel_rfl
theorem make_of : P.make = some .cut := by
  unfold Program.make
  rw [h, head_of P ws h]
  kernel_rfl
theorem lifts_of : P.liftsFinal = false := by
  unfold Program.liftsFinal
  rw [h, head_of P ws h]
  kernel_rfl
theorem enter_of (h1 : P.laysLater = false) (h2 : P.bearsReflect = false) (h3 : P.doorFits [] = true) : P.mayEnter = true := by
  unfold Program.mayEnter
  rw [h]
  simp only [stripL]
  rw [h1, h2, h3]
  kernel_rfl
end
theorem mayE : Try.pinned.checked.prog.mayEnter = true := enter_of _ _ behindL (by kernel_rfl) (by kernel_rfl) (by kernel_rfl)
theorem liftsF : Try.pinned.checked.prog.liftsFinal = false := lifts_of _ _ behindL
theorem makeF : Try.pinned.checked.prog.make = some .cut := make_of _ _ behindL
theorem both {a b : Bool} (h : a = true) (k : b = true) : (a && b) = true := by rw [h, k]; rfl
end Go.Proofs.Ytlkjacgpjolbdaa

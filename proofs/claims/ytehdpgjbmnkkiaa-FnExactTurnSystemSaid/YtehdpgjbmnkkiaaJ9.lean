
/- The model's squares. PairsLeft: the program and the model answer alike. The laws' copies of rows of integers, and how much they hold. The memory of a law between two of its steps: items, each in blocks of its own, the newest first. How the laws' arguments are read. How the laws' other arguments are read: slices of integers, slices of blocks, a block, rows. What a law over one system whose result is a system knows of the memory between two of its steps. -/
import Derived.Test.YtehdpgjbmnkkiaaJ8
import Derived.Test.YtehdpgjbmnkkiaaRows
import Derived.ProofKit
import Derived.OpenShut
import Derived.Deep.Slices
import Derived.Lib.SmallJoins
import Derived.ChangeOld
namespace Go.Proofs.Ytehdpgjbmnkkiaa
open Go.RowKit Go.Maps
theorem AccS.new0 (W : World) (gs caps : Nat → Nat) (F : Nat → List Int) {base : Nat} (hb : base ≤ W.heap.size) : AccS (W.alloc (.cells #[] 40)) base (.slice (some ⟨W.heap.size, 0, none⟩) 0 0) 0 gs caps F :=
  ⟨⟨rfl, .inr ⟨W.heap.size, 0, #[], rfl, hb, World.alloc_heap_new W _, Nat.le_refl _, Nat.zero_le _, rfl, rfl⟩⟩, fun k hk => by omega, fun k hk => by omega, fun j k _ hk => by omega, fun k hk => by omega⟩
theorem l01In_val (n : Int) (β : Bool) (hβ : (decide ((2 : Int) ≤ n) && decide (n ≤ 5)) = β) (W : World) : Calls Try.prog 62 #[.int .i64 n, .int .i64 2, .int .i64 5] W (RS (.bool β) W) := by
  have h := l01In_any n 2 5 W
  rw [hβ] at h
  exact h
end Go.Proofs.Ytehdpgjbmnkkiaa

namespace Go.Proofs.Ytehdpgjbmnkkiaa
open Go.RowKit Go.Maps
theorem both_pair {v : Int} {x : Blk} (hg : goodB v x = true) {a b : Int} (hab : a < b) : bothB a b x = true ↔ (a, b) ∈ pairsL x := by
  obtain ⟨h1, h2, h3, h4⟩ := goodB_iff.1 hg
  unfold bothB hasB pairsL
  simp only [Bool.and_eq_true, Bool.or_eq_true, decide_eq_true_iff, List.mem_cons, List.mem_nil_iff, or_false, Prod.mk.injEq]
  omega
theorem third_left {v : Int} {bs : List Blk} (hg : ∀ x ∈ bs, goodB v x = true) (hv : v ≤ 15) {a b : Int} (hab : a < b) :
    (notIn (bs.flatMap pairsL) a b = true → third1 bs a b = -1) ∧ (notIn (bs.flatMap pairsL) a b = false → 0 ≤ third1 bs a b ∧ third1 bs a b ≤ 15) := by
  unfold notIn third1
  cases hf : bs.find? (bothB a b) with
  | none =>
    have hn := List.find?_eq_none.1 hf
    have : ¬ (a, b) ∈ bs.flatMap pairsL := fun h => by
      obtain ⟨x, hx, hp⟩ := List.mem_flatMap.1 h
      exact hn x hx ((both_pair (hg x hx) hab).2 hp)
    simp [this]
  | some x =>
    have hx := List.mem_of_find?_eq_some hf
    have hb := List.find?_some hf
    have hin : (a, b) ∈ bs.flatMap pairsL := List.mem_flatMap.2 ⟨x, hx, (both_pair (hg x hx) hab).1 hb⟩
    have hne : a ≠ b := by omega
    have h3 := third_bounds (hg x hx) hv hb hne
    refine ⟨fun h => ?_, fun _ => h3⟩
    simp [hin] at h
def pairsF (v : Int) (bs : List Blk) : List (Int × Int) × Int := if isSysImpl v bs then (leftL (notIn (bs.flatMap pairsL)) v.toNat v.toNat, 0) else ([], 1)
/-- A result that is a list of rows: empty anywhere, or memory of its own from lo on. -/
def ResSS (w : World) (lo : Nat) (u : Value) (n : Nat) (F : Nat → List Int) : Prop := (n = 0 ∧ ∃ a c, u = .slice a 0 c) ∨ ∃ G cap gs caps, u = .slice (some ⟨G, 0, none⟩) n cap ∧ lo ≤ G ∧ SSR w lo G gs caps n F
theorem AccS.res {w : World} {base : Nat} {u : Value} {n : Nat} {gs caps : Nat → Nat} {F : Nat → List Int} (h : AccS w base u n gs caps F) : ResSS w base u n F := by
  by_cases h0 : n = 0
  · subst h0
    rcases h.own.2 with ⟨rfl, _⟩ | ⟨g, cap, cur, rfl, _⟩
    · exact .inl ⟨rfl, _, _, rfl⟩
    · exact .inl ⟨rfl, _, _, rfl⟩
  · obtain ⟨G, cap, hu, hG, hS⟩ := h.ssr (by omega)
    exact .inr ⟨G, cap, gs, caps, hu, hG, hS⟩
def RPL (r : List (Int × Int) × Int) (w : World) (e : Ending) (w' : World) : Prop := ∃ u, e = .returned (.tuple #[u, .int .i64 r.2]) ∧ Below w.heap.size w w' ∧ ResSS w' w.heap.size u r.1.length (fnL r.1)
end Go.Proofs.Ytehdpgjbmnkkiaa

namespace Go.Proofs.Ytehdpgjbmnkkiaa
open Go.RowKit Go.Maps
theorem copy_next (zs : List Int) {k : Nat} (hk : k < zs.length) : (zs.take k ++ List.replicate (zs.length - k) 0).set k (zs[k]?.getD 0) = zs.take (k + 1) ++ List.replicate (zs.length - (k + 1)) 0 := by
  rw [show zs.length - k = (zs.length - (k + 1)) + 1 by omega, List.replicate_succ, List.set_append_right _ _ (by simp; omega), List.length_take, show k - min k zs.length = 0 by omega, List.set_cons_zero, List.take_add_one, List.append_assoc]
  simp [hk]
end Go.Proofs.Ytehdpgjbmnkkiaa

namespace Go.Proofs.Ytehdpgjbmnkkiaa
open Go.RowKit Go.Maps
def Stays (lo hi : Nat) (W W' : World) : Prop := W.heap.size ≤ W'.heap.size ∧ ∀ i, lo ≤ i → i < hi → W'.heap[i]? = W.heap[i]?
structure Item where
  lo : Nat
  hi : Nat
  P : World → Prop
def Item.Ok (it : Item) : Prop := ∀ W W', it.hi ≤ W.heap.size → Stays it.lo it.hi W W' → it.P W → it.P W'
structure Mem (w : World) (L : List Item) (W : World) : Prop where
  below : Below w.heap.size w W
  pw : L.Pairwise (fun x y => y.hi ≤ x.lo ∨ x.hi ≤ y.lo)
  rng : ∀ it ∈ L, w.heap.size ≤ it.lo ∧ it.lo ≤ it.hi ∧ it.hi ≤ W.heap.size
  ok : ∀ it ∈ L, it.Ok
  holds : ∀ it ∈ L, it.P W
def MemOf {w : World} {L : List Item} {W : World} (_ : Mem w L W) (wx : World) : Prop := Mem w L wx
/-- Only blocks from lo on, below hi, have changed, and what is new. -/
structure OnlyIn (lo hi : Nat) (W W' : World) : Prop where
  os : W'.os = W.os
  tape : W'.tape = W.tape
  output : W'.output = W.output
  size : W.heap.size ≤ W'.heap.size
  block : ∀ i, i < W.heap.size → (i < lo ∨ hi ≤ i) → W'.heap[i]? = W.heap[i]?
section
variable {lo hi lo' hi' : Nat} {W W' W'' w : World} {L : List Item}
theorem OnlyIn.of_grown {row : Option Nat} (hg : W.grownBy W' row) (hr : ∀ r, row = some r → lo ≤ r ∧ r < hi) : OnlyIn lo hi W W' :=
  ⟨hg.os, hg.tape, hg.output, hg.size, fun i h1 h2 => hg.block i h1 (fun e => by have := hr i e.symm; omega)⟩
theorem OnlyIn.refl (lo hi : Nat) (W : World) : OnlyIn lo hi W W := ⟨rfl, rfl, rfl, Nat.le_refl _, fun _ _ _ => rfl⟩
theorem OnlyIn.trans (h : OnlyIn lo hi W W') (k : OnlyIn lo hi W' W'') : OnlyIn lo hi W W'' :=
  ⟨k.os.trans h.os, k.tape.trans h.tape, k.output.trans h.output, Nat.le_trans h.size k.size, fun i h1 h2 => (k.block i (Nat.lt_of_lt_of_le h1 h.size) h2).trans (h.block i h1 h2)⟩
theorem OnlyIn.of_below (h : Below lo W W') : OnlyIn lo W.heap.size W W' :=
  ⟨h.os, h.tape, h.output, h.size, fun i h1 h2 => h.block i (by omega)⟩
theorem OnlyIn.stays (h : OnlyIn lo hi W W') (hh : hi' ≤ W.heap.size) (hd : hi' ≤ lo ∨ hi ≤ lo') : Stays lo' hi' W W' :=
  ⟨h.size, fun i h1 h2 => h.block i (by omega) (by omega)⟩
theorem OnlyIn.below (h : OnlyIn lo hi W W') {B : Nat} (hB : B ≤ lo) (hz : B ≤ W.heap.size) : Below B W W' :=
  ⟨h.os, h.tape, h.output, h.size, fun i h1 => h.block i (by omega) (by omega)⟩
theorem Mem.start (w : World) : Mem w [] w := ⟨Below.refl _ _, List.Pairwise.nil, by simp, by simp, by simp⟩
theorem Mem.step (h : Mem w L W) (hg : W.grownBy W' none) : Mem w L W' :=
  ⟨h.below.grown hg h.below.size (by simp), h.pw, fun it hi => ⟨(h.rng it hi).1, (h.rng it hi).2.1, Nat.le_trans (h.rng it hi).2.2 hg.size⟩, h.ok,
    fun it hi => h.ok it hi W W' (h.rng it hi).2.2 ⟨hg.size, fun i _ h2 => hg.block i (Nat.lt_of_lt_of_le h2 (h.rng it hi).2.2) (by simp)⟩ (h.holds it hi)⟩
theorem Mem.push (h : Mem w L W) (hg : W.grownBy W' none) (it : Item) (h1 : W.heap.size ≤ it.lo) (h2 : it.lo ≤ it.hi) (h3 : it.hi ≤ W'.heap.size) (ok : it.Ok) (hP : it.P W') : Mem w (it :: L) W' := by
  have hs := h.step hg
  refine ⟨hs.below, List.pairwise_cons.2 ⟨fun y hy => .inl (Nat.le_trans (h.rng y hy).2.2 h1), hs.pw⟩, ?_, ?_, ?_⟩
  · intro x hx
    rcases List.mem_cons.1 hx with rfl | hx
    · exact ⟨Nat.le_trans h.below.size h1, h2, h3⟩
    · exact hs.rng x hx
  · intro x hx
    rcases List.mem_cons.1 hx with rfl | hx
    · exact ok
    · exact hs.ok x hx
  · intro x hx
    rcases List.mem_cons.1 hx with rfl | hx
    · exact hP
    · exact hs.holds x hx
theorem Mem.swap {a b : Item} (h : Mem w (a :: b :: L) W) : Mem w (b :: a :: L) W := by
  have hm : ∀ x, x ∈ b :: a :: L → x ∈ a :: b :: L := fun x hx => by simp only [List.mem_cons] at hx ⊢; rcases hx with h | h | h <;> simp [h]
  refine ⟨h.below, ?_, fun it hi => h.rng it (hm it hi), fun it hi => h.ok it (hm it hi), fun it hi => h.holds it (hm it hi)⟩
  have hp := h.pw
  rw [List.pairwise_cons, List.pairwise_cons] at hp
  refine List.pairwise_cons.2 ⟨fun y hy => ?_, List.pairwise_cons.2 ⟨fun y hy => hp.1 y (by simp [hy]), hp.2.2⟩⟩
  rcases List.mem_cons.1 hy with rfl | hy
  · exact (hp.1 b (by simp)).symm
  · exact hp.2.1 y hy
theorem Mem.at (h : Mem w L W) (k : Nat) {it : Item} (e : L[k]? = some it) : it.P W := h.holds it (List.mem_of_getElem? e)
theorem mem_set_cases {k : Nat} {x y it : Item} (_e : L[k]? = some it) (hx : x ∈ L.set k y) : x = y ∨ ∃ j, j ≠ k ∧ L[j]? = some x := by
  obtain ⟨j, hj⟩ := List.mem_iff_getElem?.1 hx
  rw [List.getElem?_set] at hj
  split at hj
  · split at hj
    · cases hj; exact .inl rfl
    · cases hj
  · exact .inr ⟨j, by omega, hj⟩
theorem Mem.apart (h : Mem w L W) {k j : Nat} {x it : Item} (e : L[k]? = some it) (f : L[j]? = some x) (hne : j ≠ k) : it.hi ≤ x.lo ∨ x.hi ≤ it.lo := by
  obtain ⟨hk, e⟩ := List.getElem?_eq_some_iff.1 e
  obtain ⟨hj, f⟩ := List.getElem?_eq_some_iff.1 f
  have hp := List.pairwise_iff_getElem.1 h.pw
  rcases Nat.lt_or_gt_of_ne hne with hlt | hlt
  · have := hp j k hj hk hlt
    rw [e, f] at this
    exact this
  · have := hp k j hk hj hlt
    rw [e, f] at this
    exact this.symm
theorem Mem.mark (h : Mem w L W) (k : Nat) {it : Item} (e : L[k]? = some it) (hw : OnlyIn it.lo it.hi W W') {P' : World → Prop} (ok : Item.Ok ⟨it.lo, it.hi, P'⟩) (hP : P' W') : Mem w (L.set k ⟨it.lo, it.hi, P'⟩) W' := by
  have hit := List.mem_of_getElem? e
  have hr := h.rng it hit
  refine ⟨h.below.trans (hw.below hr.1 (by omega)), ?_, ?_, ?_, ?_⟩
  · rw [List.pairwise_iff_getElem]
    intro i j hi hj hlt
    rw [List.length_set] at hi hj
    have hp := List.pairwise_iff_getElem.1 h.pw i j hi hj hlt
    obtain ⟨hk, e'⟩ := List.getElem?_eq_some_iff.1 e
    rw [List.getElem_set, List.getElem_set]
    split
    · rename_i hki
      cases hki
      rw [if_neg (by omega)]
      rw [e'] at hp; exact hp
    · split
      · rename_i hkj
        cases hkj
        rw [e'] at hp; exact hp
      · exact hp
  · intro x hx
    rcases mem_set_cases e hx with rfl | ⟨j, hj, f⟩
    · exact ⟨hr.1, hr.2.1, Nat.le_trans hr.2.2 hw.size⟩
    · have := h.rng x (List.mem_of_getElem? f)
      exact ⟨this.1, this.2.1, Nat.le_trans this.2.2 hw.size⟩
  · intro x hx
    rcases mem_set_cases e hx with rfl | ⟨j, hj, f⟩
    · exact ok
    · exact h.ok x (List.mem_of_getElem? f)
  · intro x hx
    rcases mem_set_cases e hx with rfl | ⟨j, hj, f⟩
    · exact hP
    · have hx := List.mem_of_getElem? f
      exact h.ok x hx W W' (h.rng x hx).2.2 (hw.stays (h.rng x hx).2.2 ((h.apart e f hj).symm)) (h.holds x hx)
end
section
variable {w w' : World} {lo hi g : Nat}
theorem OwnAt.stay {bs : List Blk} (h : OwnAt w g bs) (hb : w'.heap[g]? = w.heap[g]?) (hz : w.heap.size ≤ w'.heap.size) : OwnAt w' g bs := by
  refine ⟨Nat.lt_of_lt_of_le h.lt hz, fun k hk => ?_, fun o => ?_⟩
  · obtain ⟨h1, h2, h3⟩ := h.at_ k hk
    exact ⟨(World.cell?_of_block (w := w) (a := ⟨g, _, none⟩) hb).trans h1, (World.cell?_of_block (w := w) (a := ⟨g, _, none⟩) hb).trans h2, (World.cell?_of_block (w := w) (a := ⟨g, _, none⟩) hb).trans h3⟩
  · exact (World.frozen?_of_block (w := w) (a := ⟨g, o, none⟩) hb).trans (h.free o)
theorem OwnAtI.stay {zs : List Int} (h : OwnAtI w g zs) (hb : w'.heap[g]? = w.heap[g]?) (hz : w.heap.size ≤ w'.heap.size) : OwnAtI w' g zs :=
  ⟨Nat.lt_of_lt_of_le h.lt hz, fun k hk => (World.cell?_of_block (w := w) (a := ⟨g, _, none⟩) hb).trans (h.at_ k hk), fun o => (World.frozen?_of_block (w := w) (a := ⟨g, o, none⟩) hb).trans (h.free o)⟩
/-- Blocks in memory of their own. -/
def iBlks (lo hi : Nat) (s : Value) (bs : List Blk) : Item := ⟨lo, hi, fun W => ResR W lo hi s bs⟩
theorem iBlks_ok (lo hi : Nat) (s : Value) (bs : List Blk) : (iBlks lo hi s bs).Ok := fun W W' _ hs h => by
  rcases h with h | ⟨g, cap, rfl, h1, h2, ho⟩
  · exact .inl h
  · exact .inr ⟨g, cap, rfl, h1, h2, ho.stay (hs.2 g h1 h2) hs.1⟩
/-- Integers in memory of their own. -/
def iInts (lo hi : Nat) (s : Value) (zs : List Int) : Item := ⟨lo, hi, fun W => ResI W lo hi s zs⟩
theorem iInts_ok (lo hi : Nat) (s : Value) (zs : List Int) : (iInts lo hi s zs).Ok := fun W W' _ hs h => by
  rcases h with h | ⟨g, cap, rfl, h1, h2, ho⟩
  · exact .inl h
  · exact .inr ⟨g, cap, rfl, h1, h2, ho.stay (hs.2 g h1 h2) hs.1⟩
/-- Rows in memory of their own. -/
def ResH (W : World) (lo hi : Nat) (u : Value) (n : Nat) (F : Nat → List Int) : Prop :=
  (n = 0 ∧ ∃ a c, u = .slice a 0 c) ∨ ∃ G cap gs caps, u = .slice (some ⟨G, 0, none⟩) n cap ∧ lo ≤ G ∧ G < hi ∧ (∀ k, k < n → gs k < hi) ∧ SSR W lo G gs caps n F
theorem ResSS.resH {lo n : Nat} {u : Value} {F : Nat → List Int} (h : ResSS w lo u n F) : ResH w lo w.heap.size u n F := by
  rcases h with h | ⟨G, cap, gs, caps, rfl, hG, hS⟩
  · exact .inl h
  · exact .inr ⟨G, cap, gs, caps, rfl, hG, hS.lt, fun k hk => (hS.row k hk).lt, hS⟩
theorem ResH.slice {n : Nat} {u : Value} {F : Nat → List Int} (h : ResH w lo hi u n F) : ∃ a c, u = .slice a n c := by
  rcases h with ⟨rfl, a, c, rfl⟩ | ⟨G, cap, gs, caps, rfl, _⟩ <;> exact ⟨_, _, rfl⟩
theorem ResH.sb {n : Nat} {u : Value} {F : Nat → List Int} (h : ResH w lo hi u n F) (hn : n ≤ 1100000) (hF : ∀ k, k < n → (F k).length ≤ 1100000) : SSB w u n F := by
  rcases h with h | ⟨G, cap, gs, caps, rfl, hG, _, _, hS⟩
  · exact ⟨hn, .inl h⟩
  · exact hS.sb hn hF
def iRows (lo hi : Nat) (u : Value) (n : Nat) (F : Nat → List Int) : Item := ⟨lo, hi, fun W => ResH W lo hi u n F⟩
theorem iRows_ok (lo hi : Nat) (u : Value) (n : Nat) (F : Nat → List Int) : (iRows lo hi u n F).Ok := fun W W' hh hs h => by
  rcases h with h | ⟨G, cap, gs, caps, rfl, h1, h2, h3, hS⟩
  · exact .inl h
  · refine .inr ⟨G, cap, gs, caps, rfl, h1, h2, h3, fun k hk => ?_, fun k hk => (hS.row k hk).stay (hs.2 _ (hS.low k hk) (h3 k hk)) hs.1, hS.ne, hS.inc, hS.low, Nat.lt_of_lt_of_le hS.lt hs.1⟩
    exact (World.cell?_of_block (w := W) (a := ⟨G, k, none⟩) (hs.2 G h1 h2)).trans (hS.cell k hk)
/-- A variable that holds a system. -/
def iVar (X : Nat) (v : Int) (s : Value) : Item := ⟨X, X + 1, fun W => VarB W X v s⟩
theorem iVar_ok (X : Nat) (v : Int) (s : Value) : (iVar X v s).Ok := fun W W' _ hs h => by
  have hb := hs.2 X (Nat.le_refl _) (Nat.lt_succ_self _)
  exact ⟨Nat.lt_of_lt_of_le h.lt hs.1, (World.cell?_of_block (w := W) (a := ⟨X, 0, none⟩) hb).trans h.c0, (World.cell?_of_block (w := W) (a := ⟨X, 1, none⟩) hb).trans h.c1⟩
/-- A variable that holds a block. -/
structure VarA (W : World) (X : Nat) (x : Blk) : Prop where
  lt : X < W.heap.size
  c0 : W.cell? ⟨X, 0, none⟩ = some (.int .i64 x.a)
  c1 : W.cell? ⟨X, 1, none⟩ = some (.int .i64 x.b)
  c2 : W.cell? ⟨X, 2, none⟩ = some (.int .i64 x.c)
theorem VarA.new (W : World) (x : Blk) (T : TypeId) : VarA (W.alloc (.cells #[.int .i64 x.a, .int .i64 x.b, .int .i64 x.c] T)) W.heap.size x := ⟨by simp, by simp, by simp, by simp⟩
def iArr (X : Nat) (x : Blk) : Item := ⟨X, X + 1, fun W => VarA W X x⟩
theorem iArr_ok (X : Nat) (x : Blk) : (iArr X x).Ok := fun W W' _ hs h => by
  have hb := hs.2 X (Nat.le_refl _) (Nat.lt_succ_self _)
  exact ⟨Nat.lt_of_lt_of_le h.lt hs.1, (World.cell?_of_block (w := W) (a := ⟨X, 0, none⟩) hb).trans h.c0, (World.cell?_of_block (w := W) (a := ⟨X, 1, none⟩) hb).trans h.c1, (World.cell?_of_block (w := W) (a := ⟨X, 2, none⟩) hb).trans h.c2⟩
end
section
variable {w W W' : World} {L : List Item} {lo hi : Nat}
theorem Mem.var (h : Mem w L W) (k : Nat) {X : Nat} {v : Int} {s : Value} (e : L[k]? = some (iVar X v s)) : VarB W X v s := h.at k e
theorem Mem.arr (h : Mem w L W) (k : Nat) {X : Nat} {x : Blk} (e : L[k]? = some (iArr X x)) : VarA W X x := h.at k e
theorem Mem.blks (h : Mem w L W) (k : Nat) {s : Value} {bs : List Blk} (e : L[k]? = some (iBlks lo hi s bs)) : ResR W lo hi s bs := h.at k e
theorem Mem.ints (h : Mem w L W) (k : Nat) {s : Value} {zs : List Int} (e : L[k]? = some (iInts lo hi s zs)) : ResI W lo hi s zs := h.at k e
theorem Mem.rows (h : Mem w L W) (k : Nat) {u : Value} {n : Nat} {F : Nat → List Int} (e : L[k]? = some (iRows lo hi u n F)) : ResH W lo hi u n F := h.at k e
theorem Mem.pushVar (h : Mem w L W) (v : Int) (s : Value) (T : TypeId) : Mem w (iVar W.heap.size v s :: L) (W.alloc (.cells #[.int .i64 v, s] T)) :=
  h.push (gb_alloc1 W _) (iVar W.heap.size v s) (Nat.le_refl _) (Nat.le_succ _) (by simp [iVar]) (iVar_ok _ _ _) (VarB.new W v s T)
theorem Mem.pushArr (h : Mem w L W) (x : Blk) (T : TypeId) : Mem w (iArr W.heap.size x :: L) (W.alloc (.cells #[.int .i64 x.a, .int .i64 x.b, .int .i64 x.c] T)) :=
  h.push (gb_alloc1 W _) (iArr W.heap.size x) (Nat.le_refl _) (Nat.le_succ _) (by simp [iArr]) (iArr_ok _ _) (VarA.new W x T)
theorem Mem.pushB (h : Mem w L W) (hb : Below W.heap.size W W') {s : Value} {bs : List Blk} (hr : ResR W' W.heap.size W'.heap.size s bs) : Mem w (iBlks W.heap.size W'.heap.size s bs :: L) W' :=
  h.push (gb_below hb) (iBlks W.heap.size W'.heap.size s bs) (Nat.le_refl _) hb.size (Nat.le_refl _) (iBlks_ok _ _ _ _) hr
theorem Mem.pushI (h : Mem w L W) (hb : Below W.heap.size W W') {s : Value} {zs : List Int} (hr : ResI W' W.heap.size W'.heap.size s zs) : Mem w (iInts W.heap.size W'.heap.size s zs :: L) W' :=
  h.push (gb_below hb) (iInts W.heap.size W'.heap.size s zs) (Nat.le_refl _) hb.size (Nat.le_refl _) (iInts_ok _ _ _ _) hr
theorem Mem.pushH (h : Mem w L W) (hb : Below W.heap.size W W') {u : Value} {n : Nat} {F : Nat → List Int} (hr : ResH W' W.heap.size W'.heap.size u n F) : Mem w (iRows W.heap.size W'.heap.size u n F :: L) W' :=
  h.push (gb_below hb) (iRows W.heap.size W'.heap.size u n F) (Nat.le_refl _) hb.size (Nat.le_refl _) (iRows_ok _ _ _ _ _) hr
theorem Mem.markB (h : Mem w L W) (k : Nat) {s : Value} {bs : List Blk} (e : L[k]? = some (iBlks lo hi s bs)) (hw : ∃ row, W.grownBy W' row ∧ ∀ r, row = some r → lo ≤ r ∧ r < hi) {bs' : List Blk} (hP : ResR W' lo hi s bs') : Mem w (L.set k (iBlks lo hi s bs')) W' := by
  obtain ⟨row, hg, hr⟩ := hw
  exact h.mark k e (OnlyIn.of_grown hg hr) (iBlks_ok lo hi s bs') hP
theorem Mem.markI (h : Mem w L W) (k : Nat) {s : Value} {zs : List Int} (e : L[k]? = some (iInts lo hi s zs)) (hw : ∃ row, W.grownBy W' row ∧ ∀ r, row = some r → lo ≤ r ∧ r < hi) {zs' : List Int} (hP : ResI W' lo hi s zs') : Mem w (L.set k (iInts lo hi s zs')) W' := by
  obtain ⟨row, hg, hr⟩ := hw
  exact h.mark k e (OnlyIn.of_grown hg hr) (iInts_ok lo hi s zs') hP
theorem Mem.markH (h : Mem w L W) (k : Nat) {u : Value} {n : Nat} {F : Nat → List Int} (e : L[k]? = some (iRows lo hi u n F)) (hw : OnlyIn lo hi W W') {F' : Nat → List Int} (hP : ResH W' lo hi u n F') : Mem w (L.set k (iRows lo hi u n F')) W' :=
  h.mark k e hw (iRows_ok lo hi u n F') hP
theorem OwnAtI.res {g cap : Nat} {zs : List Int} (h : OwnAtI w g zs) {lo : Nat} (hl : lo ≤ g) : ResI w lo w.heap.size (.slice (some ⟨g, 0, none⟩) zs.length cap) zs := .inr ⟨g, cap, rfl, hl, h.lt, h⟩
end
end Go.Proofs.Ytehdpgjbmnkkiaa

namespace Go.Proofs.Ytehdpgjbmnkkiaa
open Go.ChangeShapes Go.WideShapes Go.ChangeAt Go.RowKit Go.Deep Go.Joins
theorem ownKnobs : ownKnob Try.prog.godebug = none := by kernel_rfl
section
variable {H : Type} {enc : TypeId × Value → H} {W : World} {base : Nat} {held : Bool}
theorem arrCells : Try.prog.cellsOf 92 = 3 := by kernel_rfl
set_option maxRecDepth 100000 in
theorem open_arr3 {fuel : Nat} {cs : List Value} {x : DataW H × List MemPlace} (h : DataW.trod enc Try.prog W base (fun _ => true) held fuel 92 cs = some x) :
    ∃ a b c : Int, cs = [.int .i64 a, .int .i64 b, .int .i64 c] ∧ (Lit.int .i64 a).wf = true ∧ (Lit.int .i64 b).wf = true ∧ (Lit.int .i64 c).wf = true := by
  obtain ⟨xs, m, rfl, rfl, hl, hx, hat⟩ := DataW.trod_array Try.underlying92 h
  rw [arrCells] at hl
  match cs, hl with
  | [c0, c1, c2], _ =>
    match xs, hx with
    | [x0, x1, x2], _ =>
      have h0 := hat 0 (by omega)
      have h1 := hat 1 (by omega)
      have h2 := hat 2 (by omega)
      rw [int64Cells] at h0 h1 h2
      simp at h0 h1 h2
      obtain ⟨a, ha, _, wa⟩ := DataW.trod_int Try.underlying2 h0
      obtain ⟨b, hb, _, wb⟩ := DataW.trod_int Try.underlying2 h1
      obtain ⟨c, hc, _, wc⟩ := DataW.trod_int Try.underlying2 h2
      simp at ha hb hc
      exact ⟨a, b, c, by rw [ha, hb, hc], wa, wb, wc⟩
theorem add_at (b off i : Nat) : (⟨b, off, none⟩ : Addr).add i = ⟨b, off + i, none⟩ := by
  unfold Addr.add
  split
  · subst_vars; rfl
  · rfl
set_option maxRecDepth 100000 in
theorem open_arrs {fuel : Nat} {s : Value} {x : DataW H × List MemPlace} (h : DataW.trod enc Try.prog W base (fun _ => true) held fuel 22 [s] = some x) : ∃ bs, InB W s bs := by
  rcases open_slice Try.underlying22 h with ⟨hcs, _⟩ | ⟨a, len, cap, m, n, D, Pl, hcs, hb, hl, hm, hmm, hx, hi⟩
  · simp at hcs
    exact ⟨[], by simp, by simp, .inl ⟨none, 0, hcs, rfl⟩⟩
  · simp at hcs
    subst hcs
    simp at hmm
    subst hmm
    have hm' : m ≤ 9223372036854775807 := by unfold maxLen at hm; exact hm
    by_cases h0 : len = 0
    · subst h0
      exact ⟨[], by simp, by simp, .inl ⟨_, _, rfl, rfl⟩⟩
    · have cell : ∀ i, i < m → ∃ y : Blk, WFB y ∧ ∀ j (v : Value), [Value.int .i64 y.a, Value.int .i64 y.b, Value.int .i64 y.c][j]? = some v → W.cell? (a.add (i * 3 + j)) = some v := fun i him => by
        obtain ⟨cs', hc, ht⟩ := hi i him
        obtain ⟨p, q, r, rfl, wp, wq, wr⟩ := open_arr3 ht
        rw [arrCells] at hc
        obtain ⟨_, _, hat⟩ := World.cells?_some hc
        refine ⟨⟨p, q, r⟩, ⟨wp, wq, wr⟩, fun j v hv => ?_⟩
        have hj : j < 3 := by
          have := (List.getElem?_eq_some_iff.1 hv).1
          simpa using this
        rw [← Go.Deep.add_add, hat j hj]
        exact hv
      obtain ⟨F, hF⟩ := choose_lt (α := Blk) cell
      obtain ⟨b, off, spot⟩ := a
      have hc0 := (hF 0 (by omega)).2 0 _ rfl
      have hspot : spot = none := by simpa [Addr.add] using World.cell?_spot hc0
      subst hspot
      refine ⟨(List.range len).map F, ?_, by simp; omega, .inr ⟨b, off, m, by simp, ?_, ?_⟩⟩
      · intro y hy
        obtain ⟨i, hi', rfl⟩ := List.mem_map.1 hy
        exact (hF i (by have := List.mem_range.1 hi'; omega)).1
      · exact block_lt_of_cell hc0
      · intro k hk
        simp at hk
        have e : ((List.range len).map F)[k]?.getD default = F k := by simp [hk]
        rw [e]
        have := (hF k (by omega)).2
        refine ⟨?_, ?_, ?_⟩
        · have h0 := this 0 _ rfl
          rw [add_at] at h0
          exact h0
        · have h1 := this 1 _ rfl
          rw [add_at, ← Nat.add_assoc] at h1
          exact h1
        · have h2 := this 2 _ rfl
          rw [add_at, ← Nat.add_assoc] at h2
          exact h2
theorem isSys : ∃ f0 f1 : Field, Try.prog.underlying 24 = some (.struct #[f0, f1]) ∧ f0.type = 2 ∧ f1.type = 22 ∧ oneCellFields Try.prog #[f0, f1] = true :=
  ⟨_, _, Try.underlying24, rfl, rfl, by kernel_rfl⟩
theorem sysCells : Try.prog.cellsOf 24 = 2 := by kernel_rfl
set_option maxRecDepth 100000 in
theorem open_system {r : Reach} {b0 : Nat} {v : Value} {d : DataW H} {p : List MemPlace} (hv : Value.okWide Try.prog W r b0 24 v) (h : DataW.Trod enc Try.prog W base (fun _ => true) held 24 v d p) :
    ∃ (n : Int) (s : Value) (bs : List Blk), v = .agg #[.int .i64 n, s] ∧ WF n ∧ InB W s bs := by
  obtain ⟨f0, f1, hu, e0, e1, hone⟩ := isSys
  obtain ⟨v0, v1, y0, y1, n, rfl, _, _, h0, h1⟩ := open_agg2 hu hone sysCells hv h
  rw [e0] at h0
  rw [e1] at h1
  obtain ⟨k, hk, _, wk⟩ := DataW.trod_int Try.underlying2 h0
  simp at hk
  subst hk
  obtain ⟨bs, hbs⟩ := open_arrs h1
  exact ⟨k, v1, bs, rfl, wk, hbs⟩
end
end Go.Proofs.Ytehdpgjbmnkkiaa

namespace Go.Proofs.Ytehdpgjbmnkkiaa
open Go.ChangeShapes Go.WideShapes Go.ChangeAt Go.RowKit Go.Deep Go.Joins
/-- The value is a slice of just these integers, however many. -/
def InZ (w : World) (s : Value) (zs : List Int) : Prop :=
  (∀ z ∈ zs, WF z) ∧ zs.length ≤ 9223372036854775807 ∧ ((∃ a c, s = .slice a 0 c ∧ zs = []) ∨ ∃ b off cap, s = .slice (some ⟨b, off, none⟩) zs.length cap ∧ b < w.heap.size ∧ Ints w b off zs)
theorem InZ.slice {w : World} {s : Value} {zs : List Int} (h : InZ w s zs) : ∃ a c, s = .slice a zs.length c := by
  rcases h.2.2 with ⟨a, c, rfl, rfl⟩ | ⟨b, off, cap, rfl, _⟩ <;> exact ⟨_, _, rfl⟩
theorem InZ.ib {w : World} {s : Value} {zs : List Int} (h : InZ w s zs) (hl : zs.length ≤ 1048576) : IB w s zs := ⟨by omega, h.2.2⟩
/-- The value is a slice of just these rows, however many. -/
def InSS (w : World) (s : Value) (n : Nat) (F : Nat → List Int) : Prop :=
  n ≤ 9223372036854775807 ∧ ((n = 0 ∧ ∃ a c, s = .slice a 0 c) ∨ ∃ b off cap, s = .slice (some ⟨b, off, none⟩) n cap ∧ b < w.heap.size ∧ ∀ k, k < n → ∃ u, w.cell? ⟨b, off + k, none⟩ = some u ∧ InZ w u (F k))
theorem okWide_array {P : Program} {w : World} {r : Reach} {base : Nat} {t : TypeId} {v : Value} {n : Nat} {e : TypeId} (ht : P.underlying t = some (.array n e)) (h : Value.okWide P w r base t v) : ∃ cs, v = .agg cs ∧ cs.size = P.cellsOf t := by
  simp only [Value.okWide, ht] at h
  obtain ⟨cs, h1, h2, _⟩ := h
  exact ⟨cs, h1, h2⟩
section
variable {H : Type} {enc : TypeId × Value → H} {W : World} {base : Nat} {held : Bool}
set_option maxRecDepth 100000 in
theorem open_zs {fuel : Nat} {s : Value} {x : DataW H × List MemPlace} (h : DataW.trod enc Try.prog W base (fun _ => true) held fuel 40 [s] = some x) : ∃ zs, InZ W s zs := by
  rcases open_slice1 Try.underlying40 int64Cells h with ⟨hcs, _⟩ | ⟨a, len, cap, m, n, V, D, Pl, hcs, hb, hl, hm, hmm, hx, hi⟩
  · simp at hcs
    exact ⟨[], by simp, by simp, .inl ⟨none, 0, hcs, rfl⟩⟩
  · simp at hcs
    subst hcs
    simp at hmm
    subst hmm
    have hm' : m ≤ 9223372036854775807 := by unfold maxLen at hm; exact hm
    by_cases h0 : len = 0
    · subst h0
      exact ⟨[], by simp, by simp, .inl ⟨_, _, rfl, rfl⟩⟩
    · have cell : ∀ i, i < m → ∃ y : Int, WF y ∧ W.cell? (a.add i) = some (.int .i64 y) := fun i him => by
        obtain ⟨hc, ht⟩ := hi i him
        obtain ⟨k, hk, _, wk⟩ := DataW.trod_int Try.underlying2 ht
        simp at hk
        exact ⟨k, wk, by rw [hc, hk]⟩
      obtain ⟨F, hF⟩ := choose_lt (α := Int) cell
      obtain ⟨b, off, spot⟩ := a
      have hc0 := (hF 0 (by omega)).2
      have hspot : spot = none := by simpa [Addr.add] using World.cell?_spot hc0
      subst hspot
      refine ⟨(List.range len).map F, ?_, by simp; omega, .inr ⟨b, off, m, by simp, ?_, ?_⟩⟩
      · intro y hy
        obtain ⟨i, hi', rfl⟩ := List.mem_map.1 hy
        exact (hF i (by have := List.mem_range.1 hi'; omega)).1
      · exact block_lt_of_cell hc0
      · intro k hk
        simp at hk
        have e : ((List.range len).map F)[k]?.getD 0 = F k := by simp [hk]
        rw [e]
        have h1 := (hF k (by omega)).2
        rw [add_at] at h1
        exact h1
set_option maxRecDepth 100000 in
theorem open_ints64 {r : Reach} {b0 : Nat} {v : Value} {d : DataW H} {p : List MemPlace} (hv : Value.okWide Try.prog W r b0 40 v) (h : DataW.Trod enc Try.prog W base (fun _ => true) held 40 v d p) : ∃ zs, InZ W v zs := by
  obtain ⟨a, len, cap, rfl⟩ := okWide_slice Try.underlying40 hv
  obtain ⟨fuel, hf⟩ := h
  exact open_zs hf
set_option maxRecDepth 100000 in
theorem open_blocks {r : Reach} {b0 : Nat} {v : Value} {d : DataW H} {p : List MemPlace} (hv : Value.okWide Try.prog W r b0 22 v) (h : DataW.Trod enc Try.prog W base (fun _ => true) held 22 v d p) : ∃ bs, InB W v bs := by
  obtain ⟨a, len, cap, rfl⟩ := okWide_slice Try.underlying22 hv
  obtain ⟨fuel, hf⟩ := h
  exact open_arrs hf
theorem sliceCells : Try.prog.cellsOf 40 = 1 := by kernel_rfl
set_option maxRecDepth 100000 in
theorem open_rows {r : Reach} {b0 : Nat} {v : Value} {d : DataW H} {p : List MemPlace} (hv : Value.okWide Try.prog W r b0 26 v) (h : DataW.Trod enc Try.prog W base (fun _ => true) held 26 v d p) : ∃ n F, InSS W v n F := by
  obtain ⟨A0, L0, C0, rfl⟩ := okWide_slice Try.underlying26 hv
  obtain ⟨fuel, hf⟩ := h
  have hf' : DataW.trod enc Try.prog W base (fun _ => true) held fuel 26 [.slice A0 L0 C0] = some (d, p) := hf
  rcases open_slice1 Try.underlying26 sliceCells hf' with ⟨hcs, _⟩ | ⟨a, len, cap, m, n, V, D, Pl, hcs, hb, hl, hm, hmm, hx, hi⟩
  · simp at hcs
    obtain ⟨rfl, rfl, rfl⟩ := hcs
    exact ⟨0, fun _ => [], by omega, .inl ⟨rfl, _, _, rfl⟩⟩
  · simp at hcs
    obtain ⟨e1, e2, e3⟩ := hcs
    subst e1
    subst e2
    subst e3
    simp at hmm
    subst hmm
    have hm' : m ≤ 9223372036854775807 := by unfold maxLen at hm; exact hm
    by_cases h0 : L0 = 0
    · subst h0
      exact ⟨0, fun _ => [], by omega, .inl ⟨rfl, _, _, rfl⟩⟩
    · have cell : ∀ i, i < m → ∃ y : List Int, ∃ u, W.cell? (a.add i) = some u ∧ InZ W u y := fun i him => by
        obtain ⟨hc, ht⟩ := hi i him
        obtain ⟨zs, hz⟩ := open_zs ht
        exact ⟨zs, _, hc, hz⟩
      obtain ⟨F, hF⟩ := choose_lt (α := List Int) cell
      obtain ⟨b, off, spot⟩ := a
      obtain ⟨u0, hc0, _⟩ := hF 0 (by omega)
      have hspot : spot = none := by simpa [Addr.add] using World.cell?_spot hc0
      subst hspot
      refine ⟨L0, F, by omega, .inr ⟨b, off, m, rfl, block_lt_of_cell hc0, fun k hk => ?_⟩⟩
      obtain ⟨u, h1, h2⟩ := hF k (by omega)
      rw [add_at] at h1
      exact ⟨u, h1, h2⟩
set_option maxRecDepth 100000 in
theorem open_blk {r : Reach} {b0 : Nat} {v : Value} {d : DataW H} {p : List MemPlace} (hv : Value.okWide Try.prog W r b0 92 v) (h : DataW.Trod enc Try.prog W base (fun _ => true) held 92 v d p) : ∃ x, v = bv x ∧ WFB x := by
  obtain ⟨cs, rfl, hsz⟩ := okWide_array Try.underlying92 hv
  obtain ⟨fuel, hf⟩ := h
  obtain ⟨a, b, c, e, wa, wb, wc⟩ := open_arr3 hf
  have : cs.toList = [.int .i64 a, .int .i64 b, .int .i64 c] := e
  refine ⟨⟨a, b, c⟩, ?_, wa, wb, wc⟩
  unfold bv
  rw [← this]
end
end Go.Proofs.Ytehdpgjbmnkkiaa

namespace Go.Proofs.Ytehdpgjbmnkkiaa
open Go.RowKit Go.Maps
structure CS (w : World) (v p : Int) (s sW s8 sG : Value) (XW X XG i0 i1 j1 j2 k1 k2 : Nat) (LW L8 LG : List Blk) (W : World) : Prop where
  st : St1 w v s W
  o0 : w.heap.size < i0
  o1 : i0 ≤ i1
  o2 : i1 ≤ XW
  o3 : XW < j1
  o4 : j1 ≤ j2
  o5 : j2 ≤ X
  o6 : X < k1
  o7 : k1 ≤ k2
  o8 : k2 ≤ XG
  rW : ResR W i0 i1 sW LW
  vW : VarB W XW p sW
  r8 : ResR W j1 j2 s8 L8
  vX : VarB W X v s8
  rG : ResR W k1 k2 sG LG
  vG : VarB W XG p sG
section
variable {w : World} {v p : Int} {s sW s8 sG : Value} {XW X XG i0 i1 j1 j2 k1 k2 : Nat} {LW L8 LG : List Blk} {W W' : World}
theorem CS.step (h : CS w v p s sW s8 sG XW X XG i0 i1 j1 j2 k1 k2 LW L8 LG W) (hg : W.grownBy W' none) : CS w v p s sW s8 sG XW X XG i0 i1 j1 j2 k1 k2 LW L8 LG W' :=
  ⟨h.st.step hg (by simp), h.o0, h.o1, h.o2, h.o3, h.o4, h.o5, h.o6, h.o7, h.o8, h.rW.kept hg (by simp), h.vW.step hg (by simp), h.r8.kept hg (by simp), h.vX.step hg (by simp), h.rG.kept hg (by simp), h.vG.step hg (by simp)⟩
theorem CS.mark8 (h : CS w v p s sW s8 sG XW X XG i0 i1 j1 j2 k1 k2 LW L8 LG W) {row : Option Nat} (hg : W.grownBy W' row) (hr : ∀ r, row = some r → j1 ≤ r ∧ r < j2) {L : List Blk} (hn : ResR W' j1 j2 s8 L) :
    CS w v p s sW s8 sG XW X XG i0 i1 j1 j2 k1 k2 LW L LG W' := by
  obtain ⟨st, o0, o1, o2, o3, o4, o5, o6, o7, o8, rW, vW, r8, vX, rG, vG⟩ := h
  exact ⟨st.step hg (fun r e => by have := hr r e; omega), o0, o1, o2, o3, o4, o5, o6, o7, o8, rW.kept hg (fun r e => by have := hr r e; omega), vW.step hg (fun e => by have := hr _ e; omega), hn, vX.step hg (fun e => by have := hr _ e; omega), rG.kept hg (fun r e => by have := hr r e; omega), vG.step hg (fun e => by have := hr _ e; omega)⟩
theorem CS.markG (h : CS w v p s sW s8 sG XW X XG i0 i1 j1 j2 k1 k2 LW L8 LG W) {row : Option Nat} (hg : W.grownBy W' row) (hr : ∀ r, row = some r → k1 ≤ r ∧ r < k2) {L : List Blk} (hn : ResR W' k1 k2 sG L) :
    CS w v p s sW s8 sG XW X XG i0 i1 j1 j2 k1 k2 LW L8 L W' := by
  obtain ⟨st, o0, o1, o2, o3, o4, o5, o6, o7, o8, rW, vW, r8, vX, rG, vG⟩ := h
  exact ⟨st.step hg (fun r e => by have := hr r e; omega), o0, o1, o2, o3, o4, o5, o6, o7, o8, rW.kept hg (fun r e => by have := hr r e; omega), vW.step hg (fun e => by have := hr _ e; omega), r8.kept hg (fun r e => by have := hr r e; omega), vX.step hg (fun e => by have := hr _ e; omega), hn, vG.step hg (fun e => by have := hr _ e; omega)⟩
end
end Go.Proofs.Ytehdpgjbmnkkiaa

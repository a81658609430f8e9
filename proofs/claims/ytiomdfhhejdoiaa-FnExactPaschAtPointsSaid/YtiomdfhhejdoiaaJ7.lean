
/- The memory of a law between two of its steps: items, each in blocks of its own, the newest first. The laws' marks in rows of rows, for the laws' memory of MemL. Rows of blocks that are written and sorted in place. Two blocks are compared point by point. What TakeBlock answers: plain. impl.TakeBlock answers as the plain function takeF. The contract of the sort, laid at the blocks. The program's systemFrom. Rows of rows as a list, with their places; the outline's l03Put. -/
import Derived.Test.YtiomdfhhejdoiaaJ6
import Derived.Shelf.SlSortCmp.NoneTotal
import Derived.Ground.SlsfProg
import Derived.Test.YtiomdfhhejdoiaaProg
namespace Go.Proofs.Ytiomdfhhejdoiaa
open Go.RowKit Go.Maps
def Stays (lo hi : Nat) (W W' : World) : Prop := W.heap.size ≤ W'.heap.size ∧ ∀ i, lo ≤ i → i < hi → W'.heap[i]? = W.heap[i]?
structure Item where
  lo : Nat
  hi : Nat
  P : World → Prop
def Item.Ok (it : Item) : Prop := ∀ W W', it.hi ≤ W.heap.size → Stays it.lo it.hi W W' → it.P W → it.P W'
structure Mem (w : World) (L : List Item) (W : World) : Prop where
  below : Below w.heap.size w W
  pw : L.Pairwise (fun x y => y.hi ≤ x.lo ∨ x.hi ≤ y.lo)
  rng : ∀ it ∈ L, w.heap.size ≤ it.lo ∧ it.lo ≤ it.hi ∧ it.hi ≤ W.heap.size
  ok : ∀ it ∈ L, it.Ok
  holds : ∀ it ∈ L, it.P W
def MemOf {w : World} {L : List Item} {W : World} (_ : Mem w L W) (wx : World) : Prop := Mem w L wx
/-- Only blocks from lo on, below hi, have changed, and what is new. -/
structure OnlyIn (lo hi : Nat) (W W' : World) : Prop where
  os : W'.os = W.os
  tape : W'.tape = W.tape
  output : W'.output = W.output
  size : W.heap.size ≤ W'.heap.size
  block : ∀ i, i < W.heap.size → (i < lo ∨ hi ≤ i) → W'.heap[i]? = W.heap[i]?
section
variable {lo hi lo' hi' : Nat} {W W' W'' w : World} {L : List Item}
theorem OnlyIn.of_grown {row : Option Nat} (hg : W.grownBy W' row) (hr : ∀ r, row = some r → lo ≤ r ∧ r < hi) : OnlyIn lo hi W W' :=
  ⟨hg.os, hg.tape, hg.output, hg.size, fun i h1 h2 => hg.block i h1 (fun e => by have := hr i e.symm; omega)⟩
theorem OnlyIn.refl (lo hi : Nat) (W : World) : OnlyIn lo hi W W := ⟨rfl, rfl, rfl, Nat.le_refl _, fun _ _ _ => rfl⟩
theorem OnlyIn.trans (h : OnlyIn lo hi W W') (k : OnlyIn lo hi W' W'') : OnlyIn lo hi W W'' :=
  ⟨k.os.trans h.os, k.tape.trans h.tape, k.output.trans h.output, Nat.le_trans h.size k.size, fun i h1 h2 => (k.block i (Nat.lt_of_lt_of_le h1 h.size) h2).trans (h.block i h1 h2)⟩
theorem OnlyIn.of_below (h : Below lo W W') : OnlyIn lo W.heap.size W W' :=
  ⟨h.os, h.tape, h.output, h.size, fun i h1 h2 => h.block i (by omega)⟩
theorem OnlyIn.stays (h : OnlyIn lo hi W W') (hh : hi' ≤ W.heap.size) (hd : hi' ≤ lo ∨ hi ≤ lo') : Stays lo' hi' W W' :=
  ⟨h.size, fun i h1 h2 => h.block i (by omega) (by omega)⟩
theorem OnlyIn.below (h : OnlyIn lo hi W W') {B : Nat} (hB : B ≤ lo) (hz : B ≤ W.heap.size) : Below B W W' :=
  ⟨h.os, h.tape, h.output, h.size, fun i h1 => h.block i (by omega) (by omega)⟩
theorem Mem.start (w : World) : Mem w [] w := ⟨Below.refl _ _, List.Pairwise.nil, by simp, by simp, by simp⟩
theorem Mem.step (h : Mem w L W) (hg : W.grownBy W' none) : Mem w L W' :=
  ⟨h.below.grown hg h.below.size (by simp), h.pw, fun it hi => ⟨(h.rng it hi).1, (h.rng it hi).2.1, Nat.le_trans (h.rng it hi).2.2 hg.size⟩, h.ok,
    fun it hi => h.ok it hi W W' (h.rng it hi).2.2 ⟨hg.size, fun i _ h2 => hg.block i (Nat.lt_of_lt_of_le h2 (h.rng it hi).2.2) (by simp)⟩ (h.holds it hi)⟩
theorem Mem.push (h : Mem w L W) (hg : W.grownBy W' none) (it : Item) (h1 : W.heap.size ≤ it.lo) (h2 : it.lo ≤ it.hi) (h3 : it.hi ≤ W'.heap.size) (ok : it.Ok) (hP : it.P W') : Mem w (it :: L) W' := by
  have hs := h.step hg
  refine ⟨hs.below, List.pairwise_cons.2 ⟨fun y hy => .inl (Nat.le_trans (h.rng y hy).2.2 h1), hs.pw⟩, ?_, ?_, ?_⟩
  · intro x hx
    rcases List.mem_cons.1 hx with rfl | hx
    · exact ⟨Nat.le_trans h.below.size h1, h2, h3⟩
    · exact hs.rng x hx
  · intro x hx
    rcases List.mem_cons.1 hx with rfl | hx
    · exact ok
    · exact hs.ok x hx
  · intro x hx
    rcases List.mem_cons.1 hx with rfl | hx
    · exact hP
    · exact hs.holds x hx
theorem Mem.swap {a b : Item} (h : Mem w (a :: b :: L) W) : Mem w (b :: a :: L) W := by
  have hm : ∀ x, x ∈ b :: a :: L → x ∈ a :: b :: L := fun x hx => by simp only [List.mem_cons] at hx ⊢; rcases hx with h | h | h <;> simp [h]
  refine ⟨h.below, ?_, fun it hi => h.rng it (hm it hi), fun it hi => h.ok it (hm it hi), fun it hi => h.holds it (hm it hi)⟩
  have hp := h.pw
  rw [List.pairwise_cons, List.pairwise_cons] at hp
  refine List.pairwise_cons.2 ⟨fun y hy => ?_, List.pairwise_cons.2 ⟨fun y hy => hp.1 y (by simp [hy]), hp.2.2⟩⟩
  rcases List.mem_cons.1 hy with rfl | hy
  · exact (hp.1 b (by simp)).symm
  · exact hp.2.1 y hy
theorem Mem.at (h : Mem w L W) (k : Nat) {it : Item} (e : L[k]? = some it) : it.P W := h.holds it (List.mem_of_getElem? e)
theorem mem_set_cases {k : Nat} {x y it : Item} (_e : L[k]? = some it) (hx : x ∈ L.set k y) : x = y ∨ ∃ j, j ≠ k ∧ L[j]? = some x := by
  obtain ⟨j, hj⟩ := List.mem_iff_getElem?.1 hx
  rw [List.getElem?_set] at hj
  split at hj
  · split at hj
    · cases hj; exact .inl rfl
    · cases hj
  · exact .inr ⟨j, by omega, hj⟩
theorem Mem.apart (h : Mem w L W) {k j : Nat} {x it : Item} (e : L[k]? = some it) (f : L[j]? = some x) (hne : j ≠ k) : it.hi ≤ x.lo ∨ x.hi ≤ it.lo := by
  obtain ⟨hk, e⟩ := List.getElem?_eq_some_iff.1 e
  obtain ⟨hj, f⟩ := List.getElem?_eq_some_iff.1 f
  have hp := List.pairwise_iff_getElem.1 h.pw
  rcases Nat.lt_or_gt_of_ne hne with hlt | hlt
  · have := hp j k hj hk hlt
    rw [e, f] at this
    exact this
  · have := hp k j hk hj hlt
    rw [e, f] at this
    exact this.symm
theorem Mem.mark (h : Mem w L W) (k : Nat) {it : Item} (e : L[k]? = some it) (hw : OnlyIn it.lo it.hi W W') {P' : World → Prop} (ok : Item.Ok ⟨it.lo, it.hi, P'⟩) (hP : P' W') : Mem w (L.set k ⟨it.lo, it.hi, P'⟩) W' := by
  have hit := List.mem_of_getElem? e
  have hr := h.rng it hit
  refine ⟨h.below.trans (hw.below hr.1 (by omega)), ?_, ?_, ?_, ?_⟩
  · rw [List.pairwise_iff_getElem]
    intro i j hi hj hlt
    rw [List.length_set] at hi hj
    have hp := List.pairwise_iff_getElem.1 h.pw i j hi hj hlt
    obtain ⟨hk, e'⟩ := List.getElem?_eq_some_iff.1 e
    rw [List.getElem_set, List.getElem_set]
    split
    · rename_i hki
      cases hki
      rw [if_neg (by omega)]
      rw [e'] at hp; exact hp
    · split
      · rename_i hkj
        cases hkj
        rw [e'] at hp; exact hp
      · exact hp
  · intro x hx
    rcases mem_set_cases e hx with rfl | ⟨j, hj, f⟩
    · exact ⟨hr.1, hr.2.1, Nat.le_trans hr.2.2 hw.size⟩
    · have := h.rng x (List.mem_of_getElem? f)
      exact ⟨this.1, this.2.1, Nat.le_trans this.2.2 hw.size⟩
  · intro x hx
    rcases mem_set_cases e hx with rfl | ⟨j, hj, f⟩
    · exact ok
    · exact h.ok x (List.mem_of_getElem? f)
  · intro x hx
    rcases mem_set_cases e hx with rfl | ⟨j, hj, f⟩
    · exact hP
    · have hx := List.mem_of_getElem? f
      exact h.ok x hx W W' (h.rng x hx).2.2 (hw.stays (h.rng x hx).2.2 ((h.apart e f hj).symm)) (h.holds x hx)
end
section
variable {w w' : World} {lo hi g : Nat}
theorem OwnAt.stay {bs : List Blk} (h : OwnAt w g bs) (hb : w'.heap[g]? = w.heap[g]?) (hz : w.heap.size ≤ w'.heap.size) : OwnAt w' g bs := by
  refine ⟨Nat.lt_of_lt_of_le h.lt hz, fun k hk => ?_, fun o => ?_⟩
  · obtain ⟨h1, h2, h3⟩ := h.at_ k hk
    exact ⟨(World.cell?_of_block (w := w) (a := ⟨g, _, none⟩) hb).trans h1, (World.cell?_of_block (w := w) (a := ⟨g, _, none⟩) hb).trans h2, (World.cell?_of_block (w := w) (a := ⟨g, _, none⟩) hb).trans h3⟩
  · exact (World.frozen?_of_block (w := w) (a := ⟨g, o, none⟩) hb).trans (h.free o)
theorem OwnAtI.stay {zs : List Int} (h : OwnAtI w g zs) (hb : w'.heap[g]? = w.heap[g]?) (hz : w.heap.size ≤ w'.heap.size) : OwnAtI w' g zs :=
  ⟨Nat.lt_of_lt_of_le h.lt hz, fun k hk => (World.cell?_of_block (w := w) (a := ⟨g, _, none⟩) hb).trans (h.at_ k hk), fun o => (World.frozen?_of_block (w := w) (a := ⟨g, o, none⟩) hb).trans (h.free o)⟩
/-- Blocks in memory of their own. -/
def iBlks (lo hi : Nat) (s : Value) (bs : List Blk) : Item := ⟨lo, hi, fun W => ResR W lo hi s bs⟩
theorem iBlks_ok (lo hi : Nat) (s : Value) (bs : List Blk) : (iBlks lo hi s bs).Ok := fun W W' _ hs h => by
  rcases h with h | ⟨g, cap, rfl, h1, h2, ho⟩
  · exact .inl h
  · exact .inr ⟨g, cap, rfl, h1, h2, ho.stay (hs.2 g h1 h2) hs.1⟩
/-- Integers in memory of their own. -/
def iInts (lo hi : Nat) (s : Value) (zs : List Int) : Item := ⟨lo, hi, fun W => ResI W lo hi s zs⟩
theorem iInts_ok (lo hi : Nat) (s : Value) (zs : List Int) : (iInts lo hi s zs).Ok := fun W W' _ hs h => by
  rcases h with h | ⟨g, cap, rfl, h1, h2, ho⟩
  · exact .inl h
  · exact .inr ⟨g, cap, rfl, h1, h2, ho.stay (hs.2 g h1 h2) hs.1⟩
/-- Rows in memory of their own. -/
def ResH (W : World) (lo hi : Nat) (u : Value) (n : Nat) (F : Nat → List Int) : Prop :=
  (n = 0 ∧ ∃ a c, u = .slice a 0 c) ∨ ∃ G cap gs caps, u = .slice (some ⟨G, 0, none⟩) n cap ∧ lo ≤ G ∧ G < hi ∧ (∀ k, k < n → gs k < hi) ∧ SSR W lo G gs caps n F
theorem ResSS.resH {lo n : Nat} {u : Value} {F : Nat → List Int} (h : ResSS w lo u n F) : ResH w lo w.heap.size u n F := by
  rcases h with h | ⟨G, cap, gs, caps, rfl, hG, hS⟩
  · exact .inl h
  · exact .inr ⟨G, cap, gs, caps, rfl, hG, hS.lt, fun k hk => (hS.row k hk).lt, hS⟩
theorem ResH.slice {n : Nat} {u : Value} {F : Nat → List Int} (h : ResH w lo hi u n F) : ∃ a c, u = .slice a n c := by
  rcases h with ⟨rfl, a, c, rfl⟩ | ⟨G, cap, gs, caps, rfl, _⟩ <;> exact ⟨_, _, rfl⟩
theorem ResH.sb {n : Nat} {u : Value} {F : Nat → List Int} (h : ResH w lo hi u n F) (hn : n ≤ 1100000) (hF : ∀ k, k < n → (F k).length ≤ 1100000) : SSB w u n F := by
  rcases h with h | ⟨G, cap, gs, caps, rfl, hG, _, _, hS⟩
  · exact ⟨hn, .inl h⟩
  · exact hS.sb hn hF
def iRows (lo hi : Nat) (u : Value) (n : Nat) (F : Nat → List Int) : Item := ⟨lo, hi, fun W => ResH W lo hi u n F⟩
theorem iRows_ok (lo hi : Nat) (u : Value) (n : Nat) (F : Nat → List Int) : (iRows lo hi u n F).Ok := fun W W' hh hs h => by
  rcases h with h | ⟨G, cap, gs, caps, rfl, h1, h2, h3, hS⟩
  · exact .inl h
  · refine .inr ⟨G, cap, gs, caps, rfl, h1, h2, h3, fun k hk => ?_, fun k hk => (hS.row k hk).stay (hs.2 _ (hS.low k hk) (h3 k hk)) hs.1, hS.ne, hS.inc, hS.low, Nat.lt_of_lt_of_le hS.lt hs.1⟩
    exact (World.cell?_of_block (w := W) (a := ⟨G, k, none⟩) (hs.2 G h1 h2)).trans (hS.cell k hk)
/-- A variable that holds a system. -/
def iVar (X : Nat) (v : Int) (s : Value) : Item := ⟨X, X + 1, fun W => VarB W X v s⟩
theorem iVar_ok (X : Nat) (v : Int) (s : Value) : (iVar X v s).Ok := fun W W' _ hs h => by
  have hb := hs.2 X (Nat.le_refl _) (Nat.lt_succ_self _)
  exact ⟨Nat.lt_of_lt_of_le h.lt hs.1, (World.cell?_of_block (w := W) (a := ⟨X, 0, none⟩) hb).trans h.c0, (World.cell?_of_block (w := W) (a := ⟨X, 1, none⟩) hb).trans h.c1⟩
/-- A variable that holds a block. -/
structure VarA (W : World) (X : Nat) (x : Blk) : Prop where
  lt : X < W.heap.size
  c0 : W.cell? ⟨X, 0, none⟩ = some (.int .i64 x.a)
  c1 : W.cell? ⟨X, 1, none⟩ = some (.int .i64 x.b)
  c2 : W.cell? ⟨X, 2, none⟩ = some (.int .i64 x.c)
theorem VarA.new (W : World) (x : Blk) (T : TypeId) : VarA (W.alloc (.cells #[.int .i64 x.a, .int .i64 x.b, .int .i64 x.c] T)) W.heap.size x := ⟨by simp, by simp, by simp, by simp⟩
def iArr (X : Nat) (x : Blk) : Item := ⟨X, X + 1, fun W => VarA W X x⟩
theorem iArr_ok (X : Nat) (x : Blk) : (iArr X x).Ok := fun W W' _ hs h => by
  have hb := hs.2 X (Nat.le_refl _) (Nat.lt_succ_self _)
  exact ⟨Nat.lt_of_lt_of_le h.lt hs.1, (World.cell?_of_block (w := W) (a := ⟨X, 0, none⟩) hb).trans h.c0, (World.cell?_of_block (w := W) (a := ⟨X, 1, none⟩) hb).trans h.c1, (World.cell?_of_block (w := W) (a := ⟨X, 2, none⟩) hb).trans h.c2⟩
end
section
variable {w W W' : World} {L : List Item} {lo hi : Nat}
theorem Mem.var (h : Mem w L W) (k : Nat) {X : Nat} {v : Int} {s : Value} (e : L[k]? = some (iVar X v s)) : VarB W X v s := h.at k e
theorem Mem.arr (h : Mem w L W) (k : Nat) {X : Nat} {x : Blk} (e : L[k]? = some (iArr X x)) : VarA W X x := h.at k e
theorem Mem.blks (h : Mem w L W) (k : Nat) {s : Value} {bs : List Blk} (e : L[k]? = some (iBlks lo hi s bs)) : ResR W lo hi s bs := h.at k e
theorem Mem.ints (h : Mem w L W) (k : Nat) {s : Value} {zs : List Int} (e : L[k]? = some (iInts lo hi s zs)) : ResI W lo hi s zs := h.at k e
theorem Mem.rows (h : Mem w L W) (k : Nat) {u : Value} {n : Nat} {F : Nat → List Int} (e : L[k]? = some (iRows lo hi u n F)) : ResH W lo hi u n F := h.at k e
theorem Mem.pushVar (h : Mem w L W) (v : Int) (s : Value) (T : TypeId) : Mem w (iVar W.heap.size v s :: L) (W.alloc (.cells #[.int .i64 v, s] T)) :=
  h.push (gb_alloc1 W _) (iVar W.heap.size v s) (Nat.le_refl _) (Nat.le_succ _) (by simp [iVar]) (iVar_ok _ _ _) (VarB.new W v s T)
theorem Mem.pushArr (h : Mem w L W) (x : Blk) (T : TypeId) : Mem w (iArr W.heap.size x :: L) (W.alloc (.cells #[.int .i64 x.a, .int .i64 x.b, .int .i64 x.c] T)) :=
  h.push (gb_alloc1 W _) (iArr W.heap.size x) (Nat.le_refl _) (Nat.le_succ _) (by simp [iArr]) (iArr_ok _ _) (VarA.new W x T)
theorem Mem.pushB (h : Mem w L W) (hb : Below W.heap.size W W') {s : Value} {bs : List Blk} (hr : ResR W' W.heap.size W'.heap.size s bs) : Mem w (iBlks W.heap.size W'.heap.size s bs :: L) W' :=
  h.push (gb_below hb) (iBlks W.heap.size W'.heap.size s bs) (Nat.le_refl _) hb.size (Nat.le_refl _) (iBlks_ok _ _ _ _) hr
theorem Mem.pushI (h : Mem w L W) (hb : Below W.heap.size W W') {s : Value} {zs : List Int} (hr : ResI W' W.heap.size W'.heap.size s zs) : Mem w (iInts W.heap.size W'.heap.size s zs :: L) W' :=
  h.push (gb_below hb) (iInts W.heap.size W'.heap.size s zs) (Nat.le_refl _) hb.size (Nat.le_refl _) (iInts_ok _ _ _ _) hr
theorem Mem.pushH (h : Mem w L W) (hb : Below W.heap.size W W') {u : Value} {n : Nat} {F : Nat → List Int} (hr : ResH W' W.heap.size W'.heap.size u n F) : Mem w (iRows W.heap.size W'.heap.size u n F :: L) W' :=
  h.push (gb_below hb) (iRows W.heap.size W'.heap.size u n F) (Nat.le_refl _) hb.size (Nat.le_refl _) (iRows_ok _ _ _ _ _) hr
theorem Mem.markB (h : Mem w L W) (k : Nat) {s : Value} {bs : List Blk} (e : L[k]? = some (iBlks lo hi s bs)) (hw : ∃ row, W.grownBy W' row ∧ ∀ r, row = some r → lo ≤ r ∧ r < hi) {bs' : List Blk} (hP : ResR W' lo hi s bs') : Mem w (L.set k (iBlks lo hi s bs')) W' := by
  obtain ⟨row, hg, hr⟩ := hw
  exact h.mark k e (OnlyIn.of_grown hg hr) (iBlks_ok lo hi s bs') hP
theorem Mem.markI (h : Mem w L W) (k : Nat) {s : Value} {zs : List Int} (e : L[k]? = some (iInts lo hi s zs)) (hw : ∃ row, W.grownBy W' row ∧ ∀ r, row = some r → lo ≤ r ∧ r < hi) {zs' : List Int} (hP : ResI W' lo hi s zs') : Mem w (L.set k (iInts lo hi s zs')) W' := by
  obtain ⟨row, hg, hr⟩ := hw
  exact h.mark k e (OnlyIn.of_grown hg hr) (iInts_ok lo hi s zs') hP
theorem Mem.markH (h : Mem w L W) (k : Nat) {u : Value} {n : Nat} {F : Nat → List Int} (e : L[k]? = some (iRows lo hi u n F)) (hw : OnlyIn lo hi W W') {F' : Nat → List Int} (hP : ResH W' lo hi u n F') : Mem w (L.set k (iRows lo hi u n F')) W' :=
  h.mark k e hw (iRows_ok lo hi u n F') hP
theorem OwnAtI.res {g cap : Nat} {zs : List Int} (h : OwnAtI w g zs) {lo : Nat} (hl : lo ≤ g) : ResI w lo w.heap.size (.slice (some ⟨g, 0, none⟩) zs.length cap) zs := .inr ⟨g, cap, rfl, hl, h.lt, h⟩
end
end Go.Proofs.Ytiomdfhhejdoiaa

namespace Go.Proofs.Ytiomdfhhejdoiaa
open Go.RowKit Go.Maps
set_option maxRecDepth 100000 in
theorem markInt64SS_nil (a : Option Addr) (c : Nat) (k : Int) (w : World) : Calls Try.prog 31 #[.slice a 0 c, .int .i64 k] w (RS (.int .i64 k) w) := by
  go_enter Try.func31, Try.ntmps31
  go_wp2
  refine wp_loop_rounds 1 ?_
  rw [rounds_succ]
  go_wp2
  go_ret
  exact RS_of rfl
set_option maxRecDepth 100000 in
theorem heldInt64SS_nil (a : Option Addr) (c : Nat) (k : Int) (w : World) : Calls Try.prog 32 #[.slice a 0 c, .int .i64 k] w (RS (.int .i64 k) w) := by
  go_enter Try.func32, Try.ntmps32
  go_wp2
  refine wp_loop_rounds 1 ?_
  rw [rounds_succ]
  go_wp2
  go_ret
  exact RS_of rfl
set_option maxRecDepth 100000 in
theorem markInt64SS_in (lo hi G cap : Nat) (gs caps : Nat → Nat) (n : Nat) (F : Nat → List Int) (k0 : Int) (w : World) (h : SSR w lo G gs caps n F) (hh : ∀ k, k < n → gs k < hi) (hl : n ≤ 1100000) (hT : tot F n ≤ 1100000) (h0 : 0 ≤ k0) (h1 : k0 ≤ 5000000) :
    Calls Try.prog 31 #[.slice (some ⟨G, 0, none⟩) n cap, .int .i64 k0] w (fun e w' => e = .returned (.int .i64 (k0 + tot F n)) ∧ OnlyIn lo hi w w' ∧ SSR w' lo G gs caps n (markSS k0 F)) := by
  have H := Lib.hid h
  have HH := Lib.hid hh
  clear h hh
  go_enter Try.func31, Try.ntmps31
  go_wp2
  go_loopw [1, 5] (fun t i wr => ∃ j : Nat, j ≤ n ∧ i = .int .i64 j ∧ t = .int .i64 (k0 + tot F j) ∧ OnlyIn lo hi w wr ∧ SSR wr lo G gs caps n (partSS k0 F j)) (fun _ i _ => n - (intOf i).toNat)
  case atStart => exact ⟨0, Nat.zero_le _, rfl, by simp [tot], OnlyIn.refl _ _ _, H.out.congr (fun k _ => by simp [partSS])⟩
  case round =>
    obtain ⟨j, hj, rfl, rfl, hB, hS⟩ := hrel
    by_cases hjl : j < n
    · have c1 := hS.cell j hjl
      have hrow := hS.row j hjl
      have hlow := hS.low j hjl
      have hhi := HH.out j hjl
      have hlen := partSS_len k0 F j j
      have hFj : partSS k0 F j j = F j := by simp [partSS]
      rw [hFj] at c1 hrow
      have htj : tot F (j + 1) ≤ tot F n := tot_le F hjl
      have htj' : tot F (j + 1) = tot F j + (F j).length := rfl
      have HS := Lib.hid hS
      have HM := Lib.hid (markInt64S_any (gs j) (caps j) (F j) (k0 + tot F j) wr hrow (by omega) (by omega) (by omega))
      clear hlen hFj hrow hS
      have g0 : (0 : Int) ≤ (j : Int) := by omega
      have g1 : (j : Int) < (n : Int) := by omega
      go_wp2_with (go_at_call 19; refine HM.out.mono ?_; rintro e w1 ⟨rfl, hg1, ho1⟩)
      go_roundw
      case rel => exact ⟨j + 1, by omega, by go_num, int_eq (by rw [htj']; omega), hB.trans (OnlyIn.of_grown hg1 (fun r e => by cases e; exact ⟨hlow, hhi⟩)), by
        have := HS.out.mark1 hjl (markSS k0 F j) (by unfold markSS; rw [markI_length, partSS_len]) hg1 ho1
        rw [partSS_succ] at this
        exact this⟩
      case measure => simp [intOf]; omega
    · go_wp2
      go_ret
      have e : j = n := by omega
      subst e
      exact ⟨rfl, hB, hS.congr (fun k hk => by simp [partSS, hk])⟩
theorem ResH.mark {lo hi n : Nat} {w : World} {u : Value} {F : Nat → List Int} (h : ResH w lo hi u n F) (hn : n ≤ 1100000) (hT : tot F n ≤ 1100000) (k0 : Int) (h0 : 0 ≤ k0) (h1 : k0 ≤ 5000000) :
    Calls Try.prog 31 #[u, .int .i64 k0] w (fun e w' => e = .returned (.int .i64 (k0 + tot F n)) ∧ OnlyIn lo hi w w' ∧ ResH w' lo hi u n (markSS k0 F)) := by
  rcases h with ⟨rfl, a, c, rfl⟩ | ⟨G, cap, gs, caps, rfl, hG, hG2, hgs, hS⟩
  · refine (markInt64SS_nil a c k0 w).mono ?_
    rintro e w' ⟨rfl, rfl⟩
    exact ⟨by simp [tot], OnlyIn.refl _ _ _, .inl ⟨rfl, a, c, rfl⟩⟩
  · refine (markInt64SS_in lo hi G cap gs caps n F k0 w hS hgs hn hT h0 h1).mono ?_
    rintro e w' ⟨rfl, hb, hS'⟩
    exact ⟨rfl, hb, .inr ⟨G, cap, gs, caps, rfl, hG, hG2, hgs, hS'⟩⟩
theorem ResH.held {lo hi n : Nat} {w : World} {u : Value} {F : Nat → List Int} (k0 : Int) (h : ResH w lo hi u n (markSS k0 F)) (hn : n ≤ 1100000) (hT : tot F n ≤ 1100000) (h0 : 0 ≤ k0) (h1 : k0 ≤ 5000000) :
    Calls Try.prog 32 #[u, .int .i64 k0] w (RS (.int .i64 (k0 + tot F n)) w) := by
  rcases h with ⟨rfl, a, c, rfl⟩ | ⟨G, cap, gs, caps, rfl, hG, _, _, hS⟩
  · have e : k0 + ((tot F 0 : Nat) : Int) = k0 := by simp [tot]
    rw [e]
    exact heldInt64SS_nil a c k0 w
  · exact heldInt64SS_any lo G cap gs caps n F k0 w hS hn hT h0 h1
/-- The rows of a list. -/
def rowsF (L : List (List Int)) (k : Nat) : List Int := L[k]?.getD []
/-- Returns fresh rows and a code. -/
def RRows (r : List (List Int) × Int) (w : World) (e : Ending) (w' : World) : Prop := ∃ u, e = .returned (.tuple #[u, .int .i64 r.2]) ∧ ResSS w' w.heap.size u r.1.length (rowsF r.1) ∧ Below w.heap.size w w'
theorem rowsF_len {L : List (List Int)} (h : tot (rowsF L) L.length ≤ 1100000) : ∀ k, k < L.length → (rowsF L k).length ≤ 1100000 := fun k hk => by
  have h1 : tot (rowsF L) (k + 1) ≤ tot (rowsF L) L.length := tot_le _ hk
  have h2 : tot (rowsF L) (k + 1) = tot (rowsF L) k + (rowsF L k).length := rfl
  omega
end Go.Proofs.Ytiomdfhhejdoiaa

namespace Go.Proofs.Ytiomdfhhejdoiaa
open Go.RowKit Go.Maps Go.Sort
theorem heap_set_own {w : World} {g o : Nat} {u : Value} {cs : Array Value} {e : TypeId} {fr : Nat × Nat} (h : w.heap[g]? = some (.cells cs e fr)) : (w.setCell ⟨g, o, none⟩ u).heap[g]? = some (.cells (cs.setIfInBounds o u) e fr) := by
  obtain ⟨hlt, hk⟩ := Array.getElem?_eq_some_iff.1 h
  show (w.heap.modify g _)[g]? = _
  rw [Array.getElem?_eq_getElem (by rw [Array.size_modify]; exact hlt), Array.getElem_modify_self, hk]
  rfl
theorem flat_set : ∀ (bs : List Blk) (i : Nat) (x : Blk), i < bs.length → (((bs.flatMap cells3).set (i * 3) (.int .i64 x.a)).set (i * 3 + 1) (.int .i64 x.b)).set (i * 3 + 2) (.int .i64 x.c) = (bs.set i x).flatMap cells3
  | [], _, _, h => by simp at h
  | y :: r, 0, x, _ => by simp [cells3]
  | y :: r, i + 1, x, h => by
    have ih := flat_set r i x (by simpa using h)
    rw [List.set_cons_succ, List.flatMap_cons, List.flatMap_cons, ← ih]
    rw [show (i + 1) * 3 = i * 3 + 1 + 1 + 1 by omega, show i * 3 + 1 + 1 + 1 + 1 = i * 3 + 1 + 1 + 1 + 1 from rfl, show i * 3 + 1 + 1 + 1 + 2 = i * 3 + 2 + 1 + 1 + 1 by omega]
    simp only [cells3, List.cons_append, List.nil_append, List.set_cons_succ]
theorem OwnR.set3 {w : World} {base g n cap : Nat} {bs : List Blk} (h : OwnR w base (.slice (some ⟨g, 0, none⟩) n cap) bs) {i : Nat} (hi : i < bs.length) (x : Blk) :
    OwnR (((w.setCell ⟨g, i * 3, none⟩ (.int .i64 x.a)).setCell ⟨g, i * 3 + 1, none⟩ (.int .i64 x.b)).setCell ⟨g, i * 3 + 2, none⟩ (.int .i64 x.c)) base (.slice (some ⟨g, 0, none⟩) n cap) (bs.set i x) := by
  obtain ⟨hl, h | ⟨g', cap', cur, hv, hb, hcur, hn, hc, hsz, hx⟩⟩ := h
  · cases h.1
  · cases hv
    refine ⟨by rw [flat_length, List.length_set], .inr ⟨g, cap, _, by rw [List.length_set], hb, heap_set_own (heap_set_own (heap_set_own hcur)), by rw [List.length_set]; exact hn, hc, by simpa using hsz, ?_⟩⟩
    rw [List.length_set, Array.toList_setIfInBounds, Array.toList_setIfInBounds, Array.toList_setIfInBounds, List.take_set, List.take_set, List.take_set, hx]
    exact flat_set bs i x hi
theorem OwnR.at_ {w : World} {base g n cap : Nat} {bs : List Blk} (h : OwnR w base (.slice (some ⟨g, 0, none⟩) n cap) bs) : n = bs.length ∧ base ≤ g ∧ OwnAt w g bs := by
  rcases h.res with ⟨rfl, a, c, e⟩ | ⟨g', cap', e, h1, h2, h3⟩
  · cases e
    obtain ⟨hl, h | ⟨g', cap', cur, hv, hb, hcur, hn, hc, hsz, hx⟩⟩ := h
    · cases h.1
    · cases hv
      exact ⟨rfl, hb, ⟨(Array.getElem?_eq_some_iff.1 hcur).1, fun k hk => by simp at hk, fun o => by simp [World.frozen?, hcur]⟩⟩
  · cases e
    exact ⟨rfl, h1, h3⟩

theorem heap_put {w : World} {g n : Nat} {os : Array Obj} {cur : Array Value} {e : TypeId} {fr : Nat × Nat} (F : Array Value) (hb : w.heap[g]? = some (.cells cur e fr)) :
    (grow (putRow id (Sort.ahead w n) g 0 F) os).heap[g]? = some (.cells (putCells id 0 F cur) e fr) := by
  have hg : g < w.heap.size := (Array.getElem?_eq_some_iff.1 hb).1
  rw [heap_grow_old _ _ (by simpa using hg)]
  simp [putRow, mapBlock, Sort.ahead, Array.getElem?_modify, hb, onCells]
theorem grownBy_put {w : World} {g n : Nat} {os : Array Obj} (F : Array Value) : w.grownBy (grow (putRow id (Sort.ahead w n) g 0 F) os) (some g) := by
  refine ⟨rfl, rfl, rfl, by simp, fun k hk hne => ?_⟩
  rw [heap_grow_old _ _ (by simpa using hk)]
  have : g ≠ k := fun e => hne (by rw [e])
  simp [putRow, mapBlock, Sort.ahead, Array.getElem?_modify, this]
theorem take_put (cur F : Array Value) (h : F.size ≤ cur.size) : (putCells id 0 F cur).toList.take F.size = F.toList := by
  apply List.ext_getElem?
  intro j
  by_cases hj : j < F.size
  · rw [List.getElem?_take_of_lt hj, Array.getElem?_toList]
    simp [putCells, hj, show j < cur.size by omega]
  · rw [List.getElem?_take_eq_none (by omega), List.getElem?_eq_none (by simp; omega)]
theorem cells3_at (x : Blk) : (cells3 x)[0]! = .int .i64 x.a ∧ (cells3 x)[1]! = .int .i64 x.b ∧ (cells3 x)[2]! = .int .i64 x.c := ⟨rfl, rfl, rfl⟩
theorem flatK_at (bs : List Blk) (j : Nat) (h : j < bs.length * 3) : (flatK cells3 3 bs.toArray)[j]! = (bs.flatMap cells3)[j]?.getD undef := by
  rw [get_flatK _ _ _ _ (by simpa using h)]
  have hk : j / 3 < bs.length := by omega
  obtain ⟨h0, h1, h2⟩ := flat_at bs (j / 3) hk
  obtain ⟨c0, c1, c2⟩ := cells3_at (bs.toArray[j / 3]!)
  have e : bs.toArray[j / 3]! = bs[j / 3]?.getD default := by simp [hk]
  rw [e] at c0 c1 c2
  rw [e]
  have hm : j % 3 = 0 ∨ j % 3 = 1 ∨ j % 3 = 2 := by omega
  rcases hm with hm | hm | hm
  · rw [hm, c0]; rw [show j / 3 * 3 = j by omega] at h0; rw [h0]; rfl
  · rw [hm, c1]; rw [show j / 3 * 3 + 1 = j by omega] at h1; rw [h1]; rfl
  · rw [hm, c2]; rw [show j / 3 * 3 + 2 = j by omega] at h2; rw [h2]; rfl
theorem flatK_list (bs : List Blk) : (flatK cells3 3 bs.toArray).toList = bs.flatMap cells3 := by
  apply List.ext_getElem?
  intro j
  by_cases hj : j < bs.length * 3
  · have h1 := flatK_at bs j hj
    have hs : j < (flatK cells3 3 bs.toArray).size := by rw [size_flatK]; simpa using hj
    rw [getElem!_pos _ j hs] at h1
    rw [Array.getElem?_toList, Array.getElem?_eq_getElem hs, h1]
    have hf : j < (bs.flatMap cells3).length := by rw [flat_length]; exact hj
    rw [List.getElem?_eq_getElem hf]
    rfl
  · have h1 : (flatK cells3 3 bs.toArray).toList.length = bs.length * 3 := by rw [Array.length_toList, size_flatK]; simp
    rw [List.getElem?_eq_none (by omega), List.getElem?_eq_none (by rw [flat_length]; omega)]
theorem OwnAt.holds {w : World} {g : Nat} {bs : List Blk} (h : OwnAt w g bs) : HoldsK cells3 3 w g 0 bs.toArray := by
  intro j hj
  rw [size_flatK, List.size_toArray] at hj
  refine ⟨?_, h.free _⟩
  rw [flatK_at bs j hj, Nat.zero_add]
  obtain ⟨h0, h1, h2⟩ := h.at_ (j / 3) (by omega)
  obtain ⟨f0, f1, f2⟩ := flat_at bs (j / 3) (by omega)
  rw [Nat.zero_add] at h0 h1 h2
  have hm : j % 3 = 0 ∨ j % 3 = 1 ∨ j % 3 = 2 := by omega
  rcases hm with hm | hm | hm
  · rw [show j / 3 * 3 = j by omega] at h0 f0; rw [h0, f0]; rfl
  · rw [show j / 3 * 3 + 1 = j by omega] at h1 f1; rw [h1, f1]; rfl
  · rw [show j / 3 * 3 + 2 = j by omega] at h2 f2; rw [h2, f2]; rfl
/-- Behind the sort the same slice owns the blocks in order. -/
theorem OwnR.sorted {w : World} {base g n cap : Nat} {bs cs : List Blk} (h : OwnR w base (.slice (some ⟨g, 0, none⟩) n cap) bs) (hl : cs.length = bs.length) (m : Nat) (os : Array Obj) :
    OwnR (sortWorldK cells3 3 w g 0 m cs.toArray os) base (.slice (some ⟨g, 0, none⟩) n cap) cs ∧ w.grownBy (sortWorldK cells3 3 w g 0 m cs.toArray os) (some g) := by
  refine ⟨?_, grownBy_put _⟩
  obtain ⟨hl2, h | ⟨g', cap', cur, hv, hb, hcur, hn, hc, hsz, hx⟩⟩ := h
  · cases h.1
  · cases hv
    have hF : (flatK cells3 3 cs.toArray).size = cs.length * 3 := by rw [size_flatK]; simp
    refine ⟨by rw [flat_length], .inr ⟨g, cap, _, by rw [hl], hb, heap_put _ hcur, by rw [hl]; exact hn, hc, by simp [putCells]; omega, ?_⟩⟩
    rw [← hF, take_put _ _ (by rw [hF, hl]; have := Nat.mul_le_mul_right 3 hn; omega)]
    exact flatK_list cs
theorem lt_bef (x y : Blk) : ltOf cmpB x y = befB x y := by
  unfold ltOf
  rw [Bool.eq_iff_iff, ← cmpB_neg]
  simp
theorem swoB : SWO (ltOf cmpB) where
  irrefl x := by rw [lt_bef]; exact bef_irrefl x
  trans x y z h1 h2 := by rw [lt_bef] at *; exact bef_trans h1 h2
  ntrans x y z h1 h2 := by rw [lt_bef] at *; exact bef_ntrans h1 h2
theorem totB (x y : Blk) (h1 : ltOf cmpB x y = false) (h2 : ltOf cmpB y x = false) : x = y := by rw [lt_bef] at *; exact bef_total h1 h2
theorem mergeB (bs : List Blk) : (bs.mergeSort fun x y => !ltOf cmpB y x) = sortB bs := by
  rw [← sortB_merge]
  congr 1
  funext x y
  rw [lt_bef]
theorem compareBlocks_lays (x y : Blk) (w : World) : Calls Try.prog 88 #[bv x, bv y] w fun e w' => e = .returned (.int .i64 (cmpB x y)) ∧ ∃ q os, w' = grow (w.drewN q) os := by
  obtain ⟨a, b, c⟩ := x
  obtain ⟨d, e, f⟩ := y
  unfold bv
  dsimp only
  go_enter Try.func88, Try.ntmps88
  go_wp2
  go_quiet ((go_at_call 70; exact RS.quiet (Compare_any _ 0 _ _ 0 _ [a, b, c] [d, e, f] _ (ints3 (by simp [go_sem]) (by simp [go_sem]) (by simp [go_sem])) (ints3 (by simp [go_sem]) (by simp [go_sem]) (by simp [go_sem])) (by simp) (by simp))))
  go_wp2
  go_ret
  exact ⟨rfl, _, _, by rw [alloc_eq_grow, alloc_eq_grow, grow_grow]; rfl⟩
end Go.Proofs.Ytiomdfhhejdoiaa

namespace Go.Proofs.Ytiomdfhhejdoiaa
open Go.RowKit Go.Maps
theorem sizeInt64 (w : World) : (sizeOf 2).run Try.prog w = .ok 1 w := by kernel_rfl
theorem partInt64 (x y z : Value) (w : World) : (part 2 #[x, y, z] 0).run Try.prog w = .ok x w ∧ (part 2 #[x, y, z] 1).run Try.prog w = .ok y w ∧ (part 2 #[x, y, z] 2).run Try.prog w = .ok z w := by
  refine ⟨?_, ?_, ?_⟩ <;> kernel_rfl
theorem eqIn64 (d : Nat) (a b : Int) (w : World) : (Op.equalIn (d + 1) 2 (.int .i64 a) (.int .i64 b)).run Try.prog w = .ok (a == b) w := by
  simp [Op.equalIn, run_underlying Try.underlying2]
theorem eqInBlk (n : Nat) (a b c d e f : Int) (w : World) : (Op.equalIn (n + 1 + 1) 68 (.agg #[.int .i64 a, .int .i64 b, .int .i64 c]) (.agg #[.int .i64 d, .int .i64 e, .int .i64 f])).run Try.prog w = .ok (a == d && b == e && c == f) w := by
  rw [Op.equalIn]
  simp only [Sem.run_bind, run_underlying Try.underlying68, Result.andThen_ok, sizeInt64]
  simp [Std.Legacy.Range.forIn_eq_forIn_range', Std.Legacy.Range.size, List.range', partInt64, eqIn64, Sem.run_ite]
  by_cases h1 : a = d <;> by_cases h2 : b = e <;> by_cases h3 : c = f <;> simp [h1, h2, h3]
theorem run_eql_blk (x y : Blk) (w : World) : (binOp .eql 68 (bv x) (bv y)).run Try.prog w = .ok (.bool (decide (x = y))) w := by
  obtain ⟨a, b, c⟩ := x
  obtain ⟨d, e, f⟩ := y
  simp only [bv, binOp]
  simp [Op.equal, Op.maxDepth, eqInBlk 9998]
  by_cases h1 : a = d <;> by_cases h2 : b = e <;> by_cases h3 : c = f <;> simp [h1, h2, h3]
theorem run_neq_blk (x y : Blk) (w : World) : (binOp .neq 68 (bv x) (bv y)).run Try.prog w = .ok (.bool (!decide (x = y))) w := by
  obtain ⟨a, b, c⟩ := x
  obtain ⟨d, e, f⟩ := y
  simp only [bv, binOp]
  simp [Op.equal, Op.maxDepth, eqInBlk 9998]
  by_cases h1 : a = d <;> by_cases h2 : b = e <;> by_cases h3 : c = f <;> simp [h1, h2, h3]
end Go.Proofs.Ytiomdfhhejdoiaa

namespace Go.Proofs.Ytiomdfhhejdoiaa
/-- A system and a code: points, blocks, code. -/
def takeF (v : Int) (bs : List Blk) (i : Int) : Int × List Blk × Int :=
  if isSysImpl v bs then (if decide (0 ≤ i) && decide (i < (bs.length : Int)) then (v, bs.take i.toNat ++ bs.drop (i.toNat + 1), 0) else (0, [], 2)) else (0, [], 1)
theorem filter_all {p : Blk → Bool} : ∀ {l : List Blk}, (∀ x ∈ l, p x = true) → l.filter p = l
  | [], _ => rfl
  | x :: r, h => by rw [List.filter_cons, if_pos (h x (by simp)), filter_all (fun y hy => h y (by simp [hy]))]
/-- The blocks that are not the i-th. -/
theorem filter_other {bs : List Blk} (h : bs.Nodup) {i : Nat} (hi : i < bs.length) : bs.filter (fun x => !decide (x = bs[i])) = bs.take i ++ bs.drop (i + 1) := by
  have e : bs = bs.take i ++ bs[i] :: bs.drop (i + 1) := by rw [← List.drop_eq_getElem_cons hi, List.take_append_drop]
  obtain ⟨y, hy⟩ : ∃ y, y = bs[i] := ⟨_, rfl⟩
  rw [← hy] at e ⊢
  clear hy
  obtain ⟨p, hp⟩ : ∃ p, p = bs.take i := ⟨_, rfl⟩
  obtain ⟨q, hq⟩ : ∃ q, q = bs.drop (i + 1) := ⟨_, rfl⟩
  rw [← hp, ← hq] at e ⊢
  clear hp hq hi
  subst e
  obtain ⟨h1, h2, h3⟩ := List.nodup_append.1 h
  rw [List.nodup_cons] at h2
  rw [List.filter_append, List.filter_cons, if_neg (by simp)]
  rw [filter_all (fun x hx => by have := h3 x hx y (by simp); simpa using this), filter_all (fun x hx => by
    have : x ≠ y := fun e => h2.1 (e ▸ hx)
    simpa using this)]
theorem takeF_sub (v : Int) (bs : List Blk) (i : Int) : ∀ x ∈ (takeF v bs i).2.1, x ∈ bs := by
  unfold takeF
  split
  · split
    · intro x hx
      rcases List.mem_append.1 hx with h | h
      · exact List.mem_of_mem_take h
      · exact List.mem_of_mem_drop h
    · simp
  · simp
theorem takeF_len (v : Int) (bs : List Blk) (i : Int) : (takeF v bs i).2.1.length ≤ bs.length := by
  unfold takeF
  split
  · split
    · simp
      omega
    · simp
  · simp
end Go.Proofs.Ytiomdfhhejdoiaa

namespace Go.Proofs.Ytiomdfhhejdoiaa
open Go.RowKit Go.Maps
/-- Two results: a system in new memory, and a code. -/
def RSys (r : Int × List Blk × Int) (w : World) (e : Ending) (w' : World) : Prop := ∃ s, e = .returned (.tuple #[.agg #[.int .i64 r.1, s], .int .i64 r.2.2]) ∧ ResR w' w.heap.size w'.heap.size s r.2.1 ∧ Below w.heap.size w w'
theorem boxes2 {w w1 : World} {v : Int} {s : Value} {T : TypeId} (hb : Below ((w.alloc (.cells #[.int .i64 v, s] T)).alloc (.cells #[.int .i64 0, .slice none 0 0] T)).heap.size ((w.alloc (.cells #[.int .i64 v, s] T)).alloc (.cells #[.int .i64 0, .slice none 0 0] T)) w1) :
    w1.cell? ⟨w.heap.size, 0, none⟩ = some (.int .i64 v) ∧ w1.cell? ⟨w.heap.size, 1, none⟩ = some s ∧ w1.cell? ⟨w.heap.size + 1, 0, none⟩ = some (.int .i64 0) ∧ w1.cell? ⟨w.heap.size + 1, 1, none⟩ = some (.slice none 0 0) ∧
    w1.frozen? ⟨w.heap.size + 1, 0, none⟩ = false ∧ w1.frozen? ⟨w.heap.size + 1, 1, none⟩ = false ∧ Below w.heap.size w w1 ∧ w.heap.size + 1 < w1.heap.size := by
  have hz := hb.size
  simp at hz
  refine ⟨?_, ?_, ?_, ?_, ?_, ?_, (((Below.refl _ _).alloc (Nat.le_refl _) _).alloc (by simp) _).trans (hb.mono (by simp; omega)), by omega⟩
  · exact (hb.cell (p := ⟨w.heap.size, 0, none⟩) (by simp; omega)).trans (by simp [go_sem])
  · exact (hb.cell (p := ⟨w.heap.size, 1, none⟩) (by simp; omega)).trans (by simp [go_sem])
  · exact (hb.cell (p := ⟨w.heap.size + 1, 0, none⟩) (by simp)).trans (by simp [go_sem])
  · exact (hb.cell (p := ⟨w.heap.size + 1, 1, none⟩) (by simp)).trans (by simp [go_sem])
  · exact (hb.frozen (p := ⟨w.heap.size + 1, 0, none⟩) (by simp)).trans (by simp [go_sem])
  · exact (hb.frozen (p := ⟨w.heap.size + 1, 1, none⟩) (by simp)).trans (by simp [go_sem])
theorem below2 (w : World) (v : Int) (s : Value) (T : TypeId) : Below w.heap.size w ((w.alloc (.cells #[.int .i64 v, s] T)).alloc (.cells #[.int .i64 0, .slice none 0 0] T)) := ((Below.refl _ _).alloc (Nat.le_refl _) _).alloc (by simp) _
theorem below_set2 {B : Nat} {a w : World} (h : Below B a w) {b : Nat} (hb : B ≤ b) (u v : Value) : Below B a ((w.setCell ⟨b, 0, none⟩ u).setCell ⟨b, 1, none⟩ v) := (h.setCell (p := ⟨b, 0, none⟩) hb u).setCell (p := ⟨b, 1, none⟩) hb v
theorem gb_set2 (w : World) (b : Nat) (u v : Value) : w.grownBy ((w.setCell ⟨b, 0, none⟩ u).setCell ⟨b, 1, none⟩ v) (some b) := only_setCell (only_setCell (only_refl w (some b)) rfl u) rfl v
theorem boxes2_later {w w1 w2 : World} {v : Int} {s : Value} (hb : Below w1.heap.size w1 w2) (hlt : w.heap.size + 1 < w1.heap.size) (hbw : Below w.heap.size w w1)
    (p0 : w1.cell? ⟨w.heap.size, 0, none⟩ = some (.int .i64 v)) (p1 : w1.cell? ⟨w.heap.size, 1, none⟩ = some s) (d0 : w1.cell? ⟨w.heap.size + 1, 0, none⟩ = some (.int .i64 0)) (d1 : w1.cell? ⟨w.heap.size + 1, 1, none⟩ = some (.slice none 0 0))
    (f0 : w1.frozen? ⟨w.heap.size + 1, 0, none⟩ = false) (f1 : w1.frozen? ⟨w.heap.size + 1, 1, none⟩ = false) :
    w2.cell? ⟨w.heap.size, 0, none⟩ = some (.int .i64 v) ∧ w2.cell? ⟨w.heap.size, 1, none⟩ = some s ∧ w2.cell? ⟨w.heap.size + 1, 0, none⟩ = some (.int .i64 0) ∧ w2.cell? ⟨w.heap.size + 1, 1, none⟩ = some (.slice none 0 0) ∧
    w2.frozen? ⟨w.heap.size + 1, 0, none⟩ = false ∧ w2.frozen? ⟨w.heap.size + 1, 1, none⟩ = false ∧ Below w.heap.size w w2 ∧ w.heap.size + 1 < w2.heap.size := by
  have hz := hb.size
  have l0 : w.heap.size < w1.heap.size := by omega
  exact ⟨(hb.cell (p := ⟨w.heap.size, 0, none⟩) l0).trans p0, (hb.cell (p := ⟨w.heap.size, 1, none⟩) l0).trans p1, (hb.cell (p := ⟨w.heap.size + 1, 0, none⟩) hlt).trans d0, (hb.cell (p := ⟨w.heap.size + 1, 1, none⟩) hlt).trans d1, (hb.frozen (p := ⟨w.heap.size + 1, 0, none⟩) hlt).trans f0, (hb.frozen (p := ⟨w.heap.size + 1, 1, none⟩) hlt).trans f1, hbw.trans (hb.mono hbw.size), by omega⟩
end Go.Proofs.Ytiomdfhhejdoiaa

namespace Go.Proofs
open Go.Shelf
def Try.sortB_ren : Go.Shelf.Ren := ⟨fun | 6 => 87 | 15 => 101 | 14 => 119 | 28 => 132 | 29 => 133 | 20 => 140 | 21 => 141 | 22 => 142 | 23 => 143 | 24 => 144 | 25 => 145 | 26 => 146 | 27 => 147 | 46 => 162 | 47 => 158 | 48 => 159 | 49 => 163 | 50 => 164 | 57 => 169 | n => n, fun | 22 => 29 | 24 => 68 | 25 => 106 | 3 => 3 | 39 => 115 | 0 => 0 | 53 => 142 | 55 => 144 | 4 => 4 | 46 => 135 | 45 => 134 | 50 => 139 | 5 => 5 | 9 => 9 | 66 => 161 | 70 => 165 | 76 => 171 | 77 => 172 | n => n, fun | n => n⟩
theorem Try.sortB : Go.Proofs.SlLaysF0.n6 Try.prog Try.sortB_ren := {
  mixed := by kernel_rfl
  f6 := ⟨Try.f87.name, by decide, Try.func87.trans (congrArg some (by kernel_rfl))⟩
  f14 := ⟨Try.f119.name, by decide, Try.func119.trans (congrArg some (by kernel_rfl))⟩
  f15 := Try.func101.trans (congrArg some (by kernel_rfl))
  f20 := ⟨Try.f140.name, by decide, Try.func140.trans (congrArg some (by kernel_rfl))⟩
  f21 := ⟨Try.f141.name, by decide, Try.func141.trans (congrArg some (by kernel_rfl))⟩
  f22 := ⟨Try.f142.name, by decide, Try.func142.trans (congrArg some (by kernel_rfl))⟩
  f23 := ⟨Try.f143.name, by decide, Try.func143.trans (congrArg some (by kernel_rfl))⟩
  f24 := ⟨Try.f144.name, by decide, Try.func144.trans (congrArg some (by kernel_rfl))⟩
  f25 := ⟨Try.f145.name, by decide, Try.func145.trans (congrArg some (by kernel_rfl))⟩
  f26 := ⟨Try.f146.name, by decide, Try.func146.trans (congrArg some (by kernel_rfl))⟩
  f27 := ⟨Try.f147.name, by decide, Try.func147.trans (congrArg some (by kernel_rfl))⟩
  f28 := Try.func132.trans (congrArg some (by kernel_rfl))
  f29 := Try.func133.trans (congrArg some (by kernel_rfl))
  f46 := ⟨Try.f162.name, by decide, Try.func162.trans (congrArg some (by kernel_rfl))⟩
  f47 := Try.func158.trans (congrArg some (by kernel_rfl))
  f48 := Try.func159.trans (congrArg some (by kernel_rfl))
  f49 := ⟨Try.f163.name, by decide, Try.func163.trans (congrArg some (by kernel_rfl))⟩
  f50 := ⟨Try.f164.name, by decide, Try.func164.trans (congrArg some (by kernel_rfl))⟩
  f57 := ⟨Try.f169.name, by decide, Try.func169.trans (congrArg some (by kernel_rfl))⟩
  t0 := Try.underlying0
  a0 := Try.isAgg0
  z0 := Try.sizeOf0
  v0 := Try.zeroValue0
  t3 := Try.underlying3
  a3 := Try.isAgg3
  z3 := Try.sizeOf3
  v3 := Try.zeroValue3
  t4 := Try.underlying4
  a4 := Try.isAgg4
  z4 := Try.sizeOf4
  v4 := Try.zeroValue4
  t5 := Try.underlying5
  a5 := Try.isAgg5
  z5 := Try.sizeOf5
  v5 := Try.zeroValue5
  t9 := Try.underlying9
  a9 := Try.isAgg9
  z9 := Try.sizeOf9
  v9 := Try.zeroValue9
  t22 := Try.underlying29
  a22 := Try.isAgg29
  z22 := Try.sizeOf29
  v22 := Try.zeroValue29
  t25 := Try.underlying106
  a25 := Try.isAgg106
  z25 := Try.sizeOf106
  v25 := Try.zeroValue106
  t39 := Try.underlying115
  a39 := Try.isAgg115
  z39 := Try.sizeOf115
  v39 := Try.zeroValue115
  t45 := Try.underlying134
  a45 := Try.isAgg134
  z45 := Try.sizeOf134
  v45 := Try.zeroValue134
  t46 := Try.underlying135
  a46 := Try.isAgg135
  z46 := Try.sizeOf135
  v46 := Try.zeroValue135
  t50 := Try.underlying139
  a50 := Try.isAgg139
  z50 := Try.sizeOf139
  v50 := Try.zeroValue139
  t53 := Try.underlying142
  a53 := Try.isAgg142
  z53 := Try.sizeOf142
  v53 := Try.zeroValue142
  t55 := Try.underlying144
  a55 := Try.isAgg144
  z55 := Try.sizeOf144
  v55 := Try.zeroValue144
  t66 := Try.underlying161
  a66 := Try.isAgg161
  z66 := Try.sizeOf161
  v66 := Try.zeroValue161
  t70 := Try.underlying165
  a70 := Try.isAgg165
  z70 := Try.sizeOf165
  v70 := Try.zeroValue165
  t76 := Try.underlying171
  a76 := Try.isAgg171
  z76 := Try.sizeOf171
  v76 := Try.zeroValue171
  t77 := Try.underlying172
  a77 := Try.isAgg172
  z77 := Try.sizeOf172
  v77 := Try.zeroValue172 }
end Go.Proofs

namespace Go.Proofs.Ytiomdfhhejdoiaa
open Go.RowKit Go.Maps Go.Sort Go.Shelf
theorem aggB (w : World) : (isAgg 68).run Try.prog w = .ok true w := by kernel_rfl
theorem szB (w : World) : (Go.sizeOf 68).run Try.prog w = .ok 3 w := by kernel_rfl
theorem one3 : ∀ x : Blk, ∀ v ∈ cells3 x, v.oneCell' = true := fun x v hv => by
  simp [cells3] at hv
  rcases hv with rfl | rfl | rfl <;> rfl
theorem cmpLays (blk off size : Nat) (w : World) : CmpLays Try.prog 88 #[] cells3 3 cmpB blk off size w := fun _ _ _ _ x y => compareBlocks_lays x y _
theorem sortFunc_any (base : Nat) (s : Value) (bs : List Blk) (w : World) (h : OwnR w base s bs) (hl : bs.length ≤ 1100000) :
    Calls Try.prog 87 #[s, .func (.func 88) #[] #[]] w fun e w' => e = .returned (.tuple #[]) ∧ OwnR w' base s (sortB bs) ∧ w.grownBy w' s.ownBlock := by
  obtain ⟨a, c, rfl⟩ : ∃ a c, s = .slice a bs.length c := by
    rcases h.res with ⟨rfl, a, c, rfl⟩ | ⟨g, cap, rfl, _⟩ <;> exact ⟨_, _, rfl⟩
  rcases h.2 with ⟨hv, h0⟩ | ⟨g, cap, cur, hv, hb, hcur, hrest⟩
  · have e0 : bs = [] := List.length_eq_zero_iff.1 h0
    subst e0
    cases hv
    have hS := AnyF.slices_SortFunc_none (P := Try.prog) (ρ := Try.sortB_ren) { Try.sortB with } none 0 (.func (.func 88) #[] #[]) w
    refine Calls.mono hS ?_
    rintro e w' ⟨rfl, rfl⟩
    exact ⟨rfl, h, only_refl _ _⟩
  · cases hv
    have hat := h.at_.2.2
    have eg : ∀ args w, (callFunc 88 args).run Try.prog w = .ok (.enter 88 args) w := enters_of Try.func88 (by kernel_rfl) rfl
    have hS := AnyQ.slices_SortFunc_total Try.sortB 3 aggB szB cells3 (fun _ => rfl) one3 cmpB swoB 88 #[] g 0 c bs.toArray w eg (cmpLays _ _ _ _) hat.holds hat.lt (by simp; omega) totB
    rw [List.size_toArray] at hS
    refine Calls.mono hS ?_
    rintro e w' ⟨rfl, n, os, rfl⟩
    have hm := mergeB bs
    have ho := h.sorted (cs := sortB bs) (sortB_length bs) n os
    rw [← hm] at ho
    rw [← hm]
    exact ⟨rfl, ho⟩
theorem OwnR.formS {w : World} {base : Nat} {s : Value} {bs : List Blk} (h : OwnR w base s bs) : ∃ a c, s = .slice a bs.length c := by
  rcases h.res with ⟨rfl, a, c, rfl⟩ | ⟨g, cap, rfl, _⟩ <;> exact ⟨_, _, rfl⟩
theorem gb_setnew {a w : World} {row : Option Nat} (h : a.grownBy w row) {p : Addr} (hp : a.heap.size ≤ p.block) (u : Value) : a.grownBy (w.setCell p u) row :=
  ⟨h.os, h.tape, h.output, by simpa [World.setCell] using h.size, fun i hi hne => (Below.heap_setCell w p u i (by omega)).trans (h.block i hi hne)⟩
set_option maxRecDepth 100000 in
theorem systemFrom_any (v : Int) (base : Nat) (s : Value) (bs : List Blk) (w : World) (h : OwnR w base s bs) (hl : bs.length ≤ 1100000) (hb : base ≤ w.heap.size) :
    Calls Try.prog 60 #[.int .i64 v, s] w fun e w' => e = .returned (.agg #[.int .i64 v, s]) ∧ OwnR w' base s (sortB bs) ∧ w.grownBy w' s.ownBlock := by
  have hS := sortFunc_any base s bs (w.alloc (.cells #[.int .i64 0, .slice none 0 0] 31)) (h.below ((Below.refl _ _).alloc (Nat.le_refl _) _) (Nat.le_refl _)) hl
  have hrow := h.row
  have hlt : ∀ r, s.ownBlock = some r → r < w.heap.size := fun r e => by
    rcases h.2 with ⟨hv, h0⟩ | ⟨g, cap, cur, hv, hb, hcur, hrest⟩
    · rw [hv] at e; simp [Value.ownBlock] at e
    · rw [hv] at e
      obtain rfl : g = r := by simpa [Value.ownBlock] using e
      exact (Array.getElem?_eq_some_iff.1 hcur).1
  have HLT := Lib.hid hlt
  have HS := Lib.hid hS
  obtain ⟨a, c, hs⟩ := h.formS
  clear hS h hrow hlt
  subst hs
  go_enter Try.func60, Try.ntmps60
  go_wp2_with fail
  refine HS.out.mono ?_
  rintro e w1 ⟨rfl, ho, hg⟩
  have hz := hg.size
  simp at hz
  have d0 : w1.cell? ⟨w.heap.size, 0, none⟩ = some (.int .i64 0) := hg.cell (by simp [go_sem]) (fun e => by have := HLT.out _ e.symm; simp at this)
  have d1 : w1.cell? ⟨w.heap.size, 1, none⟩ = some (.slice none 0 0) := hg.cell (by simp [go_sem]) (fun e => by have := HLT.out _ e.symm; simp at this)
  have hblk := hg.block w.heap.size (by simp) (fun e => by have := HLT.out _ e.symm; omega)
  have f0 : w1.frozen? ⟨w.heap.size, 0, none⟩ = false := (World.frozen?_of_block (a := ⟨w.heap.size, 0, none⟩) hblk).trans (by simp [go_sem])
  have f1 : w1.frozen? ⟨w.heap.size, 1, none⟩ = false := (World.frozen?_of_block (a := ⟨w.heap.size, 1, none⟩) hblk).trans (by simp [go_sem])
  have HO := Lib.hid (And.intro ho hg)
  clear ho hg hblk
  go_wp2
  refine bodyPost_ret (v := .agg #[.int .i64 v, .slice a bs.length c]) (by simp [results, Try.results60, go_sem, *]) rfl ⟨rfl, ?_, ?_⟩
  · exact World.ownsRow.kept HO.out.1 (gb_set2 w1 w.heap.size (.int .i64 v) (.slice a bs.length c)) (.inr fun e => by have := HLT.out w.heap.size (by first | exact e | exact e.symm); omega)
  · exact gb_setnew (p := ⟨w.heap.size, 1, none⟩) (gb_setnew (p := ⟨w.heap.size, 0, none⟩) (gb_trans (World.grownBy_alloc w _ none) HO.out.2) (Nat.le_refl _) _) (Nat.le_refl _) _
end Go.Proofs.Ytiomdfhhejdoiaa

namespace Go.Proofs.Ytiomdfhhejdoiaa
open Go.RowKit Go.Maps
/-- A row with its block and its capacity. -/
structure RowP where
  g : Nat
  c : Nat
  r : List Int
def RowP.hdr (x : RowP) : Value := .slice (some ⟨x.g, 0, none⟩) x.r.length x.c
def rowsP (Rs : List RowP) : List (List Int) := Rs.map RowP.r
/-- A list of the call's own of rows of the call's own, each in a block of its own. -/
structure RowsM (w : World) (base : Nat) (u : Value) (Rs : List RowP) : Prop where
  own : RowsV w base u (Rs.map RowP.hdr)
  row : ∀ x ∈ Rs, OwnAtI w x.g x.r
  ne : ∀ x ∈ Rs, u.ownBlock ≠ some x.g
  nd : (Rs.map RowP.g).Nodup
  low : ∀ x ∈ Rs, base ≤ x.g
theorem RowsM.below {w w' : World} {base : Nat} {u : Value} {Rs : List RowP} (h : RowsM w base u Rs) (hb : Below w.heap.size w w') : RowsM w' base u Rs :=
  ⟨h.own.below hb (Nat.le_refl _), fun x hx => (h.row x hx).kept (gb_below hb) (by simp), h.ne, h.nd, h.low⟩
theorem RowsM.nil (w : World) (base : Nat) : RowsM w base (.slice none 0 0) [] := ⟨⟨rfl, .inl ⟨rfl, rfl⟩⟩, by simp, by simp, by simp, by simp⟩
theorem RowsM.form {w : World} {base : Nat} {u : Value} {Rs : List RowP} (h : RowsM w base u Rs) : ∃ a c, u = .slice a Rs.length c := by
  rcases h.own.2 with ⟨rfl, h0⟩ | ⟨g, cap, cur, rfl, _⟩
  · rw [List.length_map] at h0
    exact ⟨none, 0, by rw [h0]⟩
  · exact ⟨_, _, by rw [List.length_map]⟩
theorem RowsM.blk {w : World} {base : Nat} {u : Value} {Rs : List RowP} (h : RowsM w base u Rs) : ∀ r, u.ownBlock = some r → base ≤ r ∧ r < w.heap.size := fun r e => by
  rcases h.own.2 with ⟨hv, h0⟩ | ⟨g, cap, cur, hv, hb, hcur, _⟩
  · rw [hv] at e; simp [Value.ownBlock] at e
  · rw [hv] at e
    obtain rfl : g = r := by simpa [Value.ownBlock] using e
    exact ⟨hb, (Array.getElem?_eq_some_iff.1 hcur).1⟩
/-- The header of a row, where it lies. -/
theorem RowsM.at_ {w : World} {base : Nat} {u : Value} {Rs : List RowP} (h : RowsM w base u Rs) {k : Nat} {x : RowP} (hx : Rs[k]? = some x) : ∃ G c, u = .slice (some ⟨G, 0, none⟩) Rs.length c ∧ w.cell? ⟨G, k, none⟩ = some x.hdr ∧ OwnAtI w x.g x.r := by
  have hk : k < Rs.length := (List.getElem?_eq_some_iff.1 hx).1
  obtain ⟨G, c, rfl⟩ := h.own.form (by rw [List.length_map]; omega)
  have := h.own.at_ (i := k) (x := x.hdr) (by rw [List.getElem?_map, hx]; rfl)
  exact ⟨G, c, by rw [List.length_map], this.1, h.row x (List.mem_of_getElem? hx)⟩
theorem RowP.ib {w : World} {x : RowP} (h : OwnAtI w x.g x.r) (hl : x.r.length ≤ 1100000) : IB w x.hdr x.r :=
  ⟨hl, .inr ⟨x.g, 0, x.c, rfl, h.lt, h.at_⟩⟩
theorem RowsM.res {w : World} {base : Nat} {u : Value} {Rs : List RowP} (h : RowsM w base u Rs) : ResSS w base u (rowsP Rs).length (rowsF (rowsP Rs)) := by
  have hlen : (rowsP Rs).length = Rs.length := by simp [rowsP]
  by_cases h0 : Rs.length = 0
  · obtain ⟨a, c, hu⟩ := h.form
    exact .inl ⟨by omega, a, c, by rw [hu, h0]⟩
  · obtain ⟨G, cap, hu⟩ := h.own.form (by rw [List.length_map]; omega)
    rw [List.length_map] at hu
    have hb := h.blk G (by rw [hu]; rfl)
    refine .inr ⟨G, cap, fun k => (Rs[k]?.getD ⟨0, 0, []⟩).g, fun k => (Rs[k]?.getD ⟨0, 0, []⟩).c, by rw [hu, hlen], hb.1, ?_⟩
    rw [hlen]
    have hx : ∀ k, k < Rs.length → Rs[k]? = some (Rs[k]?.getD ⟨0, 0, []⟩) := fun k hk => by simp [hk]
    have hr : ∀ k, k < Rs.length → rowsF (rowsP Rs) k = (Rs[k]?.getD ⟨0, 0, []⟩).r := fun k hk => by simp [rowsF, rowsP, hk]
    refine ⟨fun k hk => ?_, fun k hk => ?_, fun k hk => ?_, fun j k hjk hk => ?_, fun k hk => ?_, hb.2⟩
    · obtain ⟨G', c', e, hc, _⟩ := h.at_ (hx k hk)
      rw [hu] at e
      simp at e
      obtain ⟨rfl, _⟩ := e
      rw [hc, hr k hk]
      rfl
    · rw [hr k hk]
      exact h.row _ (List.mem_of_getElem? (hx k hk))
    · intro e
      exact h.ne _ (List.mem_of_getElem? (hx k hk)) (by rw [hu]; exact congrArg some e.symm)
    · intro e
      have hn := h.nd
      rw [List.Nodup, List.pairwise_iff_getElem] at hn
      have := hn j k (by rw [List.length_map]; omega) (by rw [List.length_map]; omega) hjk
      simp only [List.getElem_map] at this
      have e' : (Rs[j]?.getD ⟨0, 0, []⟩).g = (Rs[k]?.getD ⟨0, 0, []⟩).g := e
      rw [List.getElem?_eq_getElem (show j < Rs.length by omega), List.getElem?_eq_getElem hk] at e'
      exact this e'
    · exact h.low _ (List.mem_of_getElem? (hx k hk))
def insP (Rs : List RowP) (j : Nat) (x : RowP) : List RowP := Rs.take j ++ x :: Rs.drop j
theorem insP_hdr (Rs : List RowP) (j : Nat) (x : RowP) : (insP Rs j x).map RowP.hdr = insV (Rs.map RowP.hdr) j x.hdr := by simp [insP, insV, List.map_take, List.map_drop]
theorem insP_mem {Rs : List RowP} {j : Nat} {x y : RowP} : y ∈ insP Rs j x ↔ y = x ∨ y ∈ Rs := by
  unfold insP
  rw [List.mem_append, List.mem_cons]
  have : y ∈ Rs ↔ y ∈ Rs.take j ∨ y ∈ Rs.drop j := by
    conv => lhs; rw [← List.take_append_drop j Rs]
    rw [List.mem_append]
  rw [this]
  constructor
  · rintro (h | h | h)
    · exact .inr (.inl h)
    · exact .inl h
    · exact .inr (.inr h)
  · rintro (h | h | h)
    · exact .inr (.inl h)
    · exact .inl h
    · exact .inr (.inr h)
theorem insP_perm (Rs : List RowP) (j : Nat) (x : RowP) : (insP Rs j x).Perm (x :: Rs) := by
  unfold insP
  have h := List.perm_middle (a := x) (l₁ := Rs.take j) (l₂ := Rs.drop j)
  rw [List.take_append_drop] at h
  exact h
theorem insP_rows (Rs : List RowP) (j : Nat) (x : RowP) : rowsP (insP Rs j x) = (rowsP Rs).take j ++ x.r :: (rowsP Rs).drop j := by simp [insP, rowsP, List.map_take, List.map_drop]
theorem gb_store {a w : World} {row : Option Nat} (h : a.grownBy w row) {G : Nat} (hG : row = some G ∨ a.heap.size ≤ G) (i : Nat) (u : Value) : a.grownBy (w.setCell ⟨G, i, none⟩ u) row := by
  rcases hG with rfl | hG
  · exact only_setCell h rfl u
  · exact gb_setnew h hG u
/-- The list with one row more. -/
theorem RowsM.put {w w' : World} {base : Nat} {u : Value} {Rs : List RowP} (h : RowsM w base u Rs) {x : RowP} (hx : OwnAtI w x.g x.r) (hxu : u.ownBlock ≠ some x.g) (hxn : x.g ∉ Rs.map RowP.g) (hxl : base ≤ x.g) {G cap j : Nat}
    (hV : RowsV w' base (.slice (some ⟨G, 0, none⟩) (Rs.length + 1) cap) (insV (Rs.map RowP.hdr) j x.hdr)) (hg : w.grownBy w' u.ownBlock) (hG : u.ownBlock = some G ∨ w.heap.size ≤ G) : RowsM w' base (.slice (some ⟨G, 0, none⟩) (Rs.length + 1) cap) (insP Rs j x) := by
  have hall : ∀ y ∈ insP Rs j x, OwnAtI w y.g y.r ∧ u.ownBlock ≠ some y.g ∧ base ≤ y.g := fun y hy => by
    rcases insP_mem.1 hy with rfl | hy
    · exact ⟨hx, hxu, hxl⟩
    · exact ⟨h.row y hy, h.ne y hy, h.low y hy⟩
  refine ⟨by rw [insP_hdr]; exact hV, fun y hy => (hall y hy).1.kept hg (fun e => (hall y hy).2.1 e.symm), fun y hy e => ?_, ?_, fun y hy => (hall y hy).2.2⟩
  · have e : G = y.g := by simpa [Value.ownBlock] using e
    rcases hG with hG | hG
    · exact (hall y hy).2.1 (by rw [hG, e])
    · have := (hall y hy).1.lt
      omega
  · have hp := (insP_perm Rs j x).map RowP.g
    rw [hp.nodup_iff, List.map_cons, List.nodup_cons]
    exact ⟨hxn, h.nd⟩
end Go.Proofs.Ytiomdfhhejdoiaa


/- The memory of a law between two of its steps: items, each in blocks of its own, the newest first. Trades in a law's memory. The model's l04Same, l04Member, l04Is, IsTrade. Are two systems apart? The program's areApart, and the model's number of common blocks. -/
import Derived.Test.YtehdpgjbmnkkiaaJ6
import Derived.Deep.RegionWith
namespace Go.Proofs.Ytehdpgjbmnkkiaa
open Go.RowKit Go.Maps
def Stays (lo hi : Nat) (W W' : World) : Prop := W.heap.size ≤ W'.heap.size ∧ ∀ i, lo ≤ i → i < hi → W'.heap[i]? = W.heap[i]?
structure Item where
  lo : Nat
  hi : Nat
  P : World → Prop
def Item.Ok (it : Item) : Prop := ∀ W W', it.hi ≤ W.heap.size → Stays it.lo it.hi W W' → it.P W → it.P W'
structure Mem (w : World) (L : List Item) (W : World) : Prop where
  below : Below w.heap.size w W
  pw : L.Pairwise (fun x y => y.hi ≤ x.lo ∨ x.hi ≤ y.lo)
  rng : ∀ it ∈ L, w.heap.size ≤ it.lo ∧ it.lo ≤ it.hi ∧ it.hi ≤ W.heap.size
  ok : ∀ it ∈ L, it.Ok
  holds : ∀ it ∈ L, it.P W
def MemOf {w : World} {L : List Item} {W : World} (_ : Mem w L W) (wx : World) : Prop := Mem w L wx
/-- Only blocks from lo on, below hi, have changed, and what is new. -/
structure OnlyIn (lo hi : Nat) (W W' : World) : Prop where
  os : W'.os = W.os
  tape : W'.tape = W.tape
  output : W'.output = W.output
  size : W.heap.size ≤ W'.heap.size
  block : ∀ i, i < W.heap.size → (i < lo ∨ hi ≤ i) → W'.heap[i]? = W.heap[i]?
section
variable {lo hi lo' hi' : Nat} {W W' W'' w : World} {L : List Item}
theorem OnlyIn.of_grown {row : Option Nat} (hg : W.grownBy W' row) (hr : ∀ r, row = some r → lo ≤ r ∧ r < hi) : OnlyIn lo hi W W' :=
  ⟨hg.os, hg.tape, hg.output, hg.size, fun i h1 h2 => hg.block i h1 (fun e => by have := hr i e.symm; omega)⟩
theorem OnlyIn.refl (lo hi : Nat) (W : World) : OnlyIn lo hi W W := ⟨rfl, rfl, rfl, Nat.le_refl _, fun _ _ _ => rfl⟩
theorem OnlyIn.trans (h : OnlyIn lo hi W W') (k : OnlyIn lo hi W' W'') : OnlyIn lo hi W W'' :=
  ⟨k.os.trans h.os, k.tape.trans h.tape, k.output.trans h.output, Nat.le_trans h.size k.size, fun i h1 h2 => (k.block i (Nat.lt_of_lt_of_le h1 h.size) h2).trans (h.block i h1 h2)⟩
theorem OnlyIn.of_below (h : Below lo W W') : OnlyIn lo W.heap.size W W' :=
  ⟨h.os, h.tape, h.output, h.size, fun i h1 h2 => h.block i (by omega)⟩
theorem OnlyIn.stays (h : OnlyIn lo hi W W') (hh : hi' ≤ W.heap.size) (hd : hi' ≤ lo ∨ hi ≤ lo') : Stays lo' hi' W W' :=
  ⟨h.size, fun i h1 h2 => h.block i (by omega) (by omega)⟩
theorem OnlyIn.below (h : OnlyIn lo hi W W') {B : Nat} (hB : B ≤ lo) (hz : B ≤ W.heap.size) : Below B W W' :=
  ⟨h.os, h.tape, h.output, h.size, fun i h1 => h.block i (by omega) (by omega)⟩
theorem Mem.start (w : World) : Mem w [] w := ⟨Below.refl _ _, List.Pairwise.nil, by simp, by simp, by simp⟩
theorem Mem.step (h : Mem w L W) (hg : W.grownBy W' none) : Mem w L W' :=
  ⟨h.below.grown hg h.below.size (by simp), h.pw, fun it hi => ⟨(h.rng it hi).1, (h.rng it hi).2.1, Nat.le_trans (h.rng it hi).2.2 hg.size⟩, h.ok,
    fun it hi => h.ok it hi W W' (h.rng it hi).2.2 ⟨hg.size, fun i _ h2 => hg.block i (Nat.lt_of_lt_of_le h2 (h.rng it hi).2.2) (by simp)⟩ (h.holds it hi)⟩
theorem Mem.push (h : Mem w L W) (hg : W.grownBy W' none) (it : Item) (h1 : W.heap.size ≤ it.lo) (h2 : it.lo ≤ it.hi) (h3 : it.hi ≤ W'.heap.size) (ok : it.Ok) (hP : it.P W') : Mem w (it :: L) W' := by
  have hs := h.step hg
  refine ⟨hs.below, List.pairwise_cons.2 ⟨fun y hy => .inl (Nat.le_trans (h.rng y hy).2.2 h1), hs.pw⟩, ?_, ?_, ?_⟩
  · intro x hx
    rcases List.mem_cons.1 hx with rfl | hx
    · exact ⟨Nat.le_trans h.below.size h1, h2, h3⟩
    · exact hs.rng x hx
  · intro x hx
    rcases List.mem_cons.1 hx with rfl | hx
    · exact ok
    · exact hs.ok x hx
  · intro x hx
    rcases List.mem_cons.1 hx with rfl | hx
    · exact hP
    · exact hs.holds x hx
theorem Mem.swap {a b : Item} (h : Mem w (a :: b :: L) W) : Mem w (b :: a :: L) W := by
  have hm : ∀ x, x ∈ b :: a :: L → x ∈ a :: b :: L := fun x hx => by simp only [List.mem_cons] at hx ⊢; rcases hx with h | h | h <;> simp [h]
  refine ⟨h.below, ?_, fun it hi => h.rng it (hm it hi), fun it hi => h.ok it (hm it hi), fun it hi => h.holds it (hm it hi)⟩
  have hp := h.pw
  rw [List.pairwise_cons, List.pairwise_cons] at hp
  refine List.pairwise_cons.2 ⟨fun y hy => ?_, List.pairwise_cons.2 ⟨fun y hy => hp.1 y (by simp [hy]), hp.2.2⟩⟩
  rcases List.mem_cons.1 hy with rfl | hy
  · exact (hp.1 b (by simp)).symm
  · exact hp.2.1 y hy
theorem Mem.at (h : Mem w L W) (k : Nat) {it : Item} (e : L[k]? = some it) : it.P W := h.holds it (List.mem_of_getElem? e)
theorem mem_set_cases {k : Nat} {x y it : Item} (_e : L[k]? = some it) (hx : x ∈ L.set k y) : x = y ∨ ∃ j, j ≠ k ∧ L[j]? = some x := by
  obtain ⟨j, hj⟩ := List.mem_iff_getElem?.1 hx
  rw [List.getElem?_set] at hj
  split at hj
  · split at hj
    · cases hj; exact .inl rfl
    · cases hj
  · exact .inr ⟨j, by omega, hj⟩
theorem Mem.apart (h : Mem w L W) {k j : Nat} {x it : Item} (e : L[k]? = some it) (f : L[j]? = some x) (hne : j ≠ k) : it.hi ≤ x.lo ∨ x.hi ≤ it.lo := by
  obtain ⟨hk, e⟩ := List.getElem?_eq_some_iff.1 e
  obtain ⟨hj, f⟩ := List.getElem?_eq_some_iff.1 f
  have hp := List.pairwise_iff_getElem.1 h.pw
  rcases Nat.lt_or_gt_of_ne hne with hlt | hlt
  · have := hp j k hj hk hlt
    rw [e, f] at this
    exact this
  · have := hp k j hk hj hlt
    rw [e, f] at this
    exact this.symm
theorem Mem.mark (h : Mem w L W) (k : Nat) {it : Item} (e : L[k]? = some it) (hw : OnlyIn it.lo it.hi W W') {P' : World → Prop} (ok : Item.Ok ⟨it.lo, it.hi, P'⟩) (hP : P' W') : Mem w (L.set k ⟨it.lo, it.hi, P'⟩) W' := by
  have hit := List.mem_of_getElem? e
  have hr := h.rng it hit
  refine ⟨h.below.trans (hw.below hr.1 (by omega)), ?_, ?_, ?_, ?_⟩
  · rw [List.pairwise_iff_getElem]
    intro i j hi hj hlt
    rw [List.length_set] at hi hj
    have hp := List.pairwise_iff_getElem.1 h.pw i j hi hj hlt
    obtain ⟨hk, e'⟩ := List.getElem?_eq_some_iff.1 e
    rw [List.getElem_set, List.getElem_set]
    split
    · rename_i hki
      cases hki
      rw [if_neg (by omega)]
      rw [e'] at hp; exact hp
    · split
      · rename_i hkj
        cases hkj
        rw [e'] at hp; exact hp
      · exact hp
  · intro x hx
    rcases mem_set_cases e hx with rfl | ⟨j, hj, f⟩
    · exact ⟨hr.1, hr.2.1, Nat.le_trans hr.2.2 hw.size⟩
    · have := h.rng x (List.mem_of_getElem? f)
      exact ⟨this.1, this.2.1, Nat.le_trans this.2.2 hw.size⟩
  · intro x hx
    rcases mem_set_cases e hx with rfl | ⟨j, hj, f⟩
    · exact ok
    · exact h.ok x (List.mem_of_getElem? f)
  · intro x hx
    rcases mem_set_cases e hx with rfl | ⟨j, hj, f⟩
    · exact hP
    · have hx := List.mem_of_getElem? f
      exact h.ok x hx W W' (h.rng x hx).2.2 (hw.stays (h.rng x hx).2.2 ((h.apart e f hj).symm)) (h.holds x hx)
end
section
variable {w w' : World} {lo hi g : Nat}
theorem OwnAt.stay {bs : List Blk} (h : OwnAt w g bs) (hb : w'.heap[g]? = w.heap[g]?) (hz : w.heap.size ≤ w'.heap.size) : OwnAt w' g bs := by
  refine ⟨Nat.lt_of_lt_of_le h.lt hz, fun k hk => ?_, fun o => ?_⟩
  · obtain ⟨h1, h2, h3⟩ := h.at_ k hk
    exact ⟨(World.cell?_of_block (w := w) (a := ⟨g, _, none⟩) hb).trans h1, (World.cell?_of_block (w := w) (a := ⟨g, _, none⟩) hb).trans h2, (World.cell?_of_block (w := w) (a := ⟨g, _, none⟩) hb).trans h3⟩
  · exact (World.frozen?_of_block (w := w) (a := ⟨g, o, none⟩) hb).trans (h.free o)
theorem OwnAtI.stay {zs : List Int} (h : OwnAtI w g zs) (hb : w'.heap[g]? = w.heap[g]?) (hz : w.heap.size ≤ w'.heap.size) : OwnAtI w' g zs :=
  ⟨Nat.lt_of_lt_of_le h.lt hz, fun k hk => (World.cell?_of_block (w := w) (a := ⟨g, _, none⟩) hb).trans (h.at_ k hk), fun o => (World.frozen?_of_block (w := w) (a := ⟨g, o, none⟩) hb).trans (h.free o)⟩
/-- Blocks in memory of their own. -/
def iBlks (lo hi : Nat) (s : Value) (bs : List Blk) : Item := ⟨lo, hi, fun W => ResR W lo hi s bs⟩
theorem iBlks_ok (lo hi : Nat) (s : Value) (bs : List Blk) : (iBlks lo hi s bs).Ok := fun W W' _ hs h => by
  rcases h with h | ⟨g, cap, rfl, h1, h2, ho⟩
  · exact .inl h
  · exact .inr ⟨g, cap, rfl, h1, h2, ho.stay (hs.2 g h1 h2) hs.1⟩
/-- Integers in memory of their own. -/
def iInts (lo hi : Nat) (s : Value) (zs : List Int) : Item := ⟨lo, hi, fun W => ResI W lo hi s zs⟩
theorem iInts_ok (lo hi : Nat) (s : Value) (zs : List Int) : (iInts lo hi s zs).Ok := fun W W' _ hs h => by
  rcases h with h | ⟨g, cap, rfl, h1, h2, ho⟩
  · exact .inl h
  · exact .inr ⟨g, cap, rfl, h1, h2, ho.stay (hs.2 g h1 h2) hs.1⟩
/-- Rows in memory of their own. -/
def ResH (W : World) (lo hi : Nat) (u : Value) (n : Nat) (F : Nat → List Int) : Prop :=
  (n = 0 ∧ ∃ a c, u = .slice a 0 c) ∨ ∃ G cap gs caps, u = .slice (some ⟨G, 0, none⟩) n cap ∧ lo ≤ G ∧ G < hi ∧ (∀ k, k < n → gs k < hi) ∧ SSR W lo G gs caps n F
theorem ResSS.resH {lo n : Nat} {u : Value} {F : Nat → List Int} (h : ResSS w lo u n F) : ResH w lo w.heap.size u n F := by
  rcases h with h | ⟨G, cap, gs, caps, rfl, hG, hS⟩
  · exact .inl h
  · exact .inr ⟨G, cap, gs, caps, rfl, hG, hS.lt, fun k hk => (hS.row k hk).lt, hS⟩
theorem ResH.slice {n : Nat} {u : Value} {F : Nat → List Int} (h : ResH w lo hi u n F) : ∃ a c, u = .slice a n c := by
  rcases h with ⟨rfl, a, c, rfl⟩ | ⟨G, cap, gs, caps, rfl, _⟩ <;> exact ⟨_, _, rfl⟩
theorem ResH.sb {n : Nat} {u : Value} {F : Nat → List Int} (h : ResH w lo hi u n F) (hn : n ≤ 1100000) (hF : ∀ k, k < n → (F k).length ≤ 1100000) : SSB w u n F := by
  rcases h with h | ⟨G, cap, gs, caps, rfl, hG, _, _, hS⟩
  · exact ⟨hn, .inl h⟩
  · exact hS.sb hn hF
def iRows (lo hi : Nat) (u : Value) (n : Nat) (F : Nat → List Int) : Item := ⟨lo, hi, fun W => ResH W lo hi u n F⟩
theorem iRows_ok (lo hi : Nat) (u : Value) (n : Nat) (F : Nat → List Int) : (iRows lo hi u n F).Ok := fun W W' hh hs h => by
  rcases h with h | ⟨G, cap, gs, caps, rfl, h1, h2, h3, hS⟩
  · exact .inl h
  · refine .inr ⟨G, cap, gs, caps, rfl, h1, h2, h3, fun k hk => ?_, fun k hk => (hS.row k hk).stay (hs.2 _ (hS.low k hk) (h3 k hk)) hs.1, hS.ne, hS.inc, hS.low, Nat.lt_of_lt_of_le hS.lt hs.1⟩
    exact (World.cell?_of_block (w := W) (a := ⟨G, k, none⟩) (hs.2 G h1 h2)).trans (hS.cell k hk)
/-- A variable that holds a system. -/
def iVar (X : Nat) (v : Int) (s : Value) : Item := ⟨X, X + 1, fun W => VarB W X v s⟩
theorem iVar_ok (X : Nat) (v : Int) (s : Value) : (iVar X v s).Ok := fun W W' _ hs h => by
  have hb := hs.2 X (Nat.le_refl _) (Nat.lt_succ_self _)
  exact ⟨Nat.lt_of_lt_of_le h.lt hs.1, (World.cell?_of_block (w := W) (a := ⟨X, 0, none⟩) hb).trans h.c0, (World.cell?_of_block (w := W) (a := ⟨X, 1, none⟩) hb).trans h.c1⟩
/-- A variable that holds a block. -/
structure VarA (W : World) (X : Nat) (x : Blk) : Prop where
  lt : X < W.heap.size
  c0 : W.cell? ⟨X, 0, none⟩ = some (.int .i64 x.a)
  c1 : W.cell? ⟨X, 1, none⟩ = some (.int .i64 x.b)
  c2 : W.cell? ⟨X, 2, none⟩ = some (.int .i64 x.c)
theorem VarA.new (W : World) (x : Blk) (T : TypeId) : VarA (W.alloc (.cells #[.int .i64 x.a, .int .i64 x.b, .int .i64 x.c] T)) W.heap.size x := ⟨by simp, by simp, by simp, by simp⟩
def iArr (X : Nat) (x : Blk) : Item := ⟨X, X + 1, fun W => VarA W X x⟩
theorem iArr_ok (X : Nat) (x : Blk) : (iArr X x).Ok := fun W W' _ hs h => by
  have hb := hs.2 X (Nat.le_refl _) (Nat.lt_succ_self _)
  exact ⟨Nat.lt_of_lt_of_le h.lt hs.1, (World.cell?_of_block (w := W) (a := ⟨X, 0, none⟩) hb).trans h.c0, (World.cell?_of_block (w := W) (a := ⟨X, 1, none⟩) hb).trans h.c1, (World.cell?_of_block (w := W) (a := ⟨X, 2, none⟩) hb).trans h.c2⟩
end
section
variable {w W W' : World} {L : List Item} {lo hi : Nat}
theorem Mem.var (h : Mem w L W) (k : Nat) {X : Nat} {v : Int} {s : Value} (e : L[k]? = some (iVar X v s)) : VarB W X v s := h.at k e
theorem Mem.arr (h : Mem w L W) (k : Nat) {X : Nat} {x : Blk} (e : L[k]? = some (iArr X x)) : VarA W X x := h.at k e
theorem Mem.blks (h : Mem w L W) (k : Nat) {s : Value} {bs : List Blk} (e : L[k]? = some (iBlks lo hi s bs)) : ResR W lo hi s bs := h.at k e
theorem Mem.ints (h : Mem w L W) (k : Nat) {s : Value} {zs : List Int} (e : L[k]? = some (iInts lo hi s zs)) : ResI W lo hi s zs := h.at k e
theorem Mem.rows (h : Mem w L W) (k : Nat) {u : Value} {n : Nat} {F : Nat → List Int} (e : L[k]? = some (iRows lo hi u n F)) : ResH W lo hi u n F := h.at k e
theorem Mem.pushVar (h : Mem w L W) (v : Int) (s : Value) (T : TypeId) : Mem w (iVar W.heap.size v s :: L) (W.alloc (.cells #[.int .i64 v, s] T)) :=
  h.push (gb_alloc1 W _) (iVar W.heap.size v s) (Nat.le_refl _) (Nat.le_succ _) (by simp [iVar]) (iVar_ok _ _ _) (VarB.new W v s T)
theorem Mem.pushArr (h : Mem w L W) (x : Blk) (T : TypeId) : Mem w (iArr W.heap.size x :: L) (W.alloc (.cells #[.int .i64 x.a, .int .i64 x.b, .int .i64 x.c] T)) :=
  h.push (gb_alloc1 W _) (iArr W.heap.size x) (Nat.le_refl _) (Nat.le_succ _) (by simp [iArr]) (iArr_ok _ _) (VarA.new W x T)
theorem Mem.pushB (h : Mem w L W) (hb : Below W.heap.size W W') {s : Value} {bs : List Blk} (hr : ResR W' W.heap.size W'.heap.size s bs) : Mem w (iBlks W.heap.size W'.heap.size s bs :: L) W' :=
  h.push (gb_below hb) (iBlks W.heap.size W'.heap.size s bs) (Nat.le_refl _) hb.size (Nat.le_refl _) (iBlks_ok _ _ _ _) hr
theorem Mem.pushI (h : Mem w L W) (hb : Below W.heap.size W W') {s : Value} {zs : List Int} (hr : ResI W' W.heap.size W'.heap.size s zs) : Mem w (iInts W.heap.size W'.heap.size s zs :: L) W' :=
  h.push (gb_below hb) (iInts W.heap.size W'.heap.size s zs) (Nat.le_refl _) hb.size (Nat.le_refl _) (iInts_ok _ _ _ _) hr
theorem Mem.pushH (h : Mem w L W) (hb : Below W.heap.size W W') {u : Value} {n : Nat} {F : Nat → List Int} (hr : ResH W' W.heap.size W'.heap.size u n F) : Mem w (iRows W.heap.size W'.heap.size u n F :: L) W' :=
  h.push (gb_below hb) (iRows W.heap.size W'.heap.size u n F) (Nat.le_refl _) hb.size (Nat.le_refl _) (iRows_ok _ _ _ _ _) hr
theorem Mem.markB (h : Mem w L W) (k : Nat) {s : Value} {bs : List Blk} (e : L[k]? = some (iBlks lo hi s bs)) (hw : ∃ row, W.grownBy W' row ∧ ∀ r, row = some r → lo ≤ r ∧ r < hi) {bs' : List Blk} (hP : ResR W' lo hi s bs') : Mem w (L.set k (iBlks lo hi s bs')) W' := by
  obtain ⟨row, hg, hr⟩ := hw
  exact h.mark k e (OnlyIn.of_grown hg hr) (iBlks_ok lo hi s bs') hP
theorem Mem.markI (h : Mem w L W) (k : Nat) {s : Value} {zs : List Int} (e : L[k]? = some (iInts lo hi s zs)) (hw : ∃ row, W.grownBy W' row ∧ ∀ r, row = some r → lo ≤ r ∧ r < hi) {zs' : List Int} (hP : ResI W' lo hi s zs') : Mem w (L.set k (iInts lo hi s zs')) W' := by
  obtain ⟨row, hg, hr⟩ := hw
  exact h.mark k e (OnlyIn.of_grown hg hr) (iInts_ok lo hi s zs') hP
theorem Mem.markH (h : Mem w L W) (k : Nat) {u : Value} {n : Nat} {F : Nat → List Int} (e : L[k]? = some (iRows lo hi u n F)) (hw : OnlyIn lo hi W W') {F' : Nat → List Int} (hP : ResH W' lo hi u n F') : Mem w (L.set k (iRows lo hi u n F')) W' :=
  h.mark k e hw (iRows_ok lo hi u n F') hP
theorem OwnAtI.res {g cap : Nat} {zs : List Int} (h : OwnAtI w g zs) {lo : Nat} (hl : lo ≤ g) : ResI w lo w.heap.size (.slice (some ⟨g, 0, none⟩) zs.length cap) zs := .inr ⟨g, cap, rfl, hl, h.lt, h⟩
end
end Go.Proofs.Ytehdpgjbmnkkiaa

namespace Go.Proofs.Ytehdpgjbmnkkiaa
open Go.RowKit Go.Maps
/-- What is known of a trade's two lists that came in. -/
def InT (w : World) (so : Value) (bo : List Blk) (si : Value) (bi : List Blk) : Prop := InB w so bo ∧ InB w si bi
/-- Two slices of just these blocks. -/
def TB (w : World) (so : Value) (bo : List Blk) (si : Value) (bi : List Blk) : Prop := SB w so bo ∧ SB w si bi
theorem InT.sb {w : World} {so si : Value} {bo bi : List Blk} (h : InT w so bo si bi) (hl : bo.length + bi.length ≤ 1048576) : TB w so bo si bi := ⟨h.1.sb (by omega), h.2.sb (by omega)⟩
theorem TB.below {w w' : World} {so si : Value} {bo bi : List Blk} (h : TB w so bo si bi) {B : Nat} (hb : Below B w w') (hB : w.heap.size ≤ B) : TB w' so bo si bi := ⟨h.1.below hb hB, h.2.below hb hB⟩
/-- Two new lists of the call's own, apart from each other. -/
def OwnT (w : World) (lo : Nat) (so : Value) (bo : List Blk) (si : Value) (bi : List Blk) : Prop :=
  ∃ g cap g' cap', so = .slice (some ⟨g, 0, none⟩) bo.length cap ∧ si = .slice (some ⟨g', 0, none⟩) bi.length cap' ∧ g < g' ∧ OwnB w lo so bo ∧ OwnB w lo si bi
theorem OwnT.sb {w : World} {lo : Nat} {so si : Value} {bo bi : List Blk} (h : OwnT w lo so bo si bi) (h1 : ∀ x ∈ bo, WFB x) (h2 : ∀ x ∈ bi, WFB x) (hl : bo.length + bi.length ≤ 1100000) : TB w so bo si bi := by
  obtain ⟨_, _, _, _, _, _, _, o1, o2⟩ := h
  exact ⟨o1.sb h1 (by omega), o2.sb h2 (by omega)⟩
/-- A trade in memory of its own. -/
def ResT (w : World) (lo hi : Nat) (so : Value) (bo : List Blk) (si : Value) (bi : List Blk) : Prop :=
  ∃ a b c d, lo ≤ a ∧ b ≤ hi ∧ lo ≤ c ∧ d ≤ hi ∧ (b ≤ c ∨ d ≤ a) ∧ ResR w a b so bo ∧ ResR w c d si bi
section
variable {w W W' : World} {L : List Item} {lo hi : Nat} {so si : Value} {bo bi : List Blk}
theorem OwnB.at_ {g cap : Nat} {bs : List Blk} (h : OwnB w lo (.slice (some ⟨g, 0, none⟩) bs.length cap) bs) : lo ≤ g ∧ g < w.heap.size ∧ OwnAt w g bs := by
  obtain ⟨g', cap', e, h1, h2, h3, h4, _⟩ := h
  simp at e
  obtain ⟨rfl, rfl⟩ := e
  exact ⟨h1, h2, h2, h3, h4⟩
theorem OwnT.res (h : OwnT w lo so bo si bi) : ResT w lo w.heap.size so bo si bi := by
  obtain ⟨g, cap, g', cap', rfl, rfl, hlt, o1, o2⟩ := h
  obtain ⟨p1, p2, p3⟩ := o1.at_
  obtain ⟨q1, q2, q3⟩ := o2.at_
  exact ⟨g, g + 1, g', g' + 1, p1, by omega, q1, by omega, .inl (by omega), .inr ⟨g, cap, rfl, by omega, by omega, p3⟩, .inr ⟨g', cap', rfl, by omega, by omega, q3⟩⟩
theorem ResT.tb (h : ResT w lo hi so bo si bi) (h1 : ∀ x ∈ bo, WFB x) (h2 : ∀ x ∈ bi, WFB x) (hl : bo.length + bi.length ≤ 1100000) : TB w so bo si bi := by
  obtain ⟨_, _, _, _, _, _, _, _, _, r1, r2⟩ := h
  exact ⟨r1.sb h1 (by omega), r2.sb h2 (by omega)⟩
theorem ResT.slice (h : ResT w lo hi so bo si bi) : (∃ a c, so = .slice a bo.length c) ∧ ∃ a c, si = .slice a bi.length c := by
  obtain ⟨_, _, _, _, _, _, _, _, _, r1, r2⟩ := h
  exact ⟨r1.slice, r2.slice⟩
theorem ResT.of {a b c d : Nat} (h1 : ResR w a b so bo) (h2 : ResR w c d si bi) (ha : lo ≤ a) (hb : b ≤ hi) (hc : lo ≤ c) (hd : d ≤ hi) (hx : b ≤ c ∨ d ≤ a) : ResT w lo hi so bo si bi := ⟨a, b, c, d, ha, hb, hc, hd, hx, h1, h2⟩
theorem ResT.wide {lo' hi' : Nat} (h : ResT w lo hi so bo si bi) (h1 : lo' ≤ lo) (h2 : hi ≤ hi') : ResT w lo' hi' so bo si bi := by
  obtain ⟨a, b, c, d, ha, hb, hc, hd, hx, r1, r2⟩ := h
  exact ⟨a, b, c, d, by omega, by omega, by omega, by omega, hx, r1, r2⟩
theorem ResT.below {B : Nat} (h : ResT W lo hi so bo si bi) (hb : Below B W W') (hB : W.heap.size ≤ B) : ResT W' lo hi so bo si bi := by
  obtain ⟨a, b, c, d, ha, hb1, hc, hd, hx, r1, r2⟩ := h
  exact ⟨a, b, c, d, ha, hb1, hc, hd, hx, r1.below hb hB, r2.below hb hB⟩
theorem ResT.nil (w : World) (lo : Nat) : ResT w lo w.heap.size (.slice none 0 0) [] (.slice none 0 0) [] := ⟨lo, 0, lo, 0, by omega, by omega, by omega, by omega, .inl (by omega), .inl ⟨rfl, _, _, rfl⟩, .inl ⟨rfl, _, _, rfl⟩⟩
theorem ResR.stays {bs : List Blk} {s : Value} {a b : Nat} (h : ResR W a b s bs) (hs : Stays lo hi W W') (h1 : lo ≤ a) (h2 : b ≤ hi) : ResR W' a b s bs := by
  rcases h with h | ⟨g, cap, rfl, p, q, ho⟩
  · exact .inl h
  · exact .inr ⟨g, cap, rfl, p, q, ho.stay (hs.2 g (by omega) (by omega)) hs.1⟩
def iTrd (lo hi : Nat) (so : Value) (bo : List Blk) (si : Value) (bi : List Blk) : Item := ⟨lo, hi, fun W => ResT W lo hi so bo si bi⟩
theorem iTrd_ok (lo hi : Nat) (so : Value) (bo : List Blk) (si : Value) (bi : List Blk) : (iTrd lo hi so bo si bi).Ok := fun W W' _ hs h => by
  obtain ⟨a, b, c, d, ha, hb, hc, hd, hx, r1, r2⟩ := h
  exact ⟨a, b, c, d, ha, hb, hc, hd, hx, r1.stays hs ha hb, r2.stays hs hc hd⟩
/-- A variable that holds a trade. -/
structure VarT (W : World) (X : Nat) (v : Int) (s t : Value) : Prop where
  lt : X < W.heap.size
  c0 : W.cell? ⟨X, 0, none⟩ = some (.int .i64 v)
  c1 : W.cell? ⟨X, 1, none⟩ = some s
  c2 : W.cell? ⟨X, 2, none⟩ = some t
theorem VarT.new (W : World) (v : Int) (s t : Value) (T : TypeId) : VarT (W.alloc (.cells #[.int .i64 v, s, t] T)) W.heap.size v s t := ⟨by simp, by simp, by simp, by simp⟩
def iVarT (X : Nat) (v : Int) (s t : Value) : Item := ⟨X, X + 1, fun W => VarT W X v s t⟩
theorem iVarT_ok (X : Nat) (v : Int) (s t : Value) : (iVarT X v s t).Ok := fun W W' _ hs h => by
  have hb := hs.2 X (Nat.le_refl _) (Nat.lt_succ_self _)
  exact ⟨Nat.lt_of_lt_of_le h.lt hs.1, (World.cell?_of_block (w := W) (a := ⟨X, 0, none⟩) hb).trans h.c0, (World.cell?_of_block (w := W) (a := ⟨X, 1, none⟩) hb).trans h.c1, (World.cell?_of_block (w := W) (a := ⟨X, 2, none⟩) hb).trans h.c2⟩
theorem Mem.vrt (h : Mem w L W) (k : Nat) {X : Nat} {v : Int} {s t : Value} (e : L[k]? = some (iVarT X v s t)) : VarT W X v s t := h.at k e
theorem Mem.trd (h : Mem w L W) (k : Nat) (e : L[k]? = some (iTrd lo hi so bo si bi)) : ResT W lo hi so bo si bi := h.at k e
theorem Mem.pushVarT (h : Mem w L W) (v : Int) (s t : Value) (T : TypeId) : Mem w (iVarT W.heap.size v s t :: L) (W.alloc (.cells #[.int .i64 v, s, t] T)) :=
  h.push (gb_alloc1 W _) (iVarT W.heap.size v s t) (Nat.le_refl _) (Nat.le_succ _) (by simp [iVarT]) (iVarT_ok _ _ _ _) (VarT.new W v s t T)
theorem Mem.pushT (h : Mem w L W) (hb : Below W.heap.size W W') (hr : ResT W' W.heap.size W'.heap.size so bo si bi) : Mem w (iTrd W.heap.size W'.heap.size so bo si bi :: L) W' :=
  h.push (gb_below hb) (iTrd W.heap.size W'.heap.size so bo si bi) (Nat.le_refl _) hb.size (Nat.le_refl _) (iTrd_ok _ _ _ _ _ _) hr
theorem Mem.markT (h : Mem w L W) (k : Nat) (e : L[k]? = some (iTrd lo hi so bo si bi)) (hw : OnlyIn lo hi W W') {bo' bi' : List Blk} (hP : ResT W' lo hi so bo' si bi') : Mem w (L.set k (iTrd lo hi so bo' si bi')) W' :=
  h.mark k e hw (iTrd_ok lo hi so bo' si bi') hP
end
end Go.Proofs.Ytehdpgjbmnkkiaa

namespace Go.Proofs.Ytehdpgjbmnkkiaa
open Go.RowKit Go.Maps
theorem num_inj {v u : Int} {bs cs : List Blk} (hv : v ≤ 15) (hu : u ≤ 15) (h1 : ∀ x ∈ bs, goodB v x = true) (h2 : ∀ x ∈ cs, goodB u x = true) : samePr bs cs = true ↔ ∀ i, i < 256 → inNum (prs bs) i = inNum (prs cs) i := by
  have key : ∀ {v : Int} {bs : List Blk}, v ≤ 15 → (∀ x ∈ bs, goodB v x = true) → ∀ p ∈ prs bs, 0 ≤ p.1 ∧ p.1 ≤ 14 ∧ 0 ≤ p.2 ∧ p.2 ≤ 14 := by
    intro v bs hv h p hp
    simp only [prs, List.mem_flatMap] at hp
    obtain ⟨x, hx, hp⟩ := hp
    have hg := goodB_iff.1 (h x hx)
    simp only [pairsL, List.mem_cons, List.not_mem_nil, or_false] at hp
    rcases hp with rfl | rfl | rfl <;> simp only <;> omega
  have inj : ∀ {p q : Int × Int}, (0 ≤ p.1 ∧ p.1 ≤ 14 ∧ 0 ≤ p.2 ∧ p.2 ≤ 14) → (0 ≤ q.1 ∧ q.1 ≤ 14 ∧ 0 ≤ q.2 ∧ q.2 ≤ 14) → numP p = numP q → p = q := by
    rintro ⟨a, b⟩ ⟨c, d⟩ hp hq e
    simp only [numP] at *
    have h1 : a = c := by omega
    have h2 : b = d := by omega
    rw [h1, h2]
  rw [samePr_iff]
  constructor
  · intro h i _
    unfold inNum
    rw [decide_eq_decide, List.mem_map, List.mem_map]
    exact ⟨fun ⟨p, hp, e⟩ => ⟨p, (h p).1 hp, e⟩, fun ⟨p, hp, e⟩ => ⟨p, (h p).2 hp, e⟩⟩
  · intro h p
    have tow : ∀ {v u : Int} {bs cs : List Blk}, v ≤ 15 → u ≤ 15 → (∀ x ∈ bs, goodB v x = true) → (∀ x ∈ cs, goodB u x = true) → (∀ i, i < 256 → inNum (prs bs) i = inNum (prs cs) i) → p ∈ prs bs → p ∈ prs cs := by
      intro v u bs cs hv hu h1 h2 h hp
      have b := key hv h1 p hp
      have hi := h (numP p).toNat (by simp only [numP]; omega)
      have e : ((numP p).toNat : Int) = numP p := Int.toNat_of_nonneg (by simp only [numP]; omega)
      unfold inNum at hi
      rw [e, decide_eq_true (List.mem_map.2 ⟨p, hp, rfl⟩)] at hi
      obtain ⟨q, hq, eq⟩ := List.mem_map.1 (of_decide_eq_true hi.symm)
      rw [← inj (key hu h2 q hq) b eq]
      exact hq
    exact ⟨tow hv hu h1 h2 h, tow hu hv h2 h1 (fun i hi => (h i hi).symm)⟩
theorem Bools.drewN {W : World} {g : Nat} {f : Nat → Bool} (h : Bools W g f) (n : Nat) : Bools (W.drewN n) g f := ⟨h.lt, h.at_, h.free⟩
set_option maxRecDepth 100000 in
theorem l04Member_any (s : Value) (bs : List Blk) (x : Blk) (w : World) (h : SB w s bs) : Calls Try.prog 101 #[s, bv x] w (RV (.bool (decide (x ∈ bs))) w) := by
  have hs := h.slice
  have H := Lib.hid h
  have hl := h.2.1
  clear h
  obtain ⟨a, c, rfl⟩ := hs
  obtain ⟨x1, x2, x3⟩ := x
  unfold bv
  dsimp only
  go_enter Try.func101, Try.ntmps101
  go_wp2
  have B0 : Below w.heap.size w (w.alloc (.cells #[.int .i64 x1, .int .i64 x2, .int .i64 x3] 93)) := (Below.refl _ _).alloc (Nat.le_refl _) _
  obtain ⟨W, hW⟩ : ∃ W, W = w.alloc (.cells #[.int .i64 x1, .int .i64 x2, .int .i64 x3] 93) := ⟨_, rfl⟩
  have y0 : W.cell? ⟨w.heap.size, 0, none⟩ = some (.int .i64 x1) := by rw [hW]; simp
  have y1 : W.cell? ⟨w.heap.size, 1, none⟩ = some (.int .i64 x2) := by rw [hW]; simp
  have y2 : W.cell? ⟨w.heap.size, 2, none⟩ = some (.int .i64 x3) := by rw [hW]; simp
  rw [← hW] at B0 ⊢
  clear hW
  have hsb := H.out.below B0 (Nat.le_refl _)
  have HS := Lib.hid hsb
  clear hsb
  go_loopw [5] (fun i wr => ∃ k : Nat, k ≤ bs.length ∧ i = .int .i64 k ∧ (∃ n, wr = W.drewN n) ∧ Hid (¬ (⟨x1, x2, x3⟩ : Blk) ∈ bs.take k)) (fun i _ => bs.length - (intOf i).toNat)
  case atStart => exact ⟨0, Nat.zero_le _, rfl, ⟨0, rfl⟩, Lib.hid (by simp)⟩
  case round =>
    obtain ⟨k, hk, rfl, ⟨n, rfl⟩, HN⟩ := hrel
    by_cases hkl : k < bs.length
    · rcases HS.out.2.2 with ⟨_, _, _, hnil⟩ | ⟨b, off, cap, hval, hblt, hbl⟩
      · rw [hnil] at hkl; simp at hkl
      · simp at hval
        obtain ⟨rfl, rfl⟩ := hval
        obtain ⟨z, hz, ez, z1, z2, z3⟩ := blks_at hbl hkl
        have g0 : (0 : Int) ≤ (k : Int) := by omega
        have g1 : (k : Int) < (bs.length : Int) := by omega
        have hnx : bs.take (k + 1) = bs.take k ++ [z] := by
          have e : bs[k] = z := by
            rw [List.getElem?_eq_getElem hkl] at ez
            simpa using ez
          rw [take_next hkl, e]
        have HNX := Lib.hid hnx
        have HZ := Lib.hid hz
        have hq := run_eql_blk z ⟨x1, x2, x3⟩
        obtain ⟨q1, q2, q3⟩ := z
        unfold bv at hq
        dsimp only at hq z1 z2 z3
        clear hnx hz ez hbl
        by_cases he : (⟨q1, q2, q3⟩ : Blk) = ⟨x1, x2, x3⟩
        · have HEQ := Lib.hid he
          rw [decide_eq_true he] at hq
          clear he
          go_wp2
          go_quiet (fail)
          go_wp2
          go_ret
          exact RV_of (bool_eq (by rw [← HEQ.out]; simp [HZ.out])) (below_drewN (below_drewN B0 _) _)
        · have HEQ := Lib.hid he
          rw [decide_eq_false he] at hq
          clear he
          go_wp2
          go_quiet (fail)
          go_wp2
          go_roundw
          case rel => exact ⟨k + 1, by omega, by go_num, ⟨_, rfl⟩, Lib.hid (by rw [HNX.out]; simp only [List.mem_append, List.mem_singleton, not_or]; exact ⟨HN.out, fun e => HEQ.out e.symm⟩)⟩
          case measure => simp [intOf]; omega
    · go_wp2
      go_ret
      have e : k = bs.length := by omega
      subst e
      refine RV_of (bool_eq ?_) (below_drewN B0 _)
      have := HN.out
      rw [List.take_length] at this
      simp [this]
/-- A trade's box and those of its two systems. -/
structure Box5 (w : World) (v : Int) (so si : Value) (W : World) : Prop where
  below : Below w.heap.size w W
  lt : w.heap.size + 1 + 1 < W.heap.size
  a0 : W.cell? ⟨w.heap.size, 0, none⟩ = some (.int .i64 v)
  a1 : W.cell? ⟨w.heap.size, 1, none⟩ = some so
  a2 : W.cell? ⟨w.heap.size, 2, none⟩ = some si
  b0 : W.cell? ⟨w.heap.size + 1, 0, none⟩ = some (.int .i64 v)
  b1 : W.cell? ⟨w.heap.size + 1, 1, none⟩ = some so
  c0 : W.cell? ⟨w.heap.size + 1 + 1, 0, none⟩ = some (.int .i64 v)
  c1 : W.cell? ⟨w.heap.size + 1 + 1, 1, none⟩ = some si
theorem Box5.step {w W W' : World} {v : Int} {so si : Value} (h : Box5 w v so si W) (hb : Below W.heap.size W W') : Box5 w v so si W' := by
  have hl := h.lt
  exact ⟨h.below.trans (hb.mono h.below.size), Nat.lt_of_lt_of_le h.lt hb.size, (hb.cell (p := ⟨w.heap.size, 0, none⟩) (by show w.heap.size < _; omega)).trans h.a0, (hb.cell (p := ⟨w.heap.size, 1, none⟩) (by show w.heap.size < _; omega)).trans h.a1, (hb.cell (p := ⟨w.heap.size, 2, none⟩) (by show w.heap.size < _; omega)).trans h.a2,
    (hb.cell (p := ⟨w.heap.size + 1, 0, none⟩) (by show w.heap.size + 1 < _; omega)).trans h.b0, (hb.cell (p := ⟨w.heap.size + 1, 1, none⟩) (by show w.heap.size + 1 < _; omega)).trans h.b1,
    (hb.cell (p := ⟨w.heap.size + 1 + 1, 0, none⟩) (by show w.heap.size + 1 + 1 < _; omega)).trans h.c0, (hb.cell (p := ⟨w.heap.size + 1 + 1, 1, none⟩) (by show w.heap.size + 1 + 1 < _; omega)).trans h.c1⟩
end Go.Proofs.Ytehdpgjbmnkkiaa

namespace Go.Proofs.Ytehdpgjbmnkkiaa
open Go.RowKit Go.Maps
/-- No block of the first list is in the second one. -/
def apartB (xs ys : List Blk) : Bool := xs.all fun b => !decide (b ∈ ys)
def commonB (xs ys : List Blk) : Nat := xs.countP fun b => decide (b ∈ ys)
theorem commonB_apart (xs ys : List Blk) : ((commonB xs ys : Int) == 0) = apartB xs ys := by
  unfold commonB apartB
  induction xs with
  | nil => rfl
  | cons x r ih =>
    rw [List.all_cons, List.countP_cons, ← ih]
    cases h : decide (x ∈ ys) with
    | true => simp; omega
    | false => simp
theorem commonB_take {xs ys : List Blk} {k : Nat} (hk : k < xs.length) : commonB (xs.take (k + 1)) ys = commonB (xs.take k) ys + if decide (xs[k] ∈ ys) then 1 else 0 := by
  unfold commonB
  rw [List.take_succ_eq_append_getElem hk, List.countP_append, List.countP_singleton]
theorem commonB_le (xs ys : List Blk) : commonB xs ys ≤ xs.length := List.countP_le_length
set_option maxRecDepth 100000 in
theorem IndexB_any (s : Value) (bs : List Blk) (x : Blk) (w : World) (h : SB w s bs) :
    Calls Try.prog 122 #[s, bv x] w fun e w' => ∃ r : Int, e = .returned (.int .i64 r) ∧ Below w.heap.size w w' ∧ decide (r ≥ 0) = decide (x ∈ bs) := by
  have hs := h.slice
  have H := Lib.hid h
  have hl := h.2.1
  clear h
  obtain ⟨a, c, rfl⟩ := hs
  obtain ⟨x1, x2, x3⟩ := x
  unfold bv
  dsimp only
  go_enter Try.func122, Try.ntmps122
  go_wp2
  have B0 : Below w.heap.size w (w.alloc (.cells #[.int .i64 x1, .int .i64 x2, .int .i64 x3] 93)) := (Below.refl _ _).alloc (Nat.le_refl _) _
  obtain ⟨W, hW⟩ : ∃ W, W = w.alloc (.cells #[.int .i64 x1, .int .i64 x2, .int .i64 x3] 93) := ⟨_, rfl⟩
  have y0 : W.cell? ⟨w.heap.size, 0, none⟩ = some (.int .i64 x1) := by rw [hW]; simp
  have y1 : W.cell? ⟨w.heap.size, 1, none⟩ = some (.int .i64 x2) := by rw [hW]; simp
  have y2 : W.cell? ⟨w.heap.size, 2, none⟩ = some (.int .i64 x3) := by rw [hW]; simp
  rw [← hW] at B0 ⊢
  clear hW
  have HS := Lib.hid (H.out.below B0 (Nat.le_refl _))
  go_loopw [8] (fun i wr => ∃ k : Nat, k ≤ bs.length ∧ i = .int .i64 k ∧ (∃ n, wr = W.drewN n) ∧ Hid (¬ (⟨x1, x2, x3⟩ : Blk) ∈ bs.take k)) (fun i _ => bs.length - (intOf i).toNat)
  case atStart => exact ⟨0, Nat.zero_le _, rfl, ⟨0, rfl⟩, Lib.hid (by simp)⟩
  case round =>
    obtain ⟨k, hk, rfl, ⟨n, rfl⟩, HN⟩ := hrel
    by_cases hkl : k < bs.length
    · rcases HS.out.2.2 with ⟨_, _, _, hnil⟩ | ⟨b, off, cap, hval, hblt, hbl⟩
      · rw [hnil] at hkl; simp at hkl
      · simp at hval
        obtain ⟨rfl, rfl⟩ := hval
        obtain ⟨z, hz, ez, z1, z2, z3⟩ := blks_at hbl hkl
        have g0 : (0 : Int) ≤ (k : Int) := by omega
        have g1 : (k : Int) < (bs.length : Int) := by omega
        have hnx : bs.take (k + 1) = bs.take k ++ [z] := by
          have e : bs[k] = z := by
            rw [List.getElem?_eq_getElem hkl] at ez
            simpa using ez
          rw [List.take_succ_eq_append_getElem hkl, e]
        have HNX := Lib.hid hnx
        have HZ := Lib.hid hz
        have hq := run_eql_blk ⟨x1, x2, x3⟩ z
        obtain ⟨q1, q2, q3⟩ := z
        unfold bv at hq
        dsimp only at hq z1 z2 z3
        clear hnx hz ez hbl
        by_cases he : (⟨x1, x2, x3⟩ : Blk) = ⟨q1, q2, q3⟩
        · have HEQ := Lib.hid he
          rw [decide_eq_true he] at hq
          clear he
          go_wp2
          go_quiet (fail)
          go_wp2
          go_ret
          exact ⟨_, rfl, below_drewN (below_drewN B0 _) _, by rw [decide_eq_true (by omega), decide_eq_true (by rw [HEQ.out]; exact HZ.out)]⟩
        · have HEQ := Lib.hid he
          rw [decide_eq_false he] at hq
          clear he
          go_wp2
          go_quiet (fail)
          go_wp2
          go_roundw
          case rel => exact ⟨k + 1, by omega, by go_num, ⟨_, rfl⟩, Lib.hid (by rw [HNX.out]; simp only [List.mem_append, List.mem_singleton, not_or]; exact ⟨HN.out, HEQ.out⟩)⟩
          case measure => simp [intOf]; omega
    · have e : k = bs.length := by omega
      subst e
      have hn := HN.out
      rw [List.take_length] at hn
      have HNN := Lib.hid hn
      clear hn HN
      go_wp2
      go_ret
      exact ⟨_, rfl, below_drewN B0 _, by rw [decide_eq_false (by omega), decide_eq_false HNN.out]⟩
set_option maxRecDepth 100000 in
theorem ContainsB_any (s : Value) (bs : List Blk) (x : Blk) (w : World) (h : SB w s bs) :
    Calls Try.prog 109 #[s, bv x] w (RV (.bool (decide (x ∈ bs))) w) := by
  have HI := Lib.hid fun W (hb : Below w.heap.size w W) => IndexB_any s bs x W (h.below hb (Nat.le_refl _))
  obtain ⟨β, hβ⟩ : ∃ β, β = decide (x ∈ bs) := ⟨_, rfl⟩
  simp only [← hβ] at HI
  rw [← hβ]
  obtain ⟨a, c, rfl⟩ := h.slice
  obtain ⟨x1, x2, x3⟩ := x
  unfold bv at HI ⊢
  dsimp only at HI ⊢
  clear h hβ
  have hb0 : Below w.heap.size w (w.alloc (.cells #[.int .i64 x1, .int .i64 x2, .int .i64 x3] 93)) := (Below.refl _ _).alloc (Nat.le_refl _) _
  have HB0 := Lib.hid hb0
  clear hb0
  go_enter Try.func109, Try.ntmps109
  go_wp2_with fail
  refine (HI.out _ HB0.out).mono ?_
  rintro e w1 ⟨r, rfl, hb1, hr⟩
  have hb2 := below_new hb1
  go_wp2
  go_ret
  exact RV_of (by rw [← hr]; rfl) hb2
set_option maxRecDepth 100000 in
/-- Is a block no one of those behind a pointer to a system? -/
theorem areApart1_any (p : Nat) (ys : List Blk) (s : Value) (x : Blk) (w : World) (hp : p < w.heap.size) (c1 : w.cell? ⟨p, 1, none⟩ = some s) (h : SB w s ys) :
    Calls Try.prog 108 #[bv x, .pointer (some ⟨p, 0, none⟩)] w (RV (.bool (!decide (x ∈ ys))) w) := by
  have HI := Lib.hid fun W (hb : Below w.heap.size w W) => ContainsB_any s ys x W (h.below hb (Nat.le_refl _))
  obtain ⟨β, hβ⟩ : ∃ β, β = decide (x ∈ ys) := ⟨_, rfl⟩
  simp only [← hβ] at HI
  rw [← hβ]
  obtain ⟨a, c, rfl⟩ := h.slice
  obtain ⟨x1, x2, x3⟩ := x
  unfold bv at HI ⊢
  dsimp only at HI ⊢
  clear h hβ
  have hb0 : Below w.heap.size w (w.alloc (.cells #[.int .i64 x1, .int .i64 x2, .int .i64 x3] 93)) := (Below.refl _ _).alloc (Nat.le_refl _) _
  have HB0 := Lib.hid hb0
  clear hb0
  go_enter Try.func108, Try.ntmps108
  go_wp2_with fail
  refine (HI.out _ HB0.out).mono ?_
  rintro e w1 ⟨rfl, hb1⟩
  have hb2 := below_new hb1
  go_wp2
  go_ret
  exact RV_of rfl hb2
set_option maxRecDepth 100000 in
theorem allApart_any (p : Nat) (ys : List Blk) (s2 : Value) (s : Value) (xs : List Blk) (w : World) (hp : p < w.heap.size) (c1 : w.cell? ⟨p, 1, none⟩ = some s2) (h2 : SB w s2 ys) (h : SB w s xs) :
    Calls Try.prog 107 #[s, .func (.func 108) #[] #[.pointer (some ⟨p, 0, none⟩)]] w (RV (.bool (apartB xs ys)) w) := by
  have HI := Lib.hid fun (x : Blk) W (hb : Below w.heap.size w W) => areApart1_any p ys s2 x W (Nat.lt_of_lt_of_le hp hb.size) ((hb.cell hp).trans c1) (h2.below hb (Nat.le_refl _))
  have hl := h.2.1
  have HS := Lib.hid h
  obtain ⟨a, c, rfl⟩ := h.slice
  clear h h2 c1 hp
  go_enter Try.func107, Try.ntmps107
  go_wp2
  go_loopw [9] (fun i wr => ∃ k : Nat, k ≤ xs.length ∧ i = .int .i64 k ∧ Below w.heap.size w wr ∧ Hid (apartB xs ys = apartB (xs.drop k) ys)) (fun i _ => xs.length - (intOf i).toNat)
  case atStart => exact ⟨0, Nat.zero_le _, rfl, Below.refl _ _, Lib.hid rfl⟩
  case round =>
    obtain ⟨k, hk, rfl, hB, HE⟩ := hrel
    have hz := hB.size
    by_cases hkl : k < xs.length
    · rcases HS.out.2.2 with ⟨_, _, _, hnil⟩ | ⟨b, off, cap, hval, hblt, hbl⟩
      · rw [hnil] at hkl; simp at hkl
      · simp at hval
        obtain ⟨rfl, rfl⟩ := hval
        obtain ⟨z, hz1, ez, z1, z2, z3⟩ := blks_at (hbl.below hB hblt) hkl
        have he := HE.out
        have hdr : xs.drop k = z :: xs.drop (k + 1) := by
          have e : xs[k] = z := by
            rw [List.getElem?_eq_getElem hkl] at ez
            simpa using ez
          rw [List.drop_eq_getElem_cons hkl, e]
        rw [hdr] at he
        obtain ⟨β, hβ⟩ : ∃ β, β = decide (z ∈ ys) := ⟨_, rfl⟩
        have HC := Lib.hid fun W (hb : Below w.heap.size w W) => HI.out z W hb
        simp only [← hβ] at HC
        have he2 : apartB xs ys = (!β && apartB (xs.drop (k + 1)) ys) := by rw [he, hβ]; rfl
        have HE2 := Lib.hid he2
        obtain ⟨q1, q2, q3⟩ := z
        unfold bv at HC
        dsimp only at HC z1 z2 z3
        have g0 : (0 : Int) ≤ (k : Int) := by omega
        have g1 : (k : Int) < (xs.length : Int) := by omega
        clear he he2 hdr hβ hz1 ez hbl HE
        cases β with
        | true =>
          go_wp2_with fail
          refine (HC.out _ (hB.alloc hz _)).mono ?_
          rintro e w1 ⟨rfl, hb1⟩
          have hb2 := hB.trans ((below_new hb1).mono hz)
          go_wp2
          go_ret
          exact RV_of (by rw [HE2.out]; rfl) hb2
        | false =>
          go_wp2_with fail
          refine (HC.out _ (hB.alloc hz _)).mono ?_
          rintro e w1 ⟨rfl, hb1⟩
          have hb2 := hB.trans ((below_new hb1).mono hz)
          go_wp2
          go_roundw
          case rel => exact ⟨k + 1, by omega, by go_num, hb2, Lib.hid (by rw [HE2.out]; rfl)⟩
          case measure => simp [intOf]; omega
    · have e : k = xs.length := by omega
      subst e
      have he := HE.out
      rw [List.drop_length] at he
      have HE2 := Lib.hid he
      clear he HE
      go_wp2
      go_ret
      exact RV_of (by rw [HE2.out]; rfl) hB
set_option maxRecDepth 100000 in
theorem areApart_any (v : Int) (s : Value) (xs : List Blk) (u : Int) (t : Value) (ys : List Blk) (w : World) (h : SB w s xs) (h2 : SB w t ys) :
    Calls Try.prog 68 #[.agg #[.int .i64 v, s], .agg #[.int .i64 u, t]] w (RV (.bool (apartB xs ys)) w) := by
  have HI := Lib.hid fun p W (hb : Below w.heap.size w W) (hp : p < W.heap.size) (c1 : W.cell? ⟨p, 1, none⟩ = some t) => allApart_any p ys t s xs W hp c1 (h2.below hb (Nat.le_refl _)) (h.below hb (Nat.le_refl _))
  obtain ⟨a, c, rfl⟩ := h.slice
  obtain ⟨a2, c2, rfl⟩ := h2.slice
  obtain ⟨β, hβ⟩ : ∃ β, β = apartB xs ys := ⟨_, rfl⟩
  rw [← hβ] at HI ⊢
  clear h h2 hβ
  have hmf : ∀ (fn : Fn) (first cap : Array Value) (w : World), (Instr.makeFunc fn first cap).run Try.prog w = .ok (.func fn first cap) w := fun _ _ _ _ => rfl
  have hB0 : Below w.heap.size w ((w.alloc (.cells #[.int .i64 v, .slice a xs.length c] 31)).alloc (.cells #[.int .i64 u, .slice a2 ys.length c2] 31)) := ((Below.refl _ _).alloc (Nat.le_refl _) _).alloc (by simp) _
  have HB0 := Lib.hid hB0
  clear hB0
  go_enter Try.func68, Try.ntmps68
  go_wp2_with fail
  refine (HI.out _ _ HB0.out (by simp) (by simp [go_sem])).mono ?_
  rintro e w1 ⟨rfl, hb1⟩
  have hb2 := HB0.out.trans (hb1.mono HB0.out.size)
  clear hb1
  go_wp2
  go_ret
  exact RV_of rfl hb2
end Go.Proofs.Ytehdpgjbmnkkiaa

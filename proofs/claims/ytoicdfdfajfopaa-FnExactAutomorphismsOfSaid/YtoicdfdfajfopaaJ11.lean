
/- impl.cycleFrom. What a law over one system whose result is a list of integers knows of the memory between two of its steps. The memory of a law between two of its steps: items, each in blocks of its own, the newest first. The laws' marks in rows of rows, for the laws' memory of MemL. The cycles of two points: plain. Two lists that grow beside each other: the points that were seen, and the cycles. impl.cyclesFrom. -/
import Derived.Test.YtoicdfdfajfopaaJ10
import Derived.WalkMore
import Derived.ScopeJumps
namespace Go.Proofs.Ytoicdfdfajfopaa
open Go.RowKit Go.Maps
theorem wpList_append_int2 {w : World} {ops : Array Oper} {rest : List Oper} {o : Oper} {a : Act} {Q : Exit → Act → World → Prop} (hgd : o.guard = none) (s x : Operand)
    (ho : o.op = .call { callee := .builtin .append, args := #[s, x], argTypes := #[25, 25] })
    (base : Nat) (v : Value) (zs : List Int) (hs : a.eval s = v) (hown : OwnJ w base v zs) (b0 c : Nat) (y1 y2 : Int) (hx : a.eval x = .slice (some ⟨b0, 0, none⟩) 2 c)
    (c1 : w.cell? ⟨b0, 0, none⟩ = some (.int .i64 y1)) (c2 : w.cell? ⟨b0, 1, none⟩ = some (.int .i64 y2)) (hl : zs.length ≤ 3300000) (hbase : base ≤ w.heap.size)
    (h : ∀ (g cap : Nat) (w' : World), OwnJ w' base (.slice (some ⟨g, 0, none⟩) (zs.length + 2) cap) (zs ++ [y1, y2]) → w.grownBy w' v.ownBlock → wpList Try.prog ops Q rest (a.put o.dst (.slice (some ⟨g, 0, none⟩) (zs.length + 2) cap)) w') : wpList Try.prog ops Q (o :: rest) a w := by
  obtain ⟨i0, hi, hz0, hz1, hz2⟩ := info_parts infoInt64
  refine wpList_append_own w hgd s x 25 ho base 2 i0 _ 1 8 Try.underlying25 hi hz0 hz1 hz2 rfl (by decide) v zs.length (zs.map (Value.int .i64)) hs hown ⟨b0, 0, none⟩ 2 c [.int .i64 y1, .int .i64 y2] hx rfl ?_ ?_ (by unfold maxLen; omega) (by omega) hbase ?_
  · intro j u hj
    rw [addr_at, Nat.zero_add]
    match j, hj with
    | 0, hj => simp at hj; rw [← hj]; exact c1
    | 1, hj => simp at hj; rw [← hj]; exact c2
    | j + 2, hj => simp at hj
  · intro u hu
    simp at hu
    rcases hu with rfl | rfl <;> rfl
  · intro v' w' hown' hg _
    obtain ⟨g, cap, rfl⟩ := row_some (k := zs.length + 1) hown'
    refine h g cap w' ?_ hg
    unfold OwnJ
    rw [List.length_append, List.map_append]
    exact hown'
theorem tab_third {n : Nat} {bs : List Blk} (h : isSysImpl (n : Int) bs = true) (hf : fullB (n : Int) bs = true) {a b : Int} (ha : 0 ≤ a ∧ a < (n : Int)) (hb : 0 ≤ b ∧ b < (n : Int)) (hab : a ≠ b) : tabI bs a b = third1 bs a b := by
  obtain ⟨x, hx, h1, h2, _⟩ := tri_third h hf ha hb hab
  unfold tabI third1
  rw [if_neg hab]
  cases hfd : bs.find? (bothB a b) with
  | none => exact absurd (show bothB a b x = true by simp [bothB, h1, h2]) (by simpa using List.find?_eq_none.1 hfd x hx)
  | some y => rfl
/-- The points of the walk. -/
def wk (bs : List Blk) (a b : Nat) (s : Int) (k : Nat) : Int := stepN (third1 bs (a : Int)) (third1 bs (b : Int)) s k
def wkL (bs : List Blk) (a b : Nat) (s : Int) (k : Nat) : List Int := (List.range k).map (wk bs a b s)
theorem wkL_two (bs : List Blk) (a b : Nat) (s : Int) (k : Nat) : wkL bs a b s (k + 2) = wkL bs a b s k ++ [wk bs a b s k, wk bs a b s (k + 1)] := by
  simp [wkL, List.range_succ]
theorem wkL_len (bs : List Blk) (a b : Nat) (s : Int) (k : Nat) : (wkL bs a b s k).length = k := by simp [wkL]
/-- The length of a slice. -/
def lenOf : Value → Nat
  | .slice _ n _ => n
  | _ => 0
end Go.Proofs.Ytoicdfdfajfopaa

namespace Go.Proofs.Ytoicdfdfajfopaa
open Go.RowKit Go.Maps
theorem ResI.slice {w : World} {lo hi : Nat} {s : Value} {zs : List Int} (h : ResI w lo hi s zs) : ∃ a c, s = .slice a zs.length c := by
  rcases h with ⟨rfl, a, c, rfl⟩ | ⟨g, cap, rfl, _⟩ <;> exact ⟨_, _, rfl⟩
theorem ResI.wide {w : World} {lo hi lo' hi' : Nat} {s : Value} {zs : List Int} (h : ResI w lo hi s zs) (h1 : lo' ≤ lo) (h2 : hi ≤ hi') : ResI w lo' hi' s zs := by
  rcases h with h | ⟨g, cap, rfl, h3, h4, ho⟩
  · exact .inl h
  · exact .inr ⟨g, cap, rfl, by omega, by omega, ho⟩
structure St1 (w : World) (v : Int) (s : Value) (W : World) : Prop where
  below : Below w.heap.size w W
  big : w.heap.size < W.heap.size
  x0 : W.cell? ⟨w.heap.size, 0, none⟩ = some (.int .i64 v)
  x1 : W.cell? ⟨w.heap.size, 1, none⟩ = some s
theorem St1.step {w : World} {v : Int} {s : Value} {W W' : World} {row : Option Nat} (h : St1 w v s W) (hg : W.grownBy W' row) (hr : ∀ r, row = some r → w.heap.size < r) : St1 w v s W' :=
  ⟨h.below.grown hg h.below.size (fun r e => by have := hr r e; omega), Nat.lt_of_lt_of_le h.big hg.size,
    hg.cell h.x0 (fun e => by have := hr _ e.symm; simp at this), hg.cell h.x1 (fun e => by have := hr _ e.symm; simp at this)⟩
theorem St1.start (w : World) (v : Int) (s : Value) : St1 w v s (w.alloc (.cells #[.int .i64 v, s] 24)) :=
  ⟨(Below.refl _ _).alloc (Nat.le_refl _) _, by simp, by simp [go_sem], by simp [go_sem]⟩
structure CI (w : World) (v : Int) (s sW s8 sG : Value) (X i0 i1 i2 i5 i6 : Nat) (LW : List Int) (L8 : List Blk) (LG : List Int) (W : World) : Prop where
  st : St1 w v s W
  o0 : w.heap.size < i0
  o1 : i0 ≤ i1
  o2 : i1 ≤ i2
  oX : i2 ≤ X
  oX' : X < i5
  o6 : i5 ≤ i6
  rW : ResI W i0 i1 sW LW
  r8 : ResR W i1 i2 s8 L8
  vX : VarB W X v s8
  rG : ResI W i5 i6 sG LG
section
variable {w : World} {v : Int} {s sW s8 sG : Value} {X i0 i1 i2 i5 i6 : Nat} {LW LG : List Int} {L8 : List Blk} {W W' : World}
theorem CI.step (h : CI w v s sW s8 sG X i0 i1 i2 i5 i6 LW L8 LG W) (hg : W.grownBy W' none) : CI w v s sW s8 sG X i0 i1 i2 i5 i6 LW L8 LG W' :=
  ⟨h.st.step hg (by simp), h.o0, h.o1, h.o2, h.oX, h.oX', h.o6, h.rW.kept hg (by simp), h.r8.kept hg (by simp), h.vX.step hg (by simp), h.rG.kept hg (by simp)⟩
theorem CI.mark8 (h : CI w v s sW s8 sG X i0 i1 i2 i5 i6 LW L8 LG W) {row : Option Nat} (hg : W.grownBy W' row) (hr : ∀ r, row = some r → i1 ≤ r ∧ r < i2) {L : List Blk} (hn : ResR W' i1 i2 s8 L) :
    CI w v s sW s8 sG X i0 i1 i2 i5 i6 LW L LG W' := by
  obtain ⟨st, o0, o1, o2, oX, oX', o6, rW, r8, vX, rG⟩ := h
  exact ⟨st.step hg (fun r e => by have := hr r e; omega), o0, o1, o2, oX, oX', o6, rW.kept hg (fun r e => by have := hr r e; omega), hn, vX.step hg (fun e => by have := hr _ e; omega), rG.kept hg (fun r e => by have := hr r e; omega)⟩
theorem CI.markG (h : CI w v s sW s8 sG X i0 i1 i2 i5 i6 LW L8 LG W) {row : Option Nat} (hg : W.grownBy W' row) (hr : ∀ r, row = some r → i5 ≤ r ∧ r < i6) {L : List Int} (hn : ResI W' i5 i6 sG L) :
    CI w v s sW s8 sG X i0 i1 i2 i5 i6 LW L8 L W' := by
  obtain ⟨st, o0, o1, o2, oX, oX', o6, rW, r8, vX, rG⟩ := h
  exact ⟨st.step hg (fun r e => by have := hr r e; omega), o0, o1, o2, oX, oX', o6, rW.kept hg (fun r e => by have := hr r e; omega), r8.kept hg (fun r e => by have := hr r e; omega), vX.step hg (fun e => by have := hr _ e; omega), hn⟩
end
theorem gb_drew1 (w : World) : w.grownBy w.drew none := ⟨rfl, rfl, rfl, Nat.le_refl _, fun _ _ _ => rfl⟩
theorem gb_alloc1 (w : World) (o : Obj) : w.grownBy (w.alloc o) none := World.grownBy_alloc w o none
end Go.Proofs.Ytoicdfdfajfopaa

namespace Go.Proofs.Ytoicdfdfajfopaa
open Go.RowKit Go.Maps
def Stays (lo hi : Nat) (W W' : World) : Prop := W.heap.size ≤ W'.heap.size ∧ ∀ i, lo ≤ i → i < hi → W'.heap[i]? = W.heap[i]?
structure Item where
  lo : Nat
  hi : Nat
  P : World → Prop
def Item.Ok (it : Item) : Prop := ∀ W W', it.hi ≤ W.heap.size → Stays it.lo it.hi W W' → it.P W → it.P W'
structure Mem (w : World) (L : List Item) (W : World) : Prop where
  below : Below w.heap.size w W
  pw : L.Pairwise (fun x y => y.hi ≤ x.lo ∨ x.hi ≤ y.lo)
  rng : ∀ it ∈ L, w.heap.size ≤ it.lo ∧ it.lo ≤ it.hi ∧ it.hi ≤ W.heap.size
  ok : ∀ it ∈ L, it.Ok
  holds : ∀ it ∈ L, it.P W
def MemOf {w : World} {L : List Item} {W : World} (_ : Mem w L W) (wx : World) : Prop := Mem w L wx
/-- Only blocks from lo on, below hi, have changed, and what is new. -/
structure OnlyIn (lo hi : Nat) (W W' : World) : Prop where
  os : W'.os = W.os
  tape : W'.tape = W.tape
  output : W'.output = W.output
  size : W.heap.size ≤ W'.heap.size
  block : ∀ i, i < W.heap.size → (i < lo ∨ hi ≤ i) → W'.heap[i]? = W.heap[i]?
section
variable {lo hi lo' hi' : Nat} {W W' W'' w : World} {L : List Item}
theorem OnlyIn.of_grown {row : Option Nat} (hg : W.grownBy W' row) (hr : ∀ r, row = some r → lo ≤ r ∧ r < hi) : OnlyIn lo hi W W' :=
  ⟨hg.os, hg.tape, hg.output, hg.size, fun i h1 h2 => hg.block i h1 (fun e => by have := hr i e.symm; omega)⟩
theorem OnlyIn.refl (lo hi : Nat) (W : World) : OnlyIn lo hi W W := ⟨rfl, rfl, rfl, Nat.le_refl _, fun _ _ _ => rfl⟩
theorem OnlyIn.trans (h : OnlyIn lo hi W W') (k : OnlyIn lo hi W' W'') : OnlyIn lo hi W W'' :=
  ⟨k.os.trans h.os, k.tape.trans h.tape, k.output.trans h.output, Nat.le_trans h.size k.size, fun i h1 h2 => (k.block i (Nat.lt_of_lt_of_le h1 h.size) h2).trans (h.block i h1 h2)⟩
theorem OnlyIn.of_below (h : Below lo W W') : OnlyIn lo W.heap.size W W' :=
  ⟨h.os, h.tape, h.output, h.size, fun i h1 h2 => h.block i (by omega)⟩
theorem OnlyIn.stays (h : OnlyIn lo hi W W') (hh : hi' ≤ W.heap.size) (hd : hi' ≤ lo ∨ hi ≤ lo') : Stays lo' hi' W W' :=
  ⟨h.size, fun i h1 h2 => h.block i (by omega) (by omega)⟩
theorem OnlyIn.below (h : OnlyIn lo hi W W') {B : Nat} (hB : B ≤ lo) (hz : B ≤ W.heap.size) : Below B W W' :=
  ⟨h.os, h.tape, h.output, h.size, fun i h1 => h.block i (by omega) (by omega)⟩
theorem Mem.start (w : World) : Mem w [] w := ⟨Below.refl _ _, List.Pairwise.nil, by simp, by simp, by simp⟩
theorem Mem.step (h : Mem w L W) (hg : W.grownBy W' none) : Mem w L W' :=
  ⟨h.below.grown hg h.below.size (by simp), h.pw, fun it hi => ⟨(h.rng it hi).1, (h.rng it hi).2.1, Nat.le_trans (h.rng it hi).2.2 hg.size⟩, h.ok,
    fun it hi => h.ok it hi W W' (h.rng it hi).2.2 ⟨hg.size, fun i _ h2 => hg.block i (Nat.lt_of_lt_of_le h2 (h.rng it hi).2.2) (by simp)⟩ (h.holds it hi)⟩
theorem Mem.push (h : Mem w L W) (hg : W.grownBy W' none) (it : Item) (h1 : W.heap.size ≤ it.lo) (h2 : it.lo ≤ it.hi) (h3 : it.hi ≤ W'.heap.size) (ok : it.Ok) (hP : it.P W') : Mem w (it :: L) W' := by
  have hs := h.step hg
  refine ⟨hs.below, List.pairwise_cons.2 ⟨fun y hy => .inl (Nat.le_trans (h.rng y hy).2.2 h1), hs.pw⟩, ?_, ?_, ?_⟩
  · intro x hx
    rcases List.mem_cons.1 hx with rfl | hx
    · exact ⟨Nat.le_trans h.below.size h1, h2, h3⟩
    · exact hs.rng x hx
  · intro x hx
    rcases List.mem_cons.1 hx with rfl | hx
    · exact ok
    · exact hs.ok x hx
  · intro x hx
    rcases List.mem_cons.1 hx with rfl | hx
    · exact hP
    · exact hs.holds x hx
theorem Mem.swap {a b : Item} (h : Mem w (a :: b :: L) W) : Mem w (b :: a :: L) W := by
  have hm : ∀ x, x ∈ b :: a :: L → x ∈ a :: b :: L := fun x hx => by simp only [List.mem_cons] at hx ⊢; rcases hx with h | h | h <;> simp [h]
  refine ⟨h.below, ?_, fun it hi => h.rng it (hm it hi), fun it hi => h.ok it (hm it hi), fun it hi => h.holds it (hm it hi)⟩
  have hp := h.pw
  rw [List.pairwise_cons, List.pairwise_cons] at hp
  refine List.pairwise_cons.2 ⟨fun y hy => ?_, List.pairwise_cons.2 ⟨fun y hy => hp.1 y (by simp [hy]), hp.2.2⟩⟩
  rcases List.mem_cons.1 hy with rfl | hy
  · exact (hp.1 b (by simp)).symm
  · exact hp.2.1 y hy
theorem Mem.at (h : Mem w L W) (k : Nat) {it : Item} (e : L[k]? = some it) : it.P W := h.holds it (List.mem_of_getElem? e)
theorem mem_set_cases {k : Nat} {x y it : Item} (_e : L[k]? = some it) (hx : x ∈ L.set k y) : x = y ∨ ∃ j, j ≠ k ∧ L[j]? = some x := by
  obtain ⟨j, hj⟩ := List.mem_iff_getElem?.1 hx
  rw [List.getElem?_set] at hj
  split at hj
  · split at hj
    · cases hj; exact .inl rfl
    · cases hj
  · exact .inr ⟨j, by omega, hj⟩
theorem Mem.apart (h : Mem w L W) {k j : Nat} {x it : Item} (e : L[k]? = some it) (f : L[j]? = some x) (hne : j ≠ k) : it.hi ≤ x.lo ∨ x.hi ≤ it.lo := by
  obtain ⟨hk, e⟩ := List.getElem?_eq_some_iff.1 e
  obtain ⟨hj, f⟩ := List.getElem?_eq_some_iff.1 f
  have hp := List.pairwise_iff_getElem.1 h.pw
  rcases Nat.lt_or_gt_of_ne hne with hlt | hlt
  · have := hp j k hj hk hlt
    rw [e, f] at this
    exact this
  · have := hp k j hk hj hlt
    rw [e, f] at this
    exact this.symm
theorem Mem.mark (h : Mem w L W) (k : Nat) {it : Item} (e : L[k]? = some it) (hw : OnlyIn it.lo it.hi W W') {P' : World → Prop} (ok : Item.Ok ⟨it.lo, it.hi, P'⟩) (hP : P' W') : Mem w (L.set k ⟨it.lo, it.hi, P'⟩) W' := by
  have hit := List.mem_of_getElem? e
  have hr := h.rng it hit
  refine ⟨h.below.trans (hw.below hr.1 (by omega)), ?_, ?_, ?_, ?_⟩
  · rw [List.pairwise_iff_getElem]
    intro i j hi hj hlt
    rw [List.length_set] at hi hj
    have hp := List.pairwise_iff_getElem.1 h.pw i j hi hj hlt
    obtain ⟨hk, e'⟩ := List.getElem?_eq_some_iff.1 e
    rw [List.getElem_set, List.getElem_set]
    split
    · rename_i hki
      cases hki
      rw [if_neg (by omega)]
      rw [e'] at hp; exact hp
    · split
      · rename_i hkj
        cases hkj
        rw [e'] at hp; exact hp
      · exact hp
  · intro x hx
    rcases mem_set_cases e hx with rfl | ⟨j, hj, f⟩
    · exact ⟨hr.1, hr.2.1, Nat.le_trans hr.2.2 hw.size⟩
    · have := h.rng x (List.mem_of_getElem? f)
      exact ⟨this.1, this.2.1, Nat.le_trans this.2.2 hw.size⟩
  · intro x hx
    rcases mem_set_cases e hx with rfl | ⟨j, hj, f⟩
    · exact ok
    · exact h.ok x (List.mem_of_getElem? f)
  · intro x hx
    rcases mem_set_cases e hx with rfl | ⟨j, hj, f⟩
    · exact hP
    · have hx := List.mem_of_getElem? f
      exact h.ok x hx W W' (h.rng x hx).2.2 (hw.stays (h.rng x hx).2.2 ((h.apart e f hj).symm)) (h.holds x hx)
end
section
variable {w w' : World} {lo hi g : Nat}
theorem OwnAt.stay {bs : List Blk} (h : OwnAt w g bs) (hb : w'.heap[g]? = w.heap[g]?) (hz : w.heap.size ≤ w'.heap.size) : OwnAt w' g bs := by
  refine ⟨Nat.lt_of_lt_of_le h.lt hz, fun k hk => ?_, fun o => ?_⟩
  · obtain ⟨h1, h2, h3⟩ := h.at_ k hk
    exact ⟨(World.cell?_of_block (w := w) (a := ⟨g, _, none⟩) hb).trans h1, (World.cell?_of_block (w := w) (a := ⟨g, _, none⟩) hb).trans h2, (World.cell?_of_block (w := w) (a := ⟨g, _, none⟩) hb).trans h3⟩
  · exact (World.frozen?_of_block (w := w) (a := ⟨g, o, none⟩) hb).trans (h.free o)
theorem OwnAtI.stay {zs : List Int} (h : OwnAtI w g zs) (hb : w'.heap[g]? = w.heap[g]?) (hz : w.heap.size ≤ w'.heap.size) : OwnAtI w' g zs :=
  ⟨Nat.lt_of_lt_of_le h.lt hz, fun k hk => (World.cell?_of_block (w := w) (a := ⟨g, _, none⟩) hb).trans (h.at_ k hk), fun o => (World.frozen?_of_block (w := w) (a := ⟨g, o, none⟩) hb).trans (h.free o)⟩
/-- Blocks in memory of their own. -/
def iBlks (lo hi : Nat) (s : Value) (bs : List Blk) : Item := ⟨lo, hi, fun W => ResR W lo hi s bs⟩
theorem iBlks_ok (lo hi : Nat) (s : Value) (bs : List Blk) : (iBlks lo hi s bs).Ok := fun W W' _ hs h => by
  rcases h with h | ⟨g, cap, rfl, h1, h2, ho⟩
  · exact .inl h
  · exact .inr ⟨g, cap, rfl, h1, h2, ho.stay (hs.2 g h1 h2) hs.1⟩
/-- Integers in memory of their own. -/
def iInts (lo hi : Nat) (s : Value) (zs : List Int) : Item := ⟨lo, hi, fun W => ResI W lo hi s zs⟩
theorem iInts_ok (lo hi : Nat) (s : Value) (zs : List Int) : (iInts lo hi s zs).Ok := fun W W' _ hs h => by
  rcases h with h | ⟨g, cap, rfl, h1, h2, ho⟩
  · exact .inl h
  · exact .inr ⟨g, cap, rfl, h1, h2, ho.stay (hs.2 g h1 h2) hs.1⟩
/-- Rows in memory of their own. -/
def ResH (W : World) (lo hi : Nat) (u : Value) (n : Nat) (F : Nat → List Int) : Prop :=
  (n = 0 ∧ ∃ a c, u = .slice a 0 c) ∨ ∃ G cap gs caps, u = .slice (some ⟨G, 0, none⟩) n cap ∧ lo ≤ G ∧ G < hi ∧ (∀ k, k < n → gs k < hi) ∧ SSR W lo G gs caps n F
theorem ResSS.resH {lo n : Nat} {u : Value} {F : Nat → List Int} (h : ResSS w lo u n F) : ResH w lo w.heap.size u n F := by
  rcases h with h | ⟨G, cap, gs, caps, rfl, hG, hS⟩
  · exact .inl h
  · exact .inr ⟨G, cap, gs, caps, rfl, hG, hS.lt, fun k hk => (hS.row k hk).lt, hS⟩
theorem ResH.slice {n : Nat} {u : Value} {F : Nat → List Int} (h : ResH w lo hi u n F) : ∃ a c, u = .slice a n c := by
  rcases h with ⟨rfl, a, c, rfl⟩ | ⟨G, cap, gs, caps, rfl, _⟩ <;> exact ⟨_, _, rfl⟩
theorem ResH.sb {n : Nat} {u : Value} {F : Nat → List Int} (h : ResH w lo hi u n F) (hn : n ≤ 1100000) (hF : ∀ k, k < n → (F k).length ≤ 1100000) : SSB w u n F := by
  rcases h with h | ⟨G, cap, gs, caps, rfl, hG, _, _, hS⟩
  · exact ⟨hn, .inl h⟩
  · exact hS.sb hn hF
def iRows (lo hi : Nat) (u : Value) (n : Nat) (F : Nat → List Int) : Item := ⟨lo, hi, fun W => ResH W lo hi u n F⟩
theorem iRows_ok (lo hi : Nat) (u : Value) (n : Nat) (F : Nat → List Int) : (iRows lo hi u n F).Ok := fun W W' hh hs h => by
  rcases h with h | ⟨G, cap, gs, caps, rfl, h1, h2, h3, hS⟩
  · exact .inl h
  · refine .inr ⟨G, cap, gs, caps, rfl, h1, h2, h3, fun k hk => ?_, fun k hk => (hS.row k hk).stay (hs.2 _ (hS.low k hk) (h3 k hk)) hs.1, hS.ne, hS.inc, hS.low, Nat.lt_of_lt_of_le hS.lt hs.1⟩
    exact (World.cell?_of_block (w := W) (a := ⟨G, k, none⟩) (hs.2 G h1 h2)).trans (hS.cell k hk)
/-- A variable that holds a system. -/
def iVar (X : Nat) (v : Int) (s : Value) : Item := ⟨X, X + 1, fun W => VarB W X v s⟩
theorem iVar_ok (X : Nat) (v : Int) (s : Value) : (iVar X v s).Ok := fun W W' _ hs h => by
  have hb := hs.2 X (Nat.le_refl _) (Nat.lt_succ_self _)
  exact ⟨Nat.lt_of_lt_of_le h.lt hs.1, (World.cell?_of_block (w := W) (a := ⟨X, 0, none⟩) hb).trans h.c0, (World.cell?_of_block (w := W) (a := ⟨X, 1, none⟩) hb).trans h.c1⟩
/-- A variable that holds a block. -/
structure VarA (W : World) (X : Nat) (x : Blk) : Prop where
  lt : X < W.heap.size
  c0 : W.cell? ⟨X, 0, none⟩ = some (.int .i64 x.a)
  c1 : W.cell? ⟨X, 1, none⟩ = some (.int .i64 x.b)
  c2 : W.cell? ⟨X, 2, none⟩ = some (.int .i64 x.c)
theorem VarA.new (W : World) (x : Blk) (T : TypeId) : VarA (W.alloc (.cells #[.int .i64 x.a, .int .i64 x.b, .int .i64 x.c] T)) W.heap.size x := ⟨by simp, by simp, by simp, by simp⟩
def iArr (X : Nat) (x : Blk) : Item := ⟨X, X + 1, fun W => VarA W X x⟩
theorem iArr_ok (X : Nat) (x : Blk) : (iArr X x).Ok := fun W W' _ hs h => by
  have hb := hs.2 X (Nat.le_refl _) (Nat.lt_succ_self _)
  exact ⟨Nat.lt_of_lt_of_le h.lt hs.1, (World.cell?_of_block (w := W) (a := ⟨X, 0, none⟩) hb).trans h.c0, (World.cell?_of_block (w := W) (a := ⟨X, 1, none⟩) hb).trans h.c1, (World.cell?_of_block (w := W) (a := ⟨X, 2, none⟩) hb).trans h.c2⟩
end
section
variable {w W W' : World} {L : List Item} {lo hi : Nat}
theorem Mem.var (h : Mem w L W) (k : Nat) {X : Nat} {v : Int} {s : Value} (e : L[k]? = some (iVar X v s)) : VarB W X v s := h.at k e
theorem Mem.arr (h : Mem w L W) (k : Nat) {X : Nat} {x : Blk} (e : L[k]? = some (iArr X x)) : VarA W X x := h.at k e
theorem Mem.blks (h : Mem w L W) (k : Nat) {s : Value} {bs : List Blk} (e : L[k]? = some (iBlks lo hi s bs)) : ResR W lo hi s bs := h.at k e
theorem Mem.ints (h : Mem w L W) (k : Nat) {s : Value} {zs : List Int} (e : L[k]? = some (iInts lo hi s zs)) : ResI W lo hi s zs := h.at k e
theorem Mem.rows (h : Mem w L W) (k : Nat) {u : Value} {n : Nat} {F : Nat → List Int} (e : L[k]? = some (iRows lo hi u n F)) : ResH W lo hi u n F := h.at k e
theorem Mem.pushVar (h : Mem w L W) (v : Int) (s : Value) (T : TypeId) : Mem w (iVar W.heap.size v s :: L) (W.alloc (.cells #[.int .i64 v, s] T)) :=
  h.push (gb_alloc1 W _) (iVar W.heap.size v s) (Nat.le_refl _) (Nat.le_succ _) (by simp [iVar]) (iVar_ok _ _ _) (VarB.new W v s T)
theorem Mem.pushArr (h : Mem w L W) (x : Blk) (T : TypeId) : Mem w (iArr W.heap.size x :: L) (W.alloc (.cells #[.int .i64 x.a, .int .i64 x.b, .int .i64 x.c] T)) :=
  h.push (gb_alloc1 W _) (iArr W.heap.size x) (Nat.le_refl _) (Nat.le_succ _) (by simp [iArr]) (iArr_ok _ _) (VarA.new W x T)
theorem Mem.pushB (h : Mem w L W) (hb : Below W.heap.size W W') {s : Value} {bs : List Blk} (hr : ResR W' W.heap.size W'.heap.size s bs) : Mem w (iBlks W.heap.size W'.heap.size s bs :: L) W' :=
  h.push (gb_below hb) (iBlks W.heap.size W'.heap.size s bs) (Nat.le_refl _) hb.size (Nat.le_refl _) (iBlks_ok _ _ _ _) hr
theorem Mem.pushI (h : Mem w L W) (hb : Below W.heap.size W W') {s : Value} {zs : List Int} (hr : ResI W' W.heap.size W'.heap.size s zs) : Mem w (iInts W.heap.size W'.heap.size s zs :: L) W' :=
  h.push (gb_below hb) (iInts W.heap.size W'.heap.size s zs) (Nat.le_refl _) hb.size (Nat.le_refl _) (iInts_ok _ _ _ _) hr
theorem Mem.pushH (h : Mem w L W) (hb : Below W.heap.size W W') {u : Value} {n : Nat} {F : Nat → List Int} (hr : ResH W' W.heap.size W'.heap.size u n F) : Mem w (iRows W.heap.size W'.heap.size u n F :: L) W' :=
  h.push (gb_below hb) (iRows W.heap.size W'.heap.size u n F) (Nat.le_refl _) hb.size (Nat.le_refl _) (iRows_ok _ _ _ _ _) hr
theorem Mem.markB (h : Mem w L W) (k : Nat) {s : Value} {bs : List Blk} (e : L[k]? = some (iBlks lo hi s bs)) (hw : ∃ row, W.grownBy W' row ∧ ∀ r, row = some r → lo ≤ r ∧ r < hi) {bs' : List Blk} (hP : ResR W' lo hi s bs') : Mem w (L.set k (iBlks lo hi s bs')) W' := by
  obtain ⟨row, hg, hr⟩ := hw
  exact h.mark k e (OnlyIn.of_grown hg hr) (iBlks_ok lo hi s bs') hP
theorem Mem.markI (h : Mem w L W) (k : Nat) {s : Value} {zs : List Int} (e : L[k]? = some (iInts lo hi s zs)) (hw : ∃ row, W.grownBy W' row ∧ ∀ r, row = some r → lo ≤ r ∧ r < hi) {zs' : List Int} (hP : ResI W' lo hi s zs') : Mem w (L.set k (iInts lo hi s zs')) W' := by
  obtain ⟨row, hg, hr⟩ := hw
  exact h.mark k e (OnlyIn.of_grown hg hr) (iInts_ok lo hi s zs') hP
theorem Mem.markH (h : Mem w L W) (k : Nat) {u : Value} {n : Nat} {F : Nat → List Int} (e : L[k]? = some (iRows lo hi u n F)) (hw : OnlyIn lo hi W W') {F' : Nat → List Int} (hP : ResH W' lo hi u n F') : Mem w (L.set k (iRows lo hi u n F')) W' :=
  h.mark k e hw (iRows_ok lo hi u n F') hP
theorem OwnAtI.res {g cap : Nat} {zs : List Int} (h : OwnAtI w g zs) {lo : Nat} (hl : lo ≤ g) : ResI w lo w.heap.size (.slice (some ⟨g, 0, none⟩) zs.length cap) zs := .inr ⟨g, cap, rfl, hl, h.lt, h⟩
theorem toInt64S_own (s : Value) (zs : List Int) (w : World) (h : IB w s zs) :
    Calls Try.prog 18 #[s] w (fun e w' => ∃ t, e = .returned t ∧ (∃ g cap, t = .slice (some ⟨g, 0, none⟩) zs.length cap) ∧ Below w.heap.size w w' ∧ ResI w' w.heap.size w'.heap.size t zs) :=
  (toInt64S_any s zs w h).mono fun _ _ ⟨he, hb, ho⟩ => ⟨_, he, ⟨_, _, rfl⟩, hb, ho.res (Nat.le_refl _)⟩
end
end Go.Proofs.Ytoicdfdfajfopaa

namespace Go.Proofs.Ytoicdfdfajfopaa
open Go.RowKit Go.Maps
set_option maxRecDepth 100000 in
theorem markInt64SS_nil (a : Option Addr) (c : Nat) (k : Int) (w : World) : Calls Try.prog 34 #[.slice a 0 c, .int .i64 k] w (RS (.int .i64 k) w) := by
  go_enter Try.func34, Try.ntmps34
  go_wp2
  refine wp_loop_rounds 1 ?_
  rw [rounds_succ]
  go_wp2
  go_ret
  exact RS_of rfl
set_option maxRecDepth 100000 in
theorem heldInt64SS_nil (a : Option Addr) (c : Nat) (k : Int) (w : World) : Calls Try.prog 35 #[.slice a 0 c, .int .i64 k] w (RS (.int .i64 k) w) := by
  go_enter Try.func35, Try.ntmps35
  go_wp2
  refine wp_loop_rounds 1 ?_
  rw [rounds_succ]
  go_wp2
  go_ret
  exact RS_of rfl
set_option maxRecDepth 100000 in
theorem markInt64SS_in (lo hi G cap : Nat) (gs caps : Nat → Nat) (n : Nat) (F : Nat → List Int) (k0 : Int) (w : World) (h : SSR w lo G gs caps n F) (hh : ∀ k, k < n → gs k < hi) (hl : n ≤ 1100000) (hT : tot F n ≤ 1100000) (h0 : 0 ≤ k0) (h1 : k0 ≤ 5000000) :
    Calls Try.prog 34 #[.slice (some ⟨G, 0, none⟩) n cap, .int .i64 k0] w (fun e w' => e = .returned (.int .i64 (k0 + tot F n)) ∧ OnlyIn lo hi w w' ∧ SSR w' lo G gs caps n (markSS k0 F)) := by
  have H := Lib.hid h
  have HH := Lib.hid hh
  clear h hh
  go_enter Try.func34, Try.ntmps34
  go_wp2
  go_loopw [1, 5] (fun t i wr => ∃ j : Nat, j ≤ n ∧ i = .int .i64 j ∧ t = .int .i64 (k0 + tot F j) ∧ OnlyIn lo hi w wr ∧ SSR wr lo G gs caps n (partSS k0 F j)) (fun _ i _ => n - (intOf i).toNat)
  case atStart => exact ⟨0, Nat.zero_le _, rfl, by simp [tot], OnlyIn.refl _ _ _, H.out.congr (fun k _ => by simp [partSS])⟩
  case round =>
    obtain ⟨j, hj, rfl, rfl, hB, hS⟩ := hrel
    by_cases hjl : j < n
    · have c1 := hS.cell j hjl
      have hrow := hS.row j hjl
      have hlow := hS.low j hjl
      have hhi := HH.out j hjl
      have hlen := partSS_len k0 F j j
      have hFj : partSS k0 F j j = F j := by simp [partSS]
      rw [hFj] at c1 hrow
      have htj : tot F (j + 1) ≤ tot F n := tot_le F hjl
      have htj' : tot F (j + 1) = tot F j + (F j).length := rfl
      have HS := Lib.hid hS
      have HM := Lib.hid (markInt64S_any (gs j) (caps j) (F j) (k0 + tot F j) wr hrow (by omega) (by omega) (by omega))
      clear hlen hFj hrow hS
      have g0 : (0 : Int) ≤ (j : Int) := by omega
      have g1 : (j : Int) < (n : Int) := by omega
      go_wp2_with (go_at_call 25; refine HM.out.mono ?_; rintro e w1 ⟨rfl, hg1, ho1⟩)
      go_roundw
      case rel => exact ⟨j + 1, by omega, by go_num, int_eq (by rw [htj']; omega), hB.trans (OnlyIn.of_grown hg1 (fun r e => by cases e; exact ⟨hlow, hhi⟩)), by
        have := HS.out.mark1 hjl (markSS k0 F j) (by unfold markSS; rw [markI_length, partSS_len]) hg1 ho1
        rw [partSS_succ] at this
        exact this⟩
      case measure => simp [intOf]; omega
    · go_wp2
      go_ret
      have e : j = n := by omega
      subst e
      exact ⟨rfl, hB, hS.congr (fun k hk => by simp [partSS, hk])⟩
theorem ResH.mark {lo hi n : Nat} {w : World} {u : Value} {F : Nat → List Int} (h : ResH w lo hi u n F) (hn : n ≤ 1100000) (hT : tot F n ≤ 1100000) (k0 : Int) (h0 : 0 ≤ k0) (h1 : k0 ≤ 5000000) :
    Calls Try.prog 34 #[u, .int .i64 k0] w (fun e w' => e = .returned (.int .i64 (k0 + tot F n)) ∧ OnlyIn lo hi w w' ∧ ResH w' lo hi u n (markSS k0 F)) := by
  rcases h with ⟨rfl, a, c, rfl⟩ | ⟨G, cap, gs, caps, rfl, hG, hG2, hgs, hS⟩
  · refine (markInt64SS_nil a c k0 w).mono ?_
    rintro e w' ⟨rfl, rfl⟩
    exact ⟨by simp [tot], OnlyIn.refl _ _ _, .inl ⟨rfl, a, c, rfl⟩⟩
  · refine (markInt64SS_in lo hi G cap gs caps n F k0 w hS hgs hn hT h0 h1).mono ?_
    rintro e w' ⟨rfl, hb, hS'⟩
    exact ⟨rfl, hb, .inr ⟨G, cap, gs, caps, rfl, hG, hG2, hgs, hS'⟩⟩
theorem ResH.held {lo hi n : Nat} {w : World} {u : Value} {F : Nat → List Int} (k0 : Int) (h : ResH w lo hi u n (markSS k0 F)) (hn : n ≤ 1100000) (hT : tot F n ≤ 1100000) (h0 : 0 ≤ k0) (h1 : k0 ≤ 5000000) :
    Calls Try.prog 35 #[u, .int .i64 k0] w (RS (.int .i64 (k0 + tot F n)) w) := by
  rcases h with ⟨rfl, a, c, rfl⟩ | ⟨G, cap, gs, caps, rfl, hG, _, _, hS⟩
  · have e : k0 + ((tot F 0 : Nat) : Int) = k0 := by simp [tot]
    rw [e]
    exact heldInt64SS_nil a c k0 w
  · exact heldInt64SS_any lo G cap gs caps n F k0 w hS hn hT h0 h1
/-- The rows of a list. -/
def rowsF (L : List (List Int)) (k : Nat) : List Int := L[k]?.getD []
/-- Returns fresh rows and a code. -/
def RRows (r : List (List Int) × Int) (w : World) (e : Ending) (w' : World) : Prop := ∃ u, e = .returned (.tuple #[u, .int .i64 r.2]) ∧ ResSS w' w.heap.size u r.1.length (rowsF r.1) ∧ Below w.heap.size w w'
theorem rowsF_len {L : List (List Int)} (h : tot (rowsF L) L.length ≤ 1100000) : ∀ k, k < L.length → (rowsF L k).length ≤ 1100000 := fun k hk => by
  have h1 : tot (rowsF L) (k + 1) ≤ tot (rowsF L) L.length := tot_le _ hk
  have h2 : tot (rowsF L) (k + 1) = tot (rowsF L) k + (rowsF L k).length := rfl
  omega
end Go.Proofs.Ytoicdfdfajfopaa

namespace Go.Proofs.Ytoicdfdfajfopaa
def CycOk (bs : List Blk) (a b : Nat) (s : Int) (N : Nat) : Prop := 0 < N ∧ N % 2 = 0 ∧ N ≤ 15 ∧ Fresh (third1 bs (a : Int)) (third1 bs (b : Int)) s N ∧ wk bs a b s N = s
open Classical in
noncomputable def perN (bs : List Blk) (a b : Nat) (s : Int) : Nat := if h : ∃ N, CycOk bs a b s N then Classical.choose h else 0
noncomputable def cyc (bs : List Blk) (a b : Nat) (s : Int) : List Int := wkL bs a b s (perN bs a b s)
def seen0 (bs : List Blk) (a b : Nat) : List Int := [(a : Int), (b : Int), third1 bs (a : Int) (b : Int)]
/-- The cycles after some points. -/
noncomputable def cyS (bs : List Blk) (a b : Nat) : Nat → List (List Int)
  | 0 => []
  | k + 1 => if (k : Int) ∈ seen0 bs a b ++ (cyS bs a b k).flatten then cyS bs a b k else cyS bs a b k ++ [cyc bs a b (k : Int)]
section
variable {n : Nat} {bs : List Blk} {a b : Nat}
theorem perN_ok (h : isSysImpl (n : Int) bs = true) (hf : fullB (n : Int) bs = true) (ha : a < n) (hb : b < n) (hab : a ≠ b) {s : Int} (hs : Beyond n bs (a : Int) (b : Int) s) : CycOk bs a b s (perN bs a b s) := by
  have ht := two_thirds h hf (a := (a : Int)) (b := (b : Int)) (by omega) (by omega) (by omega)
  have hn := (sys_size h).2.1
  obtain ⟨N, h0, h2, hl, hfr, he⟩ := ht.period hs (l := (List.range n).map fun (k : Nat) => (k : Int)) (fun x hx => List.mem_map.2 ⟨x.toNat, List.mem_range.2 (by have := hx.1; omega), by have := hx.1; omega⟩)
  have hex : ∃ N, CycOk bs a b s N := ⟨N, h0, h2, by simp at hl; omega, hfr, he⟩
  unfold perN
  rw [dif_pos hex]
  exact Classical.choose_spec hex
theorem cyc_len (h : isSysImpl (n : Int) bs = true) (hf : fullB (n : Int) bs = true) (ha : a < n) (hb : b < n) (hab : a ≠ b) {s : Int} (hs : Beyond n bs (a : Int) (b : Int) s) : (cyc bs a b s).length ≤ 15 ∧ 0 < (cyc bs a b s).length := by
  have := perN_ok h hf ha hb hab hs
  unfold cyc
  rw [wkL_len]
  exact ⟨this.2.2.1, this.1⟩
theorem mem_cyc {s x : Int} : x ∈ cyc bs a b s ↔ ∃ k, k < perN bs a b s ∧ wk bs a b s k = x := by
  simp [cyc, wkL]
/-- What is in the cycles is beyond, and closed. -/
theorem cyS_closed (h : isSysImpl (n : Int) bs = true) (hf : fullB (n : Int) bs = true) (ha : a < n) (hb : b < n) (hab : a ≠ b) : ∀ k, k ≤ n → ∀ x ∈ (cyS bs a b k).flatten, Beyond n bs (a : Int) (b : Int) x ∧ third1 bs (a : Int) x ∈ (cyS bs a b k).flatten ∧ third1 bs (b : Int) x ∈ (cyS bs a b k).flatten
  | 0, _, x, hx => by simp [cyS] at hx
  | k + 1, hk, x, hx => by
    have ih := cyS_closed h hf ha hb hab k (by omega)
    have ht := two_thirds h hf (a := (a : Int)) (b := (b : Int)) (by omega) (by omega) (by omega)
    unfold cyS at hx ⊢
    split
    · rename_i hm
      rw [if_pos hm] at hx
      exact ih x hx
    · rename_i hm
      rw [if_neg hm] at hx
      have hB : Beyond n bs (a : Int) (b : Int) (k : Int) := by
        simp only [seen0, List.mem_append, List.mem_cons, List.not_mem_nil, or_false, not_or] at hm
        exact ⟨by omega, hm.1.1, hm.1.2.1, hm.1.2.2⟩
      have hok := perN_ok h hf ha hb hab hB
      simp only [List.flatten_append, List.flatten_cons, List.flatten_nil, List.append_nil, List.mem_append] at hx ⊢
      rcases hx with hx | hx
      · obtain ⟨h1, h2, h3⟩ := ih x hx
        exact ⟨h1, .inl h2, .inl h3⟩
      · obtain ⟨j, hj, rfl⟩ := mem_cyc.1 hx
        obtain ⟨⟨i1, hi1, e1⟩, ⟨i2, hi2, e2⟩⟩ := ht.closed hB hok.1 hok.2.1 hok.2.2.2.2 hj
        exact ⟨ht.mem hB j, .inr (mem_cyc.2 ⟨i1, hi1, e1.symm⟩), .inr (mem_cyc.2 ⟨i2, hi2, e2.symm⟩)⟩
theorem wk_notin (h : isSysImpl (n : Int) bs = true) (hf : fullB (n : Int) bs = true) (ha : a < n) (hb : b < n) (hab : a ≠ b) {k : Nat} (hk : k ≤ n) {s : Int} (hs : Beyond n bs (a : Int) (b : Int) s) (hn : s ∉ (cyS bs a b k).flatten) : ∀ j, wk bs a b s j ∉ (cyS bs a b k).flatten
  | 0 => hn
  | j + 1 => fun hm => by
    have ht := two_thirds h hf (a := (a : Int)) (b := (b : Int)) (by omega) (by omega) (by omega)
    obtain ⟨_, h2, h3⟩ := cyS_closed h hf ha hb hab k hk _ hm
    have hbk := ht.back hs j
    refine wk_notin h hf ha hb hab hk hs hn j ?_
    show stepN _ _ s j ∈ _
    rw [← hbk]
    split
    · exact h2
    · exact h3
theorem cyS_step (k : Nat) : (∃ R, cyS bs a b (k + 1) = cyS bs a b k ++ R) := by
  rw [show cyS bs a b (k + 1) = if (k : Int) ∈ seen0 bs a b ++ (cyS bs a b k).flatten then cyS bs a b k else cyS bs a b k ++ [cyc bs a b (k : Int)] from rfl]
  split
  · exact ⟨[], by simp⟩
  · exact ⟨_, rfl⟩
theorem cyS_pre {k m : Nat} (hk : k ≤ m) : ∃ R, cyS bs a b m = cyS bs a b k ++ R := by
  induction hk with
  | refl => exact ⟨[], by simp⟩
  | step _ ih =>
    obtain ⟨R, hR⟩ := ih
    obtain ⟨R', hR'⟩ := cyS_step (bs := bs) (a := a) (b := b) _
    exact ⟨R ++ R', by rw [hR', hR, List.append_assoc]⟩
theorem cyS_len : ∀ k, (cyS bs a b k).length ≤ k
  | 0 => Nat.le_refl _
  | k + 1 => by
    have := cyS_len k
    unfold cyS
    split
    · omega
    · simp; omega
theorem cyS_rows (h : isSysImpl (n : Int) bs = true) (hf : fullB (n : Int) bs = true) (ha : a < n) (hb : b < n) (hab : a ≠ b) : ∀ k, k ≤ n → ∀ r ∈ cyS bs a b k, r.length ≤ 15
  | 0, _, r, hr => by simp [cyS] at hr
  | k + 1, hk, r, hr => by
    have ih := cyS_rows h hf ha hb hab k (by omega)
    unfold cyS at hr
    split at hr
    · exact ih r hr
    · rename_i hm
      have hB : Beyond n bs (a : Int) (b : Int) (k : Int) := by
        simp only [seen0, List.mem_append, List.mem_cons, List.not_mem_nil, or_false, not_or] at hm
        exact ⟨by omega, hm.1.1, hm.1.2.1, hm.1.2.2⟩
      rcases List.mem_append.1 hr with hr | hr
      · exact ih r hr
      · simp at hr
        rw [hr]
        exact (cyc_len h hf ha hb hab hB).1
end
end Go.Proofs.Ytoicdfdfajfopaa

namespace Go.Proofs.Ytoicdfdfajfopaa
open Go.RowKit Go.Maps
/-- Appending all of a row to a list of one's own that is not empty: the grown list lies where it lay, or beyond all. -/
theorem wpList_append_ints_at {w : World} {ops : Array Oper} {rest : List Oper} {o : Oper} {a : Act} {Q : Exit → Act → World → Prop} (hgd : o.guard = none) (s x : Operand)
    (ho : o.op = .call { callee := .builtin .append, args := #[s, x], argTypes := #[25, 25] })
    (base : Nat) (v : Value) (zs : List Int) (hs : a.eval s = v) (hown : OwnJ w base v zs) (hne : 0 < zs.length) (b0 off c : Nat) (ys : List Int) (hx : a.eval x = .slice (some ⟨b0, off, none⟩) ys.length c)
    (hy : Ints w b0 off ys) (hl : zs.length + ys.length ≤ 3300000) (hbase : base ≤ w.heap.size)
    (h : ∀ (g cap : Nat) (w' : World), OwnJ w' base (.slice (some ⟨g, 0, none⟩) (zs.length + ys.length) cap) (zs ++ ys) → w.grownBy w' v.ownBlock → (v.ownBlock = some g ∨ g = w.heap.size) → wpList Try.prog ops Q rest (a.put o.dst (.slice (some ⟨g, 0, none⟩) (zs.length + ys.length) cap)) w') : wpList Try.prog ops Q (o :: rest) a w := by
  obtain ⟨i0, hi, hz0, hz1, hz2⟩ := info_parts infoInt64
  refine wpList_append_own_at w hgd s x 25 ho base 2 i0 _ 1 8 Try.underlying25 hi hz0 hz1 hz2 rfl (by decide) v zs.length (zs.map (Value.int .i64)) hs hown ⟨b0, off, none⟩ ys.length c (ys.map (Value.int .i64)) hx (by simp) ?_ ?_ (by unfold maxLen; omega) (by omega) hbase ?_
  · intro j u hj
    rw [addr_at]
    rw [List.getElem?_map] at hj
    cases hq : ys[j]? with
    | none => rw [hq] at hj; cases hj
    | some z =>
      rw [hq] at hj
      have hjl : j < ys.length := by
        rcases Nat.lt_or_ge j ys.length with h1 | h1
        · exact h1
        · rw [List.getElem?_eq_none h1] at hq; cases hq
      have := hy j hjl
      rw [hq] at this
      simp at hj
      rw [← hj]
      exact this
  · intro u hu
    obtain ⟨z, _, rfl⟩ := List.mem_map.1 hu
    rfl
  · intro v' w' hown' hg _ hob
    obtain ⟨m, hm⟩ : ∃ m, zs.length + ys.length = m + 1 := ⟨zs.length + ys.length - 1, by omega⟩
    have hv : ∃ g cap, v' = .slice (some ⟨g, 0, none⟩) (zs.length + ys.length) cap := by
      rcases hown'.2 with ⟨_, h0⟩ | ⟨g, cap, _, rfl, _⟩
      · omega
      · exact ⟨g, cap, rfl⟩
    obtain ⟨g, cap, rfl⟩ := hv
    refine h g cap w' ?_ hg ?_
    · unfold OwnJ
      rw [List.length_append, List.map_append]
      exact hown'
    · rcases hob with e | e
      · exact .inl (by rw [← e]; rfl)
      · exact .inr (by simpa [Value.ownBlock] using e)
theorem wpList_append_row_at {w : World} {ops : Array Oper} {rest : List Oper} {o : Oper} {a : Act} {Q : Exit → Act → World → Prop} (hgd : o.guard = none) (s x : Operand)
    (ho : o.op = .call { callee := .builtin .append, args := #[s, x], argTypes := #[46, 46] })
    (base : Nat) (v : Value) (n : Nat) (gs caps : Nat → Nat) (F : Nat → List Int) (hs : a.eval s = v) (hown : AccS w base v n gs caps F) (b0 c : Nat) (hx : a.eval x = .slice (some ⟨b0, 0, none⟩) 1 c) (g cg : Nat)
    (c1 : w.cell? ⟨b0, 0, none⟩ = some (.slice (some ⟨g, 0, none⟩) (F n).length cg)) (hrow : OwnAtI w g (F n)) (hgt : ∀ k, k < n → gs k < g) (hng : v.ownBlock ≠ some g) (hbg : base ≤ g) (hl : n ≤ 1100000) (hbase : base ≤ w.heap.size)
    (h : ∀ (G cap : Nat) (w' : World), AccS w' base (.slice (some ⟨G, 0, none⟩) (n + 1) cap) (n + 1) (fun k => if k = n then g else gs k) (fun k => if k = n then cg else caps k) F → w.grownBy w' v.ownBlock → (v.ownBlock = some G ∨ G = w.heap.size) → wpList Try.prog ops Q rest (a.put o.dst (.slice (some ⟨G, 0, none⟩) (n + 1) cap)) w') : wpList Try.prog ops Q (o :: rest) a w := by
  obtain ⟨i0, hi, hz0, hz1, hz2⟩ := info_parts infoRow
  refine wpList_append_own_at w hgd s x 46 ho base 25 i0 _ 1 24 Try.underlying46 hi hz0 hz1 hz2 rfl (by decide) v n _ hs hown.own ⟨b0, 0, none⟩ 1 c [.slice (some ⟨g, 0, none⟩) (F n).length cg] hx rfl ?_ ?_ (by unfold maxLen; omega) (by omega) hbase ?_
  · intro j u hj
    rw [addr_at, Nat.zero_add]
    match j, hj with
    | 0, hj => simp at hj; rw [← hj]; exact c1
    | j + 1, hj => simp at hj
  · intro u hu
    simp at hu
    rw [hu]
    rfl
  · intro v' w' hown' hg _ hob
    obtain ⟨G, cap, rfl⟩ := row_some hown'
    have hGg : G ≠ g := by
      rintro rfl
      rcases hob with e | e
      · exact hng (by rw [← e]; rfl)
      · simp [Value.ownBlock] at e
        have := hrow.lt
        omega
    refine h G cap w' ⟨?_, fun k hk => ?_, fun k hk => ?_, fun j k hjk hk => ?_, fun k hk => ?_⟩ hg ?_
    · rw [List.range_succ, List.map_append, List.map_singleton]
      have e1 : (List.range n).map (rowV (fun k => if k = n then g else gs k) (fun k => if k = n then cg else caps k) F) = (List.range n).map (rowV gs caps F) := map_congr' fun k hk => by
        have : k ≠ n := by have := List.mem_range.1 hk; omega
        simp [rowV, this]
      rw [e1]
      simpa [rowV] using hown'
    · split
      · subst k; exact hrow.kept hg (fun e => hng e.symm)
      · exact (hown.row k (by omega)).kept hg (fun e => hown.ne k (by omega) e.symm)
    · split
      · simpa [Value.ownBlock] using hGg
      · intro e
        have e' : G = gs k := by simpa [Value.ownBlock] using e
        rcases hob with e2 | e2
        · exact hown.ne k (by omega) (by rw [← e2, e])
        · simp [Value.ownBlock] at e2
          have := (hown.row k (by omega)).lt
          omega
    · rw [if_neg (by omega)]
      split
      · exact Nat.ne_of_lt (hgt j (by omega))
      · exact hown.inc j k hjk (by omega)
    · split
      · exact hbg
      · exact hown.low k (by omega)
    · rcases hob with e | e
      · exact .inl (by rw [← e]; rfl)
      · exact .inr (by simpa [Value.ownBlock] using e)
/-- The list of the points that were seen, in block sB, and the rows beside it. -/
structure CyM (w : World) (base sB sc : Nat) (sl : List Int) (cv : Value) (m : Nat) (gs caps : Nat → Nat) (F : Nat → List Int) : Prop where
  own : OwnJ w base (.slice (some ⟨sB, 0, none⟩) sl.length sc) sl
  acc : AccS w base cv m gs caps F
  ne : cv.ownBlock ≠ some sB
  nr : ∀ k, k < m → gs k ≠ sB
theorem CyM.kept {w w' : World} {base sB sc : Nat} {sl : List Int} {cv : Value} {m : Nat} {gs caps : Nat → Nat} {F : Nat → List Int} (h : CyM w base sB sc sl cv m gs caps F) (hg : w.grownBy w' none) : CyM w' base sB sc sl cv m gs caps F :=
  ⟨ownsRow_kept h.own hg (.inl rfl), h.acc.kept hg (.inl rfl) (fun _ _ e => by cases e), h.ne, h.nr⟩
end Go.Proofs.Ytoicdfdfajfopaa

namespace Go.Proofs.Ytoicdfdfajfopaa
open Go.RowKit Go.Maps
theorem inL_mem {p : Int} {l : List Int} : inL p l = true ↔ p ∈ l := by
  unfold inL
  rw [List.any_eq_true]
  constructor
  · rintro ⟨x, hx, e⟩
    have : p = x := by simpa using e
    exact this ▸ hx
  · intro h
    exact ⟨p, h, by simp⟩
theorem lit3J (W : World) (x y z : Int) {base : Nat} (hb : base ≤ W.heap.size) : OwnJ (W.alloc (.cells #[.int .i64 x, .int .i64 y, .int .i64 z] 2)) base (.slice (some ⟨W.heap.size, 0, none⟩) 3 3) [x, y, z] :=
  ⟨rfl, .inr ⟨W.heap.size, 3, #[.int .i64 x, .int .i64 y, .int .i64 z], rfl, hb, World.alloc_heap_new W _, Nat.le_refl _, by decide, rfl, rfl⟩⟩
theorem OwnJ.ints0 {w : World} {base sB k sc : Nat} {sl : List Int} (h : OwnJ w base (.slice (some ⟨sB, 0, none⟩) k sc) sl) (hl : sl.length ≤ 1100000) : Ints w sB 0 sl ∧ k = sl.length ∧ sB < w.heap.size ∧ base ≤ sB := by
  have hr := h.row sB rfl
  rcases h.res hl with ⟨_, a, c, e⟩ | ⟨g, cap, e, h1, h2, ho⟩
  · rcases h.2 with ⟨e2, _⟩ | ⟨g, cap, cur, e2, _⟩
    · cases e2
    · simp at e2
      have e3 := h.1
      cases e
      simp at e3
      have : sl = [] := List.length_eq_zero_iff.1 (by omega)
      subst this
      refine ⟨fun k hk => absurd hk (Nat.not_lt_zero k), rfl, ?_, hr⟩
      rcases h.2 with ⟨e5, _⟩ | ⟨g5, cap5, cur5, e5, _, hcur, _⟩
      · cases e5
      · simp at e5
        obtain ⟨rfl, _⟩ := e5
        exact (Array.getElem?_eq_some_iff.1 hcur).1
  · simp at e
    obtain ⟨rfl, rfl, _⟩ := e
    exact ⟨ho.at_, rfl, h2, hr⟩
theorem cyS_next_in {bs : List Blk} {a b k : Nat} (h : (k : Int) ∈ seen0 bs a b ++ (cyS bs a b k).flatten) : cyS bs a b (k + 1) = cyS bs a b k := by
  rw [show cyS bs a b (k + 1) = if (k : Int) ∈ seen0 bs a b ++ (cyS bs a b k).flatten then cyS bs a b k else cyS bs a b k ++ [cyc bs a b (k : Int)] from rfl, if_pos h]
theorem cyS_next_out {bs : List Blk} {a b k : Nat} (h : ¬ (k : Int) ∈ seen0 bs a b ++ (cyS bs a b k).flatten) : cyS bs a b (k + 1) = cyS bs a b k ++ [cyc bs a b (k : Int)] := by
  rw [show cyS bs a b (k + 1) = if (k : Int) ∈ seen0 bs a b ++ (cyS bs a b k).flatten then cyS bs a b k else cyS bs a b k ++ [cyc bs a b (k : Int)] from rfl, if_neg h]
theorem beyond_of {n k a b : Nat} {bs : List Blk} (hk : k < n) (h : ¬ (k : Int) ∈ seen0 bs a b ++ (cyS bs a b k).flatten) : Beyond n bs (a : Int) (b : Int) (k : Int) ∧ (k : Int) ∉ (cyS bs a b k).flatten := by
  simp only [seen0, List.mem_append, List.mem_cons, List.not_mem_nil, or_false, not_or] at h
  exact ⟨⟨by omega, h.1.1, h.1.2.1, h.1.2.2⟩, h.2⟩
theorem CyM.step1 {w w' : World} {base sB sc l g3 gS : Nat} {sl cy : List Int} {cv : Value} {m : Nat} {gs caps : Nat → Nat} {F : Nat → List Int} (h : CyM w base sB sc sl cv m gs caps F)
    (hg : w.grownBy w' (Value.slice (some ⟨sB, 0, none⟩) l sc).ownBlock) (he : (Value.slice (some ⟨sB, 0, none⟩) l sc).ownBlock = some gS ∨ gS = w.heap.size) (ho : OwnAtI w g3 cy) (hne : sB ≠ g3) :
    (gS = sB ∨ gS = w.heap.size) ∧ AccS w' base cv m gs caps F ∧ OwnAtI w' g3 cy := by
  refine ⟨?_, ?_, ?_⟩
  · rcases he with e | e
    · left
      simp [Value.ownBlock] at e
      exact e.symm
    · exact .inr e
  · exact h.acc.kept hg (.inr fun e => h.ne e) (fun j hj e => h.nr j hj (by simpa [Value.ownBlock] using e))
  · exact ho.kept hg (by simp [Value.ownBlock]; omega)
theorem CyM.step2 {w4 w5 w6 : World} {base sB N3 g3 gS capS gC capC : Nat} {sl : List Int} {cv : Value} {m : Nat} {gs gs' caps' : Nat → Nat} {F : Nat → List Int}
    (hO : OwnJ w4 base (.slice (some ⟨gS, 0, none⟩) sl.length capS) sl) (h45 : w4.grownBy w5 none) (h56 : w5.grownBy w6 cv.ownBlock) (he : cv.ownBlock = some gC ∨ gC = w5.heap.size)
    (hA : AccS w6 base (.slice (some ⟨gC, 0, none⟩) (m + 1) capC) (m + 1) gs' caps' F) (hgs : ∀ k, gs' k = if k = m then g3 else gs k) (hS : gS = sB ∨ gS = N3) (hxl : ∀ r, cv.ownBlock = some r → r < N3) (hne : cv.ownBlock ≠ some sB)
    (hg : ∀ j, j < m → gs j < N3 ∧ gs j ≠ sB) (h3 : g3 < N3 ∧ g3 ≠ sB) (hlt : gS < w4.heap.size) : CyM w6 base gS capS sl (.slice (some ⟨gC, 0, none⟩) (m + 1) capC) (m + 1) gs' caps' F := by
  have hcv : cv.ownBlock ≠ some gS := fun e => by
    rcases hS with rfl | rfl
    · exact hne e
    · exact Nat.lt_irrefl _ (hxl _ e)
  refine ⟨ownsRow_kept (ownsRow_kept hO h45 (.inl rfl)) h56 (.inr fun e => hcv e.symm), hA, ?_, fun k hk => ?_⟩
  · intro e
    have e : gC = gS := by simpa [Value.ownBlock] using e
    subst e
    rcases he with e | e
    · exact hcv e
    · have := h45.size; omega
  · rw [hgs]
    split
    · rcases hS with rfl | rfl
      · exact h3.2
      · omega
    · rcases hS with rfl | rfl
      · exact (hg k (by omega)).2
      · have := (hg k (by omega)).1; omega
theorem flat_le {l : List (List Int)} (h : ∀ r ∈ l, r.length ≤ 15) : l.flatten.length ≤ 15 * l.length := by
  induction l with
  | nil => simp
  | cons r l ih =>
    have h1 := h r List.mem_cons_self
    have h2 := ih fun x hx => h x (List.mem_cons_of_mem _ hx)
    simp only [List.flatten_cons, List.length_append, List.length_cons]
    omega
end Go.Proofs.Ytoicdfdfajfopaa


/- What a law over two systems knows of the memory between two of its steps. What a law over one system whose result is a list of integers knows of the memory between two of its steps. The pairs of a list of blocks, as a map. The program's PairsLeft. impl.SquareOf makes the square of its number. The model's squares. PairsLeft: the program and the model answer alike. The laws' copies of rows of integers, and how much they hold. -/
import Derived.Test.YtiomdfhhejdoiaaJ5
namespace Go.Proofs.Ytiomdfhhejdoiaa
open Go.RowKit Go.Maps
/-- The two boxes of the arguments; what was there before the call is as it was. -/
structure St2 (w : World) (v u : Int) (s t : Value) (W : World) : Prop where
  below : Below w.heap.size w W
  big : w.heap.size + 1 < W.heap.size
  x0 : W.cell? ⟨w.heap.size, 0, none⟩ = some (.int .i64 v)
  x1 : W.cell? ⟨w.heap.size, 1, none⟩ = some s
  y0 : W.cell? ⟨w.heap.size + 1, 0, none⟩ = some (.int .i64 u)
  y1 : W.cell? ⟨w.heap.size + 1, 1, none⟩ = some t
theorem St2.step {w : World} {v u : Int} {s t : Value} {W W' : World} {row : Option Nat} (h : St2 w v u s t W) (hg : W.grownBy W' row) (hr : ∀ r, row = some r → w.heap.size + 1 < r) : St2 w v u s t W' :=
  ⟨h.below.grown hg h.below.size (fun r e => by have := hr r e; omega), Nat.lt_of_lt_of_le h.big hg.size,
    hg.cell h.x0 (fun e => by have := hr _ e.symm; simp at this; omega), hg.cell h.x1 (fun e => by have := hr _ e.symm; simp at this; omega),
    hg.cell h.y0 (fun e => by have := hr _ e.symm; simp at this), hg.cell h.y1 (fun e => by have := hr _ e.symm; simp at this)⟩
theorem St2.start (w : World) (v u : Int) (s t : Value) : St2 w v u s t ((w.alloc (.cells #[.int .i64 v, s] 24)).alloc (.cells #[.int .i64 u, t] 24)) :=
  ⟨((Below.refl _ _).alloc (Nat.le_refl _) _).alloc (by simp) _, by simp, by simp [go_sem], by simp [go_sem], by simp [go_sem], by simp [go_sem]⟩
/-- A variable that holds a system. -/
structure VarB (W : World) (X : Nat) (v : Int) (s : Value) : Prop where
  lt : X < W.heap.size
  c0 : W.cell? ⟨X, 0, none⟩ = some (.int .i64 v)
  c1 : W.cell? ⟨X, 1, none⟩ = some s
theorem VarB.step {W W' : World} {X : Nat} {v : Int} {s : Value} {row : Option Nat} (h : VarB W X v s) (hg : W.grownBy W' row) (hr : row ≠ some X) : VarB W' X v s :=
  ⟨Nat.lt_of_lt_of_le h.lt hg.size, hg.cell h.c0 (fun e => hr e.symm), hg.cell h.c1 (fun e => hr e.symm)⟩
theorem VarB.new (W : World) (v : Int) (s : Value) (T : TypeId) : VarB (W.alloc (.cells #[.int .i64 v, s] T)) W.heap.size v s := ⟨by simp, by simp, by simp⟩

/-- The state of a law whose results are lists of blocks: the model's result (from i0 on, before i1), the two copies and their variables, the program's result. -/
structure CB (w : World) (v u : Int) (s t sW s8 s9 sG : Value) (X Y i0 i1 i2 i3 i4 i5 i6 : Nat) (LW L8 L9 LG : List Blk) (W : World) : Prop where
  st : St2 w v u s t W
  o0 : w.heap.size + 1 < i0
  o1 : i0 ≤ i1
  o2 : i1 ≤ i2
  oX : i2 ≤ X
  oX' : X < i3
  o4 : i3 ≤ i4
  oY : i4 ≤ Y
  oY' : Y < i5
  o6 : i5 ≤ i6
  rW : ResR W i0 i1 sW LW
  r8 : ResR W i1 i2 s8 L8
  vX : VarB W X v s8
  r9 : ResR W i3 i4 s9 L9
  vY : VarB W Y u s9
  rG : ResR W i5 i6 sG LG
section
variable {w : World} {v u : Int} {s t sW s8 s9 sG : Value} {X Y i0 i1 i2 i3 i4 i5 i6 : Nat} {LW L8 L9 LG : List Blk} {W W' : World}
theorem CB.step (h : CB w v u s t sW s8 s9 sG X Y i0 i1 i2 i3 i4 i5 i6 LW L8 L9 LG W) (hg : W.grownBy W' none) : CB w v u s t sW s8 s9 sG X Y i0 i1 i2 i3 i4 i5 i6 LW L8 L9 LG W' :=
  ⟨h.st.step hg (by simp), h.o0, h.o1, h.o2, h.oX, h.oX', h.o4, h.oY, h.oY', h.o6, h.rW.kept hg (by simp), h.r8.kept hg (by simp), h.vX.step hg (by simp), h.r9.kept hg (by simp), h.vY.step hg (by simp), h.rG.kept hg (by simp)⟩
theorem CB.mark8 (h : CB w v u s t sW s8 s9 sG X Y i0 i1 i2 i3 i4 i5 i6 LW L8 L9 LG W) {row : Option Nat} (hg : W.grownBy W' row) (hr : ∀ r, row = some r → i1 ≤ r ∧ r < i2) {L : List Blk} (hn : ResR W' i1 i2 s8 L) :
    CB w v u s t sW s8 s9 sG X Y i0 i1 i2 i3 i4 i5 i6 LW L L9 LG W' := by
  obtain ⟨st, o0, o1, o2, oX, oX', o4, oY, oY', o6, rW, r8, vX, r9, vY, rG⟩ := h
  exact ⟨st.step hg (fun r e => by have := hr r e; omega), o0, o1, o2, oX, oX', o4, oY, oY', o6, rW.kept hg (fun r e => by have := hr r e; omega), hn, vX.step hg (fun e => by have := hr _ e; omega), r9.kept hg (fun r e => by have := hr r e; omega), vY.step hg (fun e => by have := hr _ e; omega), rG.kept hg (fun r e => by have := hr r e; omega)⟩
theorem CB.mark9 (h : CB w v u s t sW s8 s9 sG X Y i0 i1 i2 i3 i4 i5 i6 LW L8 L9 LG W) {row : Option Nat} (hg : W.grownBy W' row) (hr : ∀ r, row = some r → i3 ≤ r ∧ r < i4) {L : List Blk} (hn : ResR W' i3 i4 s9 L) :
    CB w v u s t sW s8 s9 sG X Y i0 i1 i2 i3 i4 i5 i6 LW L8 L LG W' := by
  obtain ⟨st, o0, o1, o2, oX, oX', o4, oY, oY', o6, rW, r8, vX, r9, vY, rG⟩ := h
  exact ⟨st.step hg (fun r e => by have := hr r e; omega), o0, o1, o2, oX, oX', o4, oY, oY', o6, rW.kept hg (fun r e => by have := hr r e; omega), r8.kept hg (fun r e => by have := hr r e; omega), vX.step hg (fun e => by have := hr _ e; omega), hn, vY.step hg (fun e => by have := hr _ e; omega), rG.kept hg (fun r e => by have := hr r e; omega)⟩
theorem CB.markG (h : CB w v u s t sW s8 s9 sG X Y i0 i1 i2 i3 i4 i5 i6 LW L8 L9 LG W) {row : Option Nat} (hg : W.grownBy W' row) (hr : ∀ r, row = some r → i5 ≤ r ∧ r < i6) {L : List Blk} (hn : ResR W' i5 i6 sG L) :
    CB w v u s t sW s8 s9 sG X Y i0 i1 i2 i3 i4 i5 i6 LW L8 L9 L W' := by
  obtain ⟨st, o0, o1, o2, oX, oX', o4, oY, oY', o6, rW, r8, vX, r9, vY, rG⟩ := h
  exact ⟨st.step hg (fun r e => by have := hr r e; omega), o0, o1, o2, oX, oX', o4, oY, oY', o6, rW.kept hg (fun r e => by have := hr r e; omega), r8.kept hg (fun r e => by have := hr r e; omega), vX.step hg (fun e => by have := hr _ e; omega), r9.kept hg (fun r e => by have := hr r e; omega), vY.step hg (fun e => by have := hr _ e; omega), hn⟩
end
end Go.Proofs.Ytiomdfhhejdoiaa

namespace Go.Proofs.Ytiomdfhhejdoiaa
open Go.RowKit Go.Maps
theorem ResI.slice {w : World} {lo hi : Nat} {s : Value} {zs : List Int} (h : ResI w lo hi s zs) : ∃ a c, s = .slice a zs.length c := by
  rcases h with ⟨rfl, a, c, rfl⟩ | ⟨g, cap, rfl, _⟩ <;> exact ⟨_, _, rfl⟩
theorem ResI.wide {w : World} {lo hi lo' hi' : Nat} {s : Value} {zs : List Int} (h : ResI w lo hi s zs) (h1 : lo' ≤ lo) (h2 : hi ≤ hi') : ResI w lo' hi' s zs := by
  rcases h with h | ⟨g, cap, rfl, h3, h4, ho⟩
  · exact .inl h
  · exact .inr ⟨g, cap, rfl, by omega, by omega, ho⟩
structure St1 (w : World) (v : Int) (s : Value) (W : World) : Prop where
  below : Below w.heap.size w W
  big : w.heap.size < W.heap.size
  x0 : W.cell? ⟨w.heap.size, 0, none⟩ = some (.int .i64 v)
  x1 : W.cell? ⟨w.heap.size, 1, none⟩ = some s
theorem St1.step {w : World} {v : Int} {s : Value} {W W' : World} {row : Option Nat} (h : St1 w v s W) (hg : W.grownBy W' row) (hr : ∀ r, row = some r → w.heap.size < r) : St1 w v s W' :=
  ⟨h.below.grown hg h.below.size (fun r e => by have := hr r e; omega), Nat.lt_of_lt_of_le h.big hg.size,
    hg.cell h.x0 (fun e => by have := hr _ e.symm; simp at this), hg.cell h.x1 (fun e => by have := hr _ e.symm; simp at this)⟩
theorem St1.start (w : World) (v : Int) (s : Value) : St1 w v s (w.alloc (.cells #[.int .i64 v, s] 24)) :=
  ⟨(Below.refl _ _).alloc (Nat.le_refl _) _, by simp, by simp [go_sem], by simp [go_sem]⟩
structure CI (w : World) (v : Int) (s sW s8 sG : Value) (X i0 i1 i2 i5 i6 : Nat) (LW : List Int) (L8 : List Blk) (LG : List Int) (W : World) : Prop where
  st : St1 w v s W
  o0 : w.heap.size < i0
  o1 : i0 ≤ i1
  o2 : i1 ≤ i2
  oX : i2 ≤ X
  oX' : X < i5
  o6 : i5 ≤ i6
  rW : ResI W i0 i1 sW LW
  r8 : ResR W i1 i2 s8 L8
  vX : VarB W X v s8
  rG : ResI W i5 i6 sG LG
section
variable {w : World} {v : Int} {s sW s8 sG : Value} {X i0 i1 i2 i5 i6 : Nat} {LW LG : List Int} {L8 : List Blk} {W W' : World}
theorem CI.step (h : CI w v s sW s8 sG X i0 i1 i2 i5 i6 LW L8 LG W) (hg : W.grownBy W' none) : CI w v s sW s8 sG X i0 i1 i2 i5 i6 LW L8 LG W' :=
  ⟨h.st.step hg (by simp), h.o0, h.o1, h.o2, h.oX, h.oX', h.o6, h.rW.kept hg (by simp), h.r8.kept hg (by simp), h.vX.step hg (by simp), h.rG.kept hg (by simp)⟩
theorem CI.mark8 (h : CI w v s sW s8 sG X i0 i1 i2 i5 i6 LW L8 LG W) {row : Option Nat} (hg : W.grownBy W' row) (hr : ∀ r, row = some r → i1 ≤ r ∧ r < i2) {L : List Blk} (hn : ResR W' i1 i2 s8 L) :
    CI w v s sW s8 sG X i0 i1 i2 i5 i6 LW L LG W' := by
  obtain ⟨st, o0, o1, o2, oX, oX', o6, rW, r8, vX, rG⟩ := h
  exact ⟨st.step hg (fun r e => by have := hr r e; omega), o0, o1, o2, oX, oX', o6, rW.kept hg (fun r e => by have := hr r e; omega), hn, vX.step hg (fun e => by have := hr _ e; omega), rG.kept hg (fun r e => by have := hr r e; omega)⟩
theorem CI.markG (h : CI w v s sW s8 sG X i0 i1 i2 i5 i6 LW L8 LG W) {row : Option Nat} (hg : W.grownBy W' row) (hr : ∀ r, row = some r → i5 ≤ r ∧ r < i6) {L : List Int} (hn : ResI W' i5 i6 sG L) :
    CI w v s sW s8 sG X i0 i1 i2 i5 i6 LW L8 L W' := by
  obtain ⟨st, o0, o1, o2, oX, oX', o6, rW, r8, vX, rG⟩ := h
  exact ⟨st.step hg (fun r e => by have := hr r e; omega), o0, o1, o2, oX, oX', o6, rW.kept hg (fun r e => by have := hr r e; omega), r8.kept hg (fun r e => by have := hr r e; omega), vX.step hg (fun e => by have := hr _ e; omega), hn⟩
end
theorem gb_drew1 (w : World) : w.grownBy w.drew none := ⟨rfl, rfl, rfl, Nat.le_refl _, fun _ _ _ => rfl⟩
theorem gb_alloc1 (w : World) (o : Obj) : w.grownBy (w.alloc o) none := World.grownBy_alloc w o none
end Go.Proofs.Ytiomdfhhejdoiaa

namespace Go.Proofs.Ytiomdfhhejdoiaa
open Go.RowKit Go.Maps
set_option maxRecDepth 100000 in
theorem pairsIn_any (s : Value) (bs : List Blk) (w : World) (h : SB w s bs) (hb : bs.length ≤ 100000) : Calls Try.prog 57 #[s] w fun e w' =>
    e = .returned (.map (some w.heap.size)) ∧ BoolSet w' Try.prog 75 4 w.heap.size (3 * bs.length) ((bs.flatMap pairsL).map pv) ∧ Below w.heap.size w w' := by
  have hs := h.slice
  obtain ⟨hwf, hlen, h3⟩ := h
  obtain ⟨a0, c0, rfl⟩ := hs
  have hmm := run_makeMap_hint (P := Try.prog) 71 75 4 .i64 (3 * (bs.length : Int)) Try.underlying71
  go_enter Try.func57, Try.ntmps57
  go_wp2
  go_loopw [14] (fun i wr => ∃ k : Nat, k ≤ bs.length ∧ i = .int .i64 k ∧ BoolSet wr Try.prog 75 4 w.heap.size (3 * k) (((bs.take k).flatMap pairsL).map pv) ∧ Below w.heap.size w wr) (fun i _ => bs.length - (intOf i).toNat)
  case atStart => exact ⟨0, Nat.zero_le _, rfl, BoolSet.made _ _ _ _, (Below.refl _ _).alloc (Nat.le_refl _) _⟩
  case round =>
    obtain ⟨k, hk, rfl, hS, hB⟩ := hrel
    have hsz := hB.size
    have hlt' := hS.lt
    by_cases hkl : k < bs.length
    · rcases h3 with ⟨_, _, _, hnil⟩ | ⟨b, off, cap, hval, hblt, hbl⟩
      · rw [hnil] at hkl; simp at hkl
      · simp at hval
        obtain ⟨rfl, rfl⟩ := hval
        obtain ⟨x, r, hx, e1, e2, e3, c1, c2, c3⟩ := blks_next (hbl.below hB hblt) hkl
        have E3 := Lib.hid e3
        clear e1 e2 e3 hbl
        obtain ⟨x1, x2, x3⟩ := x
        obtain ⟨g1, g2, g3⟩ := hwf _ hx
        obtain ⟨seen, hseen⟩ : ∃ l, l = (bs.take k).flatMap pairsL := ⟨_, rfl⟩
        rw [← hseen] at hS
        have HSN := Lib.hid hseen
        clear hseen hx
        obtain ⟨k1, hk1⟩ := pv_key g1 g2
        obtain ⟨k2, hk2⟩ := pv_key g1 g3
        obtain ⟨k3, hk3⟩ := pv_key g2 g3
        have HK1 := Lib.hid hk1
        have HK2 := Lib.hid hk2
        have HK3 := Lib.hid hk3
        clear hk1 hk2 hk3 g1 g2 g3
        have i0 : ∀ w, (Instr.index 76 (.agg #[.int .i64 x1, .int .i64 x2, .int .i64 x1, .int .i64 x3, .int .i64 x2, .int .i64 x3]) (.int .i64 0)).run Try.prog w = .ok (.agg #[.int .i64 x1, .int .i64 x2]) w := fun _ => by kernel_rfl
        have i1 : ∀ w, (Instr.index 76 (.agg #[.int .i64 x1, .int .i64 x2, .int .i64 x1, .int .i64 x3, .int .i64 x2, .int .i64 x3]) (.int .i64 1)).run Try.prog w = .ok (.agg #[.int .i64 x1, .int .i64 x3]) w := fun _ => by kernel_rfl
        have i2 : ∀ w, (Instr.index 76 (.agg #[.int .i64 x1, .int .i64 x2, .int .i64 x1, .int .i64 x3, .int .i64 x2, .int .i64 x3]) (.int .i64 2)).run Try.prog w = .ok (.agg #[.int .i64 x2, .int .i64 x3]) w := fun _ => by kernel_rfl
        go_wp2_with (go_at_call 59; refine (pairsOf_any ⟨x1, x2, x3⟩ _).mono ?_; rintro e w2 ⟨rfl, hb2⟩; unfold prsv; dsimp only; have hSx := (hS.alloc (.cells #[.int .i64 x1, .int .i64 x2, .int .i64 x3] 68)).below hb2 (by simp; omega); have hz2 := hb2.size; simp at hz2)
        refine wp_loop_rounds 4 ?_
        rw [rounds_succ]
        go_wp2_with (at_mapUpdate; refine wpList_put_set _ rfl _ _ _ 71 rfl 75 4 pairKeyed Try.underlying71 Try.underlying4 w.heap.size (3 * k + 0) (seen.map pv) rfl (hSx.alloc _) (by unfold maxLen; omega) (pv (x1, x2)) k1 rfl rfl HK1.out ?_; intro w3 hS3 hg3)
        rw [rounds_succ]
        go_wp2_with (at_mapUpdate; refine wpList_put_set _ rfl _ _ _ 71 rfl 75 4 pairKeyed Try.underlying71 Try.underlying4 w.heap.size (3 * k + 1) (seen.map pv ++ [pv (x1, x2)]) rfl (hS3.alloc _) (by unfold maxLen; omega) (pv (x1, x3)) k2 rfl rfl HK2.out ?_; intro w4 hS4 hg4)
        rw [rounds_succ]
        go_wp2_with (at_mapUpdate; refine wpList_put_set _ rfl _ _ _ 71 rfl 75 4 pairKeyed Try.underlying71 Try.underlying4 w.heap.size (3 * k + 2) (seen.map pv ++ [pv (x1, x2)] ++ [pv (x1, x3)]) rfl (hS4.alloc _) (by unfold maxLen; omega) (pv (x2, x3)) k3 rfl rfl HK3.out ?_; intro w5 hS5 hg5)
        rw [rounds_succ]
        go_wp2
        have hBx := hB.trans (((Below.refl _ _).alloc hsz _).trans (hb2.mono (by simp; omega)))
        have hB3 := (hBx.alloc (by omega) (.cells #[.int .i64 x1, .int .i64 x2] 75)).grown hg3 (by simp; omega) (fun j e => by cases e; exact Nat.le_refl _)
        have hB4 := (hB3.alloc hB3.size (.cells #[.int .i64 x1, .int .i64 x3] 75)).grown hg4 (by have := hB3.size; simp; omega) (fun j e => by cases e; exact Nat.le_refl _)
        have hB5 := (hB4.alloc hB4.size (.cells #[.int .i64 x2, .int .i64 x3] 75)).grown hg5 (by have := hB4.size; simp; omega) (fun j e => by cases e; exact Nat.le_refl _)
        have hfin : BoolSet w5 Try.prog 75 4 w.heap.size (3 * (k + 1)) (((bs.take (k + 1)).flatMap pairsL).map pv) := by
          rw [E3.out, List.flatMap_append, ← HSN.out]
          have e : (seen ++ [Blk.mk x1 x2 x3].flatMap pairsL).map pv = seen.map pv ++ [pv (x1, x2)] ++ [pv (x1, x3)] ++ [pv (x2, x3)] := by simp [pairsL]
          rw [e]
          exact hS5.mono (by omega)
        go_roundw
        case rel => exact ⟨k + 1, by omega, by go_num, hfin, hB5⟩
        case measure => simp [intOf]; omega
    · have e : k = bs.length := by omega
      subst e
      rw [List.take_length] at hS
      go_wp2
      go_ret
      exact ⟨rfl, hS, hB⟩
end Go.Proofs.Ytiomdfhhejdoiaa

namespace Go.Proofs.Ytiomdfhhejdoiaa
open Go.RowKit Go.Maps
/-- The pairs (a, b), b among the next n, that P lets through; then those of the rows before a. -/
def rowL (P : Int → Int → Bool) (a : Nat) : Nat → List (Int × Int)
  | 0 => []
  | n + 1 => rowL P a n ++ if P a ((a : Int) + 1 + n) then [((a : Int), (a : Int) + 1 + n)] else []
def leftL (P : Int → Int → Bool) (v : Nat) : Nat → List (Int × Int)
  | 0 => []
  | a + 1 => leftL P v a ++ rowL P a (v - 1 - a)
theorem rowL_len (P : Int → Int → Bool) (a n : Nat) : (rowL P a n).length ≤ n := by
  induction n with
  | zero => simp [rowL]
  | succ n ih =>
    unfold rowL
    rw [List.length_append]
    split <;> simp <;> omega
theorem leftL_len (P : Int → Int → Bool) (v a : Nat) : (leftL P v a).length ≤ a * v := by
  induction a with
  | zero => simp [leftL]
  | succ a ih =>
    unfold leftL
    rw [List.length_append, Nat.succ_mul]
    have := rowL_len P a (v - 1 - a)
    omega
theorem rowL_congr {P Q : Int → Int → Bool} {a : Nat} : ∀ n : Nat, (∀ b : Int, (a : Int) < b → b ≤ a + n → P a b = Q a b) → rowL P a n = rowL Q a n
  | 0, _ => rfl
  | n + 1, h => by
    unfold rowL
    rw [rowL_congr n (fun b h1 h2 => h b h1 (by omega)), h ((a : Int) + 1 + n) (by omega) (by omega)]
theorem leftL_congr {P Q : Int → Int → Bool} {v : Nat} : ∀ a : Nat, a ≤ v → (∀ a' b : Int, 0 ≤ a' → a' < b → b < v → P a' b = Q a' b) → leftL P v a = leftL Q v a
  | 0, _, _ => rfl
  | a + 1, ha, h => by
    unfold leftL
    rw [leftL_congr a (by omega) h, rowL_congr _ (fun b h1 h2 => h a b (by omega) h1 (by omega))]
def fnL (L : List (Int × Int)) (k : Nat) : List Int := let p := L[k]?.getD (0, 0); [p.1, p.2]
theorem fnL_len (L : List (Int × Int)) (k : Nat) : (fnL L k).length = 2 := rfl
theorem fnL_lt {L L' : List (Int × Int)} {k : Nat} (h : k < L.length) : fnL L k = fnL (L ++ L') k := by
  unfold fnL
  rw [List.getElem?_append_left h]
theorem fnL_at (L : List (Int × Int)) (p : Int × Int) : fnL (L ++ [p]) L.length = [p.1, p.2] := by simp [fnL]
theorem AccS.congr {w : World} {base : Nat} {u : Value} {n : Nat} {gs caps : Nat → Nat} {F F' : Nat → List Int} (h : AccS w base u n gs caps F) (e : ∀ k, k < n → F k = F' k) : AccS w base u n gs caps F' := by
  refine ⟨?_, fun k hk => by rw [← e k hk]; exact h.row k hk, h.ne, h.inc, h.low⟩
  have he : (List.range n).map (rowV gs caps F') = (List.range n).map (rowV gs caps F) := map_congr' fun k hk => by
    have := e k (List.mem_range.1 hk)
    simp [rowV, this]
  rw [he]
  exact h.own
theorem AccS.base {w : World} {base base' : Nat} {u : Value} {n : Nat} {gs caps : Nat → Nat} {F : Nat → List Int} (h : AccS w base u n gs caps F) (hb : base' ≤ base) : AccS w base' u n gs caps F :=
  ⟨ownsRow_base h.own hb, h.row, h.ne, h.inc, fun k hk => Nat.le_trans hb (h.low k hk)⟩
theorem wf_pl {n : Int} (h0 : 0 ≤ n) (h1 : n ≤ 1000) : WF n := by
  have : n = wrap64 n := by unfold wrap64; omega
  unfold WF
  rw [this]
  exact wrap64_wf _
def notIn (seen : List (Int × Int)) (a b : Int) : Bool := !decide ((a, b) ∈ seen)
theorem two_own (w : World) (x y : Int) (T : TypeId) : OwnAtI (w.alloc (.cells #[.int .i64 x, .int .i64 y] T)) w.heap.size [x, y] := by
  refine ⟨by simp, fun k hk => ?_, fun o => by simp⟩
  rw [World.cell?_alloc_at _ _ _ _ rfl]
  match k, hk with
  | 0, _ => rfl
  | 1, _ => rfl
set_option maxRecDepth 100000 in
set_option maxHeartbeats 1000000 in
theorem PairsLeft_main (vn : Nat) (s : Value) (bs : List Blk) (w : World) (h : SB w s bs) (hi : isSysImpl (vn : Int) bs = true) :
    Calls Try.prog 48 #[.agg #[.int .i64 (vn : Int), s]] w fun e w' => ∃ u gs caps, e = .returned (.tuple #[u, .int .i64 0]) ∧ Below w.heap.size w w' ∧ AccS w' w.heap.size u (leftL (notIn (bs.flatMap pairsL)) vn vn).length gs caps (fnL (leftL (notIn (bs.flatMap pairsL)) vn vn)) := by
  have hs := h.slice
  have HI := Lib.hid fun W (hb : Below w.heap.size w W) => IsSystem_any (vn : Int) s bs W (h.below hb (Nat.le_refl _))
  rw [hi] at HI
  obtain ⟨hv3, hv15, hb35⟩ := sys_size hi
  have HP := Lib.hid fun W (hb : Below w.heap.size w W) => pairsIn_any s bs W (h.below hb (Nat.le_refl _)) (by omega)
  obtain ⟨seen, hseen⟩ : ∃ l, l = bs.flatMap pairsL := ⟨_, rfl⟩
  rw [← hseen] at HP ⊢
  clear h hi hseen
  obtain ⟨a0, c0, rfl⟩ := hs
  go_enter Try.func48, Try.ntmps48
  go_wp2_with fail
  refine (HI.out _ ((Below.refl _ _).alloc (Nat.le_refl _) _)).mono ?_
  rintro e w1 ⟨rfl, hb1⟩
  have q0 := cell_new hb1 0 rfl
  have q1 := cell_new hb1 1 rfl
  have hlt1 := lt_new hb1
  have hbw := below_new hb1
  clear hb1
  go_wp2_with fail
  refine (HP.out _ hbw).mono ?_
  rintro e w2 ⟨rfl, hS, hb2⟩
  have q0 := (hb2.cell (p := ⟨w.heap.size, 0, none⟩) hlt1).trans q0
  have hlt2 := hS.lt
  have hbw2 := hbw.trans (hb2.mono (Nat.le_of_lt hlt1))
  have hz2 := hb2.size
  have HS2 := Lib.hid hS
  have hm : ∀ (β : Bool) (p : Int × Int), Hid (β = true ↔ pv p ∈ seen.map pv) → (β = true ↔ p ∈ seen) := fun β p h => h.out.trans ⟨fun h => by obtain ⟨q, hq, e⟩ := List.mem_map.1 h; rw [← pv_inj e]; exact hq, fun h => List.mem_map.2 ⟨p, h, rfl⟩⟩
  have HM := Lib.hid hm
  clear hm hS hb2
  go_wp2_with fail
  go_loopw [5, 16] (fun o t wr => ∃ (k : Nat) (gs caps : Nat → Nat), k ≤ vn ∧ t = .int .i64 k ∧ Below w2.heap.size w2 wr ∧ AccS wr w2.heap.size o (leftL (notIn seen) vn k).length gs caps (fnL (leftL (notIn seen) vn k)) ∧ ∃ a c, o = .slice a (leftL (notIn seen) vn k).length c) (fun _ t _ => vn - (intOf t).toNat)
  case atStart => exact ⟨0, fun _ => 0, fun _ => 0, Nat.zero_le _, rfl, Below.refl _ _, AccS.nil _ _ _ _ _, _, _, rfl⟩
  case round =>
    obtain ⟨k, gs, caps, hk, rfl, hB, hA, a3, c3, rfl⟩ := hrel
    obtain ⟨W0, rfl⟩ : ∃ W0, W0 = wr := ⟨_, rfl⟩
    have hz := hB.size
    have r0 := (hB.cell (p := ⟨w.heap.size, 0, none⟩) (by show w.heap.size < _; omega)).trans q0
    have hlen0 := leftL_len (notIn seen) vn k
    have hlenb : k * vn ≤ 225 := by
      have h1 : k * vn ≤ 15 * 15 := Nat.mul_le_mul (by omega) (by omega)
      omega
    have HA := Lib.hid hA
    clear hA
    by_cases hkl : k < vn
    · have g0 : (0 : Int) ≤ (k : Int) := by omega
      have g1 : (k : Int) < (vn : Int) := by omega
      go_wp2_with fail
      go_loopw [5, 7] (fun o t wx => ∃ (j : Nat) (gs caps : Nat → Nat), j ≤ vn - 1 - k ∧ t = .int .i64 ((k : Int) + 1 + j) ∧ Below w2.heap.size w2 wx ∧ AccS wx w2.heap.size o (leftL (notIn seen) vn k ++ rowL (notIn seen) k j).length gs caps (fnL (leftL (notIn seen) vn k ++ rowL (notIn seen) k j)) ∧ ∃ a c, o = .slice a (leftL (notIn seen) vn k ++ rowL (notIn seen) k j).length c) (fun _ t _ => (vn - intOf t).toNat)
      case atStart => exact ⟨0, gs, caps, Nat.zero_le _, by simp, hB, by simpa [rowL] using HA.out, a3, c3, by simp [rowL]⟩
      case round =>
        obtain ⟨j, gs', caps', hj, rfl, hb, hA', a4, c4, rfl⟩ := hrel
        have hzx := hb.size
        have s0 := (hb.cell (p := ⟨w.heap.size, 0, none⟩) (by show w.heap.size < _; omega)).trans q0
        have hlen1 := rowL_len (notIn seen) k j
        obtain ⟨L, hL⟩ : ∃ L, L = leftL (notIn seen) vn k ++ rowL (notIn seen) k j := ⟨_, rfl⟩
        have hLl : L.length ≤ 1000 := by rw [hL, List.length_append]; omega
        have hsucc : leftL (notIn seen) vn k ++ rowL (notIn seen) k (j + 1) = L ++ if notIn seen (k : Int) ((k : Int) + 1 + j) then [((k : Int), (k : Int) + 1 + j)] else [] := by
          rw [hL, List.append_assoc]; rfl
        rw [← hL] at hA' ⊢
        have HSU := Lib.hid hsucc
        have HA' := Lib.hid hA'
        have HL := Lib.hid hL
        clear hA' hsucc hL
        by_cases hjl : (k : Int) + 1 + j < vn
        · have HSx := Lib.hid (HS2.out.below hb hlt2)
          obtain ⟨k1, hk1⟩ := pv_key (a := (k : Int)) (b := (k : Int) + 1 + j) (wf_pl (by omega) (by omega)) (wf_pl (by omega) (by omega))
          have HK1 := Lib.hid hk1
          clear hk1
          by_cases hmem : ((k : Int), (k : Int) + 1 + (j : Int)) ∈ seen
          · have hno : notIn seen (k : Int) ((k : Int) + 1 + j) = false := by simp [notIn, hmem]
            have HMEM := Lib.hid hmem
            have e : leftL (notIn seen) vn k ++ rowL (notIn seen) k (j + 1) = L := by rw [HSU.out, hno]; simp
            have E := Lib.hid e
            clear e hno hmem
            go_wp2_with (at_lookup; refine wpList_look_set _ rfl _ _ 71 rfl 75 4 pairKeyed Try.underlying71 Try.underlying4 (zeroBool _) w1.heap.size (3 * bs.length) (seen.map pv) rfl HSx.out (pv ((k : Int), (k : Int) + 1 + j)) k1 rfl HK1.out ?_; intro β1 hβ1; obtain rfl : β1 = true := (HM.out _ _ hβ1).2 HMEM.out)
            go_roundw
            case rel => exact ⟨j + 1, gs', caps', by omega, by go_num, hb, by rw [E.out]; exact HA'.out, a4, c4, by rw [E.out]⟩
            case measure => simp [intOf]; omega
          · have hno : notIn seen (k : Int) ((k : Int) + 1 + j) = true := by simp [notIn, hmem]
            have HMEM := Lib.hid hmem
            have e : leftL (notIn seen) vn k ++ rowL (notIn seen) k (j + 1) = L ++ [((k : Int), (k : Int) + 1 + j)] := by rw [HSU.out, hno]; simp
            have E := Lib.hid e
            have hrow : OwnAtI (wr.alloc (.cells #[.int .i64 (k : Int), .int .i64 ((k : Int) + 1 + j)] 2)) wr.heap.size (fnL (L ++ [((k : Int), (k : Int) + 1 + j)]) L.length) := by
              rw [fnL_at]; exact two_own wr _ _ _
            have HROW := Lib.hid hrow
            have hlt := ownsRow_lt HA'.out.own
            have HACC := Lib.hid (HA'.out.congr (F' := fnL (L ++ [((k : Int), (k : Int) + 1 + j)])) (fun q hq => fnL_lt hq))
            have HGT := Lib.hid (show ∀ q, q < L.length → gs' q < wr.heap.size from fun q hq => (HA'.out.row q hq).lt)
            have HNG := Lib.hid (show (Value.slice a4 L.length c4).ownBlock ≠ some wr.heap.size from fun e => by have := hlt _ e; omega)
            have HLOW := Lib.hid (show ∀ r, (Value.slice a4 L.length c4).ownBlock = some r → w2.heap.size ≤ r from fun r e => (hlt r e).1)
            clear e hno hrow hlt hmem
            go_wp2_with (first | (at_lookup; refine wpList_look_set _ rfl _ _ 71 rfl 75 4 pairKeyed Try.underlying71 Try.underlying4 (zeroBool _) w1.heap.size (3 * bs.length) (seen.map pv) rfl HSx.out (pv ((k : Int), (k : Int) + 1 + j)) k1 rfl HK1.out ?_; intro β1 hβ1; obtain rfl : β1 = false := Bool.eq_false_iff.2 (fun h => HMEM.out ((HM.out _ _ hβ1).1 h))) | (at_builtin; refine wpList_append_row rfl _ _ rfl w2.heap.size _ L.length gs' caps' (fnL (L ++ [((k : Int), (k : Int) + 1 + j)])) rfl (HACC.out.below (((Below.refl _ _).alloc (Nat.le_refl _) _).alloc (by simp) _) (Nat.le_refl _)) _ _ rfl wr.heap.size 2 (by rw [fnL_len]; simp [go_sem]) (HROW.out.kept (World.grownBy_alloc _ _ none) (by simp)) HGT.out HNG.out hzx (by omega) (by simp; omega) ?_; intro G cap w4 gs4 caps4 hA4 hg4))
            have hB4 := ((hb.alloc hzx (.cells #[.int .i64 (k : Int), .int .i64 ((k : Int) + 1 + j)] 2)).alloc (by simp; omega) (.cells #[.slice (some ⟨wr.heap.size, 0, none⟩) 2 2] 26)).grown hg4 (by simp; omega) HLOW.out
            go_roundw
            case rel => exact ⟨j + 1, gs4, caps4, by omega, by go_num, hB4, by rw [E.out, List.length_append, List.length_singleton]; exact hA4, _, _, by rw [E.out, List.length_append, List.length_singleton]⟩
            case measure => simp [intOf]; omega
        · have ej : j = vn - 1 - k := by omega
          have e : leftL (notIn seen) vn (k + 1) = L := by rw [HL.out, ej]; rfl
          have E := Lib.hid e
          clear e
          go_wp2_with fail
          go_roundw
          case rel => exact ⟨k + 1, gs', caps', by omega, by go_num, hb, by rw [E.out]; exact HA'.out, a4, c4, by rw [E.out]⟩
          case measure => simp [intOf]; omega
    · have e : k = vn := by omega
      subst e
      go_wp2
      go_ret2
      exact ⟨_, gs, caps, rfl, hbw2.trans (hB.mono (by omega)), HA.out.base (by omega)⟩
end Go.Proofs.Ytiomdfhhejdoiaa

namespace Go.Proofs.Ytiomdfhhejdoiaa
open Go.RowKit Go.Maps
theorem mkRow (n : Nat) (hn : n ≤ 1100000) (W : World) : (Instr.makeSlice 26 (.int .i64 (n : Int)) (.int .i64 (n : Int))).run Try.prog W = .ok (.slice (some ⟨W.heap.size, 0, none⟩) n n) (W.alloc (.cells (madeCells #[.int .i64 0] n) 2)) := by
  obtain ⟨i0, hi, hz0, hz1, hz2⟩ := info_parts infoInt64
  have hr := run_make (P := Try.prog) W 26 2 i0 (.int .i64 0) Try.underlying26 hi hz0 .i64 .i64 n n (by omega) (by omega) (by rw [hz2]; omega) (by omega)
  simp only [Int.toNat_natCast, hz1, Nat.mul_one] at hr
  exact hr
end Go.Proofs.Ytiomdfhhejdoiaa

namespace Go.Proofs.Ytiomdfhhejdoiaa
open Go.RowKit Go.Maps
theorem AccS.new0 (W : World) (gs caps : Nat → Nat) (F : Nat → List Int) {base : Nat} (hb : base ≤ W.heap.size) : AccS (W.alloc (.cells #[] 26)) base (.slice (some ⟨W.heap.size, 0, none⟩) 0 0) 0 gs caps F :=
  ⟨⟨rfl, .inr ⟨W.heap.size, 0, #[], rfl, hb, World.alloc_heap_new W _, Nat.le_refl _, Nat.zero_le _, rfl, rfl⟩⟩, fun k hk => by omega, fun k hk => by omega, fun j k _ hk => by omega, fun k hk => by omega⟩
theorem l01In_val (n : Int) (β : Bool) (hβ : (decide ((2 : Int) ≤ n) && decide (n ≤ 5)) = β) (W : World) : Calls Try.prog 79 #[.int .i64 n, .int .i64 2, .int .i64 5] W (RS (.bool β) W) := by
  have h := l01In_any n 2 5 W
  rw [hβ] at h
  exact h
end Go.Proofs.Ytiomdfhhejdoiaa

namespace Go.Proofs.Ytiomdfhhejdoiaa
open Go.RowKit Go.Maps
theorem both_pair {v : Int} {x : Blk} (hg : goodB v x = true) {a b : Int} (hab : a < b) : bothB a b x = true ↔ (a, b) ∈ pairsL x := by
  obtain ⟨h1, h2, h3, h4⟩ := goodB_iff.1 hg
  unfold bothB hasB pairsL
  simp only [Bool.and_eq_true, Bool.or_eq_true, decide_eq_true_iff, List.mem_cons, List.mem_nil_iff, or_false, Prod.mk.injEq]
  omega
theorem third_left {v : Int} {bs : List Blk} (hg : ∀ x ∈ bs, goodB v x = true) (hv : v ≤ 15) {a b : Int} (hab : a < b) :
    (notIn (bs.flatMap pairsL) a b = true → third1 bs a b = -1) ∧ (notIn (bs.flatMap pairsL) a b = false → 0 ≤ third1 bs a b ∧ third1 bs a b ≤ 15) := by
  unfold notIn third1
  cases hf : bs.find? (bothB a b) with
  | none =>
    have hn := List.find?_eq_none.1 hf
    have : ¬ (a, b) ∈ bs.flatMap pairsL := fun h => by
      obtain ⟨x, hx, hp⟩ := List.mem_flatMap.1 h
      exact hn x hx ((both_pair (hg x hx) hab).2 hp)
    simp [this]
  | some x =>
    have hx := List.mem_of_find?_eq_some hf
    have hb := List.find?_some hf
    have hin : (a, b) ∈ bs.flatMap pairsL := List.mem_flatMap.2 ⟨x, hx, (both_pair (hg x hx) hab).1 hb⟩
    have hne : a ≠ b := by omega
    have h3 := third_bounds (hg x hx) hv hb hne
    refine ⟨fun h => ?_, fun _ => h3⟩
    simp [hin] at h
def pairsF (v : Int) (bs : List Blk) : List (Int × Int) × Int := if isSysImpl v bs then (leftL (notIn (bs.flatMap pairsL)) v.toNat v.toNat, 0) else ([], 1)
/-- A result that is a list of rows: empty anywhere, or memory of its own from lo on. -/
def ResSS (w : World) (lo : Nat) (u : Value) (n : Nat) (F : Nat → List Int) : Prop := (n = 0 ∧ ∃ a c, u = .slice a 0 c) ∨ ∃ G cap gs caps, u = .slice (some ⟨G, 0, none⟩) n cap ∧ lo ≤ G ∧ SSR w lo G gs caps n F
theorem AccS.res {w : World} {base : Nat} {u : Value} {n : Nat} {gs caps : Nat → Nat} {F : Nat → List Int} (h : AccS w base u n gs caps F) : ResSS w base u n F := by
  by_cases h0 : n = 0
  · subst h0
    rcases h.own.2 with ⟨rfl, _⟩ | ⟨g, cap, cur, rfl, _⟩
    · exact .inl ⟨rfl, _, _, rfl⟩
    · exact .inl ⟨rfl, _, _, rfl⟩
  · obtain ⟨G, cap, hu, hG, hS⟩ := h.ssr (by omega)
    exact .inr ⟨G, cap, gs, caps, hu, hG, hS⟩
def RPL (r : List (Int × Int) × Int) (w : World) (e : Ending) (w' : World) : Prop := ∃ u, e = .returned (.tuple #[u, .int .i64 r.2]) ∧ Below w.heap.size w w' ∧ ResSS w' w.heap.size u r.1.length (fnL r.1)
set_option maxRecDepth 100000 in
theorem PairsLeft_any (v : Int) (s : Value) (bs : List Blk) (w : World) (h : SB w s bs) : Calls Try.prog 48 #[.agg #[.int .i64 v, s]] w (RPL (pairsF v bs) w) := by
  cases hi : isSysImpl v bs with
  | true =>
    obtain ⟨hv3, hv15, _⟩ := sys_size hi
    have ev : v = ((v.toNat : Nat) : Int) := by omega
    have hval : pairsF v bs = (leftL (notIn (bs.flatMap pairsL)) v.toNat v.toNat, 0) := by simp [pairsF, hi]
    rw [hval]
    rw [ev] at hi
    have := PairsLeft_main v.toNat s bs w h hi
    rw [← ev] at this
    refine this.mono ?_
    rintro e w' ⟨u, gs, caps, rfl, hB, hA⟩
    exact ⟨u, rfl, hB, hA.res⟩
  | false =>
    have hval : pairsF v bs = ([], 1) := by simp [pairsF, hi]
    rw [hval]
    have hs := h.slice
    have HI := Lib.hid fun W (hb : Below w.heap.size w W) => IsSystem_any v s bs W (h.below hb (Nat.le_refl _))
    rw [hi] at HI
    clear h hi hval
    obtain ⟨a0, c0, rfl⟩ := hs
    go_enter Try.func48, Try.ntmps48
    go_wp2_with (go_at_call 63; refine (HI.out _ ((Below.refl _ _).alloc (Nat.le_refl _) _)).mono ?_; rintro e w1 ⟨rfl, hb1⟩)
    go_ret2
    exact ⟨_, rfl, below_new hb1, .inl ⟨rfl, _, _, rfl⟩⟩
end Go.Proofs.Ytiomdfhhejdoiaa

namespace Go.Proofs.Ytiomdfhhejdoiaa
open Go.RowKit Go.Maps
theorem copy_next (zs : List Int) {k : Nat} (hk : k < zs.length) : (zs.take k ++ List.replicate (zs.length - k) 0).set k (zs[k]?.getD 0) = zs.take (k + 1) ++ List.replicate (zs.length - (k + 1)) 0 := by
  rw [show zs.length - k = (zs.length - (k + 1)) + 1 by omega, List.replicate_succ, List.set_append_right _ _ (by simp; omega), List.length_take, show k - min k zs.length = 0 by omega, List.set_cons_zero, List.take_add_one, List.append_assoc]
  simp [hk]
end Go.Proofs.Ytiomdfhhejdoiaa

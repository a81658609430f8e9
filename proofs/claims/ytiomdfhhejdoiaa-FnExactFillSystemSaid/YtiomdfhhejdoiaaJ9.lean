
/- impl.InverseTrade. Two lists of blocks that grow beside each other, and the trade made of them. The program's FreeBlocks. FreeBlocks: the program and the model answer alike. The program's FillSystem. The model's copy of a system. The contract of slices.Grow, laid at []int64. slices.Grow of nil and slices.Concat of two lists of blocks. -/
import Derived.Test.YtiomdfhhejdoiaaJ8
import Derived.Deep.RegionHeld3
import Derived.Maps.AppendAt
import Derived.Deep.Cut
import Derived.Shelf.Spec.SlicesGrow
import Derived.Ground.Names8Prog
import Derived.Test.YtiomdfhhejdoiaaProg
namespace Go.Proofs.Ytiomdfhhejdoiaa
open Go.RowKit Go.Maps
/-- A trade and a code. -/
def RTrd (r : Int × (List Blk × List Blk) × Int) (w : World) (e : Ending) (w' : World) : Prop :=
  ∃ so si, e = .returned (.tuple #[.agg #[.int .i64 r.1, so, si], .int .i64 r.2.2]) ∧ ResT w' w.heap.size w'.heap.size so r.2.1.1 si r.2.1.2 ∧ Below w.heap.size w w'
def invF (v : Int) (bo bi : List Blk) : Int × (List Blk × List Blk) × Int := if trdB v bo bi then (v, (bi, bo), 0) else (0, ([], []), 1)
/-- A trade's box and that of the result. -/
structure BoxR (w' : World) (b : Nat) (v : Int) (so si : Value) : Prop where
  lt : b + 1 < w'.heap.size
  x0 : w'.cell? ⟨b, 0, none⟩ = some (.int .i64 v)
  x1 : w'.cell? ⟨b, 1, none⟩ = some so
  x2 : w'.cell? ⟨b, 2, none⟩ = some si
  y0 : w'.cell? ⟨b + 1, 0, none⟩ = some (.int .i64 0)
  y1 : w'.cell? ⟨b + 1, 1, none⟩ = some (.slice none 0 0)
  y2 : w'.cell? ⟨b + 1, 2, none⟩ = some (.slice none 0 0)
  g0 : w'.frozen? ⟨b + 1, 0, none⟩ = false
  g1 : w'.frozen? ⟨b + 1, 1, none⟩ = false
  g2 : w'.frozen? ⟨b + 1, 2, none⟩ = false
def wRI (w : World) (v : Int) (so si : Value) : World := (w.alloc (.cells #[.int .i64 v, so, si] 92)).alloc (.cells #[.int .i64 0, .slice none 0 0, .slice none 0 0] 92)
theorem BoxR.new (w : World) (v : Int) (so si : Value) : BoxR (wRI w v so si) w.heap.size v so si := by
  unfold wRI
  exact ⟨by simp, by simp [go_sem], by simp [go_sem], by simp [go_sem], by simp [go_sem], by simp [go_sem], by simp [go_sem], by simp [go_sem], by simp [go_sem], by simp [go_sem]⟩
theorem wRI_below (w : World) (v : Int) (so si : Value) : Below w.heap.size w (wRI w v so si) := ((Below.refl _ _).alloc (Nat.le_refl _) _).alloc (by simp) _
theorem BoxR.below {w w' : World} {b : Nat} {v : Int} {so si : Value} (h : BoxR w b v so si) (hb : Below w.heap.size w w') : BoxR w' b v so si := by
  have hl := h.lt
  exact ⟨Nat.lt_of_lt_of_le hl hb.size, (hb.cell (p := ⟨b, 0, none⟩) (by show b < _; omega)).trans h.x0, (hb.cell (p := ⟨b, 1, none⟩) (by show b < _; omega)).trans h.x1, (hb.cell (p := ⟨b, 2, none⟩) (by show b < _; omega)).trans h.x2,
    (hb.cell (p := ⟨b + 1, 0, none⟩) hl).trans h.y0, (hb.cell (p := ⟨b + 1, 1, none⟩) hl).trans h.y1, (hb.cell (p := ⟨b + 1, 2, none⟩) hl).trans h.y2,
    (hb.frozen (p := ⟨b + 1, 0, none⟩) hl).trans h.g0, (hb.frozen (p := ⟨b + 1, 1, none⟩) hl).trans h.g1, (hb.frozen (p := ⟨b + 1, 2, none⟩) hl).trans h.g2⟩
theorem ResT.kept {w w' : World} {lo hi : Nat} {so si : Value} {bo bi : List Blk} {row : Option Nat} (h : ResT w lo hi so bo si bi) (hg : w.grownBy w' row) (hr : ∀ r, row = some r → r < lo) : ResT w' lo hi so bo si bi := by
  obtain ⟨a, b, c, d, ha, hb, hc, hd, hx, r1, r2⟩ := h
  exact ⟨a, b, c, d, ha, hb, hc, hd, hx, r1.kept hg (fun r e => by have := hr r e; omega), r2.kept hg (fun r e => by have := hr r e; omega)⟩
def set3 (W : World) (b : Nat) (u v x : Value) : World := ((W.setCell ⟨b, 0, none⟩ u).setCell ⟨b, 1, none⟩ v).setCell ⟨b, 2, none⟩ x
theorem set3_gb (W : World) (b : Nat) (u v x : Value) : W.grownBy (set3 W b u v x) (some b) := only_setCell (only_setCell (only_setCell (only_refl W (some b)) rfl u) rfl v) rfl x
theorem RTrd.of {w W : World} {lo : Nat} {so si : Value} {r : Int × (List Blk × List Blk) × Int} {p κ : Int} (hB : Below w.heap.size w W) (hr : ResT W lo W.heap.size so r.2.1.1 si r.2.1.2) (hlo : w.heap.size + 1 < lo) (h1 : p = r.1) (h2 : κ = r.2.2) (u v x : Value) :
    RTrd r w (.returned (.tuple #[.agg #[.int .i64 p, so, si], .int .i64 κ])) (set3 W (w.heap.size + 1) u v x) := by
  subst h1 h2
  have hg := set3_gb W (w.heap.size + 1) u v x
  refine ⟨so, si, rfl, ?_, hB.grown hg hB.size (fun r e => by cases e; omega)⟩
  have e : (set3 W (w.heap.size + 1) u v x).heap.size = W.heap.size := by simp [set3]
  rw [e]
  exact (hr.kept hg (fun r e => by cases e; omega)).wide (by omega) (Nat.le_refl _)
theorem RTrd.no {w W : World} (hB : Below w.heap.size w W) (κ : Int) (u v x : Value) : RTrd (0, ([], []), κ) w (.returned (.tuple #[.agg #[.int .i64 0, .slice none 0 0, .slice none 0 0], .int .i64 κ])) (set3 W (w.heap.size + 1) u v x) := by
  have hg := set3_gb W (w.heap.size + 1) u v x
  refine ⟨_, _, rfl, ?_, hB.grown hg hB.size (fun r e => by cases e; omega)⟩
  have := ResT.nil (set3 W (w.heap.size + 1) u v x) (set3 W (w.heap.size + 1) u v x).heap.size
  exact this.wide (Nat.le_trans hB.size hg.size) (Nat.le_refl _)
theorem cloneRR {W0 W1 : World} {u : Value} {bs : List Blk} (h : OwnR W1 W0.heap.size u bs) : ResR W1 W0.heap.size W1.heap.size u bs := h.res
end Go.Proofs.Ytiomdfhhejdoiaa

namespace Go.Proofs.Ytiomdfhhejdoiaa
open Go.RowKit Go.Maps
theorem wpList_append_blk_at {w : World} {ops : Array Oper} {rest : List Oper} {o : Oper} {a : Act} {Q : Exit → Act → World → Prop} (hgd : o.guard = none) (s x : Operand)
    (ho : o.op = .call { callee := .builtin .append, args := #[s, x], argTypes := #[29, 29] })
    (base : Nat) (v : Value) (bs : List Blk) (hs : a.eval s = v) (hown : OwnR w base v bs) (b0 c : Nat) (y : Blk) (hx : a.eval x = .slice (some ⟨b0, 0, none⟩) 1 c)
    (c1 : w.cell? ⟨b0, 0, none⟩ = some (.int .i64 y.a)) (c2 : w.cell? ⟨b0, 1, none⟩ = some (.int .i64 y.b)) (c3 : w.cell? ⟨b0, 2, none⟩ = some (.int .i64 y.c))
    (hl : bs.length ≤ 1100000) (hbase : base ≤ w.heap.size)
    (h : ∀ (g cap : Nat) (w' : World), OwnR w' base (.slice (some ⟨g, 0, none⟩) (bs.length + 1) cap) (bs ++ [y]) → w.grownBy w' v.ownBlock → (v.ownBlock = some g ∨ g = w.heap.size) → wpList Try.prog ops Q rest (a.put o.dst (.slice (some ⟨g, 0, none⟩) (bs.length + 1) cap)) w') : wpList Try.prog ops Q (o :: rest) a w := by
  obtain ⟨i0, hi, hz0, hz1, hz2⟩ := info_parts infoBlock
  refine wpList_append_own_at w hgd s x 29 ho base 68 i0 _ 3 24 Try.underlying29 hi hz0 hz1 hz2 rfl (by decide) v bs.length (bs.flatMap cells3) hs hown ⟨b0, 0, none⟩ 1 c (cells3 y) hx rfl ?_ ?_ (by unfold maxLen; omega) (by omega) hbase ?_
  · intro j u hj
    rw [addr_at, Nat.zero_add]
    match j, hj with
    | 0, hj => simp [cells3] at hj; rw [← hj]; exact c1
    | 1, hj => simp [cells3] at hj; rw [← hj]; exact c2
    | 2, hj => simp [cells3] at hj; rw [← hj]; exact c3
    | j + 3, hj => simp [cells3] at hj
  · intro u hu
    simp [cells3] at hu
    rcases hu with rfl | rfl | rfl <;> rfl
  · intro v' w' hown' hg _ hob
    obtain ⟨g, cap, rfl⟩ := row_some hown'
    refine h g cap w' ?_ hg ?_
    · unfold OwnR
      rw [List.length_append, List.length_singleton, List.flatMap_append, List.flatMap_singleton]
      exact hown'
    · rcases hob with e | e
      · exact .inl (by rw [← e]; rfl)
      · exact .inr (by simpa [Value.ownBlock] using e)
theorem wpList_append_blk2_at {w : World} {ops : Array Oper} {rest : List Oper} {o : Oper} {a : Act} {Q : Exit → Act → World → Prop} (hgd : o.guard = none) (s x : Operand)
    (ho : o.op = .call { callee := .builtin .append, args := #[s, x], argTypes := #[29, 29] })
    (base : Nat) (v : Value) (bs : List Blk) (hs : a.eval s = v) (hown : OwnR w base v bs) (b0 c : Nat) (y z : Blk) (hx : a.eval x = .slice (some ⟨b0, 0, none⟩) 2 c)
    (c1 : w.cell? ⟨b0, 0, none⟩ = some (.int .i64 y.a)) (c2 : w.cell? ⟨b0, 1, none⟩ = some (.int .i64 y.b)) (c3 : w.cell? ⟨b0, 2, none⟩ = some (.int .i64 y.c))
    (c4 : w.cell? ⟨b0, 3, none⟩ = some (.int .i64 z.a)) (c5 : w.cell? ⟨b0, 4, none⟩ = some (.int .i64 z.b)) (c6 : w.cell? ⟨b0, 5, none⟩ = some (.int .i64 z.c))
    (hl : bs.length ≤ 1100000) (hbase : base ≤ w.heap.size)
    (h : ∀ (g cap : Nat) (w' : World), OwnR w' base (.slice (some ⟨g, 0, none⟩) (bs.length + 2) cap) (bs ++ [y, z]) → w.grownBy w' v.ownBlock → (v.ownBlock = some g ∨ g = w.heap.size) → wpList Try.prog ops Q rest (a.put o.dst (.slice (some ⟨g, 0, none⟩) (bs.length + 2) cap)) w') : wpList Try.prog ops Q (o :: rest) a w := by
  obtain ⟨i0, hi, hz0, hz1, hz2⟩ := info_parts infoBlock
  refine wpList_append_own_at w hgd s x 29 ho base 68 i0 _ 3 24 Try.underlying29 hi hz0 hz1 hz2 rfl (by decide) v bs.length (bs.flatMap cells3) hs hown ⟨b0, 0, none⟩ 2 c (cells3 y ++ cells3 z) hx rfl ?_ ?_ (by unfold maxLen; omega) (by omega) hbase ?_
  · intro j u hj
    rw [addr_at, Nat.zero_add]
    match j, hj with
    | 0, hj => simp [cells3] at hj; rw [← hj]; exact c1
    | 1, hj => simp [cells3] at hj; rw [← hj]; exact c2
    | 2, hj => simp [cells3] at hj; rw [← hj]; exact c3
    | 3, hj => simp [cells3] at hj; rw [← hj]; exact c4
    | 4, hj => simp [cells3] at hj; rw [← hj]; exact c5
    | 5, hj => simp [cells3] at hj; rw [← hj]; exact c6
    | j + 6, hj => simp [cells3] at hj
  · intro u hu
    simp [cells3] at hu
    rcases hu with rfl | rfl | rfl | rfl | rfl | rfl <;> rfl
  · intro v' w' hown' hg _ hob
    obtain ⟨g, cap, rfl⟩ := row_some (k := bs.length + 1) hown'
    refine h g cap w' ?_ hg ?_
    · unfold OwnR
      rw [List.length_append, List.flatMap_append]
      simpa using hown'
    · rcases hob with e | e
      · exact .inl (by rw [← e]; rfl)
      · exact .inr (by simpa [Value.ownBlock] using e)
/-- Two lists of the call's own, apart. -/
structure TwoR (w : World) (base : Nat) (s : Value) (bs : List Blk) (t : Value) (cs : List Blk) : Prop where
  one : OwnR w base s bs
  two : OwnR w base t cs
  ne : ∀ r, s.ownBlock = some r → t.ownBlock ≠ some r
theorem OwnR.lt {w : World} {base : Nat} {s : Value} {bs : List Blk} (h : OwnR w base s bs) : ∀ r, s.ownBlock = some r → base ≤ r ∧ r < w.heap.size := fun r e => by
  rcases h.2 with ⟨hv, h0⟩ | ⟨g, cap, cur, hv, hb, hcur, hrest⟩
  · rw [hv] at e; simp [Value.ownBlock] at e
  · rw [hv] at e
    obtain rfl : g = r := by simpa [Value.ownBlock] using e
    exact ⟨hb, (Array.getElem?_eq_some_iff.1 hcur).1⟩
theorem TwoR.swap {w : World} {base : Nat} {s t : Value} {bs cs : List Blk} (h : TwoR w base s bs t cs) : TwoR w base t cs s bs := ⟨h.two, h.one, fun r e1 e2 => h.ne r e2 e1⟩
theorem OwnR.apart {w w' : World} {base : Nat} {s : Value} {bs : List Blk} {row : Option Nat} (h : OwnR w base s bs) (hg : w.grownBy w' row) (hr : ∀ r, s.ownBlock = some r → row ≠ some r) : OwnR w' base s bs :=
  World.ownsRow.kept h hg (by
    cases e : s.ownBlock with
    | none => exact .inl rfl
    | some r => exact .inr fun e2 => hr r e e2.symm)
theorem TwoR.grow {w w' : World} {base : Nat} {s t u : Value} {bs cs ds : List Blk} (h : TwoR w base s bs t cs) (hu : OwnR w' base u ds) (hg : w.grownBy w' s.ownBlock) (ho : u.ownBlock = s.ownBlock ∨ (∀ r, u.ownBlock = some r → w.heap.size ≤ r)) : TwoR w' base u ds t cs := by
  refine ⟨hu, h.two.apart hg fun r e1 e2 => h.ne r e2 e1, fun r e1 e2 => ?_⟩
  rcases ho with e | e
  · exact h.ne r (by rw [← e]; exact e1) e2
  · have h1 := e r e1
    have h2 := (h.two.lt r e2).2
    omega
theorem TwoR.below {w w' : World} {base : Nat} {s t : Value} {bs cs : List Blk} (h : TwoR w base s bs t cs) (hb : Below w.heap.size w w') : TwoR w' base s bs t cs :=
  ⟨h.one.below hb (Nat.le_refl _), h.two.below hb (Nat.le_refl _), h.ne⟩
theorem own_at {g n c w0 : Nat} {v : Value} (h : v.ownBlock = some g ∨ g = w0) : (Value.slice (some ⟨g, 0, none⟩) n c).ownBlock = v.ownBlock ∨ (∀ r, (Value.slice (some ⟨g, 0, none⟩) n c).ownBlock = some r → w0 ≤ r) := by
  rcases h with h | h
  · exact .inl (by rw [h]; rfl)
  · refine .inr fun r e => ?_
    simp [Value.ownBlock] at e
    omega
set_option maxRecDepth 100000 in
theorem tradeFrom_any (v : Int) (base : Nat) (s t : Value) (bs cs : List Blk) (w : World) (h : TwoR w base s bs t cs) (hl : bs.length ≤ 1100000) (hk : cs.length ≤ 1100000) (hb : base ≤ w.heap.size) :
    Calls Try.prog 117 #[.int .i64 v, s, t] w fun e w' => e = .returned (.agg #[.int .i64 v, s, t]) ∧ TwoR w' base s (sortB bs) t (sortB cs) ∧ Below base w w' := by
  have hb0 : Below w.heap.size w (w.alloc (.cells #[.int .i64 0, .slice none 0 0, .slice none 0 0] 92)) := (Below.refl _ _).alloc (Nat.le_refl _) _
  have h1 := h.below hb0
  have HS := Lib.hid (sortFunc_any base s bs _ h1.one hl)
  have HT := Lib.hid fun W (hW : OwnR W base t cs) => sortFunc_any base t cs W hW hk
  have H1 := Lib.hid h1
  obtain ⟨a, c, hs⟩ := h.one.formS
  obtain ⟨a', c', ht⟩ := h.two.formS
  have hlts := h.one.lt
  have hltt := h.two.lt
  have HB0 := Lib.hid (show Below base w (w.alloc (.cells #[.int .i64 0, .slice none 0 0, .slice none 0 0] 92)) from (Below.refl _ _).alloc hb _)
  have HLS := Lib.hid hlts
  have HLT := Lib.hid hltt
  clear h h1 hb0 hlts hltt
  subst hs
  subst ht
  go_enter Try.func117, Try.ntmps117
  go_wp2_with fail
  refine HS.out.mono ?_
  rintro e w1 ⟨rfl, ho1, hg1⟩
  have h2 := H1.out.grow ho1 hg1 (.inl rfl)
  have H2 := Lib.hid h2
  have d0 : w1.cell? ⟨w.heap.size, 0, none⟩ = some (.int .i64 0) := hg1.cell (by simp [go_sem]) (fun e => by have := (HLS.out _ e.symm).2; simp at this)
  have d1 : w1.cell? ⟨w.heap.size, 1, none⟩ = some (.slice none 0 0) := hg1.cell (by simp [go_sem]) (fun e => by have := (HLS.out _ e.symm).2; simp at this)
  have d2 : w1.cell? ⟨w.heap.size, 2, none⟩ = some (.slice none 0 0) := hg1.cell (by simp [go_sem]) (fun e => by have := (HLS.out _ e.symm).2; simp at this)
  have hblk := hg1.block w.heap.size (by simp) (fun e => by have := HLS.out _ e.symm; omega)
  have f0 : w1.frozen? ⟨w.heap.size, 0, none⟩ = false := (World.frozen?_of_block (a := ⟨w.heap.size, 0, none⟩) hblk).trans (by simp [go_sem])
  have f1 : w1.frozen? ⟨w.heap.size, 1, none⟩ = false := (World.frozen?_of_block (a := ⟨w.heap.size, 1, none⟩) hblk).trans (by simp [go_sem])
  have f2 : w1.frozen? ⟨w.heap.size, 2, none⟩ = false := (World.frozen?_of_block (a := ⟨w.heap.size, 2, none⟩) hblk).trans (by simp [go_sem])
  have hz1 := hg1.size
  simp at hz1
  have HB1 := Lib.hid (HB0.out.grown hg1 (by have := HB0.out.size; omega) (fun j e => (HLS.out j e).1))
  clear ho1 hg1 h2 hblk
  go_wp2_with fail
  refine (HT.out _ H2.out.two).mono ?_
  rintro e w2 ⟨rfl, ho2, hg2⟩
  have h3 := (H2.out.swap.grow ho2 hg2 (.inl rfl)).swap
  have H3 := Lib.hid h3
  have e0 : w2.cell? ⟨w.heap.size, 0, none⟩ = some (.int .i64 0) := hg2.cell d0 (fun e => by have := (HLT.out _ e.symm).2; simp at this)
  have e1 : w2.cell? ⟨w.heap.size, 1, none⟩ = some (.slice none 0 0) := hg2.cell d1 (fun e => by have := (HLT.out _ e.symm).2; simp at this)
  have e2 : w2.cell? ⟨w.heap.size, 2, none⟩ = some (.slice none 0 0) := hg2.cell d2 (fun e => by have := (HLT.out _ e.symm).2; simp at this)
  have hblk := hg2.block w.heap.size (by omega) (fun e => by have := HLT.out _ e.symm; omega)
  have k0 : w2.frozen? ⟨w.heap.size, 0, none⟩ = false := (World.frozen?_of_block (a := ⟨w.heap.size, 0, none⟩) hblk).trans f0
  have k1 : w2.frozen? ⟨w.heap.size, 1, none⟩ = false := (World.frozen?_of_block (a := ⟨w.heap.size, 1, none⟩) hblk).trans f1
  have k2 : w2.frozen? ⟨w.heap.size, 2, none⟩ = false := (World.frozen?_of_block (a := ⟨w.heap.size, 2, none⟩) hblk).trans f2
  have HB2 := Lib.hid (HB1.out.grown hg2 (by have := HB1.out.size; omega) (fun j e => (HLT.out j e).1))
  clear ho2 hg2 h3 hblk d0 d1 d2 f0 f1 f2
  go_wp2
  refine bodyPost_ret (v := .agg #[.int .i64 v, .slice a bs.length c, .slice a' cs.length c']) (by simp [results, Try.results117, go_sem, *]) rfl ⟨rfl, ?_, ?_⟩
  · have hg := set3_gb w2 w.heap.size (.int .i64 v) (.slice a bs.length c) (.slice a' cs.length c')
    exact ⟨H3.out.one.apart hg (fun r e1 e2 => by cases e2; have := HLS.out _ e1; omega), H3.out.two.apart hg (fun r e1 e2 => by cases e2; have := HLT.out _ e1; omega), H3.out.ne⟩
  · exact HB2.out.grown (set3_gb w2 w.heap.size (.int .i64 v) (.slice a bs.length c) (.slice a' cs.length c')) (by have := HB2.out.size; omega) (fun j e => by cases e; exact hb)
end Go.Proofs.Ytiomdfhhejdoiaa

namespace Go.Proofs.Ytiomdfhhejdoiaa
open Go.RowKit Go.Maps Go.Shelf
attribute [local go_sem] Oper.semAt_some
/-- The blocks that are free of the pairs of bs. -/
def frL (bs : List Blk) (pre : List WB) : List Blk := (pre.map (·.1)).filter (freeB (bs.flatMap pairsL))
theorem frL_snoc (bs : List Blk) (pre : List WB) (x : WB) : frL bs (pre ++ [x]) = frL bs pre ++ if freeB (bs.flatMap pairsL) x.1 then [x.1] else [] := by
  unfold frL
  rw [List.map_append, List.filter_append]
  congr 1
  simp [List.filter_cons]
theorem frL_len (bs : List Blk) (pre : List WB) : (frL bs pre).length ≤ pre.length := by
  unfold frL
  refine Nat.le_trans (List.length_filter_le _ _) ?_
  simp
theorem own_ne {W : World} {n₁ : Nat} {e : TypeId} {size : Nat} {v : Value} {k : Nat} {xs : List Value} (hrow : W.ownsRow n₁ e size v k xs) {j : Nat} (hj : j < n₁) : some j ≠ v.ownBlock := fun ej => by
  rcases hrow.2 with ⟨rfl, _⟩ | ⟨g, cap, cur, rfl, hb, _, _⟩
  · simp [Value.ownBlock] at ej
  · obtain rfl : j = g := by simpa [Value.ownBlock] using ej
    omega
theorem cell_three_new (W : World) (y : Blk) (T : TypeId) : ∀ j u, (cells3 y)[j]? = some u → (W.alloc (.cells #[.int .i64 y.a, .int .i64 y.b, .int .i64 y.c] T)).cell? ((⟨W.heap.size, 0, none⟩ : Addr).add j) = some u := by
  intro j u hj
  rw [addr_at, Nat.zero_add]
  match j, hj with
  | 0, hj => simp [cells3] at hj; rw [← hj]; exact new_at 0 rfl
  | 1, hj => simp [cells3] at hj; rw [← hj]; exact new_at 1 rfl
  | 2, hj => simp [cells3] at hj; rw [← hj]; exact new_at 2 rfl
  | j + 3, hj => simp [cells3] at hj
set_option maxRecDepth 100000 in
set_option maxHeartbeats 2000000 in
theorem FreeBlocks_main (v : Int) (s : Value) (bs : List Blk) (w : World) (h : SB w s bs) (hi : isSysImpl v bs = true) :
    Calls Try.prog 52 #[.agg #[.int .i64 v, s]] w fun e w' => ∃ u, e = .returned (.tuple #[u, .int .i64 0]) ∧ OwnR w' w.heap.size u ((rowA v.toNat v.toNat).filter (freeB (bs.flatMap pairsL))) ∧ Below w.heap.size w w' := by
  have hs := h.slice
  have HI := Lib.hid fun W (hb : Below w.heap.size w W) => IsSystem_any v s bs W (h.below hb (Nat.le_refl _))
  rw [hi] at HI
  obtain ⟨hv3, hv15, hb35⟩ := sys_size hi
  obtain ⟨vn, hvn⟩ : ∃ vn : Nat, (vn : Int) = v := ⟨v.toNat, by omega⟩
  have hvt : v.toNat = vn := by omega
  rw [hvt]
  clear hvt
  have HP := Lib.hid fun W (hb : Below w.heap.size w W) => pairsIn_any s bs W (h.below hb (Nat.le_refl _)) (by omega)
  have HL := Lib.hid h.2.1
  clear h hi
  obtain ⟨a0, c0, rfl⟩ := hs
  obtain ⟨i0, hinf, hz0, hz1, hz2⟩ := info_parts infoBlock
  have HIF := Lib.hid hinf
  have hro : Fence.wide.round = none := rfl
  refine (callsIn_wide (n := 9)).1 ?_
  refine callsIn_of_wp_marks Try.func52 rfl trivial ?_ hro
  simp only [Try.ntmps52, List.size_toArray, List.length_cons, List.length_nil, Nat.reduceAdd, Nat.reduceSub, Array.replicate_succ, Array.replicate_zero, List.push_toArray, List.append_toArray, List.nil_append, List.cons_append]
  gi_wp2_with (first
    | (refine ⟨trivial, ?_⟩; gi_at_call 63; refine (callsIn_wide.2 (HI.out _ ((Below.refl _ _).alloc (Nat.le_refl _) _))).mono ?_; rintro e w1 ⟨rfl, hb1⟩; have q0 := cell_new hb1 0 rfl; have q1 := cell_new hb1 1 rfl; have hlt1 := lt_new hb1; have hbw := below_new hb1)
    | (refine ⟨trivial, ?_⟩; gi_at_call 57; refine (callsIn_wide.2 (HP.out _ hbw)).mono ?_; rintro e w2 ⟨rfl, hS, hb2⟩; have q0' := (hb2.cell (p := ⟨w.heap.size, 0, none⟩) hlt1).trans q0; have hlt2 := hS.lt; have hlt3 : w.heap.size < w2.heap.size := Nat.lt_trans hlt1 hlt2; have hbw2 := hbw.trans (hb2.mono hbw.size))
    | (refine ⟨trivial, ?_⟩; gi_at_call 85; refine (callsIn_wide.2 (allBlocks_any _ _)).mono ?_; rintro e w3 ⟨rfl, rfl⟩))
  have hsW := hbw2.size
  have b4 := ((Boxed.new w2 71 (.map (some w1.heap.size))).alloc (.cells #[.slice none 0 0] 29)).alloc (.cells #[.int .i64 v] 2)
  have b5 := (Boxed.new (w2.alloc (.cells #[.map (some w1.heap.size)] 71)) 29 (.slice none 0 0)).alloc (.cells #[.int .i64 v] 2)
  rw [World.size_alloc] at b5
  have hB0 : Below w.heap.size w (((w2.alloc (.cells #[.map (some w1.heap.size)] 71)).alloc (.cells #[.slice none 0 0] 29)).alloc (.cells #[.int .i64 v] 2)) := ((hbw2.alloc hsW _).alloc (by simp; omega) _).alloc (by simp; omega) _
  have hS0 := ((hS.alloc (.cells #[.map (some w1.heap.size)] 71)).alloc (.cells #[.slice none 0 0] 29)).alloc (.cells #[.int .i64 v] 2)
  have hp : (((w2.alloc (.cells #[.map (some w1.heap.size)] 71)).alloc (.cells #[.slice none 0 0] 29)).alloc (.cells #[.int .i64 v] 2)).cell? ⟨w2.heap.size + 1 + 1, 0, none⟩ = some (.int .i64 (vn : Int)) := by
    have := new_at (w := (w2.alloc (.cells #[.map (some w1.heap.size)] 71)).alloc (.cells #[.slice none 0 0] 29)) (cs := #[.int .i64 v]) (T := 2) 0 rfl
    simp only [World.size_alloc] at this
    rw [hvn]
    exact this
  have hsz0 : (((w2.alloc (.cells #[.map (some w1.heap.size)] 71)).alloc (.cells #[.slice none 0 0] 29)).alloc (.cells #[.int .i64 v] 2)).heap.size = w2.heap.size + 1 + 1 + 1 := by simp
  obtain ⟨W0, hW0⟩ : ∃ W0, (((w2.alloc (.cells #[.map (some w1.heap.size)] 71)).alloc (.cells #[.slice none 0 0] 29)).alloc (.cells #[.int .i64 v] 2)) = W0 := ⟨_, rfl⟩
  rw [hW0] at b4 b5 hB0 hS0 hp hsz0 ⊢
  clear hW0 q0 q0' q1 HI HP hS hb2 hbw
  refine wpIn_rangeFunc_ownH hro (by omega) (gf := 118) (lb := #[.pointer (some ⟨w2.heap.size + 1 + 1, 0, none⟩)]) rfl trivial (enters_of Try.func118 (by kernel_rfl) rfl)
    (all_stops (9 - 1) (by omega) (w2.heap.size + 1 + 1) vn (by omega) w.heap.size W0 hp (by omega)) KpB.trans (KpB.put (by omega)) (Below.refl _ _) (fun _ => rfl)
    (fun pre W => ((∃ u, Boxed W (w2.heap.size + 1) 29 u ∧ W.ownsRow W0.heap.size 68 3 u (frL bs pre).length ((frL bs pre).flatMap cells3) ∧ True) ∧ Boxed W w2.heap.size 71 (.map (some w1.heap.size)) ∧ BoolSet W Try.prog 75 4 w1.heap.size (3 * bs.length) ((bs.flatMap pairsL).map pv)) ∧ Below w.heap.size W0 W)
    (fun _ _ _ => False)
    (OwnFrom.and (OwnFrom.and (Own.from (holdsRow_own W0.heap.size (w2.heap.size + 1) 29 68 3 (fun pre => (frL bs pre).length) (fun pre => (frL bs pre).flatMap cells3) (fun _ _ => True)) _) (OwnFrom.and (Own.from (boxed_own _ _ _) _) (fun s A B row hs hg hr => hs.kept hg (fun e => by have := (hr _ e.symm).1; omega)))) (ownFrom_below (by omega) (by omega)))
    (fun _ _ _ _ _ hs _ _ => hs)
    ⟨⟨⟨_, b5, World.ownsRow_nil _ _ _ _, trivial⟩, b4, hS0⟩, Below.refl _ _⟩
    (fun x a' W => ∃ Bx, B3 W Bx x.1 ∧ a' = { tmps := #[.agg #[.int .i64 v, .slice a0 bs.length c0], .pointer (some ⟨w.heap.size, 0, none⟩), .slice none 0 0, .int .i64 0, .pointer (some ⟨w2.heap.size, 0, none⟩), .pointer (some ⟨w2.heap.size + 1, 0, none⟩), .pointer (some ⟨Bx, 0, none⟩), .agg #[.int .i64 v, .slice a0 bs.length c0], .bool true, .bool false, .pointer (some ⟨w.heap.size, 1, none⟩), .slice a0 bs.length c0, .map (some w1.heap.size), .pointer (some ⟨w.heap.size, 0, none⟩), .int .i64 v, .func (.func 118) #[] #[.pointer (some ⟨w2.heap.size + 1 + 1, 0, none⟩)], bv x.1, undef, undef, undef, undef, undef, undef, undef, undef], defers := [] })
    (fun x a' _ X Y row hs hg hr => by obtain ⟨Bx, h1, h2⟩ := hs; exact ⟨Bx, B3.own Bx x.1 () X Y row h1 hg (fun r e => (hr r e).2), h2⟩)
    ?assign ?body ?done ?stop
  case assign =>
    rintro l pre x W K ⟨⟨⟨u, hv, hrow, _⟩, d4, hS⟩, hB⟩ hK
    have hsW2 := hB.size
    dsimp only [bv]
    gi_wp2
    exact hK _ _ ((KeepsOthers.alloc _ _).from _) (KpB.alloc (by omega) _) ⟨⟨⟨u, hv.alloc _, hrow.alloc _, trivial⟩, d4.alloc _, hS.alloc _⟩, hB.alloc (by omega) _⟩ ⟨W.heap.size, World.alloc_heap_new W _, rfl⟩
  case body =>
    rintro l pre x a' W hl ⟨r, hr⟩ ⟨⟨⟨u, hv, hrow, _⟩, d4, hS⟩, hB⟩ ⟨Bx, bX, rfl⟩ hlt
    have hc4 := d4.cell
    have hpl : (frL bs pre).length + 1 ≤ 5000 := by have := frL_len bs pre; omega
    have hml : 1100000 ≤ maxLen := by decide
    have hinf := HIF.out
    have hsB := hB.size
    have hd : 1 ≤ 9 - 1 - 1 := by omega
    have hsn := frL_snoc bs pre x
    have hfb := isBlockFree_any w1.heap.size (3 * bs.length) (bs.flatMap pairsL) x.1 x.2 W hS
    have hin : (Below W.heap.size W W → True) := fun _ => trivial
    clear hin
    obtain ⟨⟨y1, y2, y3⟩, hwf⟩ := x
    obtain ⟨x1, x2, x3⟩ := bX.cells
    have hBx := bX.lt
    dsimp only [bv] at hfb x1 x2 x3
    have HSN := Lib.hid hsn
    clear hsn
    cases hfr : freeB (bs.flatMap pairsL) ⟨y1, y2, y3⟩ with
    | false =>
      rw [hfr] at hfb HSN
      have HFB := Lib.hid hfb
      clear hfb
      gi_wp2_with (refine ⟨trivial, ?_⟩; gi_at_call 58; refine (CallsIn.inRound l (callsIn_wide.2 HFB.out)).mono ?_; rintro e W3 ⟨rfl, hb3⟩)
      have hg := gb_below hb3
      have hown : u.ownBlock = none ∨ u.ownBlock ≠ none := Classical.em _
      exact ⟨KeepsFrom.of_grownBy hg (by simp), ⟨hb3.mono (by omega), fun z hz => (hb3.cell (p := ⟨_, 0, none⟩) (by obtain ⟨ob, ho, _⟩ := cells_of_cell hz; exact (Array.getElem?_eq_some_iff.1 ho).1)).trans hz⟩, ⟨⟨u, hv.kept hg (by simp), by rw [HSN.out, if_neg (by decide), List.append_nil]; exact hrow.kept hg hown, trivial⟩, d4.kept hg (by simp), hS.kept hg (by simp)⟩, hB.trans (hb3.mono (by omega))⟩
    | true =>
      rw [hfr, if_pos rfl] at HSN
      rw [hfr] at hfb
      have HFB := Lib.hid hfb
      clear hfb
      gi_wp2_with (first
        | (refine ⟨trivial, ?_⟩; gi_at_call 58; refine (CallsIn.inRound l (callsIn_wide.2 HFB.out)).mono ?_; rintro e W3 ⟨rfl, hb3⟩; have hg := gb_below hb3; have hv3 := hv.kept hg (by simp); have hc5 := hv3.cell; have hrow3 := hrow.kept hg (Classical.em _); have z1 := (hb3.cell (p := ⟨Bx, 0, none⟩) hBx).trans x1; have z2 := (hb3.cell (p := ⟨Bx, 1, none⟩) hBx).trans x2; have z3 := (hb3.cell (p := ⟨Bx, 2, none⟩) hBx).trans x3; have hz3 := hb3.size)
        | (gi_at_builtin; refine wpListIn_append_own _ rfl _ _ 29 rfl W0.heap.size 68 i0 _ 3 24 Try.underlying29 hinf hz0 hz1 hz2 rfl (by decide) _ _ _ rfl (hrow3.alloc _) ⟨W3.heap.size, 0, none⟩ 1 1 (cells3 ⟨y1, y2, y3⟩) rfl rfl (cell_three_new W3 ⟨y1, y2, y3⟩ _) (by intro u hu; simp [cells3] at hu; rcases hu with rfl | rfl | rfl <;> rfl) (by omega) (by omega) (by simp; omega) ?_; intro v' w4 hown' hgrow _; obtain ⟨g', cap', rfl⟩ := ownsRow_succ hown'; obtain ⟨hv1, hv2, hr2, hk2, hb2⟩ := appended2 (n := w.heap.size) (Bp := w2.heap.size + 1 + 1) hv3 (by decide) hrow3 (by omega) (by omega) (by omega) (by omega) (by omega) hown' hgrow; have hc1 := hv1.cell; have hf1 := hv1.frozen))
      have n4 := own_ne hrow3 (show w2.heap.size < W0.heap.size by omega)
      have n1 := own_ne hrow3 (show w1.heap.size < W0.heap.size by omega)
      have d4' := (((d4.kept hg (by simp)).alloc (.cells #[.int .i64 y1, .int .i64 y2, .int .i64 y3] 68)).kept hgrow n4).other (B' := w2.heap.size + 1) (by omega) (.slice (some ⟨g', 0, none⟩) ((frL bs pre).length + 1) cap')
      have hS' := (((hS.kept hg (by simp)).alloc (.cells #[.int .i64 y1, .int .i64 y2, .int .i64 y3] 68)).kept hgrow n1).setCell (a := ⟨w2.heap.size + 1, 0, none⟩) (by simp; omega) (.slice (some ⟨g', 0, none⟩) ((frL bs pre).length + 1) cap')
      refine ⟨(KeepsFrom.of_grownBy hg (by simp)).trans (hk2.from _), KpB.trans ⟨hb3.mono (by omega), fun z hz => (hb3.cell (p := ⟨_, 0, none⟩) (by obtain ⟨ob, ho, _⟩ := cells_of_cell hz; exact (Array.getElem?_eq_some_iff.1 ho).1)).trans hz⟩ hb2, ⟨⟨_, hv2, ?_, trivial⟩, d4', hS'⟩, (hB.trans (hb3.mono (by omega))).trans hb2.1⟩
      rw [HSN.out, List.length_append, List.flatMap_append]
      simpa using hr2
  case done =>
    rintro D ys W hD hys ⟨⟨⟨u, hv, hrow, _⟩, d4, hS⟩, hB⟩ hK
    have hc := hv.cell
    have he : frL bs ys = (rowA vn vn).filter (freeB (bs.flatMap pairsL)) := by unfold frL; rw [hys]
    rw [he] at hrow
    gi_wp2
    refine ⟨by simp, .inl ⟨_, _, rfl, run_takeDeferred hK, ?_⟩⟩
    exact ⟨_, by simp [results, Try.f52, go_sem], u, rfl, ownsRow_base (ownsRow_putObj hrow _ hK rfl) (by omega), (hB0.trans hB).trans (belowK_b (w := w) (Nat.le_refl _) W D _ _ (by omega) hK rfl rfl)⟩
  case stop =>
    rintro D c pre W _ _ h _
    exact h.elim
end Go.Proofs.Ytiomdfhhejdoiaa

namespace Go.Proofs.Ytiomdfhhejdoiaa
open Go.RowKit Go.Maps
theorem rowA_good {v : Nat} {x : Blk} (h : x ∈ rowA v v) : goodB (v : Int) x = true := by
  unfold rowA at h
  obtain ⟨t, ht, h⟩ := List.mem_flatMap.1 h
  unfold rowB at h
  obtain ⟨t', ht', h⟩ := List.mem_flatMap.1 h
  unfold rowC at h
  obtain ⟨t'', ht'', rfl⟩ := List.mem_map.1 h
  rw [List.mem_range] at ht ht' ht''
  rw [goodB_iff]
  dsimp only
  omega
theorem free_rest {v : Nat} {bs : List Blk} (hb : ∀ y ∈ bs, goodB (v : Int) y = true) : (rowA v v).filter (freeB (bs.flatMap pairsL)) = restA bs v v :=
  List.filter_congr fun _ hx => okB_free hb (rowA_good hx)
def freeF (v : Int) (bs : List Blk) : List Blk × Int := if isSysImpl v bs then (restA bs v.toNat v.toNat, 0) else ([], 1)
def RK (r : List Blk × Int) (w : World) (e : Ending) (w' : World) : Prop := ∃ u, e = .returned (.tuple #[u, .int .i64 r.2]) ∧ OwnR w' w.heap.size u r.1 ∧ Below w.heap.size w w'
set_option maxRecDepth 100000 in
theorem FreeBlocks_any (v : Int) (s : Value) (bs : List Blk) (w : World) (h : SB w s bs) :
    Calls Try.prog 52 #[.agg #[.int .i64 v, s]] w (RK (freeF v bs) w) := by
  cases hi : isSysImpl v bs with
  | false =>
    have hval : freeF v bs = ([], 1) := by simp [freeF, hi]
    rw [hval]
    have hs := h.slice
    have HI := Lib.hid fun W (hb : Below w.heap.size w W) => IsSystem_any v s bs W (h.below hb (Nat.le_refl _))
    rw [hi] at HI
    clear h hval hi
    obtain ⟨a0, c0, rfl⟩ := hs
    go_enter Try.func52, Try.ntmps52
    go_wp2_with (go_at_call 63; refine (HI.out _ ((Below.refl _ _).alloc (Nat.le_refl _) _)).mono ?_; rintro e w1 ⟨rfl, hb1⟩)
    go_ret2
    exact ⟨_, rfl, OwnR.nil _ _, below_new hb1⟩
  | true =>
    have hval : freeF v bs = (restA bs v.toNat v.toNat, 0) := by simp [freeF, hi]
    rw [hval]
    have hv := sys_size hi
    have hg : ∀ y ∈ bs, goodB ((v.toNat : Nat) : Int) y = true := fun y hy => by
      rw [show ((v.toNat : Nat) : Int) = v by omega]
      exact sys_good hi y hy
    refine (FreeBlocks_main v s bs w h hi).mono ?_
    rintro e w' ⟨u, rfl, ho, hb⟩
    rw [free_rest hg] at ho
    exact ⟨u, rfl, ho, hb⟩
end Go.Proofs.Ytiomdfhhejdoiaa

namespace Go.Proofs.Ytiomdfhhejdoiaa
open Go.RowKit Go.Maps
theorem restA_good {v : Nat} {bs : List Blk} : ∀ x ∈ restA bs v v, goodB (v : Int) x = true := fun _ h => rowA_good (List.mem_filter.1 h).1
theorem good_wf {v : Int} {x : Blk} (h : goodB v x = true) (hv : v ≤ 15) : WFB x := by
  rw [goodB_iff] at h
  exact ⟨wf_pl (by omega) (by omega), wf_pl (by omega) (by omega), wf_pl (by omega) (by omega)⟩
theorem restA_len {v : Nat} (hv : v ≤ 15) (bs : List Blk) : (restA bs v v).length ≤ 4000 := by
  have h := restC_len (bs := bs) (v := v) (a := v) (b := v) (n := v + 1 - (v + 1)) hv hv hv (by omega)
  rw [restC_start, show v - (v + 1) = v + 1 - (v + 1) by omega, restB_start] at h
  exact h
set_option maxRecDepth 100000 in
set_option maxHeartbeats 4000000 in
theorem FillSystem_any (v : Int) (s : Value) (bs : List Blk) (w : World) (h : SB w s bs) :
    Calls Try.prog 24 #[.agg #[.int .i64 v, s]] w (RSys (fillF v bs) w) := by
  have hs := h.slice
  have HSB := Lib.hid h
  have hlen := h.2.1
  have HF := Lib.hid fun W (hb : Below w.heap.size w W) => FreeBlocks_any v s bs W (h.below hb (Nat.le_refl _))
  clear h
  obtain ⟨a0, c0, rfl⟩ := hs
  cases hi : isSysImpl v bs with
  | false =>
    have hval : fillF v bs = (0, [], 1) := by simp [fillF, hi]
    have e : freeF v bs = ([], 1) := by simp [freeF, hi]
    rw [hval]
    rw [e] at HF
    clear hval hi HSB e
    go_enter Try.func24, Try.ntmps24
    go_wp2_with fail
    refine (HF.out _ (below2 _ _ _ _)).mono ?_
    rintro e w1 ⟨u, rfl, ho, hb1⟩
    obtain ⟨a1, c1, rfl⟩ := ho.form
    obtain ⟨p0, p1, d0, d1, f0, f1, hbw, hlt⟩ := boxes2 hb1
    clear hb1 ho
    go_wp2
    exact bodyPost_ret (v := .tuple #[.agg #[.int .i64 0, .slice none 0 0], .int .i64 1]) (by simp [results, Try.results24, go_sem, *]) rfl ⟨_, rfl, .inl ⟨rfl, _, _, rfl⟩, below_set2 hbw (by omega) _ _⟩
  | true =>
    obtain ⟨hv3, hv15, hb35⟩ := sys_size hi
    obtain ⟨n, rfl⟩ : ∃ n : Nat, v = n := ⟨v.toNat, by omega⟩
    have e : freeF (n : Int) bs = (restA bs n n, 0) := by simp [freeF, hi]
    have hval : fillF (n : Int) bs = ((n : Int), sortB (fillGo bs (restA bs n n)), 0) := by simp [fillF, hi]
    rw [hval]
    rw [e] at HF
    have hRl := restA_len (v := n) (by omega) bs
    have HG := Lib.hid (fun x h => good_wf (restA_good (v := n) (bs := bs) x h) hv15)
    obtain ⟨R, hR⟩ : ∃ R, R = restA bs n n := ⟨_, rfl⟩
    rw [← hR] at HF hRl HG ⊢
    have HW := Lib.hid HSB.out.1
    obtain ⟨m, hm⟩ : ∃ m, m = R.length := ⟨_, rfl⟩
    rw [← hm] at hRl
    have HM := Lib.hid hm
    clear hval hi e hR hm
    go_enter Try.func24, Try.ntmps24
    go_wp2_with fail
    refine (HF.out _ (below2 _ _ _ _)).mono ?_
    rintro e w1 ⟨u, rfl, ho1, hb1⟩
    obtain ⟨a1, c1, hu⟩ := ho1.form
    rw [← HM.out] at hu
    subst hu
    obtain ⟨p0, p1, d0, d1, f0, f1, hbw, hlt⟩ := boxes2 hb1
    have HO1 := Lib.hid ho1
    have HSB1 := Lib.hid (HSB.out.below hbw (Nat.le_refl _))
    clear hb1 ho1
    go_wp2_with fail
    refine (cloneB_any _ bs _ HSB1.out.sx hlen).mono ?_
    rintro e w2 ⟨u, rfl, ho2, hb2⟩
    obtain ⟨a2, n2, hu⟩ := ho2.form
    subst hu
    have hz2 := hb2.size
    have hlt1 : w.heap.size < w1.heap.size := by omega
    have HO2 := Lib.hid ho2
    clear ho2
    go_wp2_with fail
    refine (pairsIn_any (.slice a2 bs.length n2) bs w2 ⟨HW.out, hlen, HO2.out.sx⟩ (by omega)).mono ?_
    rintro e w3 ⟨rfl, hS3, hb3⟩
    have hz3 := hS3.lt
    have hB3 : Below w1.heap.size w1 w3 := hb2.trans (hb3.mono hz2)
    have hO3 : OwnR w3 w1.heap.size (.slice a2 bs.length n2) bs := HO2.out.below hb3 (Nat.le_refl _)
    have hN3 : ∀ r, (Value.slice a2 bs.length n2).ownBlock = some r → r ≠ w2.heap.size := fun r e => by
      have := (HO2.out.lt r e).2
      omega
    obtain ⟨mb, hmb⟩ : ∃ mb, mb = w2.heap.size := ⟨_, rfl⟩
    rw [← hmb] at hS3 hz3 hN3 ⊢
    have hmb1 : w1.heap.size ≤ mb := by omega
    have HST := Lib.hid (And.intro hO3 (And.intro hN3 hS3))
    clear hb3 hmb hO3 hN3 hS3 hb2 hz2
    go_wp2_with fail
    go_loopw [6, 28] (fun o t wr => ∃ k : Nat, k ≤ m ∧ t = .int .i64 k ∧ Below w1.heap.size w1 wr ∧ OwnR wr w1.heap.size o (fillGo bs (R.take k)) ∧ (∀ r, o.ownBlock = some r → r ≠ mb) ∧ BoolSet wr Try.prog 75 4 mb (3 * (bs.length + k)) (((fillGo bs (R.take k)).flatMap pairsL).map pv) ∧ ∃ a n c, o = .slice a n c) (fun _ t _ => m - (intOf t).toNat)
    case atStart => exact ⟨0, Nat.zero_le _, rfl, hB3, by simpa [fillGo] using HST.out.1, HST.out.2.1, by simpa [fillGo] using HST.out.2.2, _, _, _, rfl⟩
    case round =>
      obtain ⟨k, hk, rfl, hB, hO, hN, hS, a3, n3, c3, rfl⟩ := hrel
      have hz := hB.size
      have hz1 : w.heap.size < wr.heap.size := by omega
      have hz4 : w.heap.size + 1 < wr.heap.size := by omega
      have r0 := (hB.cell (p := ⟨w.heap.size, 0, none⟩) hlt1).trans p0
      have hfl : (fillGo bs (R.take k)).length ≤ 5000 := by
        have h1 := fillGo_len (R.take k) bs
        have h2 : (R.take k).length ≤ k := List.length_take_le _ _
        omega
      have hmw := hS.lt
      have HO := Lib.hid hO
      have HN := Lib.hid hN
      have HSS := Lib.hid hS
      have HB := Lib.hid hB
      clear hO hN hS
      by_cases hkl : k < m
      · rcases HO1.out.sx with ⟨_, _, _, hnil⟩ | ⟨b, off, cap, hv, hblt, hbl⟩
        · have := HM.out; rw [hnil] at this; simp at this; omega
        · rw [← HM.out] at hv
          simp at hv
          obtain ⟨rfl, rfl⟩ := hv
          have hz5 : b < wr.heap.size := by omega
          obtain ⟨x, hx, ex, x1, x2, x3⟩ := blks_at (hbl.below hB hblt) (show k < R.length by rw [← HM.out]; exact hkl)
          have hwf := HG.out x hx
          have htk : R.take (k + 1) = R.take k ++ [x] := by rw [List.take_add_one, ex]; rfl
          have hsucc := fillGo_snoc x (R.take k) bs
          rw [← htk] at hsucc
          have HSU := Lib.hid hsucc
          obtain ⟨acc, hacc⟩ : ∃ acc, acc = fillGo bs (R.take k) := ⟨_, rfl⟩
          rw [← hacc] at HO HSS hfl HSU
          obtain ⟨xa, xb, xc⟩ := x
          dsimp only at x1 x2 x3
          have g0 : (0 : Int) ≤ (k : Int) := by omega
          have g1 : (k : Int) < (m : Int) := by omega
          have HFR := Lib.hid fun W (hb : Below wr.heap.size wr W) => isBlockFree_any mb (3 * (bs.length + k)) (acc.flatMap pairsL) ⟨xa, xb, xc⟩ hwf W (HSS.out.below hb hmw)
          obtain ⟨w1f, w2f, w3f⟩ := hwf
          clear hx ex hbl htk hsucc hacc hB
          cases hfr : freeB (acc.flatMap pairsL) ⟨xa, xb, xc⟩ with
          | false =>
            rw [hfr] at HFR HSU
            clear hfr
            go_wp2_with fail
            refine (HFR.out _ ((Below.refl _ _).alloc (Nat.le_refl _) _)).mono ?_
            rintro e w5 ⟨rfl, hb5⟩
            have hb6 : Below wr.heap.size wr w5 := below_new hb5
            have HB6 := Lib.hid hb6
            clear hb5 hb6
            go_wp2_with fail
            go_roundw
            case rel => exact ⟨k + 1, by omega, by go_num, HB.out.trans (HB6.out.mono hz), by rw [HSU.out]; exact HO.out.below HB6.out (Nat.le_refl _), HN.out, by rw [HSU.out]; exact (HSS.out.below HB6.out hmw).mono (by omega), _, _, _, rfl⟩
            case measure => simp [intOf]; omega
          | true =>
            rw [hfr, if_pos rfl] at HSU
            rw [hfr] at HFR
            clear hfr
            obtain ⟨k1, hk1⟩ := pv_key w1f w2f
            obtain ⟨k2, hk2⟩ := pv_key w1f w3f
            obtain ⟨k3, hk3⟩ := pv_key w2f w3f
            have HK1 := Lib.hid hk1
            have HK2 := Lib.hid hk2
            have HK3 := Lib.hid hk3
            clear hk1 hk2 hk3 w1f w2f w3f
            have i0 : ∀ w, (Instr.index 76 (.agg #[.int .i64 xa, .int .i64 xb, .int .i64 xa, .int .i64 xc, .int .i64 xb, .int .i64 xc]) (.int .i64 0)).run Try.prog w = .ok (.agg #[.int .i64 xa, .int .i64 xb]) w := fun _ => by kernel_rfl
            have i1 : ∀ w, (Instr.index 76 (.agg #[.int .i64 xa, .int .i64 xb, .int .i64 xa, .int .i64 xc, .int .i64 xb, .int .i64 xc]) (.int .i64 1)).run Try.prog w = .ok (.agg #[.int .i64 xa, .int .i64 xc]) w := fun _ => by kernel_rfl
            have i2 : ∀ w, (Instr.index 76 (.agg #[.int .i64 xa, .int .i64 xb, .int .i64 xa, .int .i64 xc, .int .i64 xb, .int .i64 xc]) (.int .i64 2)).run Try.prog w = .ok (.agg #[.int .i64 xb, .int .i64 xc]) w := fun _ => by kernel_rfl
            go_wp2_with fail
            refine (HFR.out _ ((Below.refl _ _).alloc (Nat.le_refl _) _)).mono ?_
            rintro e w5 ⟨rfl, hb5⟩
            have y1 := cell_new hb5 0 rfl
            have y2 := cell_new hb5 1 rfl
            have y3 := cell_new hb5 2 rfl
            have hl5 := lt_new hb5
            have hb6 : Below wr.heap.size wr w5 := below_new hb5
            have hO5 := HO.out.below hb6 (Nat.le_refl _)
            have hS5 := HSS.out.below hb6 hmw
            have hB5 := HB.out.trans (hb6.mono hz)
            have HO5 := Lib.hid hO5
            have HS5 := Lib.hid hS5
            have HB5 := Lib.hid hB5
            have hz7 := hB5.size
            clear hb5 hb6 hO5 hS5 hB5
            go_upto_region 11 with (at_builtin; refine wpList_append_blk_at rfl _ _ rfl w1.heap.size (.slice a3 n3 c3) acc rfl (HO5.out.below ((Below.refl _ _).alloc (Nat.le_refl _) _) (Nat.le_refl _)) _ _ ⟨xa, xb, xc⟩ rfl (by simp [go_sem]) (by simp [go_sem]) (by simp [go_sem]) (by omega) (by simp; omega) ?_; intro g7 cap7 w7 hO7 hg7 hob7)
            have hgo : w5.grownBy w7 (Value.slice a3 n3 c3).ownBlock := gb_trans (World.grownBy_alloc _ _ none) hg7
            have hB7 := HB5.out.grown hgo hz7 (fun r e => HO.out.row r e)
            have hN7 : ∀ r, (Value.slice (some ⟨g7, 0, none⟩) (acc.length + 1) cap7).ownBlock = some r → r ≠ mb := fun r e => by
              simp [Value.ownBlock] at e
              subst e
              rcases hob7 with h | h
              · exact HN.out g7 h
              · have := hgo.size; simp at h; omega
            have hS7 := HS5.out.kept hgo (fun e => HN.out mb e.symm rfl)
            have hne5 : some wr.heap.size ≠ (Value.slice a3 n3 c3).ownBlock := fun e => absurd (HO.out.lt _ e.symm).2 (Nat.lt_irrefl _)
            have y1 := hgo.cell y1 (by simpa using hne5)
            have y2 := hgo.cell y2 (by simpa using hne5)
            have y3 := hgo.cell y3 (by simpa using hne5)
            have HO7 := Lib.hid hO7
            have HS7 := Lib.hid hS7
            have HB7 := Lib.hid hB7
            have HN7 := Lib.hid hN7
            have hz9 := hB7.size
            have hmw7 := hS7.lt
            clear hg7 hob7 hgo hO7 hS7 hB7 hN7 hne5 hz7 hl5
            go_wp2_with fail
            refine (pairsOf_any ⟨xa, xb, xc⟩ _).mono ?_
            rintro e w8 ⟨rfl, hb8⟩
            unfold prsv
            dsimp only
            have hz8 := hb8.size
            have hS8 := HS7.out.below hb8 hmw7
            have hO8 := HO7.out.below hb8 (Nat.le_refl _)
            have hB8 := HB7.out.trans (hb8.mono hz9)
            have hmw8 := hS8.lt
            have HO8 := Lib.hid hO8
            have HB8 := Lib.hid hB8
            have hz10 := hB8.size
            obtain ⟨seen, hseen⟩ : ∃ l, l = acc.flatMap pairsL := ⟨_, rfl⟩
            rw [← hseen] at hS8
            have HSEEN := Lib.hid hseen
            clear hb8 hO8 hB8 y1 y2 y3 hseen
            go_wp2_with fail
            refine wp_loop_rounds 4 ?_
            rw [rounds_succ]
            go_wp2_with (at_mapUpdate; refine wpList_put_set _ rfl _ _ _ 71 rfl 75 4 pairKeyed Try.underlying71 Try.underlying4 mb (3 * (bs.length + k)) (seen.map pv) rfl (hS8.alloc _) (by unfold maxLen; omega) (pv (xa, xb)) k1 rfl rfl HK1.out ?_; intro w11 hS11 hg11)
            rw [rounds_succ]
            go_wp2_with (at_mapUpdate; refine wpList_put_set _ rfl _ _ _ 71 rfl 75 4 pairKeyed Try.underlying71 Try.underlying4 mb (3 * (bs.length + k) + 1) (seen.map pv ++ [pv (xa, xb)]) rfl (hS11.alloc _) (by unfold maxLen; omega) (pv (xa, xc)) k2 rfl rfl HK2.out ?_; intro w12 hS12 hg12)
            rw [rounds_succ]
            go_wp2_with (at_mapUpdate; refine wpList_put_set _ rfl _ _ _ 71 rfl 75 4 pairKeyed Try.underlying71 Try.underlying4 mb (3 * (bs.length + k) + 2) (seen.map pv ++ [pv (xa, xb)] ++ [pv (xa, xc)]) rfl (hS12.alloc _) (by unfold maxLen; omega) (pv (xb, xc)) k3 rfl rfl HK3.out ?_; intro w13 hS13 hg13)
            rw [rounds_succ]
            have hga : w8.grownBy w13 (some mb) := gb_trans (World.grownBy_alloc _ _ _) (hg11.trans (gb_trans (World.grownBy_alloc _ _ _) (hg12.trans (gb_trans (World.grownBy_alloc _ _ _) hg13))))
            have hO13 := HO8.out.apart hga (fun r e e2 => HN7.out r e (by cases e2; rfl))
            have hB13 := HB8.out.grown hga hz10 (fun r e => by cases e; exact hmb1)
            have hfin : BoolSet w13 Try.prog 75 4 mb (3 * (bs.length + (k + 1))) (((acc ++ [Blk.mk xa xb xc]).flatMap pairsL).map pv) := by
              have e : ((acc ++ [Blk.mk xa xb xc]).flatMap pairsL).map pv = seen.map pv ++ [pv (xa, xb)] ++ [pv (xa, xc)] ++ [pv (xb, xc)] := by rw [HSEEN.out]; simp [pairsL]
              rw [e]
              exact hS13.mono (by omega)
            have HFIN := Lib.hid (And.intro hO13 (And.intro hB13 hfin))
            clear hg11 hg12 hg13 hS11 hS12 hS13 hga hO13 hB13 hfin
            go_wp2
            go_roundw
            case rel => exact ⟨k + 1, by omega, by go_num, HFIN.out.2.1, by rw [HSU.out]; exact HFIN.out.1, HN7.out, by rw [HSU.out]; exact HFIN.out.2.2, _, _, _, rfl⟩
            case measure => simp [intOf]; omega
      · have e : k = m := by omega
        subst e
        have ht : R.take k = R := by rw [HM.out, List.take_length]
        rw [ht] at HO hfl
        obtain ⟨L, hL⟩ : ∃ L, L = fillGo bs R := ⟨_, rfl⟩
        rw [← hL] at HO hfl ⊢
        obtain ⟨E0, E1, G0, G1, K0, K1⟩ : Six wr w.heap.size (n : Int) (.slice a0 bs.length c0) := keep6 (row := none) ⟨p0, p1, d0, d1, f0, f1⟩ (only_of_below hB none) (by simp)
        have hrow := HO.out.row
        have HROW := Lib.hid hrow
        have HLL := Lib.hid hL
        clear hrow hL ht E0 E1
        go_wp2_with fail
        refine (systemFrom_any (n : Int) w1.heap.size (.slice a3 n3 c3) L _ HO.out (by omega) hz).mono ?_
        rintro e w5 ⟨rfl, ho5, hg5⟩
        have M0 := keep_cell G0 hg5 (fun r e => by have := HROW.out r e; omega)
        have M1 := keep_cell G1 hg5 (fun r e => by have := HROW.out r e; omega)
        have M2 := keep_frozen G0 K0 hg5 (fun r e => by have := HROW.out r e; omega)
        have M3 := keep_frozen G1 K1 hg5 (fun r e => by have := HROW.out r e; omega)
        have HB5 := Lib.hid ((hbw.trans (hB.mono (by omega))).grown hg5 (by omega) (fun r e => by have := HROW.out r e; omega))
        have hz6 := hg5.size
        have HO5 := Lib.hid ho5.res
        clear ho5 hg5
        go_wp2
        refine bodyPost_ret (v := .tuple #[.agg #[.int .i64 (n : Int), .slice a3 n3 c3], .int .i64 0]) (by simp [results, Try.results24, go_sem, *]) rfl ?_
        have hres := HO5.out.kept (gb_set2 w5 (w.heap.size + 1) (.int .i64 (n : Int)) (.slice a3 n3 c3)) (fun r e => by cases e; exact .inl (by omega))
        refine ⟨.slice a3 n3 c3, rfl, ?_, ?_⟩
        · have h2 := hres.wide (lo' := w.heap.size) (hi' := ((w5.setCell ⟨w.heap.size + 1, 0, none⟩ (.int .i64 (n : Int))).setCell ⟨w.heap.size + 1, 1, none⟩ (.slice a3 n3 c3)).heap.size) (by omega) (by simp [World.setCell])
          rw [HLL.out] at h2
          exact h2
        · exact below_set2 HB5.out (by omega) _ _
end Go.Proofs.Ytiomdfhhejdoiaa

namespace Go.Proofs.Ytiomdfhhejdoiaa
open Go.RowKit Go.Maps
set_option maxRecDepth 100000 in
set_option maxHeartbeats 4000000 in
theorem l01Copy_any (v : Int) (s : Value) (bs : List Blk) (w : World) (h : SB w s bs) :
    Calls Try.prog 53 #[.agg #[.int .i64 v, s]] w fun e w' => ∃ u, e = .returned (.agg #[.int .i64 v, u]) ∧ ResR w' w.heap.size w'.heap.size u bs ∧ Below w.heap.size w w' := by
  have hlen := h.2.1
  obtain ⟨a0, c0, hs⟩ := h.slice
  have hsx := h.sx
  obtain ⟨n, hn⟩ : ∃ n, n = bs.length := ⟨_, rfl⟩
  have HN := Lib.hid hn
  rw [← hn] at hs hlen
  subst hs
  have HSX := Lib.hid hsx
  clear h hsx hn
  go_enter Try.func53, Try.ntmps53
  go_wp2_with fail
  have hbx := boxes2 (w := w) (v := v) (s := .slice a0 n c0) (T := 31) (Below.refl _ _)
  obtain ⟨W1, hW1⟩ : ∃ W, W = (w.alloc (.cells #[.int .i64 v, .slice a0 n c0] 31)).alloc (.cells #[.int .i64 0, .slice none 0 0] 31) := ⟨_, rfl⟩
  rw [← hW1] at hbx ⊢
  clear hW1
  obtain ⟨p0, p1, d0, d1, f0, f1, hbw, hlt⟩ := hbx
  have HO := Lib.hid (lit_own W1)
  have HS1 := Lib.hid (HSX.out.below (hbw.alloc hbw.size (.cells #[] 68)) (Nat.le_refl _))
  have l0 : ([] : List Blk).length + bs.length ≤ 2200000 := by rw [← HN.out]; simp; omega
  have HL0 := Lib.hid l0
  have HS6 := Lib.hid (show Six W1 w.heap.size v (.slice a0 n c0) from ⟨p0, p1, d0, d1, f0, f1⟩)
  have HBW := Lib.hid hbw
  have hzw := hbw.size
  clear l0 hbw
  go_region_held3 (fun w' => w'.cell? ⟨w.heap.size, 0, none⟩ = some (.int .i64 v) ∧ w'.cell? ⟨w.heap.size, 1, none⟩ = some (.slice a0 n c0))
    (first
      | exact ⟨E0, E1⟩
      | go_keep)
    (first
      | (refine step_append_many rfl (.tmp 5) (.tmp 7) rfl W1.heap.size (.slice (some ⟨W1.heap.size, 0, none⟩) 0 0) [] (by simp [Act.eval]) (by first | exact HO.out | exact HO.out.drew) (.slice a0 n c0) bs (by simp [Act.eval]) (by first | exact HS1.out | exact HS1.out.below ((Below.refl _ _).drew) (Nat.le_refl _)) HL0.out (by simp) ?_; intro a3 c3 w3 ho3 hg3; have hB3 : Below W1.heap.size W1 w3 := ((Below.refl _ _).alloc (Nat.le_refl _) _).grown (by first | exact hg3 | exact gb_drewL hg3) (by simp) (fun r e => by simp [Value.ownBlock] at e; omega); (obtain ⟨E0, E1, M0, M1, M2, M3⟩ := keep6 HS6.out (gb_below hB3) (by simp)); have HO3 := Lib.hid (show OwnR w3 W1.heap.size (.slice a3 n c3) bs by have h := ho3; simp at h; rw [← HN.out] at h; exact h); rw [show ([] : List Blk).length + bs.length = n by rw [HN.out]; simp])
    )
  all_goals
    have hz3 := hB3.size
    go_wp2
    refine bodyPost_ret (v := .agg #[.int .i64 v, .slice a3 n c3]) (by simp [results, Try.results53, go_sem, *]) rfl ?_
    have hres := HO3.out.res.kept (gb_set2 w3 (w.heap.size + 1) (.int .i64 v) (.slice a3 n c3)) (fun r e => by cases e; exact .inl (by omega))
    exact ⟨.slice a3 n c3, rfl, hres.wide (lo' := w.heap.size) (by omega) (by simp [World.setCell]), below_set2 (HBW.out.trans (hB3.mono hzw)) (by omega) _ _⟩
end Go.Proofs.Ytiomdfhhejdoiaa

namespace Go.Proofs
open Go.Shelf
def Try.growI_ren : Go.Shelf.Ren := ⟨fun | 4 => 136 | n => n, fun | 22 => 26 | 25 => 2 | 3 => 3 | 4 => 4 | 9 => 9 | 20 => 20 | 0 => 0 | n => n, fun | n => n⟩
theorem Try.growI : Go.Proofs.Lays8.n4 Try.prog Try.growI_ren := {
  mixed := by kernel_rfl
  f4 := ⟨Try.f136.name, by decide, Try.func136.trans (congrArg some (by kernel_rfl))⟩
  t0 := Try.underlying0
  a0 := Try.isAgg0
  z0 := Try.sizeOf0
  v0 := Try.zeroValue0
  t3 := Try.underlying3
  a3 := Try.isAgg3
  z3 := Try.sizeOf3
  v3 := Try.zeroValue3
  t4 := Try.underlying4
  a4 := Try.isAgg4
  z4 := Try.sizeOf4
  v4 := Try.zeroValue4
  t9 := Try.underlying9
  a9 := Try.isAgg9
  z9 := Try.sizeOf9
  v9 := Try.zeroValue9
  t20 := Try.underlying20
  a20 := Try.isAgg20
  z20 := Try.sizeOf20
  v20 := Try.zeroValue20
  t22 := Try.underlying26
  a22 := Try.isAgg26
  z22 := Try.sizeOf26
  v22 := Try.zeroValue26 }
end Go.Proofs

namespace Go.Proofs.Ytiomdfhhejdoiaa
open Go.RowKit Go.Maps Go.Shelf
end Go.Proofs.Ytiomdfhhejdoiaa


/- The laws' own helpers: copies of blocks and systems. -/
import Derived.Test.YtlchcnngikgjjaaSpecIs
import Derived.Laws.MakeOwn
import Derived.OwnWalk
namespace Go.Proofs.Ytlchcnngikgjjaa
open Go.RowKit Go.Maps
set_option maxRecDepth 100000 in
theorem toBlock_any (x : Blk) (w : World) : Calls Try.prog 53 #[bv x] w (RV (bv x) w) := by
  obtain ⟨a, b, c⟩ := x
  unfold bv
  dsimp only
  go_enter Try.func53, Try.ntmps53
  go_wp2
  refine wp_loop_rounds 4 ?_
  rw [rounds_succ]
  go_wp2
  rw [rounds_succ]
  go_wp2
  rw [rounds_succ]
  go_wp2
  rw [rounds_succ]
  go_wp2
  exact bodyPost_ret (v := .agg #[.int .i64 a, .int .i64 b, .int .i64 c]) (by simp [results, Try.results53, go_sem]) rfl ⟨rfl, by repeat (first | exact Below.refl _ _ | refine below_drewN ?_ _ | refine Below.alloc ?_ (by first | exact Nat.le_refl _ | simp; try omega) _)⟩

/-- A slice that begins at the head of a block from 'lo' on, of just these blocks, that may be written. -/
def OwnB (w : World) (lo : Nat) (s : Value) (bs : List Blk) : Prop :=
  ∃ g cap, s = .slice (some ⟨g, 0, none⟩) bs.length cap ∧ lo ≤ g ∧ g < w.heap.size ∧ Blks w g 0 bs ∧ (∀ o, w.frozen? ⟨g, o, none⟩ = false) ∧ bs.length ≤ cap
theorem OwnB.sb {w : World} {lo : Nat} {s : Value} {bs : List Blk} (h : OwnB w lo s bs) (hwf : ∀ x ∈ bs, WFB x) (hl : bs.length ≤ 1100000) : SB w s bs := by
  obtain ⟨g, cap, rfl, _, hg, hb, _⟩ := h
  exact ⟨hwf, hl, .inr ⟨g, 0, cap, rfl, hg, hb⟩⟩
theorem OwnB.below {w w' : World} {lo B : Nat} {s : Value} {bs : List Blk} (h : OwnB w lo s bs) (hb : Below B w w') (hB : w.heap.size ≤ B) : OwnB w' lo s bs := by
  obtain ⟨g, cap, rfl, h1, hg, h2, h3, h4⟩ := h
  exact ⟨g, cap, rfl, h1, by have := hb.size; omega, h2.below hb (by omega), fun o => (hb.frozen (p := ⟨g, o, none⟩) (by show g < B; omega)).trans (h3 o), h4⟩
theorem OwnB.mono {w : World} {lo lo' : Nat} {s : Value} {bs : List Blk} (h : OwnB w lo s bs) (hl : lo' ≤ lo) : OwnB w lo' s bs := by
  obtain ⟨g, cap, rfl, h1, h2⟩ := h
  exact ⟨g, cap, rfl, by omega, h2⟩
/-- Returns a slice of new memory with these blocks. -/
def ROwn (bs : List Blk) (w : World) (e : Ending) (w' : World) : Prop := ∃ s, e = .returned s ∧ OwnB w' w.heap.size s bs ∧ Below w.heap.size w w'

theorem Blks.set {w : World} {g : Nat} {l : List Blk} (h : Blks w g 0 l) {i : Nat} (hi : i < l.length) (x : Blk) :
    Blks (((w.setCell ⟨g, i * 3, none⟩ (.int .i64 x.a)).setCell ⟨g, i * 3 + 1, none⟩ (.int .i64 x.b)).setCell ⟨g, i * 3 + 2, none⟩ (.int .i64 x.c)) g 0 (l.set i x) := by
  intro k hk
  rw [List.length_set] at hk
  obtain ⟨h1, h2, h3⟩ := h k hk
  obtain ⟨i1, i2, i3⟩ := h i hi
  simp only [Nat.zero_add] at *
  by_cases hki : k = i
  · subst hki
    simp only [List.getElem?_set_self hk, Option.getD_some]
    refine ⟨?_, ?_, ?_⟩
    · refine (World.cell?_setCell_other _ _ _ _ (by simp)).trans ((World.cell?_setCell_other _ _ _ _ (by simp)).trans ?_)
      exact World.cell?_setCell_same _ _ _ h1
    · refine (World.cell?_setCell_other _ _ _ _ (by simp)).trans ?_
      refine World.cell?_setCell_same _ _ _ ((World.cell?_setCell_other _ _ _ _ (by simp)).trans h2)
    · refine World.cell?_setCell_same _ _ _ ((World.cell?_setCell_other _ _ _ _ (by simp)).trans ((World.cell?_setCell_other _ _ _ _ (by simp)).trans h3))
  · rw [List.getElem?_set_ne (Ne.symm hki)]
    refine ⟨?_, ?_, ?_⟩
    all_goals refine (World.cell?_setCell_other _ _ _ _ (by simp <;> omega)).trans ((World.cell?_setCell_other _ _ _ _ (by simp <;> omega)).trans ((World.cell?_setCell_other _ _ _ _ (by simp <;> omega)).trans ?_))
    · exact h1
    · exact h2
    · exact h3

theorem infoBlock : (Try.prog.info? 62).map (fun i => (i.zero, i.size, i.bytes)) = some (some (.agg #[.int .i64 0, .int .i64 0, .int .i64 0]), 3, 24) := by kernel_rfl
def zeroBlk : Blk := ⟨0, 0, 0⟩
theorem made_blks (w : World) (n : Nat) (T : TypeId) : Blks (w.alloc (.cells (madeCells #[.int .i64 0, .int .i64 0, .int .i64 0] (n * 3)) T)) w.heap.size 0 (List.replicate n zeroBlk) := by
  intro k hk
  rw [List.length_replicate] at hk
  have e : (List.replicate n zeroBlk)[k]?.getD default = zeroBlk := by simp [hk]
  have at' : ∀ j, j < n * 3 → (madeCells #[.int .i64 0, .int .i64 0, .int .i64 0] (n * 3))[j]? = some (.int .i64 0) := fun j hj => by
    have h3 : j % 3 = 0 ∨ j % 3 = 1 ∨ j % 3 = 2 := by omega
    rcases h3 with h | h | h <;> simp [madeCells, hj, h]
  rw [e]
  simp only [Nat.zero_add, zeroBlk]
  refine ⟨?_, ?_, ?_⟩
  all_goals rw [World.cell?_alloc_at _ _ _ _ rfl]
  all_goals exact at' _ (by omega)

theorem set_next {bs : List Blk} {k : Nat} {x : Blk} (hk : k < bs.length) (hx : bs[k]? = some x) :
    (bs.take k ++ List.replicate (bs.length - k) zeroBlk).set k x = bs.take (k + 1) ++ List.replicate (bs.length - (k + 1)) zeroBlk := by
  have e : bs[k] = x := by
    rw [List.getElem?_eq_getElem hk] at hx
    simpa using hx
  rw [take_next hk, e, show bs.length - k = (bs.length - (k + 1)) + 1 by omega, List.replicate_succ]
  have hl : (bs.take k).length = k := by simp; omega
  rw [List.set_append_right _ _ (by omega), hl, Nat.sub_self, List.set_cons_zero, List.append_assoc]
  rfl
set_option maxRecDepth 100000 in
theorem toBlockS_any (s : Value) (bs : List Blk) (w : World) (h : SB w s bs) : Calls Try.prog 33 #[s] w (ROwn bs w) := by
  obtain ⟨hwf, hlen, h3⟩ := h
  clear hwf
  obtain ⟨i0, hi, hz0, hz1, hz2⟩ := info_parts infoBlock
  have hmk : ∀ (n : Nat), n ≤ 1100000 → ∀ W : World, (Instr.makeSlice 24 (.int .i64 (n : Int)) (.int .i64 (n : Int))).run Try.prog W = .ok (.slice (some ⟨W.heap.size, 0, none⟩) n n) (W.alloc (.cells (madeCells #[.int .i64 0, .int .i64 0, .int .i64 0] (n * 3)) 62)) := fun n hn W => by
    have hr := run_make (P := Try.prog) W 24 62 i0 (.agg #[.int .i64 0, .int .i64 0, .int .i64 0]) Try.underlying24 hi hz0 .i64 .i64 n n (by omega) (by omega) (by rw [hz2]; omega) (by omega)
    simp only [Int.toNat_natCast, hz1] at hr
    exact hr
  clear hi hz0 hz1 hz2
  rcases h3 with ⟨a0, c0, rfl, rfl⟩ | ⟨b, off, cap, rfl, hlt, hbl⟩
  · have hm : ∀ W : World, (Instr.makeSlice 24 (.int .i64 0) (.int .i64 0)).run Try.prog W = .ok (.slice (some ⟨W.heap.size, 0, none⟩) 0 0) (W.alloc (.cells #[] 62)) := fun W => by
      have := hmk 0 (by omega) W
      rw [show madeCells #[.int .i64 0, .int .i64 0, .int .i64 0] (0 * 3) = #[] from Array.size_eq_zero_iff.1 (size_madeCells _ _)] at this
      simpa using this
    clear hmk
    go_enter Try.func33, Try.ntmps33
    go_wp2
    refine wp_loop_rounds 1 ?_
    rw [rounds_succ]
    go_wp2
    go_ret
    exact ⟨_, rfl, ⟨w.heap.size, 0, rfl, Nat.le_refl _, by simp, fun k hk => by simp at hk, fun o => by simp, Nat.le_refl _⟩, (Below.refl _ _).alloc (Nat.le_refl _) _⟩
  · have hm := hmk bs.length hlen
    clear hmk
    have HBL := Lib.hid hbl
    clear hbl
    go_enter Try.func33, Try.ntmps33
    go_wp2
    go_loopw [4] (fun i wr => ∃ k : Nat, k ≤ bs.length ∧ i = .int .i64 k ∧ Below w.heap.size w wr ∧ w.heap.size < wr.heap.size ∧ Blks wr w.heap.size 0 (bs.take k ++ List.replicate (bs.length - k) zeroBlk) ∧ (∀ o, wr.frozen? ⟨w.heap.size, o, none⟩ = false)) (fun i _ => bs.length - (intOf i).toNat)
    case atStart => exact ⟨0, Nat.zero_le _, rfl, (Below.refl _ _).alloc (Nat.le_refl _) _, by simp, by simpa using made_blks w bs.length _, fun o => by simp⟩
    case round =>
      obtain ⟨k, hk, rfl, hB, hz, hl, hf⟩ := hrel
      by_cases hkl : k < bs.length
      · obtain ⟨x, hx, ex, c1, c2, c3⟩ := blks_at HBL.out hkl
        have d1 := (hB.cell (p := ⟨b, off + k * 3, none⟩) hlt).trans c1
        have d2 := (hB.cell (p := ⟨b, off + k * 3 + 1, none⟩) hlt).trans c2
        have d3 := (hB.cell (p := ⟨b, off + k * 3 + 2, none⟩) hlt).trans c3
        have EX := Lib.hid ex
        have HL := Lib.hid hl
        clear hx ex c1 c2 c3 hl
        obtain ⟨x1, x2, x3⟩ := x
        dsimp only at d1 d2 d3
        have hlk : k < (bs.take k ++ List.replicate (bs.length - k) zeroBlk).length := by simp; omega
        have g0 : (0 : Int) ≤ (k : Int) := by omega
        have g1 : (k : Int) < (bs.length : Int) := by omega
        go_wp2_with (go_at_call 53; refine (toBlock_any ⟨x1, x2, x3⟩ _).mono ?_; rintro e w1 ⟨rfl, hb1⟩; unfold bv; dsimp only; obtain ⟨f1, f2, f3⟩ := HL.out k hlk; rw [Nat.zero_add] at f1 f2 f3; have m1 := (hb1.cell (p := ⟨w.heap.size, k * 3, none⟩) hz).trans f1; have m2 := (hb1.cell (p := ⟨w.heap.size, k * 3 + 1, none⟩) hz).trans f2; have m3 := (hb1.cell (p := ⟨w.heap.size, k * 3 + 2, none⟩) hz).trans f3; have n1 := fun o => (hb1.frozen (p := ⟨w.heap.size, o, none⟩) hz).trans (hf o); clear f1 f2 f3)
        have hs := (HL.out.below hb1 hz).set hlk ⟨x1, x2, x3⟩
        rw [set_next hkl EX.out] at hs
        have hs1 := hb1.size
        go_roundw
        case rel => exact ⟨k + 1, by omega, by go_num, (((hB.trans (hb1.mono (by omega))).setCell (p := ⟨w.heap.size, k * 3, none⟩) (Nat.le_refl _) _).setCell (p := ⟨w.heap.size, k * 3 + 1, none⟩) (Nat.le_refl _) _).setCell (p := ⟨w.heap.size, k * 3 + 2, none⟩) (Nat.le_refl _) _, by simp [World.setCell]; omega, hs, fun o => by rw [World.frozen?_setCell, World.frozen?_setCell, World.frozen?_setCell]; exact n1 o⟩
        case measure => simp [intOf]; omega
      · go_wp2
        go_ret
        have hkn : k = bs.length := by omega
        subst hkn
        simp at hl
        exact ⟨_, rfl, ⟨w.heap.size, bs.length, rfl, Nat.le_refl _, hz, hl, hf, Nat.le_refl _⟩, hB⟩

end Go.Proofs.Ytlchcnngikgjjaa

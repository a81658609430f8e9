
/- The laws' marks: what is written into blocks, and that it is still there. -/
import Derived.Test.YtlchcnngikgjjaaLawB
namespace Go.Proofs.Ytlchcnngikgjjaa
open Go.RowKit Go.Maps
/-- Only block g, and what is new, has changed. -/
theorem only_setCell {a w : World} {g : Nat} (h : a.grownBy w (some g)) {p : Addr} (hp : p.block = g) (u : Value) : a.grownBy (w.setCell p u) (some g) :=
  ⟨h.os, h.tape, h.output, by simpa [World.setCell] using h.size, fun i hi hne => (Below.heap_setCell w p u i (by
    rintro rfl
    exact hne (by rw [hp]))).trans (h.block i hi hne)⟩
theorem only_alloc {a w : World} {row : Option Nat} (h : a.grownBy w row) (o : Obj) : a.grownBy (w.alloc o) row :=
  ⟨h.os, h.tape, h.output, Nat.le_trans h.size (by simp), fun i hi hne => (Below.heap_alloc w o i (Nat.lt_of_lt_of_le hi h.size)).trans (h.block i hi hne)⟩
theorem only_of_below {a w : World} (h : Below a.heap.size a w) (row : Option Nat) : a.grownBy w row := ⟨h.os, h.tape, h.output, h.size, fun i hi _ => h.block i hi⟩
theorem only_refl (a : World) (row : Option Nat) : a.grownBy a row := ⟨rfl, rfl, rfl, Nat.le_refl _, fun _ _ _ => rfl⟩
/-- The row at the head of block g holds just these blocks and may be written. -/
structure OwnAt (w : World) (g : Nat) (bs : List Blk) : Prop where
  lt : g < w.heap.size
  at_ : Blks w g 0 bs
  free : ∀ o, w.frozen? ⟨g, o, none⟩ = false
theorem OwnAt.kept {w w' : World} {g : Nat} {bs : List Blk} {row : Option Nat} (h : OwnAt w g bs) (hg : w.grownBy w' row) (hne : some g ≠ row) : OwnAt w' g bs := by
  have hb := hg.block g h.lt hne
  refine ⟨Nat.lt_of_lt_of_le h.lt hg.size, fun k hk => ?_, fun o => ?_⟩
  · obtain ⟨h1, h2, h3⟩ := h.at_ k hk
    exact ⟨(World.cell?_of_block (w := w) (a := ⟨g, _, none⟩) hb).trans h1, (World.cell?_of_block (w := w) (a := ⟨g, _, none⟩) hb).trans h2, (World.cell?_of_block (w := w) (a := ⟨g, _, none⟩) hb).trans h3⟩
  · exact (World.frozen?_of_block (w := w) (a := ⟨g, o, none⟩) hb).trans (h.free o)
theorem OwnAt.below {w w' : World} {g : Nat} {bs : List Blk} (h : OwnAt w g bs) {B : Nat} (hb : Below B w w') (hB : w.heap.size ≤ B) : OwnAt w' g bs :=
  h.kept (only_of_below (hb.mono hB) none) (by simp)
theorem OwnAt.sb {w : World} {g cap : Nat} {bs : List Blk} (h : OwnAt w g bs) (hwf : ∀ x ∈ bs, WFB x) (hl : bs.length ≤ 1100000) : SB w (.slice (some ⟨g, 0, none⟩) bs.length cap) bs :=
  ⟨hwf, hl, .inr ⟨g, 0, cap, rfl, h.lt, h.at_⟩⟩

def markL (k : Int) (n : Nat) : List Blk := (List.range n).map fun (t : Nat) => ⟨k + 3 * (t : Int), k + 3 * (t : Int) + 1, k + 3 * (t : Int) + 2⟩
theorem markL_length (k : Int) (n : Nat) : (markL k n).length = n := by simp [markL]
theorem mark_next {k : Int} {i : Nat} {bs : List Blk} (h : i < bs.length) :
    (markL k i ++ bs.drop i).set i ⟨k + 3 * i, k + 3 * i + 1, k + 3 * i + 2⟩ = markL k (i + 1) ++ bs.drop (i + 1) := by
  rw [List.drop_eq_getElem_cons h, List.set_append_right _ _ (by rw [markL_length]; omega), markL_length, Nat.sub_self, List.set_cons_zero]
  simp [markL, List.range_succ]

set_option maxRecDepth 100000 in
theorem markBlockS_nil (a : Option Addr) (c : Nat) (k : Int) (w : World) : Calls Try.prog 37 #[.slice a 0 c, .int .i64 k] w (RS (.int .i64 k) w) := by
  go_enter Try.func37, Try.ntmps37
  go_wp2
  refine wp_loop_rounds 1 ?_
  rw [rounds_succ]
  go_wp2
  go_ret
  exact RS_of rfl
set_option maxRecDepth 100000 in
theorem heldBlockS_nil (a : Option Addr) (c : Nat) (k : Int) (w : World) : Calls Try.prog 109 #[.slice a 0 c, .int .i64 k] w (RS (.int .i64 k) w) := by
  go_enter Try.func109, Try.ntmps109
  go_wp2
  refine wp_loop_rounds 1 ?_
  rw [rounds_succ]
  go_wp2
  go_ret
  exact RS_of rfl

set_option maxRecDepth 100000 in
theorem markBlockS_any (g cap : Nat) (bs : List Blk) (k : Int) (w : World) (h : OwnAt w g bs) (hl : bs.length ≤ 1100000) (h0 : 0 ≤ k) (h1 : k ≤ 9000000) :
    Calls Try.prog 37 #[.slice (some ⟨g, 0, none⟩) bs.length cap, .int .i64 k] w (fun e w' => e = .returned (.int .i64 (k + 3 * bs.length)) ∧ w.grownBy w' (some g) ∧ OwnAt w' g (markL k bs.length)) := by
  have H := Lib.hid h
  clear h
  go_enter Try.func37, Try.ntmps37
  go_wp2
  go_loopw [1, 5] (fun t i wr => ∃ j : Nat, j ≤ bs.length ∧ i = .int .i64 j ∧ t = .int .i64 (k + 3 * j) ∧ w.grownBy wr (some g) ∧ OwnAt wr g (markL k j ++ bs.drop j)) (fun _ i _ => bs.length - (intOf i).toNat)
  case atStart => exact ⟨0, Nat.zero_le _, rfl, by simp, only_refl _ _, by simpa [markL] using H.out⟩
  case round =>
    obtain ⟨j, hj, rfl, rfl, hg, ho⟩ := hrel
    by_cases hjl : j < bs.length
    · have hlj : j < (markL k j ++ bs.drop j).length := by simp [markL_length]; omega
      obtain ⟨c1, c2, c3⟩ := ho.at_ j hlj
      rw [Nat.zero_add] at c1 c2 c3
      have f1 := fun o => ho.free o
      have hs := ho.at_.set hlj ⟨k + 3 * j, k + 3 * j + 1, k + 3 * j + 2⟩
      rw [mark_next hjl] at hs
      have HS := Lib.hid hs
      have hlt := ho.lt
      clear hs ho
      have g0 : (0 : Int) ≤ (j : Int) := by omega
      have g1 : (j : Int) < (bs.length : Int) := by omega
      obtain ⟨m, hm⟩ : ∃ m, m = k + 3 * (j : Int) := ⟨_, rfl⟩
      have hs' : Blks (((wr.setCell ⟨g, j * 3, none⟩ (.int .i64 m)).setCell ⟨g, j * 3 + 1, none⟩ (.int .i64 (m + 1))).setCell ⟨g, j * 3 + 2, none⟩ (.int .i64 (m + 1 + 1))) g 0 (markL k (j + 1) ++ bs.drop (j + 1)) := by
        have := HS.out
        rw [← hm] at this
        rw [show m + 1 + 1 = m + 2 by omega]
        exact this
      have HS' := Lib.hid hs'
      clear hs' HS
      rw [← hm]
      have m0 : 0 ≤ m := by omega
      have m1 : m ≤ 90000000 := by omega
      have HM := Lib.hid hm
      clear hm
      go_wp2
      refine wp_loop_rounds 4 ?_
      rw [rounds_succ]
      go_wp2
      rw [rounds_succ]
      go_wp2
      rw [rounds_succ]
      go_wp2
      rw [rounds_succ]
      go_wp2
      go_roundw
      case rel => exact ⟨j + 1, by omega, by go_num, int_eq (by rw [HM.out]; omega), only_setCell (only_setCell (only_setCell hg rfl _) rfl _) rfl _, ⟨by simpa [World.setCell] using hlt, HS'.out, fun o => by rw [World.frozen?_setCell, World.frozen?_setCell, World.frozen?_setCell]; exact f1 o⟩⟩
      case measure => simp [intOf]; omega
    · go_wp2
      go_ret
      have e : j = bs.length := by omega
      subst e
      rw [List.drop_length, List.append_nil] at ho
      exact ⟨rfl, hg, ho⟩

theorem mark_at {k : Int} {n j : Nat} (h : j < n) : (markL k n)[j]?.getD default = ⟨k + 3 * j, k + 3 * j + 1, k + 3 * j + 2⟩ := by
  simp [markL, h]
set_option maxRecDepth 100000 in
theorem heldBlockS_any (g cap n : Nat) (k : Int) (w : World) (h : Blks w g 0 (markL k n)) (hl : n ≤ 1100000) (h0 : 0 ≤ k) (h1 : k ≤ 9000000) :
    Calls Try.prog 109 #[.slice (some ⟨g, 0, none⟩) n cap, .int .i64 k] w (RS (.int .i64 (k + 3 * n)) w) := by
  have H := Lib.hid h
  clear h
  go_enter Try.func109, Try.ntmps109
  go_wp2
  go_loop [1, 5] (fun t i => ∃ j : Nat, j ≤ n ∧ i = .int .i64 j ∧ t = .int .i64 (k + 3 * j)) (fun _ i => n - (intOf i).toNat)
  case atStart => exact ⟨0, Nat.zero_le _, rfl, by simp⟩
  case round =>
    obtain ⟨j, hj, rfl, rfl⟩ := hrel
    by_cases hjl : j < n
    · have hc := H.out j (by rw [markL_length]; exact hjl)
      rw [mark_at hjl, Nat.zero_add] at hc
      obtain ⟨m, hm⟩ : ∃ m, m = k + 3 * (j : Int) := ⟨_, rfl⟩
      rw [← hm] at hc ⊢
      obtain ⟨c1, c2, c3⟩ := hc
      rw [show m + 2 = m + 1 + 1 by omega] at c3
      have m0 : 0 ≤ m := by omega
      have m1 : m ≤ 90000000 := by omega
      have HM := Lib.hid hm
      clear hm
      have g0 : (0 : Int) ≤ (j : Int) := by omega
      have g1 : (j : Int) < (n : Int) := by omega
      have n1 : ∀ x : Int, (x != x) = false := fun x => by simp
      go_wp2
      refine wp_loop_rounds 4 ?_
      rw [rounds_succ]
      go_wp2
      rw [rounds_succ]
      go_wp2
      rw [rounds_succ]
      go_wp2
      rw [rounds_succ]
      go_wp2
      go_round
      case rel => exact ⟨j + 1, by omega, by go_num, int_eq (by rw [HM.out]; omega)⟩
      case measure => simp [intOf]; omega
    · go_wp2
      go_ret
      have e : j = n := by omega
      subst e
      exact RS_of rfl

/-- A result that is a list of blocks: nil, or new memory of its own. -/
def ResB (w : World) (lo : Nat) (s : Value) (bs : List Blk) : Prop := (bs = [] ∧ ∃ a c, s = .slice a 0 c) ∨ ∃ g cap, s = .slice (some ⟨g, 0, none⟩) bs.length cap ∧ lo ≤ g ∧ OwnAt w g bs
end Go.Proofs.Ytlchcnngikgjjaa

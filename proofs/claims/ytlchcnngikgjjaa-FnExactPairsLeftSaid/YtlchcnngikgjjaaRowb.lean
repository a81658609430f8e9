
/- Lists of blocks that a call makes by append. -/
import Derived.Test.YtlchcnngikgjjaaMark
import Derived.Maps.AppendAt
namespace Go.Proofs.Ytlchcnngikgjjaa
open Go.RowKit Go.Maps
theorem addr_at (b off i : Nat) : (⟨b, off, none⟩ : Addr).add i = ⟨b, off + i, none⟩ := by
  unfold Addr.add
  split
  · subst_vars; rfl
  · rfl
theorem row_some {W : World} {base : Nat} {e : TypeId} {size : Nat} {v : Value} {k : Nat} {xs : List Value} (h : W.ownsRow base e size v (k + 1) xs) : ∃ g cap, v = .slice (some ⟨g, 0, none⟩) (k + 1) cap := by
  rcases h.2 with ⟨_, h0⟩ | ⟨g, cap, _, rfl, _⟩
  · omega
  · exact ⟨g, cap, rfl⟩
def cells3 (x : Blk) : List Value := [.int .i64 x.a, .int .i64 x.b, .int .i64 x.c]
def OwnR (w : World) (base : Nat) (v : Value) (bs : List Blk) : Prop := w.ownsRow base 62 3 v bs.length (bs.flatMap cells3)
theorem flat_at : ∀ (bs : List Blk) (k : Nat), k < bs.length → (bs.flatMap cells3)[k * 3]? = some (.int .i64 (bs[k]?.getD default).a) ∧ (bs.flatMap cells3)[k * 3 + 1]? = some (.int .i64 (bs[k]?.getD default).b) ∧ (bs.flatMap cells3)[k * 3 + 2]? = some (.int .i64 (bs[k]?.getD default).c)
  | [], k, h => by simp at h
  | x :: r, 0, _ => by simp [cells3]
  | x :: r, k + 1, h => by
    have ih := flat_at r k (by simpa using h)
    have e : ∀ j, ((x :: r).flatMap cells3)[(k + 1) * 3 + j]? = (r.flatMap cells3)[k * 3 + j]? := fun j => by
      rw [List.flatMap_cons, List.getElem?_append_right (by simp [cells3]; omega)]
      congr 1
      simp [cells3]
      omega
    have e0 := e 0
    simp only [Nat.add_zero] at e0
    rw [e0, e 1, e 2]
    simpa using ih
theorem flat_length (bs : List Blk) : (bs.flatMap cells3).length = bs.length * 3 := by
  induction bs with
  | nil => rfl
  | cons x r ih => simp [cells3, ih]; omega
/-- A result that is a list of blocks: empty; or at the head of a block of its own, from lo on and before hi. -/
def ResR (w : World) (lo hi : Nat) (s : Value) (bs : List Blk) : Prop := (bs = [] ∧ ∃ a c, s = .slice a 0 c) ∨ ∃ g cap, s = .slice (some ⟨g, 0, none⟩) bs.length cap ∧ lo ≤ g ∧ g < hi ∧ OwnAt w g bs
theorem OwnR.res {w : World} {base : Nat} {v : Value} {bs : List Blk} (h : OwnR w base v bs) : ResR w base w.heap.size v bs := by
  obtain ⟨hl, h | ⟨g, cap, cur, rfl, hb, hcur, hn, hc, hsz, hx⟩⟩ := h
  · obtain ⟨rfl, h0⟩ := h
    exact .inl ⟨List.length_eq_zero_iff.1 h0, _, _, rfl⟩
  · have hg : g < w.heap.size := (Array.getElem?_eq_some_iff.1 hcur).1
    refine .inr ⟨g, cap, rfl, hb, hg, hg, fun k hk => ?_, fun o => ?_⟩
    · have at' : ∀ j v, j < bs.length * 3 → (bs.flatMap cells3)[j]? = some v → w.cell? ⟨g, 0 + j, none⟩ = some v := fun j v hj hv => by
        rw [← hx, List.getElem?_take_of_lt hj] at hv
        rw [Nat.zero_add]
        simp [World.cell?, hcur]
        simpa using hv
      obtain ⟨h1, h2, h3⟩ := flat_at bs k hk
      exact ⟨at' _ _ (by omega) h1, at' _ _ (by omega) h2, at' _ _ (by omega) h3⟩
    · simp [World.frozen?, hcur]
theorem OwnR.nil (w : World) (base : Nat) : OwnR w base (.slice none 0 0) [] := ⟨rfl, .inl ⟨rfl, rfl⟩⟩
theorem OwnR.kept {w w' : World} {base : Nat} {v : Value} {bs : List Blk} {row : Option Nat} (h : OwnR w base v bs) (hg : w.grownBy w' row) (hr : ∀ r, row = some r → r < base) : OwnR w' base v bs := by
  obtain ⟨hl, h | ⟨g, cap, cur, rfl, hb, hcur, hrest⟩⟩ := h
  · exact ⟨hl, .inl h⟩
  · exact ⟨hl, .inr ⟨g, cap, cur, rfl, hb, (hg.block g (Array.getElem?_eq_some_iff.1 hcur).1 (fun e => by have := hr g e.symm; omega)).trans hcur, hrest⟩⟩
theorem OwnR.below {w w' : World} {base : Nat} {v : Value} {bs : List Blk} (h : OwnR w base v bs) {B : Nat} (hb : Below B w w') (hB : w.heap.size ≤ B) : OwnR w' base v bs :=
  h.kept (only_of_below (hb.mono hB) none) (by simp)
theorem ResR.sb {w : World} {lo hi : Nat} {s : Value} {bs : List Blk} (h : ResR w lo hi s bs) (hwf : ∀ x ∈ bs, WFB x) (hl : bs.length ≤ 1100000) : SB w s bs := by
  rcases h with ⟨rfl, a, c, rfl⟩ | ⟨g, cap, rfl, _, _, ho⟩
  · exact ⟨hwf, hl, .inl ⟨a, c, rfl, rfl⟩⟩
  · exact ho.sb hwf hl
theorem ResR.kept {w w' : World} {lo hi : Nat} {s : Value} {bs : List Blk} {row : Option Nat} (h : ResR w lo hi s bs) (hg : w.grownBy w' row) (hr : ∀ r, row = some r → r < lo ∨ hi ≤ r) : ResR w' lo hi s bs := by
  rcases h with h | ⟨g, cap, rfl, h1, h2, ho⟩
  · exact .inl h
  · exact .inr ⟨g, cap, rfl, h1, h2, ho.kept hg (fun e => by have := hr g e.symm; omega)⟩
theorem ResR.below {w w' : World} {lo hi : Nat} {s : Value} {bs : List Blk} (h : ResR w lo hi s bs) {B : Nat} (hb : Below B w w') (hB : w.heap.size ≤ B) : ResR w' lo hi s bs :=
  h.kept (only_of_below (hb.mono hB) none) (by simp)
theorem ResR.wide {w : World} {lo hi lo' hi' : Nat} {s : Value} {bs : List Blk} (h : ResR w lo hi s bs) (h1 : lo' ≤ lo) (h2 : hi ≤ hi') : ResR w lo' hi' s bs := by
  rcases h with h | ⟨g, cap, rfl, h3, h4, ho⟩
  · exact .inl h
  · exact .inr ⟨g, cap, rfl, by omega, by omega, ho⟩
theorem OwnB.res {w : World} {lo : Nat} {s : Value} {bs : List Blk} (h : OwnB w lo s bs) : ResR w lo w.heap.size s bs := by
  obtain ⟨g, cap, rfl, h1, h2, h3, h4, _⟩ := h
  exact .inr ⟨g, cap, rfl, h1, h2, h2, h3, h4⟩

theorem markR (lo hi : Nat) (s : Value) (bs : List Blk) (k : Int) (w : World) (h : ResR w lo hi s bs) (hl : bs.length ≤ 1100000) (h0 : 0 ≤ k) (h1 : k ≤ 9000000) :
    Calls Try.prog 37 #[s, .int .i64 k] w (fun e w' => e = .returned (.int .i64 (k + 3 * bs.length)) ∧ (∃ row, w.grownBy w' row ∧ ∀ r, row = some r → lo ≤ r ∧ r < hi) ∧ ResR w' lo hi s (markL k bs.length)) := by
  rcases h with ⟨rfl, a, c, rfl⟩ | ⟨g, cap, rfl, h3, h4, ho⟩
  · refine (markBlockS_nil a c k w).mono ?_
    rintro e w' ⟨rfl, rfl⟩
    exact ⟨by simp, ⟨none, only_refl _ _, by simp⟩, .inl ⟨rfl, a, c, rfl⟩⟩
  · refine (markBlockS_any g cap bs k w ho hl h0 h1).mono ?_
    rintro e w' ⟨rfl, hg, ho'⟩
    exact ⟨rfl, ⟨some g, hg, fun r hr => by cases hr; exact ⟨h3, h4⟩⟩, .inr ⟨g, cap, by rw [markL_length], h3, h4, ho'⟩⟩
theorem heldR (lo hi : Nat) (s : Value) (n : Nat) (k : Int) (w : World) (h : ResR w lo hi s (markL k n)) (hl : n ≤ 1100000) (h0 : 0 ≤ k) (h1 : k ≤ 9000000) :
    Calls Try.prog 109 #[s, .int .i64 k] w (RS (.int .i64 (k + 3 * n)) w) := by
  rcases h with ⟨hn, a, c, rfl⟩ | ⟨g, cap, rfl, h3, h4, ho⟩
  · have : n = 0 := by have := congrArg List.length hn; simpa [markL_length] using this
    subst this
    simpa using heldBlockS_nil a c k w
  · rw [markL_length]
    exact heldBlockS_any g cap n k w ho.at_ hl h0 h1

/-- append of one block to a list of the call's own. -/
theorem wpList_append_blk {w : World} {ops : Array Oper} {rest : List Oper} {o : Oper} {a : Act} {Q : Exit → Act → World → Prop} (hgd : o.guard = none) (s x : Operand)
    (ho : o.op = .call { callee := .builtin .append, args := #[s, x], argTypes := #[24, 24] })
    (base : Nat) (v : Value) (bs : List Blk) (hs : a.eval s = v) (hown : OwnR w base v bs) (b0 c : Nat) (y : Blk) (hx : a.eval x = .slice (some ⟨b0, 0, none⟩) 1 c)
    (c1 : w.cell? ⟨b0, 0, none⟩ = some (.int .i64 y.a)) (c2 : w.cell? ⟨b0, 1, none⟩ = some (.int .i64 y.b)) (c3 : w.cell? ⟨b0, 2, none⟩ = some (.int .i64 y.c))
    (hl : bs.length ≤ 1100000) (hbase : base ≤ w.heap.size)
    (h : ∀ (g cap : Nat) (w' : World), OwnR w' base (.slice (some ⟨g, 0, none⟩) (bs.length + 1) cap) (bs ++ [y]) → w.grownBy w' v.ownBlock → wpList Try.prog ops Q rest (a.put o.dst (.slice (some ⟨g, 0, none⟩) (bs.length + 1) cap)) w') : wpList Try.prog ops Q (o :: rest) a w := by
  obtain ⟨i0, hi, hz0, hz1, hz2⟩ := info_parts infoBlock
  refine wpList_append_own w hgd s x 24 ho base 62 i0 _ 3 24 Try.underlying24 hi hz0 hz1 hz2 rfl (by decide) v bs.length (bs.flatMap cells3) hs hown ⟨b0, 0, none⟩ 1 c (cells3 y) hx rfl ?_ ?_ (by unfold maxLen; omega) (by omega) hbase ?_
  · intro j u hj
    rw [addr_at, Nat.zero_add]
    match j, hj with
    | 0, hj => simp [cells3] at hj; rw [← hj]; exact c1
    | 1, hj => simp [cells3] at hj; rw [← hj]; exact c2
    | 2, hj => simp [cells3] at hj; rw [← hj]; exact c3
    | j + 3, hj => simp [cells3] at hj
  · intro u hu
    simp [cells3] at hu
    rcases hu with rfl | rfl | rfl <;> rfl
  · intro v' w' hown' hg _
    obtain ⟨g, cap, rfl⟩ := row_some hown'
    refine h g cap w' ?_ hg
    unfold OwnR
    rw [List.length_append, List.length_singleton, List.flatMap_append, List.flatMap_singleton]
    exact hown'
end Go.Proofs.Ytlchcnngikgjjaa

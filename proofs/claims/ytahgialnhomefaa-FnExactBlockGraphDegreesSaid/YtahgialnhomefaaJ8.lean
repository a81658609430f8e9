
/- Rows of rows of integers that a call makes by append; the squares of few points. impl.SquareOf makes the square of its number. The laws' copies of rows of integers, and how much they hold. The laws' copies of rows of rows, and how much they hold. The laws' copy of rows of rows. Walks by two involutions, by turns: plain. The pairs of a list of blocks, as a map. The program's PairsLeft. The model's squares. -/
import Derived.Test.YtahgialnhomefaaJ7
namespace Go.Proofs.Ytahgialnhomefaa
open Go.RowKit Go.Maps
theorem infoRow : (Try.prog.info? 38).map (fun i => (i.zero, i.size, i.bytes)) = some (some (.slice none 0 0), 1, 24) := by kernel_rfl
def rowV (gs caps : Nat → Nat) (F : Nat → List Int) (k : Nat) : Value := .slice (some ⟨gs k, 0, none⟩) (F k).length (caps k)
/-- The value owns a slice of n rows, each in a block of its own. -/
structure AccS (w : World) (base : Nat) (u : Value) (n : Nat) (gs caps : Nat → Nat) (F : Nat → List Int) : Prop where
  own : w.ownsRow base 38 1 u n ((List.range n).map (rowV gs caps F))
  row : ∀ k, k < n → OwnAtI w (gs k) (F k)
  ne : ∀ k, k < n → u.ownBlock ≠ some (gs k)
  inc : ∀ j k, j < k → k < n → gs j ≠ gs k
  low : ∀ k, k < n → base ≤ gs k
theorem ownsRow_lt {w : World} {base : Nat} {e : TypeId} {size n : Nat} {u : Value} {xs : List Value} (h : w.ownsRow base e size u n xs) : ∀ r, u.ownBlock = some r → base ≤ r ∧ r < w.heap.size := fun r hr => by
  rcases h.2 with ⟨rfl, _⟩ | ⟨g, cap, cur, rfl, hb, hcur, _⟩
  · simp [Value.ownBlock] at hr
  · obtain rfl : g = r := by simpa [Value.ownBlock] using hr
    exact ⟨hb, (Array.getElem?_eq_some_iff.1 hcur).1⟩
theorem ownsRow_kept {w w' : World} {base : Nat} {e : TypeId} {size n : Nat} {u : Value} {xs : List Value} {row : Option Nat} (h : w.ownsRow base e size u n xs) (hg : w.grownBy w' row) (hr : row = none ∨ u.ownBlock ≠ row) : w'.ownsRow base e size u n xs := by
  obtain ⟨hl, h | ⟨g, cap, cur, rfl, hb, hcur, hrest⟩⟩ := h
  · exact ⟨hl, .inl h⟩
  · exact ⟨hl, .inr ⟨g, cap, cur, rfl, hb, (hg.block g (Array.getElem?_eq_some_iff.1 hcur).1 (fun e => by
      rcases hr with rfl | hr
      · cases e
      · exact hr (by rw [← e]; rfl))).trans hcur, hrest⟩⟩
section
variable {w w' : World} {base : Nat} {u : Value} {n : Nat} {gs caps : Nat → Nat} {F : Nat → List Int}
theorem AccS.kept (h : AccS w base u n gs caps F) {row : Option Nat} (hg : w.grownBy w' row) (hu : row = none ∨ u.ownBlock ≠ row) (hr : ∀ k, k < n → some (gs k) ≠ row) : AccS w' base u n gs caps F :=
  ⟨ownsRow_kept h.own hg hu, fun k hk => (h.row k hk).kept hg (hr k hk), h.ne, h.inc, h.low⟩
theorem AccS.below (h : AccS w base u n gs caps F) {B : Nat} (hb : Below B w w') (hB : w.heap.size ≤ B) : AccS w' base u n gs caps F :=
  h.kept (only_of_below (hb.mono hB) none) (.inl rfl) (by simp)
theorem AccS.nil (w : World) (base : Nat) (gs caps : Nat → Nat) (F : Nat → List Int) : AccS w base (.slice none 0 0) 0 gs caps F :=
  ⟨⟨rfl, .inl ⟨rfl, rfl⟩⟩, fun k hk => by omega, fun k hk => by omega, fun j k _ hk => by omega, fun k hk => by omega⟩
theorem AccS.ssr (h : AccS w base u n gs caps F) (hn : 0 < n) : ∃ G cap, u = .slice (some ⟨G, 0, none⟩) n cap ∧ base ≤ G ∧ SSR w base G gs caps n F := by
  obtain ⟨⟨hl, h1⟩, h2, h3, h4, h5⟩ := h
  rcases h1 with ⟨_, h0⟩ | ⟨g, cap, cur, rfl, hb, hcur, hn', hc, hsz, hx⟩
  · omega
  · refine ⟨g, cap, rfl, hb, ⟨fun k hk => ?_, h2, fun k hk e => h3 k hk (by rw [e]; rfl), h4, h5, (Array.getElem?_eq_some_iff.1 hcur).1⟩⟩
    have e : ((List.range n).map (rowV gs caps F))[k]? = some (rowV gs caps F k) := by simp [hk]
    rw [← hx, List.getElem?_take_of_lt (by omega)] at e
    simp [World.cell?, hcur]
    simpa [rowV] using e
end
theorem map_congr' {α β : Type} {f g : α → β} {l : List α} (h : ∀ x ∈ l, f x = g x) : l.map f = l.map g := List.map_congr_left h
theorem wpList_append_row {w : World} {ops : Array Oper} {rest : List Oper} {o : Oper} {a : Act} {Q : Exit → Act → World → Prop} (hgd : o.guard = none) (s x : Operand)
    (ho : o.op = .call { callee := .builtin .append, args := #[s, x], argTypes := #[57, 57] })
    (base : Nat) (v : Value) (n : Nat) (gs caps : Nat → Nat) (F : Nat → List Int) (hs : a.eval s = v) (hown : AccS w base v n gs caps F) (b0 c : Nat) (hx : a.eval x = .slice (some ⟨b0, 0, none⟩) 1 c) (g cg : Nat)
    (c1 : w.cell? ⟨b0, 0, none⟩ = some (.slice (some ⟨g, 0, none⟩) (F n).length cg)) (hrow : OwnAtI w g (F n)) (hgt : ∀ k, k < n → gs k < g) (hng : v.ownBlock ≠ some g) (hbg : base ≤ g) (hl : n ≤ 1100000) (hbase : base ≤ w.heap.size)
    (h : ∀ (G cap : Nat) (w' : World) (gs' caps' : Nat → Nat), AccS w' base (.slice (some ⟨G, 0, none⟩) (n + 1) cap) (n + 1) gs' caps' F → w.grownBy w' v.ownBlock → wpList Try.prog ops Q rest (a.put o.dst (.slice (some ⟨G, 0, none⟩) (n + 1) cap)) w') : wpList Try.prog ops Q (o :: rest) a w := by
  obtain ⟨i0, hi, hz0, hz1, hz2⟩ := info_parts infoRow
  refine wpList_append_own_at w hgd s x 57 ho base 38 i0 _ 1 24 Try.underlying57 hi hz0 hz1 hz2 rfl (by decide) v n _ hs hown.own ⟨b0, 0, none⟩ 1 c [.slice (some ⟨g, 0, none⟩) (F n).length cg] hx rfl ?_ ?_ (by unfold maxLen; omega) (by omega) hbase ?_
  · intro j u hj
    rw [addr_at, Nat.zero_add]
    match j, hj with
    | 0, hj => simp at hj; rw [← hj]; exact c1
    | j + 1, hj => simp at hj
  · intro u hu
    simp at hu
    rw [hu]
    rfl
  · intro v' w' hown' hg _ hob
    obtain ⟨G, cap, rfl⟩ := row_some hown'
    have hGg : G ≠ g := by
      rintro rfl
      rcases hob with e | e
      · exact hng (by rw [← e]; rfl)
      · simp [Value.ownBlock] at e
        have := hrow.lt
        omega
    refine h G cap w' (fun k => if k = n then g else gs k) (fun k => if k = n then cg else caps k) ⟨?_, fun k hk => ?_, fun k hk => ?_, fun j k hjk hk => ?_, fun k hk => ?_⟩ hg
    · rw [List.range_succ, List.map_append, List.map_singleton]
      have e1 : (List.range n).map (rowV (fun k => if k = n then g else gs k) (fun k => if k = n then cg else caps k) F) = (List.range n).map (rowV gs caps F) := map_congr' fun k hk => by
        have : k ≠ n := by have := List.mem_range.1 hk; omega
        simp [rowV, this]
      rw [e1]
      simpa [rowV] using hown'
    · split
      · subst k; exact hrow.kept hg (fun e => hng e.symm)
      · exact (hown.row k (by omega)).kept hg (fun e => hown.ne k (by omega) e.symm)
    · split
      · simpa [Value.ownBlock] using hGg
      · intro e
        have e' : G = gs k := by simpa [Value.ownBlock] using e
        rcases hob with e2 | e2
        · exact hown.ne k (by omega) (by rw [← e2, e])
        · simp [Value.ownBlock] at e2
          have := (hown.row k (by omega)).lt
          omega
    · rw [if_neg (by omega)]
      split
      · exact Nat.ne_of_lt (hgt j (by omega))
      · exact hown.inc j k hjk (by omega)
    · split
      · exact hbg
      · exact hown.low k (by omega)
/-- A slice of rows and a code. -/
def RSS (n : Nat) (F : Nat → List Int) (κ : Int) (w : World) (e : Ending) (w' : World) : Prop :=
  ∃ u G cap gs caps, e = .returned (.tuple #[u, .int .i64 κ]) ∧ Below w.heap.size w w' ∧ u = .slice (some ⟨G, 0, none⟩) n cap ∧ w.heap.size ≤ G ∧ SSR w' w.heap.size G gs caps n F
def hf (n s : Int) : Int := if (s % n) % 2 = 0 then (s % n) / 2 else if n % 2 = 0 then (s % n + n - 1) / 2 else (s % n + n) / 2
def rowP (n k : Nat) (j : Nat) : List Int := (List.range j).map fun (y : Nat) => hf n ((k : Int) + (y : Int))
def rowF (n k : Nat) : List Int := rowP n k n
theorem rowP_len (n k j : Nat) : (rowP n k j).length = j := by simp [rowP]
theorem rowP_succ (n k j : Nat) : rowP n k (j + 1) = rowP n k j ++ [hf n ((k : Int) + (j : Int))] := by simp [rowP, List.range_succ]
theorem rowP_next (n k j : Nat) (h : j < n) : (rowP n k j ++ List.replicate (n - j) 0).set j (hf n ((k : Int) + (j : Int))) = rowP n k (j + 1) ++ List.replicate (n - (j + 1)) 0 := by
  rw [rowP_succ, show n - j = (n - (j + 1)) + 1 by omega, List.replicate_succ, List.set_append_right _ _ (by rw [rowP_len]; omega), rowP_len, Nat.sub_self, List.set_cons_zero, List.append_assoc]
  rfl
theorem made_ints (w : World) (n : Nat) (T : TypeId) : OwnAtI (w.alloc (.cells (madeCells #[.int .i64 0] n) T)) w.heap.size (List.replicate n 0) := by
  refine ⟨by simp, fun k hk => ?_, fun o => by simp⟩
  rw [List.length_replicate] at hk
  rw [World.cell?_alloc_at _ _ _ _ rfl]
  simp [madeCells, hk, Nat.mod_one]
end Go.Proofs.Ytahgialnhomefaa

namespace Go.Proofs.Ytahgialnhomefaa
open Go.RowKit Go.Maps
theorem mkRow (n : Nat) (hn : n ≤ 1100000) (W : World) : (Instr.makeSlice 38 (.int .i64 (n : Int)) (.int .i64 (n : Int))).run Try.prog W = .ok (.slice (some ⟨W.heap.size, 0, none⟩) n n) (W.alloc (.cells (madeCells #[.int .i64 0] n) 2)) := by
  obtain ⟨i0, hi, hz0, hz1, hz2⟩ := info_parts infoInt64
  have hr := run_make (P := Try.prog) W 38 2 i0 (.int .i64 0) Try.underlying38 hi hz0 .i64 .i64 n n (by omega) (by omega) (by rw [hz2]; omega) (by omega)
  simp only [Int.toNat_natCast, hz1, Nat.mul_one] at hr
  exact hr
end Go.Proofs.Ytahgialnhomefaa

namespace Go.Proofs.Ytahgialnhomefaa
open Go.RowKit Go.Maps
theorem copy_next (zs : List Int) {k : Nat} (hk : k < zs.length) : (zs.take k ++ List.replicate (zs.length - k) 0).set k (zs[k]?.getD 0) = zs.take (k + 1) ++ List.replicate (zs.length - (k + 1)) 0 := by
  rw [show zs.length - k = (zs.length - (k + 1)) + 1 by omega, List.replicate_succ, List.set_append_right _ _ (by simp; omega), List.length_take, show k - min k zs.length = 0 by omega, List.set_cons_zero, List.take_add_one, List.append_assoc]
  simp [hk]
set_option maxRecDepth 100000 in
theorem toInt64S_any (s : Value) (zs : List Int) (w : World) (h : IB w s zs) :
    Calls Try.prog 38 #[s] w (fun e w' => e = .returned (.slice (some ⟨w.heap.size, 0, none⟩) zs.length zs.length) ∧ Below w.heap.size w w' ∧ OwnAtI w' w.heap.size zs) := by
  obtain ⟨hlen, h3⟩ := h
  rcases h3 with ⟨a0, c0, rfl, rfl⟩ | ⟨b, off, cap, rfl, hlt, hI⟩
  · have hm := mkRow 0 (by omega)
    simp only [Int.natCast_zero] at hm
    clear hlen
    go_enter Try.func38, Try.ntmps38
    go_wp2
    refine wp_loop_rounds 1 ?_
    rw [rounds_succ]
    go_wp2
    go_ret
    exact ⟨rfl, (Below.refl _ _).alloc (Nat.le_refl _) _, ⟨by simp, fun k hk => by simp at hk, fun o => by simp⟩⟩
  · have hm := mkRow zs.length hlen
    have HI := Lib.hid hI
    clear hI
    go_enter Try.func38, Try.ntmps38
    go_wp2
    go_loopw [4] (fun i wr => ∃ k : Nat, k ≤ zs.length ∧ i = .int .i64 k ∧ Below w.heap.size w wr ∧ OwnAtI wr w.heap.size (zs.take k ++ List.replicate (zs.length - k) 0)) (fun i _ => zs.length - (intOf i).toNat)
    case atStart => exact ⟨0, Nat.zero_le _, rfl, (Below.refl _ _).alloc (Nat.le_refl _) _, by simpa using made_ints w zs.length _⟩
    case round =>
      obtain ⟨k, hk, rfl, hB, ho⟩ := hrel
      by_cases hkl : k < zs.length
      · have c0 := (hB.cell (p := ⟨b, off + k, none⟩) hlt).trans (HI.out k hkl)
        have hlk : k < (zs.take k ++ List.replicate (zs.length - k) 0).length := by simp; omega
        have c1 := ho.at_ k hlk
        rw [Nat.zero_add] at c1
        have f1 := ho.free
        have hs := Ints.set ho.at_ hlk (zs[k]?.getD 0)
        rw [copy_next zs hkl] at hs
        have hzlt := ho.lt
        obtain ⟨z, hz⟩ : ∃ z, z = zs[k]?.getD 0 := ⟨_, rfl⟩
        rw [← hz] at c0 hs
        have HS := Lib.hid hs
        clear hz hs ho
        have g0 : (0 : Int) ≤ (k : Int) := by omega
        have g1 : (k : Int) < (zs.length : Int) := by omega
        go_wp2
        go_roundw
        case rel => exact ⟨k + 1, by omega, by go_num, hB.setCell (p := ⟨w.heap.size, k, none⟩) (Nat.le_refl _) _, ⟨by simpa [World.setCell] using hzlt, HS.out, fun o => by rw [World.frozen?_setCell]; exact f1 o⟩⟩
        case measure => simp [intOf]; omega
      · go_wp2
        go_ret
        have e : k = zs.length := by omega
        subst e
        exact ⟨rfl, hB, by simpa using ho⟩
end Go.Proofs.Ytahgialnhomefaa

namespace Go.Proofs.Ytahgialnhomefaa
open Go.RowKit Go.Maps
/-- How many elements rows of these lengths hold, the first k of them. -/
def totL (l : Nat → Nat) : Nat → Nat
  | 0 => 0
  | k + 1 => totL l k + l k
theorem totL_le (l : Nat → Nat) {j n : Nat} (h : j ≤ n) : totL l j ≤ totL l n := by
  induction h with
  | refl => exact Nat.le_refl _
  | step _ ih => exact Nat.le_trans ih (by simp [totL])
/-- A slice of n slices of these lengths. -/
def HeadS (w : World) (s : Value) (n : Nat) (l : Nat → Nat) : Prop :=
  (n = 0 ∧ ∃ a c, s = .slice a 0 c) ∨ ∃ b off cap, s = .slice (some ⟨b, off, none⟩) n cap ∧ ∀ k, k < n → (l k : Int) ≤ 9223372036854775807 ∧ ∃ a c, w.cell? ⟨b, off + k, none⟩ = some (.slice a (l k) c)
theorem HeadS.slice {w : World} {s : Value} {n : Nat} {l : Nat → Nat} (h : HeadS w s n l) : ∃ a c, s = .slice a n c := by
  rcases h with ⟨rfl, a, c, rfl⟩ | ⟨b, off, cap, rfl, _⟩ <;> exact ⟨_, _, rfl⟩
end Go.Proofs.Ytahgialnhomefaa

namespace Go.Proofs.Ytahgialnhomefaa
open Go.RowKit Go.Maps
theorem mkRows (n : Nat) (hn : n ≤ 1100000) (W : World) : (Instr.makeSlice 57 (.int .i64 (n : Int)) (.int .i64 (n : Int))).run Try.prog W = .ok (.slice (some ⟨W.heap.size, 0, none⟩) n n) (W.alloc (.cells (madeCells #[.slice none 0 0] n) 38)) := by
  obtain ⟨i0, hi, hz0, hz1, hz2⟩ := info_parts infoRow
  have hr := run_make (P := Try.prog) W 57 38 i0 (.slice none 0 0) Try.underlying57 hi hz0 .i64 .i64 n n (by omega) (by omega) (by rw [hz2]; omega) (by omega)
  simp only [Int.toNat_natCast, hz1, Nat.mul_one] at hr
  exact hr
end Go.Proofs.Ytahgialnhomefaa

namespace Go.Proofs.Ytahgialnhomefaa
section
variable {X : Type} (f g : X → X) (S : X → Prop)
/-- The k-th point of the walk: by f first, then by g, and so on. -/
def stepN (p : X) : Nat → X
  | 0 => p
  | k + 1 => if k % 2 = 0 then f (stepN p k) else g (stepN p k)
/-- Two involutions of a set that have no fixed point and nowhere agree. -/
structure Two : Prop where
  fin : ∀ x, S x → S (f x)
  gin : ∀ x, S x → S (g x)
  ff : ∀ x, S x → f (f x) = x
  gg : ∀ x, S x → g (g x) = x
  fne : ∀ x, S x → f x ≠ x
  gne : ∀ x, S x → g x ≠ x
  fg : ∀ x, S x → f x ≠ g x
variable {f g S}
theorem Two.mem (h : Two f g S) {p : X} (hp : S p) : ∀ k, S (stepN f g p k)
  | 0 => hp
  | k + 1 => by
    unfold stepN
    split
    · exact h.fin _ (h.mem hp k)
    · exact h.gin _ (h.mem hp k)
/-- A step back. -/
theorem Two.back (h : Two f g S) {p : X} (hp : S p) (k : Nat) : (if k % 2 = 0 then f (stepN f g p (k + 1)) else g (stepN f g p (k + 1))) = stepN f g p k := by
  have hk := h.mem hp k
  show (if k % 2 = 0 then f (if k % 2 = 0 then f (stepN f g p k) else g (stepN f g p k)) else g (if k % 2 = 0 then f (stepN f g p k) else g (stepN f g p k))) = stepN f g p k
  split
  · exact h.ff _ hk
  · exact h.gg _ hk
/-- Until k no point comes twice. -/
def Fresh (f g : X → X) (p : X) (k : Nat) : Prop := ∀ i j, i < j → j < k → stepN f g p i ≠ stepN f g p j
/-- The first point that comes again is the first one, behind a step by g. -/
theorem Two.first (h : Two f g S) {p : X} (hp : S p) {j i : Nat} (hf : Fresh f g p j) (hij : i < j) (he : stepN f g p j = stepN f g p i) : i = 0 ∧ j % 2 = 0 := by
  obtain ⟨m, rfl⟩ : ∃ m, j = m + 1 := ⟨j - 1, by omega⟩
  have hb := h.back hp m
  rw [he] at hb
  -- the neighbours of the i-th point
  by_cases hi : i = 0
  · subst hi
    refine ⟨rfl, ?_⟩
    apply Classical.byContradiction
    intro hodd
    rw [if_pos (by omega)] at hb
    -- f p is the first point, and the m-th
    have h1 : stepN f g p 1 = f (stepN f g p 0) := rfl
    rw [← h1] at hb
    rcases Nat.eq_zero_or_pos m with rfl | hm
    · exact h.fne _ (h.mem hp 0) (hb : f (stepN f g p 0) = stepN f g p 0)
    · rcases Nat.lt_or_ge 1 m with h2 | h2
      · exact hf 1 m h2 (by omega) hb
      · omega
  · exfalso
    obtain ⟨l, rfl⟩ : ∃ l, i = l + 1 := ⟨i - 1, by omega⟩
    have hback := h.back hp l
    have hnext : stepN f g p (l + 1 + 1) = if (l + 1) % 2 = 0 then f (stepN f g p (l + 1)) else g (stepN f g p (l + 1)) := rfl
    by_cases hpar : l % 2 = m % 2
    · -- the same kind of step: the m-th is the l-th
      have : stepN f g p m = stepN f g p l := by
        rw [← hb, ← hback]
        simp only [hpar]
      exact hf l m (by omega) (by omega) this.symm
    · have hq : stepN f g p m = stepN f g p (l + 1 + 1) := by
        rw [← hb, hnext]
        by_cases e : m % 2 = 0
        · rw [if_pos e, if_pos (by omega)]
        · rw [if_neg e, if_neg (by omega)]
      rcases Nat.lt_or_ge (l + 1 + 1) m with h2 | h2
      · exact hf (l + 1 + 1) m h2 (by omega) hq.symm
      · rcases Nat.eq_or_lt_of_le h2 with h3 | h3
        · -- m = l + 2: the kinds are the same
          omega
        · -- m = l + 1: a fixed point
          have hm : m = l + 1 := by omega
          subst hm
          have hx := h.mem hp (l + 1)
          rw [hnext] at hq
          split at hq
          · exact h.fne _ hx hq.symm
          · exact h.gne _ hx hq.symm
/-- There is a first point that comes again: within as many steps as the set has points. -/
theorem fresh_len {p : X} {l : List X} (hl : ∀ k, stepN f g p k ∈ l) {k : Nat} (hf : Fresh f g p k) : k ≤ l.length := by
  have hn : ((List.range k).map (stepN f g p)).Nodup := by
    rw [List.Nodup, List.pairwise_map]
    exact List.pairwise_lt_range.imp_of_mem fun {a b} _ hb hab e => hf a b hab (List.mem_range.1 hb) e
  have := List.Nodup.length_le_of_subset hn (l₂ := l) (fun x hx => by obtain ⟨i, _, rfl⟩ := List.mem_map.1 hx; exact hl i)
  simpa using this
theorem fresh_zero (p : X) : Fresh f g p 0 := fun _ _ _ h => absurd h (Nat.not_lt_zero _)
theorem fresh_succ {p : X} {k : Nat} (hf : Fresh f g p k) (h : ∀ i, i < k → stepN f g p k ≠ stepN f g p i) : Fresh f g p (k + 1) := fun i j hij hj => by
  rcases Nat.lt_or_ge j k with h1 | h1
  · exact hf i j hij h1
  · obtain rfl : j = k := by omega
    exact fun e => h i hij e.symm
/-- The period. -/
theorem Two.period (h : Two f g S) {p : X} (hp : S p) {l : List X} (hl : ∀ x, S x → x ∈ l) : ∃ N, 0 < N ∧ N % 2 = 0 ∧ N ≤ l.length ∧ Fresh f g p N ∧ stepN f g p N = p := by
  have hs : ∀ n k, l.length + 1 - k ≤ n → Fresh f g p k → 0 < k → ∃ N, 0 < N ∧ N % 2 = 0 ∧ N ≤ l.length ∧ Fresh f g p N ∧ stepN f g p N = p := by
    intro n
    induction n with
    | zero =>
      intro k hk hf _
      have := fresh_len (l := l) (fun k => hl _ (h.mem hp k)) hf
      omega
    | succ n ih =>
      intro k hk hf h0
      by_cases hc : ∃ i, i < k ∧ stepN f g p k = stepN f g p i
      · obtain ⟨i, hi, he⟩ := hc
        obtain ⟨rfl, h2⟩ := h.first hp hf hi he
        exact ⟨k, h0, h2, fresh_len (l := l) (fun k => hl _ (h.mem hp k)) hf, hf, he⟩
      · refine ih (k + 1) (by omega) (fresh_succ hf fun i hi e => hc ⟨i, hi, e⟩) (by omega)
  exact hs _ 1 (Nat.le_refl _) (fun i j hij hj => by omega) (by decide)
/-- The points of a cycle are closed under both. -/
theorem Two.closed (h : Two f g S) {p : X} (hp : S p) {N : Nat} (h0 : 0 < N) (h2 : N % 2 = 0) (he : stepN f g p N = p) {k : Nat} (hk : k < N) : (∃ i, i < N ∧ f (stepN f g p k) = stepN f g p i) ∧ ∃ i, i < N ∧ g (stepN f g p k) = stepN f g p i := by
  by_cases hk2 : k % 2 = 0
  · refine ⟨⟨k + 1, by omega, by show _ = (if k % 2 = 0 then _ else _); rw [if_pos hk2]⟩, ?_⟩
    rcases Nat.eq_zero_or_pos k with rfl | h1
    · refine ⟨N - 1, by omega, ?_⟩
      have hb := h.back hp (N - 1)
      rw [show N - 1 + 1 = N by omega, he, if_neg (by omega)] at hb
      exact hb
    · refine ⟨k - 1, by omega, ?_⟩
      have hb := h.back hp (k - 1)
      rw [show k - 1 + 1 = k by omega, if_neg (by omega)] at hb
      exact hb
  · constructor
    · refine ⟨k - 1, by omega, ?_⟩
      have hb := h.back hp (k - 1)
      rw [show k - 1 + 1 = k by omega, if_pos (by omega)] at hb
      exact hb
    · rcases Nat.lt_or_ge (k + 1) N with h3 | h3
      · exact ⟨k + 1, h3, by show _ = (if k % 2 = 0 then _ else _); rw [if_neg hk2]⟩
      · have hN : k + 1 = N := by omega
        have hst : stepN f g p (k + 1) = g (stepN f g p k) := by
          show (if k % 2 = 0 then _ else _) = _
          rw [if_neg hk2]
        refine ⟨0, h0, ?_⟩
        rw [← hst, hN, he]
        rfl
end
end Go.Proofs.Ytahgialnhomefaa

namespace Go.Proofs.Ytahgialnhomefaa
open Go.RowKit Go.Maps
end Go.Proofs.Ytahgialnhomefaa

namespace Go.Proofs.Ytahgialnhomefaa
open Go.RowKit Go.Maps
/-- The pairs (a, b), b among the next n, that P lets through; then those of the rows before a. -/
def rowL (P : Int → Int → Bool) (a : Nat) : Nat → List (Int × Int)
  | 0 => []
  | n + 1 => rowL P a n ++ if P a ((a : Int) + 1 + n) then [((a : Int), (a : Int) + 1 + n)] else []
def leftL (P : Int → Int → Bool) (v : Nat) : Nat → List (Int × Int)
  | 0 => []
  | a + 1 => leftL P v a ++ rowL P a (v - 1 - a)
theorem rowL_len (P : Int → Int → Bool) (a n : Nat) : (rowL P a n).length ≤ n := by
  induction n with
  | zero => simp [rowL]
  | succ n ih =>
    unfold rowL
    rw [List.length_append]
    split <;> simp <;> omega
theorem leftL_len (P : Int → Int → Bool) (v a : Nat) : (leftL P v a).length ≤ a * v := by
  induction a with
  | zero => simp [leftL]
  | succ a ih =>
    unfold leftL
    rw [List.length_append, Nat.succ_mul]
    have := rowL_len P a (v - 1 - a)
    omega
theorem rowL_congr {P Q : Int → Int → Bool} {a : Nat} : ∀ n : Nat, (∀ b : Int, (a : Int) < b → b ≤ a + n → P a b = Q a b) → rowL P a n = rowL Q a n
  | 0, _ => rfl
  | n + 1, h => by
    unfold rowL
    rw [rowL_congr n (fun b h1 h2 => h b h1 (by omega)), h ((a : Int) + 1 + n) (by omega) (by omega)]
theorem leftL_congr {P Q : Int → Int → Bool} {v : Nat} : ∀ a : Nat, a ≤ v → (∀ a' b : Int, 0 ≤ a' → a' < b → b < v → P a' b = Q a' b) → leftL P v a = leftL Q v a
  | 0, _, _ => rfl
  | a + 1, ha, h => by
    unfold leftL
    rw [leftL_congr a (by omega) h, rowL_congr _ (fun b h1 h2 => h a b (by omega) h1 (by omega))]
def fnL (L : List (Int × Int)) (k : Nat) : List Int := let p := L[k]?.getD (0, 0); [p.1, p.2]
theorem fnL_len (L : List (Int × Int)) (k : Nat) : (fnL L k).length = 2 := rfl
theorem fnL_lt {L L' : List (Int × Int)} {k : Nat} (h : k < L.length) : fnL L k = fnL (L ++ L') k := by
  unfold fnL
  rw [List.getElem?_append_left h]
theorem fnL_at (L : List (Int × Int)) (p : Int × Int) : fnL (L ++ [p]) L.length = [p.1, p.2] := by simp [fnL]
theorem AccS.congr {w : World} {base : Nat} {u : Value} {n : Nat} {gs caps : Nat → Nat} {F F' : Nat → List Int} (h : AccS w base u n gs caps F) (e : ∀ k, k < n → F k = F' k) : AccS w base u n gs caps F' := by
  refine ⟨?_, fun k hk => by rw [← e k hk]; exact h.row k hk, h.ne, h.inc, h.low⟩
  have he : (List.range n).map (rowV gs caps F') = (List.range n).map (rowV gs caps F) := map_congr' fun k hk => by
    have := e k (List.mem_range.1 hk)
    simp [rowV, this]
  rw [he]
  exact h.own
theorem AccS.base {w : World} {base base' : Nat} {u : Value} {n : Nat} {gs caps : Nat → Nat} {F : Nat → List Int} (h : AccS w base u n gs caps F) (hb : base' ≤ base) : AccS w base' u n gs caps F :=
  ⟨ownsRow_base h.own hb, h.row, h.ne, h.inc, fun k hk => Nat.le_trans hb (h.low k hk)⟩
theorem wf_pl {n : Int} (h0 : 0 ≤ n) (h1 : n ≤ 1000) : WF n := by
  have : n = wrap64 n := by unfold wrap64; omega
  unfold WF
  rw [this]
  exact wrap64_wf _
def notIn (seen : List (Int × Int)) (a b : Int) : Bool := !decide ((a, b) ∈ seen)
theorem two_own (w : World) (x y : Int) (T : TypeId) : OwnAtI (w.alloc (.cells #[.int .i64 x, .int .i64 y] T)) w.heap.size [x, y] := by
  refine ⟨by simp, fun k hk => ?_, fun o => by simp⟩
  rw [World.cell?_alloc_at _ _ _ _ rfl]
  match k, hk with
  | 0, _ => rfl
  | 1, _ => rfl
end Go.Proofs.Ytahgialnhomefaa

namespace Go.Proofs.Ytahgialnhomefaa
open Go.RowKit Go.Maps
theorem AccS.new0 (W : World) (gs caps : Nat → Nat) (F : Nat → List Int) {base : Nat} (hb : base ≤ W.heap.size) : AccS (W.alloc (.cells #[] 38)) base (.slice (some ⟨W.heap.size, 0, none⟩) 0 0) 0 gs caps F :=
  ⟨⟨rfl, .inr ⟨W.heap.size, 0, #[], rfl, hb, World.alloc_heap_new W _, Nat.le_refl _, Nat.zero_le _, rfl, rfl⟩⟩, fun k hk => by omega, fun k hk => by omega, fun j k _ hk => by omega, fun k hk => by omega⟩
theorem l01In_val (n : Int) (β : Bool) (hβ : (decide ((2 : Int) ≤ n) && decide (n ≤ 5)) = β) (W : World) : Calls Try.prog 80 #[.int .i64 n, .int .i64 2, .int .i64 5] W (RS (.bool β) W) := by
  have h := l01In_any n 2 5 W
  rw [hβ] at h
  exact h
end Go.Proofs.Ytahgialnhomefaa

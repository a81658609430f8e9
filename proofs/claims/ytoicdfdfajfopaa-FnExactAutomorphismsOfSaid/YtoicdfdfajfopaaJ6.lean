
/- Rows of rows of integers that a call makes by append; the squares of few points. The common point of two blocks: the program's and the model's. The model's common point of two blocks. The model's other points of a block. The model's order of lists of integers. The model's test whether two lists are the same, and its number of a block. A list of rows as a list of headers: what l03Put writes. What the outline's lists of rows hold: ascending, each row once. Renumberings of full systems, plain: all that the program's search finds, in their order. The place of a value in a slice of numbers; images that are not known yet. The program's iterator over renumberings: where all images are known. -/
import Derived.Test.YtoicdfdfajfopaaJ5
import Derived.Deep.RegionHeld3
import Derived.BigQuiet
import Derived.WalkMore
import Derived.BigFrameIn
import Derived.BigRegionIn
namespace Go.Proofs.Ytoicdfdfajfopaa
open Go.RowKit Go.Maps
theorem infoRow : (Try.prog.info? 25).map (fun i => (i.zero, i.size, i.bytes)) = some (some (.slice none 0 0), 1, 24) := by kernel_rfl
def rowV (gs caps : Nat → Nat) (F : Nat → List Int) (k : Nat) : Value := .slice (some ⟨gs k, 0, none⟩) (F k).length (caps k)
/-- The value owns a slice of n rows, each in a block of its own. -/
structure AccS (w : World) (base : Nat) (u : Value) (n : Nat) (gs caps : Nat → Nat) (F : Nat → List Int) : Prop where
  own : w.ownsRow base 25 1 u n ((List.range n).map (rowV gs caps F))
  row : ∀ k, k < n → OwnAtI w (gs k) (F k)
  ne : ∀ k, k < n → u.ownBlock ≠ some (gs k)
  inc : ∀ j k, j < k → k < n → gs j ≠ gs k
  low : ∀ k, k < n → base ≤ gs k
theorem ownsRow_lt {w : World} {base : Nat} {e : TypeId} {size n : Nat} {u : Value} {xs : List Value} (h : w.ownsRow base e size u n xs) : ∀ r, u.ownBlock = some r → base ≤ r ∧ r < w.heap.size := fun r hr => by
  rcases h.2 with ⟨rfl, _⟩ | ⟨g, cap, cur, rfl, hb, hcur, _⟩
  · simp [Value.ownBlock] at hr
  · obtain rfl : g = r := by simpa [Value.ownBlock] using hr
    exact ⟨hb, (Array.getElem?_eq_some_iff.1 hcur).1⟩
theorem ownsRow_kept {w w' : World} {base : Nat} {e : TypeId} {size n : Nat} {u : Value} {xs : List Value} {row : Option Nat} (h : w.ownsRow base e size u n xs) (hg : w.grownBy w' row) (hr : row = none ∨ u.ownBlock ≠ row) : w'.ownsRow base e size u n xs := by
  obtain ⟨hl, h | ⟨g, cap, cur, rfl, hb, hcur, hrest⟩⟩ := h
  · exact ⟨hl, .inl h⟩
  · exact ⟨hl, .inr ⟨g, cap, cur, rfl, hb, (hg.block g (Array.getElem?_eq_some_iff.1 hcur).1 (fun e => by
      rcases hr with rfl | hr
      · cases e
      · exact hr (by rw [← e]; rfl))).trans hcur, hrest⟩⟩
section
variable {w w' : World} {base : Nat} {u : Value} {n : Nat} {gs caps : Nat → Nat} {F : Nat → List Int}
theorem AccS.kept (h : AccS w base u n gs caps F) {row : Option Nat} (hg : w.grownBy w' row) (hu : row = none ∨ u.ownBlock ≠ row) (hr : ∀ k, k < n → some (gs k) ≠ row) : AccS w' base u n gs caps F :=
  ⟨ownsRow_kept h.own hg hu, fun k hk => (h.row k hk).kept hg (hr k hk), h.ne, h.inc, h.low⟩
theorem AccS.below (h : AccS w base u n gs caps F) {B : Nat} (hb : Below B w w') (hB : w.heap.size ≤ B) : AccS w' base u n gs caps F :=
  h.kept (only_of_below (hb.mono hB) none) (.inl rfl) (by simp)
theorem AccS.nil (w : World) (base : Nat) (gs caps : Nat → Nat) (F : Nat → List Int) : AccS w base (.slice none 0 0) 0 gs caps F :=
  ⟨⟨rfl, .inl ⟨rfl, rfl⟩⟩, fun k hk => by omega, fun k hk => by omega, fun j k _ hk => by omega, fun k hk => by omega⟩
theorem AccS.ssr (h : AccS w base u n gs caps F) (hn : 0 < n) : ∃ G cap, u = .slice (some ⟨G, 0, none⟩) n cap ∧ base ≤ G ∧ SSR w base G gs caps n F := by
  obtain ⟨⟨hl, h1⟩, h2, h3, h4, h5⟩ := h
  rcases h1 with ⟨_, h0⟩ | ⟨g, cap, cur, rfl, hb, hcur, hn', hc, hsz, hx⟩
  · omega
  · refine ⟨g, cap, rfl, hb, ⟨fun k hk => ?_, h2, fun k hk e => h3 k hk (by rw [e]; rfl), h4, h5, (Array.getElem?_eq_some_iff.1 hcur).1⟩⟩
    have e : ((List.range n).map (rowV gs caps F))[k]? = some (rowV gs caps F k) := by simp [hk]
    rw [← hx, List.getElem?_take_of_lt (by omega)] at e
    simp [World.cell?, hcur]
    simpa [rowV] using e
end
theorem map_congr' {α β : Type} {f g : α → β} {l : List α} (h : ∀ x ∈ l, f x = g x) : l.map f = l.map g := List.map_congr_left h
theorem wpList_append_row {w : World} {ops : Array Oper} {rest : List Oper} {o : Oper} {a : Act} {Q : Exit → Act → World → Prop} (hgd : o.guard = none) (s x : Operand)
    (ho : o.op = .call { callee := .builtin .append, args := #[s, x], argTypes := #[46, 46] })
    (base : Nat) (v : Value) (n : Nat) (gs caps : Nat → Nat) (F : Nat → List Int) (hs : a.eval s = v) (hown : AccS w base v n gs caps F) (b0 c : Nat) (hx : a.eval x = .slice (some ⟨b0, 0, none⟩) 1 c) (g cg : Nat)
    (c1 : w.cell? ⟨b0, 0, none⟩ = some (.slice (some ⟨g, 0, none⟩) (F n).length cg)) (hrow : OwnAtI w g (F n)) (hgt : ∀ k, k < n → gs k < g) (hng : v.ownBlock ≠ some g) (hbg : base ≤ g) (hl : n ≤ 1100000) (hbase : base ≤ w.heap.size)
    (h : ∀ (G cap : Nat) (w' : World) (gs' caps' : Nat → Nat), AccS w' base (.slice (some ⟨G, 0, none⟩) (n + 1) cap) (n + 1) gs' caps' F → w.grownBy w' v.ownBlock → wpList Try.prog ops Q rest (a.put o.dst (.slice (some ⟨G, 0, none⟩) (n + 1) cap)) w') : wpList Try.prog ops Q (o :: rest) a w := by
  obtain ⟨i0, hi, hz0, hz1, hz2⟩ := info_parts infoRow
  refine wpList_append_own_at w hgd s x 46 ho base 25 i0 _ 1 24 Try.underlying46 hi hz0 hz1 hz2 rfl (by decide) v n _ hs hown.own ⟨b0, 0, none⟩ 1 c [.slice (some ⟨g, 0, none⟩) (F n).length cg] hx rfl ?_ ?_ (by unfold maxLen; omega) (by omega) hbase ?_
  · intro j u hj
    rw [addr_at, Nat.zero_add]
    match j, hj with
    | 0, hj => simp at hj; rw [← hj]; exact c1
    | j + 1, hj => simp at hj
  · intro u hu
    simp at hu
    rw [hu]
    rfl
  · intro v' w' hown' hg _ hob
    obtain ⟨G, cap, rfl⟩ := row_some hown'
    have hGg : G ≠ g := by
      rintro rfl
      rcases hob with e | e
      · exact hng (by rw [← e]; rfl)
      · simp [Value.ownBlock] at e
        have := hrow.lt
        omega
    refine h G cap w' (fun k => if k = n then g else gs k) (fun k => if k = n then cg else caps k) ⟨?_, fun k hk => ?_, fun k hk => ?_, fun j k hjk hk => ?_, fun k hk => ?_⟩ hg
    · rw [List.range_succ, List.map_append, List.map_singleton]
      have e1 : (List.range n).map (rowV (fun k => if k = n then g else gs k) (fun k => if k = n then cg else caps k) F) = (List.range n).map (rowV gs caps F) := map_congr' fun k hk => by
        have : k ≠ n := by have := List.mem_range.1 hk; omega
        simp [rowV, this]
      rw [e1]
      simpa [rowV] using hown'
    · split
      · subst k; exact hrow.kept hg (fun e => hng e.symm)
      · exact (hown.row k (by omega)).kept hg (fun e => hown.ne k (by omega) e.symm)
    · split
      · simpa [Value.ownBlock] using hGg
      · intro e
        have e' : G = gs k := by simpa [Value.ownBlock] using e
        rcases hob with e2 | e2
        · exact hown.ne k (by omega) (by rw [← e2, e])
        · simp [Value.ownBlock] at e2
          have := (hown.row k (by omega)).lt
          omega
    · rw [if_neg (by omega)]
      split
      · exact Nat.ne_of_lt (hgt j (by omega))
      · exact hown.inc j k hjk (by omega)
    · split
      · exact hbg
      · exact hown.low k (by omega)
/-- A slice of rows and a code. -/
def RSS (n : Nat) (F : Nat → List Int) (κ : Int) (w : World) (e : Ending) (w' : World) : Prop :=
  ∃ u G cap gs caps, e = .returned (.tuple #[u, .int .i64 κ]) ∧ Below w.heap.size w w' ∧ u = .slice (some ⟨G, 0, none⟩) n cap ∧ w.heap.size ≤ G ∧ SSR w' w.heap.size G gs caps n F
def hf (n s : Int) : Int := if (s % n) % 2 = 0 then (s % n) / 2 else if n % 2 = 0 then (s % n + n - 1) / 2 else (s % n + n) / 2
def rowP (n k : Nat) (j : Nat) : List Int := (List.range j).map fun (y : Nat) => hf n ((k : Int) + (y : Int))
def rowF (n k : Nat) : List Int := rowP n k n
theorem rowP_len (n k j : Nat) : (rowP n k j).length = j := by simp [rowP]
theorem rowP_succ (n k j : Nat) : rowP n k (j + 1) = rowP n k j ++ [hf n ((k : Int) + (j : Int))] := by simp [rowP, List.range_succ]
theorem rowP_next (n k j : Nat) (h : j < n) : (rowP n k j ++ List.replicate (n - j) 0).set j (hf n ((k : Int) + (j : Int))) = rowP n k (j + 1) ++ List.replicate (n - (j + 1)) 0 := by
  rw [rowP_succ, show n - j = (n - (j + 1)) + 1 by omega, List.replicate_succ, List.set_append_right _ _ (by rw [rowP_len]; omega), rowP_len, Nat.sub_self, List.set_cons_zero, List.append_assoc]
  rfl
theorem made_ints (w : World) (n : Nat) (T : TypeId) : OwnAtI (w.alloc (.cells (madeCells #[.int .i64 0] n) T)) w.heap.size (List.replicate n 0) := by
  refine ⟨by simp, fun k hk => ?_, fun o => by simp⟩
  rw [List.length_replicate] at hk
  rw [World.cell?_alloc_at _ _ _ _ rfl]
  simp [madeCells, hk, Nat.mod_one]
end Go.Proofs.Ytoicdfdfajfopaa

namespace Go.Proofs.Ytoicdfdfajfopaa
open Go.RowKit Go.Maps
/-- The first point of b that is in c. -/
def comP (b c : Blk) : Option Int := if hasB c b.a then some b.a else if hasB c b.b then some b.b else if hasB c b.c then some b.c else none
theorem inL_has (p : Int) (x : Blk) : inL p [x.a, x.b, x.c] = hasB x p := by
  rw [Bool.eq_iff_iff]
  simp [inL, hasB]
  omega
end Go.Proofs.Ytoicdfdfajfopaa

namespace Go.Proofs.Ytoicdfdfajfopaa
open Go.RowKit Go.Maps
/-- TwoX blocks that came in, in their boxes. -/
structure TwoX (w' : World) (b : Nat) (x y : Blk) : Prop where
  x0 : w'.cell? ⟨b, 0, none⟩ = some (.int .i64 x.a)
  x1 : w'.cell? ⟨b, 1, none⟩ = some (.int .i64 x.b)
  x2 : w'.cell? ⟨b, 2, none⟩ = some (.int .i64 x.c)
  y0 : w'.cell? ⟨b + 1, 0, none⟩ = some (.int .i64 y.a)
  y1 : w'.cell? ⟨b + 1, 1, none⟩ = some (.int .i64 y.b)
  y2 : w'.cell? ⟨b + 1, 2, none⟩ = some (.int .i64 y.c)
theorem TwoX.below {w w' : World} {b B : Nat} {x y : Blk} (h : TwoX w b x y) (hb : Below B w w') (hB : b + 1 < B) : TwoX w' b x y :=
  ⟨(hb.cell (p := ⟨b, 0, none⟩) (by show b < B; omega)).trans h.x0, (hb.cell (p := ⟨b, 1, none⟩) (by show b < B; omega)).trans h.x1, (hb.cell (p := ⟨b, 2, none⟩) (by show b < B; omega)).trans h.x2, (hb.cell (p := ⟨b + 1, 0, none⟩) hB).trans h.y0, (hb.cell (p := ⟨b + 1, 1, none⟩) hB).trans h.y1, (hb.cell (p := ⟨b + 1, 2, none⟩) hB).trans h.y2⟩
def meetK (x y : Blk) : Nat → Bool
  | 0 => true
  | 1 => !hasB y x.a
  | 2 => !hasB y x.a && !hasB y x.b
  | _ => !hasB y x.a && !hasB y x.b && !hasB y x.c
def comI (x y : Blk) : Int := (comP x y).getD (-1)
end Go.Proofs.Ytoicdfdfajfopaa

namespace Go.Proofs.Ytoicdfdfajfopaa
open Go.RowKit Go.Maps
def othersP (x : Blk) (a : Int) : Int × Int := if a = x.a then (x.b, x.c) else if a = x.b then (x.a, x.c) else (x.a, x.b)
end Go.Proofs.Ytoicdfdfajfopaa

namespace Go.Proofs.Ytoicdfdfajfopaa
open Go.RowKit Go.Maps
/-- Lexicographic, a shorter list first. -/
def lexL : List Int → List Int → Bool
  | [], [] => false
  | [], _ :: _ => true
  | _ :: _, [] => false
  | a :: r, b :: t => if a = b then lexL r t else decide (a < b)
theorem lexL_end (ps qs : List Int) (h : ps = [] ∨ qs = []) : lexL ps qs = decide (ps.length < qs.length) := by
  cases ps <;> cases qs <;> simp_all [lexL]
/-- Returns a value and draws alone. -/
def RD (v : Value) (w : World) (e : Ending) (w' : World) : Prop := e = .returned v ∧ ∃ n, w' = w.drewN n
theorem drewN_add (w : World) (a b : Nat) : (w.drewN a).drewN b = w.drewN (a + b) := by simp [World.drewN, Nat.add_assoc]
theorem RD_of {v u : Value} {w w' : World} {n : Nat} (h : u = v) (hw : w' = w.drewN n) : RD v w (.returned u) w' := ⟨by rw [h], n, hw⟩
theorem RD.rv {P : Program} {f : FuncId} {args : Array Value} {w : World} {v : Value} (h : Calls P f args w (RD v w)) : Calls P f args w (RV v w) :=
  h.mono fun _ _ ⟨he, n, hn⟩ => ⟨he, by rw [hn]; exact below_drewN (Below.refl _ _) _⟩
theorem RD.quiet2 {P : Program} {f : FuncId} {args : Array Value} {w : World} {a n : Nat} {v : Value} (h : Calls P f args (w.drewN (a + n)) (RD v (w.drewN (a + n)))) :
    Calls P f args (w.drewN (a + n)) fun e w'' => e = .returned v ∧ ∃ m, w'' = w.drewN (a + m) :=
  h.mono fun _ _ ⟨he, m, hm⟩ => ⟨he, n + m, by rw [hm, drewN_add, Nat.add_assoc]⟩
theorem RD.quiet {P : Program} {f : FuncId} {args : Array Value} {w : World} {n : Nat} {v : Value} (h : Calls P f args (w.drewN n) (RD v (w.drewN n))) :
    Calls P f args (w.drewN n) fun e w'' => e = .returned v ∧ ∃ m, w'' = w.drewN m :=
  h.mono fun _ _ ⟨he, m, hm⟩ => ⟨he, n + m, by rw [hm, drewN_add]⟩
end Go.Proofs.Ytoicdfdfajfopaa

namespace Go.Proofs.Ytoicdfdfajfopaa
open Go.RowKit Go.Maps
theorem lexL_irr : ∀ ps : List Int, lexL ps ps = false
  | [] => rfl
  | a :: r => by rw [lexL, if_pos rfl]; exact lexL_irr r
theorem lexL_eq : ∀ ps qs : List Int, lexL ps qs = false → lexL qs ps = false → ps = qs
  | [], [], _, _ => rfl
  | [], _ :: _, h, _ => by simp [lexL] at h
  | _ :: _, [], _, h => by simp [lexL] at h
  | a :: r, b :: t, h, k => by
    rw [lexL] at h k
    by_cases e : a = b
    · subst e
      rw [if_pos rfl] at h k
      rw [lexL_eq r t h k]
    · rw [if_neg e] at h
      rw [if_neg (fun q => e q.symm)] at k
      simp at h k
      omega
theorem lexL_trans : ∀ {ps qs rs : List Int}, lexL ps qs = true → lexL qs rs = true → lexL ps rs = true
  | [], [], _, h, _ => by simp [lexL] at h
  | [], _ :: _, [], _, h => by simp [lexL] at h
  | [], _ :: _, _ :: _, _, _ => by simp [lexL]
  | _ :: _, [], _, h, _ => by simp [lexL] at h
  | _ :: _, _ :: _, [], _, h => by simp [lexL] at h
  | a :: r, b :: t, c :: u, h, k => by
    rw [lexL] at h k ⊢
    by_cases e : a = b
    · subst e
      rw [if_pos rfl] at h
      by_cases e2 : a = c
      · subst e2
        rw [if_pos rfl] at k ⊢
        exact lexL_trans h k
      · rw [if_neg e2] at k ⊢
        exact k
    · rw [if_neg e] at h
      by_cases e2 : b = c
      · subst e2
        rw [if_neg e]
        exact h
      · rw [if_neg e2] at k
        simp at h k
        rw [if_neg (by omega)]
        simp
        omega
end Go.Proofs.Ytoicdfdfajfopaa

namespace Go.Proofs.Ytoicdfdfajfopaa
open Go.RowKit Go.Maps
/-- Where the outline puts a row: behind the rows that it is not before, from the end on. -/
def putAt (L : List (List Int)) (r : List Int) : Nat → Nat
  | 0 => 0
  | k + 1 => if lexL r (L[k]?.getD []) then putAt L r k else k + 1
theorem putAt_le (L : List (List Int)) (r : List Int) : ∀ k, putAt L r k ≤ k
  | 0 => Nat.le_refl _
  | k + 1 => by
    have := putAt_le L r k
    unfold putAt
    split <;> omega
def putHas (L : List (List Int)) (r : List Int) : Bool := decide (0 < putAt L r L.length) && decide (L[putAt L r L.length - 1]?.getD [] = r)
/-- The outline's list with one more row. -/
def putL (L : List (List Int)) (r : List Int) : List (List Int) := if putHas L r then L else L.take (putAt L r L.length) ++ r :: L.drop (putAt L r L.length)
def insV {α : Type} (s : List α) (j : Nat) (y : α) : List α := s.take j ++ y :: s.drop j
theorem insV_len {α : Type} (s : List α) (j : Nat) (y : α) : (insV s j y).length = s.length + 1 := by
  unfold insV
  simp
  omega
theorem insV_end {α : Type} (s : List α) (y : α) : insV s s.length y = s ++ [y] := by simp [insV]
theorem insV_set {α : Type} (s : List α) (j : Nat) (y x : α) (h : j ≤ s.length) : (insV s j y).set j x = insV s j x := by
  have e : (s.take j).length = j := by rw [List.length_take]; omega
  unfold insV
  rw [List.set_append_right _ _ (by omega), e, Nat.sub_self, List.set_cons_zero]
theorem insV_get {α : Type} (s : List α) (j : Nat) (y : α) (h : j < s.length) : (insV s (j + 1) y)[j]? = s[j]? := by
  unfold insV
  rw [List.getElem?_append_left (by rw [List.length_take]; omega), List.getElem?_take_of_lt (by omega)]
theorem insV_shift {α : Type} (s : List α) (j : Nat) (y z : α) (h : j < s.length) (hz : s[j]? = some z) : (insV s (j + 1) y).set (j + 1) z = insV s j z := by
  rw [insV_set s (j + 1) y _ (by omega)]
  rw [List.getElem?_eq_getElem h] at hz
  injection hz with hz
  unfold insV
  rw [List.take_add_one, List.getElem?_eq_getElem h, List.append_assoc]
  conv => rhs; rw [List.drop_eq_getElem_cons h]
  simp [hz]
/-- A list of the call's own of row headers. -/
def RowsV (w : World) (base : Nat) (u : Value) (hs : List Value) : Prop := w.ownsRow base 25 1 u hs.length hs
theorem RowsV.kept {w w' : World} {base : Nat} {u : Value} {hs : List Value} (h : RowsV w base u hs) {row : Option Nat} (hg : w.grownBy w' row) (hr : row = none ∨ u.ownBlock ≠ row) : RowsV w' base u hs := ownsRow_kept h hg hr
theorem RowsV.below {w w' : World} {base : Nat} {u : Value} {hs : List Value} (h : RowsV w base u hs) {B : Nat} (hb : Below B w w') (hB : w.heap.size ≤ B) : RowsV w' base u hs :=
  h.kept (only_of_below (hb.mono hB) none) (.inl rfl)
theorem RowsV.setT {w : World} {base g n cap : Nat} {hs : List Value} (h : RowsV w base (.slice (some ⟨g, 0, none⟩) n cap) hs) {i : Nat} {x : Value} :
    RowsV (w.setCell ⟨g, i, none⟩ x) base (.slice (some ⟨g, 0, none⟩) n cap) (hs.set i x) ∧ w.grownBy (w.setCell ⟨g, i, none⟩ x) (some g) := by
  refine ⟨?_, only_setCell (only_refl w (some g)) rfl _⟩
  obtain ⟨_, h | ⟨g', cap', cur, e, hb, hcur, hn, hc, hsz, hx⟩⟩ := h
  · simp at h
  · simp at e
    obtain ⟨rfl, rfl, rfl⟩ := e
    have hl : (hs.set i x).length = hs.length := List.length_set
    unfold RowsV
    rw [hl]
    refine ⟨by simp, .inr ⟨g, cap, cur.setIfInBounds i x, rfl, hb, heap_setCell_same w g i cur _ _ hcur, hn, hc, by simp [hsz], ?_⟩⟩
    rw [Array.toList_setIfInBounds, List.take_set, hx]
theorem RowsV.at_ {w : World} {base g n cap : Nat} {hs : List Value} (h : RowsV w base (.slice (some ⟨g, 0, none⟩) n cap) hs) {i : Nat} {x : Value} (hi : hs[i]? = some x) : w.cell? ⟨g, i, none⟩ = some x ∧ base ≤ g ∧ g < w.heap.size ∧ n = hs.length ∧ w.frozen? ⟨g, i, none⟩ = false := by
  obtain ⟨_, h | ⟨g', cap', cur, e, hb, hcur, hn, hc, hsz, hx⟩⟩ := h
  · simp at h
  · simp at e
    obtain ⟨rfl, rfl, rfl⟩ := e
    have hil : i < hs.length := (List.getElem?_eq_some_iff.1 hi).1
    refine ⟨?_, hb, (Array.getElem?_eq_some_iff.1 hcur).1, rfl, by simp [World.frozen?, hcur]⟩
    rw [← hx, List.getElem?_take_of_lt (by omega)] at hi
    simp [World.cell?, hcur]
    simpa using hi
theorem RowsV.form {w : World} {base : Nat} {u : Value} {hs : List Value} (h : RowsV w base u hs) (h0 : 0 < hs.length) : ∃ g cap, u = .slice (some ⟨g, 0, none⟩) hs.length cap := by
  rcases h.2 with ⟨_, e⟩ | ⟨g, cap, cur, e, _⟩
  · omega
  · exact ⟨g, cap, e⟩
theorem wpList_append_hdr {w : World} {ops : Array Oper} {rest : List Oper} {o : Oper} {a : Act} {Q : Exit → Act → World → Prop} (hgd : o.guard = none) (s x : Operand)
    (ho : o.op = .call { callee := .builtin .append, args := #[s, x], argTypes := #[46, 46] })
    (base : Nat) (v : Value) (hs : List Value) (hsv : a.eval s = v) (hown : RowsV w base v hs) (b0 c : Nat) (hx : a.eval x = .slice (some ⟨b0, 0, none⟩) 1 c) (p : Option Addr) (n0 c0 : Nat)
    (c1 : w.cell? ⟨b0, 0, none⟩ = some (.slice p n0 c0)) (hl : hs.length ≤ 1100000) (hbase : base ≤ w.heap.size)
    (h : ∀ (G cap : Nat) (w' : World), RowsV w' base (.slice (some ⟨G, 0, none⟩) (hs.length + 1) cap) (hs ++ [.slice p n0 c0]) → w.grownBy w' v.ownBlock → (v.ownBlock = some G ∨ G = w.heap.size) → wpList Try.prog ops Q rest (a.put o.dst (.slice (some ⟨G, 0, none⟩) (hs.length + 1) cap)) w') : wpList Try.prog ops Q (o :: rest) a w := by
  obtain ⟨i0, hi, hz0, hz1, hz2⟩ := info_parts infoRow
  refine wpList_append_own_at w hgd s x 46 ho base 25 i0 _ 1 24 Try.underlying46 hi hz0 hz1 hz2 rfl (by decide) v hs.length _ hsv hown ⟨b0, 0, none⟩ 1 c [.slice p n0 c0] hx rfl ?_ ?_ (by unfold maxLen; omega) (by omega) hbase ?_
  · intro j u hj
    rw [addr_at, Nat.zero_add]
    match j, hj with
    | 0, hj => simp at hj; rw [← hj]; exact c1
    | j + 1, hj => simp at hj
  · intro u hu
    simp at hu
    rw [hu]
    rfl
  · intro v' w' hown' hg _ hob
    obtain ⟨G, cap, rfl⟩ := row_some hown'
    refine h G cap w' ?_ hg ?_
    · unfold RowsV
      rw [List.length_append]
      exact hown'
    · rcases hob with e | e
      · exact .inl (by rw [← e]; rfl)
      · exact .inr (by simpa [Value.ownBlock] using e)
end Go.Proofs.Ytoicdfdfajfopaa

namespace Go.Proofs.Ytoicdfdfajfopaa
/-- Ascending, each row once. -/
def AscR (L : List (List Int)) : Prop := L.Pairwise fun a b => lexL a b = true
theorem lexL_asym {p q : List Int} (h : lexL p q = true) : lexL q p = false := by
  cases e : lexL q p with
  | false => rfl
  | true =>
    have := lexL_trans h e
    rw [lexL_irr] at this
    cases this
theorem lexL_of_ne {p q : List Int} (h : lexL q p = false) (hne : p ≠ q) : lexL p q = true := by
  cases e : lexL p q with
  | true => rfl
  | false => exact absurd (lexL_eq p q e h) hne
theorem AscR.nodup {L : List (List Int)} (h : AscR L) : L.Nodup := List.Pairwise.imp (fun {a b} h e => by
  subst e
  rw [lexL_irr] at h
  cases h) h
theorem AscR.ext {L M : List (List Int)} (hL : AscR L) (hM : AscR M) (h : ∀ x, x ∈ L ↔ x ∈ M) : L = M := by
  have hp : L.Perm M := (List.perm_ext_iff_of_nodup hL.nodup hM.nodup).2 h
  exact hp.eq_of_pairwise (fun a b _ _ h1 h2 => by
    have := lexL_asym h1
    rw [h2] at this
    cases this) hL hM
theorem putAt_hi (L : List (List Int)) (r : List Int) : ∀ k i, putAt L r k ≤ i → i < k → lexL r (L[i]?.getD []) = true
  | 0, i, _, h => absurd h (Nat.not_lt_zero i)
  | k + 1, i, h1, h2 => by
    unfold putAt at h1
    by_cases hx : lexL r (L[k]?.getD []) = true
    · rw [if_pos hx] at h1
      by_cases e : i = k
      · rw [e]; exact hx
      · exact putAt_hi L r k i h1 (by omega)
    · rw [if_neg hx] at h1
      omega
theorem putAt_lo (L : List (List Int)) (r : List Int) : ∀ k j, putAt L r k = j + 1 → lexL r (L[j]?.getD []) = false
  | 0, j, h => by simp [putAt] at h
  | k + 1, j, h => by
    unfold putAt at h
    by_cases hx : lexL r (L[k]?.getD []) = true
    · rw [if_pos hx] at h
      exact putAt_lo L r k j h
    · rw [if_neg hx] at h
      obtain rfl : k = j := by omega
      simpa using hx
theorem take_before {L : List (List Int)} {r : List Int} (hL : AscR L) (hn : putHas L r = false) : ∀ x ∈ L.take (putAt L r L.length), lexL x r = true := by
  intro x hx
  have hle := putAt_le L r L.length
  obtain ⟨i, hi, rfl⟩ := List.mem_iff_getElem.1 hx
  rw [List.length_take] at hi
  obtain ⟨j, hj⟩ : ∃ j, putAt L r L.length = j + 1 := ⟨putAt L r L.length - 1, by omega⟩
  have hjl : j < L.length := by omega
  have hlo := putAt_lo L r _ j hj
  rw [List.getElem?_eq_getElem hjl, Option.getD_some] at hlo
  have hne : L[j] ≠ r := by
    intro e
    rw [putHas, hj] at hn
    simp [List.getElem?_eq_getElem hjl, e] at hn
  have hlast := lexL_of_ne hlo hne
  rw [List.getElem_take]
  by_cases e : i = j
  · subst e
    exact hlast
  · have hp := (List.pairwise_iff_getElem.1 hL) i j (by omega) hjl (by omega)
    exact lexL_trans hp hlast
theorem drop_behind {L : List (List Int)} {r : List Int} : ∀ x ∈ L.drop (putAt L r L.length), lexL r x = true := by
  intro x hx
  obtain ⟨i, hi, rfl⟩ := List.mem_iff_getElem.1 hx
  rw [List.length_drop] at hi
  rw [List.getElem_drop]
  have := putAt_hi L r L.length (putAt L r L.length + i) (by omega) (by omega)
  rw [List.getElem?_eq_getElem (by omega), Option.getD_some] at this
  exact this
theorem putL_asc {L : List (List Int)} (hL : AscR L) (r : List Int) : AscR (putL L r) := by
  unfold putL
  cases hn : putHas L r with
  | true => simpa using hL
  | false =>
    rw [if_neg (by decide)]
    have h1 := take_before hL hn
    have h2 := drop_behind (L := L) (r := r)
    refine List.pairwise_append.2 ⟨hL.sublist (List.take_sublist _ _), List.pairwise_cons.2 ⟨fun x hx => h2 x hx, hL.sublist (List.drop_sublist _ _)⟩, ?_⟩
    intro x hx y hy
    rcases List.mem_cons.1 hy with rfl | hy
    · exact h1 x hx
    · exact lexL_trans (h1 x hx) (h2 y hy)
theorem putL_mem {L : List (List Int)} {r x : List Int} : x ∈ putL L r ↔ x = r ∨ x ∈ L := by
  unfold putL
  cases hn : putHas L r with
  | true =>
    rw [if_pos rfl]
    refine ⟨.inr, fun h => h.elim (fun e => ?_) id⟩
    subst e
    simp only [putHas, Bool.and_eq_true, decide_eq_true_eq] at hn
    have hle := putAt_le L x L.length
    have := hn.2
    rw [List.getElem?_eq_getElem (by omega), Option.getD_some] at this
    rw [← this]
    exact List.getElem_mem _
  | false =>
    rw [if_neg (by decide), List.mem_append, List.mem_cons]
    have : x ∈ L ↔ x ∈ L.take (putAt L r L.length) ∨ x ∈ L.drop (putAt L r L.length) := by
      conv => lhs; rw [← List.take_append_drop (putAt L r L.length) L]
      rw [List.mem_append]
    rw [this]
    constructor
    · rintro (h | h | h)
      · exact .inr (.inl h)
      · exact .inl h
      · exact .inr (.inr h)
    · rintro (h | h | h)
      · exact .inr (.inl h)
      · exact .inl h
      · exact .inr (.inr h)
theorem putL_len (L : List (List Int)) (r : List Int) : (putL L r).length ≤ L.length + 1 := by
  have := putAt_le L r L.length
  unfold putL
  split
  · omega
  · simp
    omega
/-- The outline's list of the rows of a list. -/
def setR (Rs : List (List Int)) : List (List Int) := Rs.foldl putL []
theorem setR_snoc (Rs : List (List Int)) (r : List Int) : setR (Rs ++ [r]) = putL (setR Rs) r := by simp [setR]
theorem foldl_put {Rs : List (List Int)} : ∀ {L : List (List Int)}, AscR L → AscR (Rs.foldl putL L) ∧ (∀ x, x ∈ Rs.foldl putL L ↔ x ∈ Rs ∨ x ∈ L) ∧ (Rs.foldl putL L).length ≤ L.length + Rs.length := by
  induction Rs with
  | nil => exact fun hL => ⟨hL, fun x => by simp, by simp⟩
  | cons r Rs ih =>
    intro L hL
    obtain ⟨h1, h2, h3⟩ := ih (putL_asc hL r)
    refine ⟨h1, fun x => ?_, ?_⟩
    · rw [List.foldl_cons, h2 x, putL_mem, List.mem_cons]
      constructor
      · rintro (h | h | h)
        · exact .inl (.inr h)
        · exact .inl (.inl h)
        · exact .inr h
      · rintro ((h | h) | h)
        · exact .inr (.inl h)
        · exact .inl h
        · exact .inr (.inr h)
    · have := putL_len L r
      rw [List.foldl_cons, List.length_cons]
      omega
theorem setR_asc (Rs : List (List Int)) : AscR (setR Rs) := (foldl_put (Rs := Rs) (L := []) List.Pairwise.nil).1
theorem setR_mem {Rs : List (List Int)} {x : List Int} : x ∈ setR Rs ↔ x ∈ Rs := by
  have := (foldl_put (Rs := Rs) (L := []) List.Pairwise.nil).2.1 x
  simpa [setR] using this
theorem setR_len (Rs : List (List Int)) : (setR Rs).length ≤ Rs.length := by
  have := (foldl_put (Rs := Rs) (L := []) List.Pairwise.nil).2.2
  simpa [setR] using this
theorem setR_of {Rs L : List (List Int)} (hL : AscR L) (h : ∀ x, x ∈ L ↔ x ∈ Rs) : setR Rs = L := (setR_asc Rs).ext hL fun x => by rw [setR_mem, h]
end Go.Proofs.Ytoicdfdfajfopaa

namespace Go.Proofs.Ytoicdfdfajfopaa
theorem unk_range : ∀ m : List (Option Nat), unk m = (List.range m.length).countP fun a => (gm m a).isNone
  | [] => rfl
  | x :: m => by
    have ih := unk_range m
    unfold unk at ih ⊢
    rw [List.countP_cons, ih, List.length_cons, List.range_succ_eq_map, List.countP_cons, List.countP_map]
    have e1 : ∀ a, gm (x :: m) (a + 1) = gm m a := fun a => by simp [gm]
    have e0 : gm (x :: m) 0 = x := by simp [gm]
    rw [e0]
    congr 1
theorem unk_le {m m' : List (Option Nat)} (hl : m.length = m'.length) (h : ∀ a b, gm m a = some b → gm m' a = some b) : unk m' ≤ unk m := by
  rw [unk_range, unk_range, ← hl]
  refine List.countP_mono_left fun a _ ha => ?_
  cases hg : gm m a with
  | none => rfl
  | some b => rw [h a b hg] at ha; cases ha
theorem unk_lt {m m' : List (Option Nat)} (hl : m.length = m'.length) (h : ∀ a b, gm m a = some b → gm m' a = some b) {p q : Nat} (hp : p < m.length) (hn : gm m p = none) (hs : gm m' p = some q) : unk m' < unk m := by
  have h1 := unk_set (b := q) hp hn
  have h2 := unk_le (m := m.set p (some q)) (m' := m') (by rw [List.length_set, hl]) (fun a b ha => by
    rw [gm_set hp] at ha
    split at ha
    · rename_i e; cases ha; rw [e]; exact hs
    · exact h a b ha)
  omega
theorem find_none {m : List (Option Nat)} (h : m.findIdx? Option.isNone = none) : ∀ a, a < m.length → ∃ b, gm m a = some b := fun a ha => by
  rw [List.findIdx?_eq_none_iff] at h
  have := h _ (List.getElem_mem ha)
  cases hm : m[a] with
  | none => rw [hm] at this; cases this
  | some b => exact ⟨b, by simp [gm, ha, hm]⟩
theorem find_some {m : List (Option Nat)} {p : Nat} (h : m.findIdx? Option.isNone = some p) : p < m.length ∧ gm m p = none ∧ ∀ a, a < p → ∃ b, gm m a = some b := by
  rw [List.findIdx?_eq_some_iff_getElem] at h
  obtain ⟨hp, h1, h2⟩ := h
  refine ⟨hp, ?_, fun a ha => ?_⟩
  · cases hm : m[p] with
    | none => simp [gm, hp, hm]
    | some b => rw [hm] at h1; cases h1
  · have := h2 a ha
    cases hm : m[a] with
    | none => rw [hm] at this; simp at this
    | some b => exact ⟨b, by simp [gm, Nat.lt_trans ha hp, hm]⟩
def propR (n : Nat) (T1 T2 : Nat → Nat → Nat) (m : List (Option Nat)) (p q : Nat) : Option (List (Option Nat)) := prop n T1 T2 (mu n m [(p, q)] + 1) m [(p, q)]
def rens (n : Nat) (T1 T2 : Nat → Nat → Nat) : Nat → List (Option Nat) → List (List (Option Nat))
  | 0, m => [m]
  | d + 1, m => match m.findIdx? Option.isNone with
    | none => [m]
    | some p => (List.range n).flatMap fun q => match propR n T1 T2 m p q with
      | none => []
      | some m' => rens n T1 T2 d m'
/-- A renumbering as a list. -/
def lisR (n : Nat) (p : Nat → Nat) : List (Option Nat) := (List.range n).map fun a => some (p a)
theorem gm_lisR {n : Nat} {p : Nat → Nat} {a : Nat} (ha : a < n) : gm (lisR n p) a = some (p a) := by simp [gm, lisR, ha]
theorem opt_ext {m m' : List (Option Nat)} (hl : m.length = m'.length) (h : ∀ a, a < m.length → gm m a = gm m' a) : m = m' := by
  apply List.ext_getElem hl
  intro a h1 h2
  have := h a h1
  simpa [gm, h1, h2] using this
section
variable {n : Nat} {T1 T2 : Nat → Nat → Nat}
theorem all_known {m : List (Option Nat)} (hC : Cl n T1 T2 m []) (hk : ∀ a, a < m.length → ∃ b, gm m a = some b) (x : List (Option Nat)) : x ∈ [m] ↔ ∃ p, IsoR n T1 T2 p ∧ Ext p m ∧ x = lisR n p := by
  rw [List.mem_singleton]
  have hall : ∀ p, Ext p m → m = lisR n p := fun p hp => by
    refine opt_ext (by rw [hC.len]; simp [lisR]) fun a ha => ?_
    obtain ⟨b, hb⟩ := hk a ha
    rw [hb, gm_lisR (by rw [← hC.len]; exact ha), hp a b hb]
  constructor
  · rintro rfl
    have hg : ∀ a, a < n → gm x a = some ((gm x a).getD 0) := fun a ha => by
      obtain ⟨b, hb⟩ := hk a (by rw [hC.len]; exact ha)
      rw [hb]
      rfl
    have he : Ext (fun a => (gm x a).getD 0) x := fun a b hb => by simp [hb]
    refine ⟨fun a => (gm x a).getD 0, ⟨fun a ha => (hC.rng a _ (hg a ha)).2, fun a b ha hb e => hC.inj a b _ (hg a ha) (by rw [hg b hb]; exact congrArg some e.symm), fun a b ha hb hab => ?_⟩, he, hall _ he⟩
    rcases hC.cons a b _ _ (hg a ha) (hg b hb) hab with e | e
    · rw [e]; rfl
    · cases e
  · rintro ⟨p, _, he, rfl⟩
    exact (hall p he).symm
theorem opl_one {p q : Nat} (hp : p < n) (hq : q < n) : OpL n [(p, q)] := fun x hx => by
  rw [List.mem_singleton.1 hx]
  exact ⟨hp, hq⟩
theorem Cl.more {m : List (Option Nat)} (h : Cl n T1 T2 m []) (op : List (Nat × Nat)) : Cl n T1 T2 m op :=
  ⟨h.len, h.rng, h.inj, fun a c b d h1 h2 h3 => by
    rcases h.cons a c b d h1 h2 h3 with e | e
    · exact .inl e
    · cases e⟩
variable (h1 : Thd n T1) (h2 : Thd n T2)
include h1 h2
theorem propR_some {m : List (Option Nat)} (hC : Cl n T1 T2 m []) {p q : Nat} (hp : p < n) (hq : q < n) {m' : List (Option Nat)} (h : propR n T1 T2 m p q = some m') :
    Cl n T1 T2 m' [] ∧ (∀ a b, gm m a = some b → gm m' a = some b) ∧ gm m' p = some q ∧ ∀ f, IsoR n T1 T2 f → Ext f m → f p = q → Ext f m' := by
  obtain ⟨j1, _, j3, j4, j5⟩ := (prop_spec h1 h2 _ m [(p, q)] (hC.more _) (opl_one hp hq) (Nat.lt_succ_self _)).1 m' h
  exact ⟨j1, j3, j4 (p, q) (by simp), fun f hf he hpq => j5 f hf he fun x hx => by rw [List.mem_singleton.1 hx]; exact hpq⟩
theorem propR_none {m : List (Option Nat)} (hC : Cl n T1 T2 m []) {p q : Nat} (hp : p < n) (hq : q < n) (h : propR n T1 T2 m p q = none) (f : Nat → Nat) (hf : IsoR n T1 T2 f) (he : Ext f m) (hpq : f p = q) : False :=
  (prop_spec h1 h2 _ m [(p, q)] (hC.more _) (opl_one hp hq) (Nat.lt_succ_self _)).2 h f hf he fun x hx => by rw [List.mem_singleton.1 hx]; exact hpq
/-- The search finds all renumberings that have the known images, and no others. -/
theorem rens_mem : ∀ (d : Nat) (m : List (Option Nat)), Cl n T1 T2 m [] → unk m ≤ d → ∀ x, x ∈ rens n T1 T2 d m ↔ ∃ p, IsoR n T1 T2 p ∧ Ext p m ∧ x = lisR n p
  | 0, m, hC, hu, x => by
    refine all_known hC (fun a ha => ?_) x
    have h0 : unk m = 0 := by omega
    rw [unk_range, List.countP_eq_zero] at h0
    have := h0 a (List.mem_range.2 ha)
    cases hg : gm m a with
    | none => rw [hg] at this; exact absurd rfl this
    | some b => exact ⟨b, rfl⟩
  | d + 1, m, hC, hu, x => by
    unfold rens
    cases hf : m.findIdx? Option.isNone with
    | none => exact all_known hC (find_none hf) x
    | some p =>
      obtain ⟨hp, hn, _⟩ := find_some hf
      have hpn : p < n := by rw [← hC.len]; exact hp
      dsimp only
      rw [List.mem_flatMap]
      constructor
      · rintro ⟨q, hq, hx⟩
        rw [List.mem_range] at hq
        cases hr : propR n T1 T2 m p q with
        | none => rw [hr] at hx; cases hx
        | some m' =>
          rw [hr] at hx
          obtain ⟨k1, k2, k3, _⟩ := propR_some h1 h2 hC hpn hq hr
          have hlt := unk_lt (m := m) (m' := m') (by rw [hC.len, k1.len]) k2 hp hn k3
          obtain ⟨f, f1, f2, f3⟩ := (rens_mem d m' k1 (by omega) x).1 hx
          exact ⟨f, f1, fun a b hb => f2 a b (k2 a b hb), f3⟩
      · rintro ⟨f, f1, f2, rfl⟩
        refine ⟨f p, List.mem_range.2 (f1.lt p hpn), ?_⟩
        cases hr : propR n T1 T2 m p (f p) with
        | none => exact (propR_none h1 h2 hC hpn (f1.lt p hpn) hr f f1 f2 rfl).elim
        | some m' =>
          obtain ⟨k1, k2, k3, k4⟩ := propR_some h1 h2 hC hpn (f1.lt p hpn) hr
          have hlt := unk_lt (m := m) (m' := m') (by rw [hC.len, k1.len]) k2 hp hn k3
          exact (rens_mem d m' k1 (by omega) _).2 ⟨f, f1, k4 f f1 f2 rfl, rfl⟩
omit h1 h2 in
theorem lexL_at : ∀ (k : Nat) (xs ys : List Int) (a b : Int), (∀ i, i < k → xs[i]? = ys[i]?) → xs[k]? = some a → ys[k]? = some b → a < b → lexL xs ys = true
  | 0, x :: xs, y :: ys, a, b, _, ha, hb, hab => by
    simp at ha hb
    subst ha
    subst hb
    unfold lexL
    rw [if_neg (by omega)]
    simpa using hab
  | k + 1, x :: xs, y :: ys, a, b, h, ha, hb, hab => by
    have h0 := h 0 (by omega)
    simp at h0
    subst h0
    unfold lexL
    rw [if_pos rfl]
    exact lexL_at k xs ys a b (fun i hi => by have := h (i + 1) (by omega); simpa using this) (by simpa using ha) (by simpa using hb) hab
  | 0, [], _, _, _, _, ha, _, _ => by simp at ha
  | 0, _ :: _, [], _, _, _, _, hb, _ => by simp at hb
  | k + 1, [], _, _, _, _, ha, _, _ => by simp at ha
  | k + 1, _ :: _, [], _, _, _, _, hb, _ => by simp at hb
/-- The row that tells images, -1 for none. -/
def encO : Option Nat → Int
  | none => -1
  | some a => (a : Int)
def encR (m : List (Option Nat)) : List Int := m.map encO
omit h1 h2 in
theorem encR_at (p : Nat → Nat) {a : Nat} (ha : a < n) : (encR (lisR n p))[a]? = some ((p a : Nat) : Int) := by simp [encR, lisR, ha, encO]
theorem rens_asc : ∀ (d : Nat) (m : List (Option Nat)), Cl n T1 T2 m [] → unk m ≤ d → AscR ((rens n T1 T2 d m).map encR)
  | 0, m, _, _ => by simp [rens, AscR]
  | d + 1, m, hC, hu => by
    unfold AscR
    rw [List.pairwise_map]
    unfold rens
    cases hf : m.findIdx? Option.isNone with
    | none => simp
    | some p =>
      obtain ⟨hp, hn, hbef⟩ := find_some hf
      have hpn : p < n := by rw [← hC.len]; exact hp
      dsimp only
      have hsub : ∀ q, q < n → ∀ x, x ∈ (match propR n T1 T2 m p q with | none => [] | some m' => rens n T1 T2 d m') → ∃ f, Ext f m ∧ f p = q ∧ x = lisR n f := fun q hq x hx => by
        cases hr : propR n T1 T2 m p q with
        | none => rw [hr] at hx; cases hx
        | some m' =>
          rw [hr] at hx
          obtain ⟨k1, k2, k3, _⟩ := propR_some h1 h2 hC hpn hq hr
          have hlt := unk_lt (m := m) (m' := m') (by rw [hC.len, k1.len]) k2 hp hn k3
          obtain ⟨f, f1, f2, f3⟩ := (rens_mem h1 h2 d m' k1 (by omega) x).1 hx
          exact ⟨f, fun a b hb => f2 a b (k2 a b hb), f2 p q k3, f3⟩
      rw [List.pairwise_flatMap]
      refine ⟨fun q hq => ?_, ?_⟩
      · rw [List.mem_range] at hq
        cases hr : propR n T1 T2 m p q with
        | none => simp
        | some m' =>
          obtain ⟨k1, k2, k3, _⟩ := propR_some h1 h2 hC hpn hq hr
          have hlt := unk_lt (m := m) (m' := m') (by rw [hC.len, k1.len]) k2 hp hn k3
          exact List.pairwise_map.1 (rens_asc d m' k1 (by omega))
      · refine List.Pairwise.imp_of_mem (fun {q r} hq hr hqr x hx y hy => ?_) List.pairwise_lt_range
        rw [List.mem_range] at hq hr
        obtain ⟨f, f2, f3, rfl⟩ := hsub q hq x hx
        obtain ⟨g, g2, g3, rfl⟩ := hsub r hr y hy
        refine lexL_at p _ _ _ _ (fun i hi => ?_) (encR_at f hpn) (encR_at g hpn) (by rw [f3, g3]; omega)
        obtain ⟨b, hb⟩ := hbef i hi
        rw [encR_at f (by omega), encR_at g (by omega), f2 i b hb, g2 i b hb]
end
end Go.Proofs.Ytoicdfdfajfopaa

namespace Go.Proofs.Ytoicdfdfajfopaa
open Go.RowKit Go.Maps Go.Shelf
/-- Where p stands first, or -1. -/
def posL (p : Int) : List Int → Nat → Int
  | [], _ => -1
  | z :: zs, k => if p == z then (k : Int) else posL p zs (k + 1)
theorem IndexP_any (b off cap : Nat) (zs : List Int) (p : Int) (w : World) (h : Ints w b off zs) (m1 : zs.length ≤ 9223372036854775807) :
    Calls Try.prog 122 #[.slice (some ⟨b, off, none⟩) zs.length cap, .int .i64 p] w fun e w' => e = .returned (.int .i64 (posL p zs 0)) ∧ w = w' := by
  have H1 := Lib.hid h
  clear h
  obtain ⟨r0, hr0⟩ : ∃ r0, r0 = posL p zs 0 := ⟨_, rfl⟩
  rw [← hr0]
  have HR := Lib.hid hr0
  clear hr0
  go_enter Try.func122, Try.ntmps122
  go_wp2
  go_loop [8] (fun i => ∃ k : Nat, k ≤ zs.length ∧ i = .int .i64 k ∧ Hid (r0 = posL p (zs.drop k) k)) (fun i => zs.length - (intOf i).toNat)
  case atStart => exact ⟨0, Nat.zero_le _, rfl, Lib.hid (by rw [HR.out]; simp)⟩
  case round =>
    obtain ⟨k, hk, rfl, HE⟩ := hrel
    by_cases hlt : k < zs.length
    · obtain ⟨x, hx, hc1⟩ : ∃ x, zs.drop k = x :: zs.drop (k + 1) ∧ w.cell? ⟨b, off + k, none⟩ = some (.int .i64 x) := by
        refine ⟨zs[k], List.drop_eq_getElem_cons hlt, ?_⟩
        have := H1.out k hlt
        simpa [hlt] using this
      have HX := Lib.hid hx
      clear hx
      go_wp2
      · have hne : (p == x) = true := by assumption
        go_ret
        refine ⟨?_, rfl⟩
        rw [HE.out, HX.out]
        simp [posL, hne]
      · have hne : (p == x) = false := by assumption
        go_round
        case rel => exact ⟨k + 1, by omega, by go_num, Lib.hid (by rw [HE.out, HX.out]; simp [posL, hne])⟩
        case measure => simp [intOf]; omega
    · go_wp2
      go_ret
      refine ⟨?_, rfl⟩
      rw [HE.out, List.drop_eq_nil_of_le (by omega : zs.length ≤ k)]
      rfl
/-- Images as the program holds them. -/
def encM (m : List (Option Nat)) : List Int := m.map fun x => match x with
  | none => -1
  | some b => (b : Int)
theorem encM_len (m : List (Option Nat)) : (encM m).length = m.length := by simp [encM]
theorem encM_at {m : List (Option Nat)} {a : Nat} (ha : a < m.length) : (encM m)[a]?.getD 0 = match gm m a with
    | none => -1
    | some b => (b : Int) := by
  simp only [encM, List.getElem?_map, gm, List.getElem?_eq_getElem ha, Option.map_some, Option.getD_some, Option.join_some]
theorem encM_set (m : List (Option Nat)) (a b : Nat) : (encM m).set a (b : Int) = encM (m.set a (some b)) := by
  simp [encM, List.map_set]
theorem posL_enc : ∀ (m : List (Option Nat)) (k : Nat), posL (-1) (encM m) k = match m.findIdx? Option.isNone with
    | none => -1
    | some p => ((k + p : Nat) : Int)
  | [], _ => rfl
  | none :: m, k => by
    have e2 : encM (none :: m) = -1 :: encM m := rfl
    rw [e2, posL, List.findIdx?_cons]
    simp
  | some b :: m, k => by
    have ih := posL_enc m (k + 1)
    have e : ((-1 : Int) == (b : Int)) = false := by
      rw [beq_eq_false_iff_ne]
      omega
    have e2 : encM (some b :: m) = (b : Int) :: encM m := rfl
    rw [e2, posL, e, List.findIdx?_cons]
    simp only [Bool.false_eq_true, if_false, Option.isNone_some]
    rw [ih]
    cases m.findIdx? Option.isNone with
    | none => rfl
    | some p =>
      show ((k + 1 + p : Nat) : Int) = ((k + (p + 1) : Nat) : Int)
      omega
theorem inL_enc (m : List (Option Nat)) (b : Nat) : inL (b : Int) (encM m) = decide (some b ∈ m) := by
  unfold inL encM
  rw [List.any_map, Bool.eq_iff_iff, List.any_eq_true, decide_eq_true_iff]
  constructor
  · rintro ⟨x, hx, h⟩
    cases x with
    | none =>
      simp at h
    | some c =>
      have h : (b : Int) = (c : Int) := by simpa using h
      have : b = c := by omega
      rw [this]
      exact hx
  · intro h
    exact ⟨some b, h, by simp⟩
end Go.Proofs.Ytoicdfdfajfopaa

namespace Go.Proofs.Ytoicdfdfajfopaa
open Go.RowKit Go.Maps Go.Shelf
attribute [local go_sem] Oper.semAt_some
/-- A list of numbers that the call owns, in no block of E. -/
def OwnE (W : World) (E : Nat → Prop) (b : Nat) (v : Value) (zs : List Int) : Prop := OwnJ W b v zs ∧ ∀ r, v.ownBlock = some r → ¬ E r
/-- What lies behind a row that comes. -/
def RowE (E : Nat → Prop) (x : List (Option Nat)) (k : Nat) (v : Value) (W : World) : Prop := OwnE W E k v (encM x)
/-- What lies behind a renumbering that comes. -/
def RenR (E : Nat → Prop) (n : Nat) (T1 T2 : Nat → Nat → Nat) (x : List (Option Nat)) (k : Nat) (v : Value) (W : World) : Prop := OwnE W E k v (encM x) ∧ ∃ f, IsoR n T1 T2 f ∧ x = lisR n f
theorem SeqR.weaker {α : Type} {F : Fence} {n : Nat} {P : Program} {g : Nat} {lb : Array Value} {R R' : α → Nat → Value → World → Prop} {E : Nat → Prop} {S Sp : List α → Prop} {N b : Nat} {W : World} (h : SeqR F n P g lb R E S Sp N b W) (hR : ∀ x k v W, R x k v W → R' x k v W) : SeqR F n P g lb R' E S Sp N b W :=
  fun l J Jx hJ hJx hY h0 => h l J Jx hJ hJx (fun pre x k v W1 a b c => hY pre x k v W1 a (hR _ _ _ _ b) c) h0
theorem OwnJ.someR {w : World} {base : Nat} {s : Value} {zs : List Int} (h : OwnJ w base s zs) (h0 : 0 < zs.length) : ∃ g cap, s = .slice (some ⟨g, 0, none⟩) zs.length cap := by
  rcases h.2 with ⟨_, e⟩ | ⟨g, cap, _, e, _⟩
  · omega
  · exact ⟨g, cap, e⟩
set_option maxRecDepth 100000 in
set_option maxHeartbeats 2000000 in
theorem ren_leaf (n : Nat) (E : Nat → Prop) (T1 T2 : Nat → Nat → Nat) (m : List (Option Nat)) (hC : Cl n T1 T2 m []) (hn3 : 0 < n) (hn : n ≤ 15) (hf : m.findIdx? Option.isNone = none) (b Bi : Nat) (pt pf : Value) (v : Value) (W : World) (hB : Boxed W Bi 25 v) (hO : OwnE W E b v (encM m)) (hb : b ≤ W.heap.size) :
    SeqR Fence.wide 9 Try.prog 121 #[.pointer (some ⟨Bi, 0, none⟩), pt, pf] (RenR E n T1 T2) E (fun xs => xs = [m]) (fun pre => pre <+: [m]) 1 b W := fun l J Jx hJ _ hY h0 => by
  have hro : Fence.wide.round = none := rfl
  have hm := hC.len
  have hiso : ∃ f, IsoR n T1 T2 f ∧ m = lisR n f := by
    obtain ⟨f, h1, _, h2⟩ := (all_known hC (find_none hf) m).1 (by simp)
    exact ⟨f, h1, h2⟩
  have hlen : (encM m).length = n := by rw [encM_len, hm]
  obtain ⟨g, cap, rfl⟩ := hO.1.someR (by rw [hlen]; exact hn3)
  have hpos := posL_enc m 0
  rw [hf] at hpos
  have hIx : ∀ W' : World, OwnJ W' b (.slice (some ⟨g, 0, none⟩) (encM m).length cap) (encM m) → CallsIn Fence.wide 8 Try.prog 122 #[.slice (some ⟨g, 0, none⟩) (encM m).length cap, .int .i64 (-1)] W' fun e w' => e = .returned (.int .i64 (-1)) ∧ W' = w' := fun W' h' => by
    obtain ⟨b', off', cap', e1, _, e3⟩ := h'.ia (by rw [hlen]; omega)
    cases e1
    have := callsIn_wide (n := 8).2 (IndexP_any g 0 cap (encM m) (-1) W' e3 (by rw [hlen]; omega))
    rw [hpos] at this
    exact this
  have hJ1 := (hJ [] b).alloc (s := ()) (.cells #[.func (.yield l) #[] #[]] 92) h0
  have hO1 : OwnE (W.alloc (.cells #[.func (.yield l) #[] #[]] 92)) E b _ (encM m) := ⟨hO.1.alloc _, hO.2⟩
  have HI := Lib.hid (hIx _ hO1.1)
  obtain ⟨fn, tmps, assign, body, hy, hR⟩ := hY [] m b _ _ hJ1 ⟨hO1, hiso⟩ (by simp)
  have hc := hB.alloc (.cells #[.func (.yield l) #[] #[]] 92)
  have hc0 := hc.cell
  have hR2 := Lib.hid hR
  rw [hlen] at hc0 hy HI
  clear hR hIx hO hO1 hB hc hlen hm hiso hC
  refine callsIn_of_wp Try.func121 rfl trivial ?_ hro
  simp only [Try.ntmps121, List.size_toArray, List.length_cons, List.length_nil, Nat.reduceAdd, Nat.reduceSub, Array.replicate_succ, Array.replicate_zero, List.push_toArray, List.append_toArray, List.nil_append, List.cons_append]
  gi_wp2
  refine wpIn_wide.2 ?_
  go_step3
  refine wpIn_wide (n := 9).1 ?_
  gi_wp2_with (first
    | (refine ⟨trivial, ?_⟩; gi_at_call 122; refine HI.out.mono ?_; rintro e w1 ⟨rfl, rfl⟩))
  refine hR2.out.mono ?_
  rintro e W3 ⟨_, ⟨rfl, hJ3⟩ | ⟨rfl, hJ3⟩⟩
  · gi_wp2
    rw [Exit.noGoto_ret]
    refine bodyPost_ret (results_none rfl _ _ _) rfl ?_
    exact ⟨⟨_, rfl⟩, .inl ⟨_, _, rfl, hJ3⟩⟩
  · gi_wp2
    rw [Exit.noGoto_ret]
    refine bodyPost_ret (results_none rfl _ _ _) rfl ?_
    exact ⟨⟨_, rfl⟩, .inr ⟨_, _, List.prefix_refl _, hJ3⟩⟩
end Go.Proofs.Ytoicdfdfajfopaa

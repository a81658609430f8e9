
/- The model's common point of two blocks. The model's other points of a block. The model's order of lists of integers. The model's test whether two lists are the same, and its number of a block. A list of rows as a list of headers: what l03Put writes. What the outline's lists of rows hold: ascending, each row once. impl.SquareOf makes the square of its number. The laws' copies of rows of integers, and how much they hold. The laws' copies of rows of rows, and how much they hold. The laws' copy of rows of rows. Blocks in ascending order: plain facts. Plain facts on trades, without the program. -/
import Derived.Test.YtmgpmcjbnooklaaJ4
import Derived.Deep.RegionHeld3
import Derived.BigQuiet
namespace Go.Proofs.Ytmgpmcjbnooklaa
open Go.RowKit Go.Maps
/-- TwoX blocks that came in, in their boxes. -/
structure TwoX (w' : World) (b : Nat) (x y : Blk) : Prop where
  x0 : w'.cell? ⟨b, 0, none⟩ = some (.int .i64 x.a)
  x1 : w'.cell? ⟨b, 1, none⟩ = some (.int .i64 x.b)
  x2 : w'.cell? ⟨b, 2, none⟩ = some (.int .i64 x.c)
  y0 : w'.cell? ⟨b + 1, 0, none⟩ = some (.int .i64 y.a)
  y1 : w'.cell? ⟨b + 1, 1, none⟩ = some (.int .i64 y.b)
  y2 : w'.cell? ⟨b + 1, 2, none⟩ = some (.int .i64 y.c)
theorem TwoX.below {w w' : World} {b B : Nat} {x y : Blk} (h : TwoX w b x y) (hb : Below B w w') (hB : b + 1 < B) : TwoX w' b x y :=
  ⟨(hb.cell (p := ⟨b, 0, none⟩) (by show b < B; omega)).trans h.x0, (hb.cell (p := ⟨b, 1, none⟩) (by show b < B; omega)).trans h.x1, (hb.cell (p := ⟨b, 2, none⟩) (by show b < B; omega)).trans h.x2, (hb.cell (p := ⟨b + 1, 0, none⟩) hB).trans h.y0, (hb.cell (p := ⟨b + 1, 1, none⟩) hB).trans h.y1, (hb.cell (p := ⟨b + 1, 2, none⟩) hB).trans h.y2⟩
def meetK (x y : Blk) : Nat → Bool
  | 0 => true
  | 1 => !hasB y x.a
  | 2 => !hasB y x.a && !hasB y x.b
  | _ => !hasB y x.a && !hasB y x.b && !hasB y x.c
def comI (x y : Blk) : Int := (comP x y).getD (-1)
end Go.Proofs.Ytmgpmcjbnooklaa

namespace Go.Proofs.Ytmgpmcjbnooklaa
open Go.RowKit Go.Maps
def othersP (x : Blk) (a : Int) : Int × Int := if a = x.a then (x.b, x.c) else if a = x.b then (x.a, x.c) else (x.a, x.b)
end Go.Proofs.Ytmgpmcjbnooklaa

namespace Go.Proofs.Ytmgpmcjbnooklaa
open Go.RowKit Go.Maps
/-- Lexicographic, a shorter list first. -/
def lexL : List Int → List Int → Bool
  | [], [] => false
  | [], _ :: _ => true
  | _ :: _, [] => false
  | a :: r, b :: t => if a = b then lexL r t else decide (a < b)
theorem lexL_end (ps qs : List Int) (h : ps = [] ∨ qs = []) : lexL ps qs = decide (ps.length < qs.length) := by
  cases ps <;> cases qs <;> simp_all [lexL]
/-- Returns a value and draws alone. -/
def RD (v : Value) (w : World) (e : Ending) (w' : World) : Prop := e = .returned v ∧ ∃ n, w' = w.drewN n
theorem drewN_add (w : World) (a b : Nat) : (w.drewN a).drewN b = w.drewN (a + b) := by simp [World.drewN, Nat.add_assoc]
theorem RD_of {v u : Value} {w w' : World} {n : Nat} (h : u = v) (hw : w' = w.drewN n) : RD v w (.returned u) w' := ⟨by rw [h], n, hw⟩
theorem RD.rv {P : Program} {f : FuncId} {args : Array Value} {w : World} {v : Value} (h : Calls P f args w (RD v w)) : Calls P f args w (RV v w) :=
  h.mono fun _ _ ⟨he, n, hn⟩ => ⟨he, by rw [hn]; exact below_drewN (Below.refl _ _) _⟩
theorem RD.quiet2 {P : Program} {f : FuncId} {args : Array Value} {w : World} {a n : Nat} {v : Value} (h : Calls P f args (w.drewN (a + n)) (RD v (w.drewN (a + n)))) :
    Calls P f args (w.drewN (a + n)) fun e w'' => e = .returned v ∧ ∃ m, w'' = w.drewN (a + m) :=
  h.mono fun _ _ ⟨he, m, hm⟩ => ⟨he, n + m, by rw [hm, drewN_add, Nat.add_assoc]⟩
theorem RD.quiet {P : Program} {f : FuncId} {args : Array Value} {w : World} {n : Nat} {v : Value} (h : Calls P f args (w.drewN n) (RD v (w.drewN n))) :
    Calls P f args (w.drewN n) fun e w'' => e = .returned v ∧ ∃ m, w'' = w.drewN m :=
  h.mono fun _ _ ⟨he, m, hm⟩ => ⟨he, n + m, by rw [hm, drewN_add]⟩
set_option maxRecDepth 100000 in
theorem l03LessD_any (s t : Value) (ps qs : List Int) (w : World) (h : IB w s ps) (k : IB w t qs) : Calls Try.prog 118 #[s, t] w (RD (.bool (lexL ps qs)) w) := by
  have hs : ∃ a c, s = .slice a ps.length c := by rcases h.2 with ⟨a, c, rfl, rfl⟩ | ⟨b, off, cap, rfl, _⟩ <;> exact ⟨_, _, rfl⟩
  have ht : ∃ a c, t = .slice a qs.length c := by rcases k.2 with ⟨a, c, rfl, rfl⟩ | ⟨b, off, cap, rfl, _⟩ <;> exact ⟨_, _, rfl⟩
  have H := Lib.hid h
  have K := Lib.hid k
  have hl := h.1
  have kl := k.1
  clear h k
  obtain ⟨a0, c0, rfl⟩ := hs
  obtain ⟨a1, c1, rfl⟩ := ht
  go_enter Try.func118, Try.ntmps118
  go_wp2
  go_loopw [5] (fun i wr => ∃ k : Nat, k ≤ ps.length ∧ k ≤ qs.length ∧ i = .int .i64 k ∧ (∃ n, wr = w.drewN n) ∧ Hid (lexL ps qs = lexL (ps.drop k) (qs.drop k))) (fun i _ => ps.length - (intOf i).toNat)
  case atStart => exact ⟨0, Nat.zero_le _, Nat.zero_le _, rfl, ⟨0, rfl⟩, Lib.hid (by simp)⟩
  case round =>
    obtain ⟨k, hk1, hk2, rfl, ⟨n, rfl⟩, HE⟩ := hrel
    by_cases h1 : k < ps.length
    · have i1 : decide ((k : Int) < (ps.length : Int)) = true := by simpa using h1
      by_cases h2 : k < qs.length
      · have i2 : decide ((k : Int) < (qs.length : Int)) = true := by simpa using h2
        rcases H.out.2 with ⟨_, _, _, hnil⟩ | ⟨b, off, cap, hv, hlt, hI⟩
        · exfalso; rw [hnil] at h1; simp at h1
        rcases K.out.2 with ⟨_, _, _, hnil⟩ | ⟨b', off', cap', hv', hlt', hI'⟩
        · exfalso; rw [hnil] at h2; simp at h2
        simp at hv hv'
        obtain ⟨rfl, rfl⟩ := hv
        obtain ⟨rfl, rfl⟩ := hv'
        have d0 := hI k h1
        have d1 := hI' k h2
        have e0 : ps.drop k = (ps[k]?.getD 0) :: ps.drop (k + 1) := by rw [List.drop_eq_getElem_cons h1]; simp [h1]
        have e1 : qs.drop k = (qs[k]?.getD 0) :: qs.drop (k + 1) := by rw [List.drop_eq_getElem_cons h2]; simp [h2]
        obtain ⟨x, hx⟩ : ∃ x, x = ps[k]?.getD 0 := ⟨_, rfl⟩
        obtain ⟨y, hy⟩ : ∃ y, y = qs[k]?.getD 0 := ⟨_, rfl⟩
        rw [← hx] at d0 e0
        rw [← hy] at d1 e1
        have he := HE.out
        rw [e0, e1, lexL] at he
        have g0 : (0 : Int) ≤ (k : Int) := by omega
        have g1 : (k : Int) < (ps.length : Int) := by omega
        have g2 : (k : Int) < (qs.length : Int) := by omega
        clear hx hy e0 e1 hI hI' HE
        by_cases e : x = y
        · have q1 : (x != y) = false := by simpa using e
          have q2 : decide (x = y) = true := by simpa using e
          have HN := Lib.hid (show lexL ps qs = lexL (ps.drop (k + 1)) (qs.drop (k + 1)) by rw [he, if_pos e])
          clear he e
          go_wp2
          go_quiet (fail)
          go_wp2
          go_roundw
          case rel => exact ⟨k + 1, by omega, by omega, by go_num, ⟨_, rfl⟩, HN⟩
          case measure => simp [intOf]; omega
        · have q1 : (x != y) = true := by simpa using e
          have q2 : decide (x = y) = false := by simpa using e
          have HN := Lib.hid (show lexL ps qs = decide (x < y) by rw [he, if_neg e])
          clear he e
          go_wp2
          go_quiet (fail)
          go_wp2
          go_quiet (fail)
          go_wp2
          go_ret
          exact RD_of (bool_eq (by rw [HN.out])) (by simp only [drewN_add]; rfl)
      · have i2 : decide ((k : Int) < (qs.length : Int)) = false := by simpa using h2
        have HN := Lib.hid (show lexL ps qs = decide (ps.length < qs.length) by
          rw [HE.out, lexL_end _ _ (.inr (List.drop_eq_nil_of_le (by omega)))]
          rw [decide_eq_decide, List.length_drop, List.length_drop]
          omega)
        go_wp2
        go_ret
        exact RD_of (bool_eq (by rw [HN.out, decide_eq_decide] <;> omega)) rfl
    · have i1 : decide ((k : Int) < (ps.length : Int)) = false := by simpa using h1
      have HN := Lib.hid (show lexL ps qs = decide (ps.length < qs.length) by
        rw [HE.out, lexL_end _ _ (.inl (List.drop_eq_nil_of_le (by omega)))]
        rw [decide_eq_decide, List.length_drop, List.length_drop]
        omega)
      go_wp2
      go_ret
      exact RD_of (bool_eq (by rw [HN.out, decide_eq_decide] <;> omega)) rfl
theorem l03Less_any (s t : Value) (ps qs : List Int) (w : World) (h : IB w s ps) (k : IB w t qs) : Calls Try.prog 118 #[s, t] w (RV (.bool (lexL ps qs)) w) := RD.rv (l03LessD_any s t ps qs w h k)
end Go.Proofs.Ytmgpmcjbnooklaa

namespace Go.Proofs.Ytmgpmcjbnooklaa
open Go.RowKit Go.Maps
theorem lexL_irr : ∀ ps : List Int, lexL ps ps = false
  | [] => rfl
  | a :: r => by rw [lexL, if_pos rfl]; exact lexL_irr r
theorem lexL_eq : ∀ ps qs : List Int, lexL ps qs = false → lexL qs ps = false → ps = qs
  | [], [], _, _ => rfl
  | [], _ :: _, h, _ => by simp [lexL] at h
  | _ :: _, [], _, h => by simp [lexL] at h
  | a :: r, b :: t, h, k => by
    rw [lexL] at h k
    by_cases e : a = b
    · subst e
      rw [if_pos rfl] at h k
      rw [lexL_eq r t h k]
    · rw [if_neg e] at h
      rw [if_neg (fun q => e q.symm)] at k
      simp at h k
      omega
theorem lexL_trans : ∀ {ps qs rs : List Int}, lexL ps qs = true → lexL qs rs = true → lexL ps rs = true
  | [], [], _, h, _ => by simp [lexL] at h
  | [], _ :: _, [], _, h => by simp [lexL] at h
  | [], _ :: _, _ :: _, _, _ => by simp [lexL]
  | _ :: _, [], _, h, _ => by simp [lexL] at h
  | _ :: _, _ :: _, [], _, h => by simp [lexL] at h
  | a :: r, b :: t, c :: u, h, k => by
    rw [lexL] at h k ⊢
    by_cases e : a = b
    · subst e
      rw [if_pos rfl] at h
      by_cases e2 : a = c
      · subst e2
        rw [if_pos rfl] at k ⊢
        exact lexL_trans h k
      · rw [if_neg e2] at k ⊢
        exact k
    · rw [if_neg e] at h
      by_cases e2 : b = c
      · subst e2
        rw [if_neg e]
        exact h
      · rw [if_neg e2] at k
        simp at h k
        rw [if_neg (by omega)]
        simp
        omega
set_option maxRecDepth 100000 in
theorem l03SameD_any (s t : Value) (ps qs : List Int) (w : World) (h : IB w s ps) (k : IB w t qs) : Calls Try.prog 100 #[s, t] w (RD (.bool (decide (ps = qs))) w) := by
  have H1 := Lib.hid (l03LessD_any s t ps qs w h k)
  have H2 := Lib.hid fun W (hb : Below w.heap.size w W) => l03LessD_any t s qs ps W (k.below hb (Nat.le_refl _)) (h.below hb (Nat.le_refl _))
  clear h k
  cases e1 : lexL ps qs with
  | true =>
    have HV := Lib.hid (show decide (ps = qs) = false by
      rw [decide_eq_false_iff_not]
      rintro rfl
      rw [lexL_irr] at e1
      cases e1)
    rw [e1] at H1
    clear e1 H2
    go_enter Try.func100, Try.ntmps100
    go_wp2_with (go_at_call 118; refine H1.out.mono ?_; rintro e w1 ⟨rfl, n1, rfl⟩)
    go_ret
    exact RD_of (bool_eq (by rw [HV.out])) rfl
  | false =>
    obtain ⟨β, hβ⟩ : ∃ β, β = lexL qs ps := ⟨_, rfl⟩
    have HV := Lib.hid (show decide (ps = qs) = !β by
      cases h2 : lexL qs ps with
      | false => rw [hβ, h2]; simpa using lexL_eq ps qs e1 h2
      | true =>
        rw [hβ, h2]
        rw [Bool.not_true, decide_eq_false_iff_not]
        rintro rfl
        rw [lexL_irr] at h2
        cases h2)
    rw [e1] at H1
    rw [← hβ] at H2
    clear e1 hβ
    go_enter Try.func100, Try.ntmps100
    go_wp2_with fail
    refine H1.out.mono ?_
    rintro e w1 ⟨rfl, n1, rfl⟩
    go_wp2_with fail
    refine (H2.out _ (below_drewN (Below.refl _ _) _)).mono ?_
    rintro e w2 ⟨rfl, n2, rfl⟩
    go_wp2
    go_ret
    refine ⟨congrArg Ending.returned (bool_eq (by rw [HV.out])), ?_⟩
    exact ⟨_, rfl⟩
theorem l03Same_any (s t : Value) (ps qs : List Int) (w : World) (h : IB w s ps) (k : IB w t qs) : Calls Try.prog 100 #[s, t] w (RV (.bool (decide (ps = qs))) w) := RD.rv (l03SameD_any s t ps qs w h k)
end Go.Proofs.Ytmgpmcjbnooklaa

namespace Go.Proofs.Ytmgpmcjbnooklaa
open Go.RowKit Go.Maps
/-- Where the outline puts a row: behind the rows that it is not before, from the end on. -/
def putAt (L : List (List Int)) (r : List Int) : Nat → Nat
  | 0 => 0
  | k + 1 => if lexL r (L[k]?.getD []) then putAt L r k else k + 1
theorem putAt_le (L : List (List Int)) (r : List Int) : ∀ k, putAt L r k ≤ k
  | 0 => Nat.le_refl _
  | k + 1 => by
    have := putAt_le L r k
    unfold putAt
    split <;> omega
def putHas (L : List (List Int)) (r : List Int) : Bool := decide (0 < putAt L r L.length) && decide (L[putAt L r L.length - 1]?.getD [] = r)
/-- The outline's list with one more row. -/
def putL (L : List (List Int)) (r : List Int) : List (List Int) := if putHas L r then L else L.take (putAt L r L.length) ++ r :: L.drop (putAt L r L.length)
def insV {α : Type} (s : List α) (j : Nat) (y : α) : List α := s.take j ++ y :: s.drop j
theorem insV_len {α : Type} (s : List α) (j : Nat) (y : α) : (insV s j y).length = s.length + 1 := by
  unfold insV
  simp
  omega
theorem insV_end {α : Type} (s : List α) (y : α) : insV s s.length y = s ++ [y] := by simp [insV]
theorem insV_set {α : Type} (s : List α) (j : Nat) (y x : α) (h : j ≤ s.length) : (insV s j y).set j x = insV s j x := by
  have e : (s.take j).length = j := by rw [List.length_take]; omega
  unfold insV
  rw [List.set_append_right _ _ (by omega), e, Nat.sub_self, List.set_cons_zero]
theorem insV_get {α : Type} (s : List α) (j : Nat) (y : α) (h : j < s.length) : (insV s (j + 1) y)[j]? = s[j]? := by
  unfold insV
  rw [List.getElem?_append_left (by rw [List.length_take]; omega), List.getElem?_take_of_lt (by omega)]
theorem insV_shift {α : Type} (s : List α) (j : Nat) (y z : α) (h : j < s.length) (hz : s[j]? = some z) : (insV s (j + 1) y).set (j + 1) z = insV s j z := by
  rw [insV_set s (j + 1) y _ (by omega)]
  rw [List.getElem?_eq_getElem h] at hz
  injection hz with hz
  unfold insV
  rw [List.take_add_one, List.getElem?_eq_getElem h, List.append_assoc]
  conv => rhs; rw [List.drop_eq_getElem_cons h]
  simp [hz]
/-- A list of the call's own of row headers. -/
def RowsV (w : World) (base : Nat) (u : Value) (hs : List Value) : Prop := w.ownsRow base 26 1 u hs.length hs
theorem RowsV.kept {w w' : World} {base : Nat} {u : Value} {hs : List Value} (h : RowsV w base u hs) {row : Option Nat} (hg : w.grownBy w' row) (hr : row = none ∨ u.ownBlock ≠ row) : RowsV w' base u hs := ownsRow_kept h hg hr
theorem RowsV.below {w w' : World} {base : Nat} {u : Value} {hs : List Value} (h : RowsV w base u hs) {B : Nat} (hb : Below B w w') (hB : w.heap.size ≤ B) : RowsV w' base u hs :=
  h.kept (only_of_below (hb.mono hB) none) (.inl rfl)
theorem RowsV.setT {w : World} {base g n cap : Nat} {hs : List Value} (h : RowsV w base (.slice (some ⟨g, 0, none⟩) n cap) hs) {i : Nat} {x : Value} :
    RowsV (w.setCell ⟨g, i, none⟩ x) base (.slice (some ⟨g, 0, none⟩) n cap) (hs.set i x) ∧ w.grownBy (w.setCell ⟨g, i, none⟩ x) (some g) := by
  refine ⟨?_, only_setCell (only_refl w (some g)) rfl _⟩
  obtain ⟨_, h | ⟨g', cap', cur, e, hb, hcur, hn, hc, hsz, hx⟩⟩ := h
  · simp at h
  · simp at e
    obtain ⟨rfl, rfl, rfl⟩ := e
    have hl : (hs.set i x).length = hs.length := List.length_set
    unfold RowsV
    rw [hl]
    refine ⟨by simp, .inr ⟨g, cap, cur.setIfInBounds i x, rfl, hb, heap_setCell_same w g i cur _ _ hcur, hn, hc, by simp [hsz], ?_⟩⟩
    rw [Array.toList_setIfInBounds, List.take_set, hx]
theorem RowsV.at_ {w : World} {base g n cap : Nat} {hs : List Value} (h : RowsV w base (.slice (some ⟨g, 0, none⟩) n cap) hs) {i : Nat} {x : Value} (hi : hs[i]? = some x) : w.cell? ⟨g, i, none⟩ = some x ∧ base ≤ g ∧ g < w.heap.size ∧ n = hs.length ∧ w.frozen? ⟨g, i, none⟩ = false := by
  obtain ⟨_, h | ⟨g', cap', cur, e, hb, hcur, hn, hc, hsz, hx⟩⟩ := h
  · simp at h
  · simp at e
    obtain ⟨rfl, rfl, rfl⟩ := e
    have hil : i < hs.length := (List.getElem?_eq_some_iff.1 hi).1
    refine ⟨?_, hb, (Array.getElem?_eq_some_iff.1 hcur).1, rfl, by simp [World.frozen?, hcur]⟩
    rw [← hx, List.getElem?_take_of_lt (by omega)] at hi
    simp [World.cell?, hcur]
    simpa using hi
theorem RowsV.form {w : World} {base : Nat} {u : Value} {hs : List Value} (h : RowsV w base u hs) (h0 : 0 < hs.length) : ∃ g cap, u = .slice (some ⟨g, 0, none⟩) hs.length cap := by
  rcases h.2 with ⟨_, e⟩ | ⟨g, cap, cur, e, _⟩
  · omega
  · exact ⟨g, cap, e⟩
theorem wpList_append_hdr {w : World} {ops : Array Oper} {rest : List Oper} {o : Oper} {a : Act} {Q : Exit → Act → World → Prop} (hgd : o.guard = none) (s x : Operand)
    (ho : o.op = .call { callee := .builtin .append, args := #[s, x], argTypes := #[45, 45] })
    (base : Nat) (v : Value) (hs : List Value) (hsv : a.eval s = v) (hown : RowsV w base v hs) (b0 c : Nat) (hx : a.eval x = .slice (some ⟨b0, 0, none⟩) 1 c) (p : Option Addr) (n0 c0 : Nat)
    (c1 : w.cell? ⟨b0, 0, none⟩ = some (.slice p n0 c0)) (hl : hs.length ≤ 1100000) (hbase : base ≤ w.heap.size)
    (h : ∀ (G cap : Nat) (w' : World), RowsV w' base (.slice (some ⟨G, 0, none⟩) (hs.length + 1) cap) (hs ++ [.slice p n0 c0]) → w.grownBy w' v.ownBlock → (v.ownBlock = some G ∨ G = w.heap.size) → wpList Try.prog ops Q rest (a.put o.dst (.slice (some ⟨G, 0, none⟩) (hs.length + 1) cap)) w') : wpList Try.prog ops Q (o :: rest) a w := by
  obtain ⟨i0, hi, hz0, hz1, hz2⟩ := info_parts infoRow
  refine wpList_append_own_at w hgd s x 45 ho base 26 i0 _ 1 24 Try.underlying45 hi hz0 hz1 hz2 rfl (by decide) v hs.length _ hsv hown ⟨b0, 0, none⟩ 1 c [.slice p n0 c0] hx rfl ?_ ?_ (by unfold maxLen; omega) (by omega) hbase ?_
  · intro j u hj
    rw [addr_at, Nat.zero_add]
    match j, hj with
    | 0, hj => simp at hj; rw [← hj]; exact c1
    | j + 1, hj => simp at hj
  · intro u hu
    simp at hu
    rw [hu]
    rfl
  · intro v' w' hown' hg _ hob
    obtain ⟨G, cap, rfl⟩ := row_some hown'
    refine h G cap w' ?_ hg ?_
    · unfold RowsV
      rw [List.length_append]
      exact hown'
    · rcases hob with e | e
      · exact .inl (by rw [← e]; rfl)
      · exact .inr (by simpa [Value.ownBlock] using e)
end Go.Proofs.Ytmgpmcjbnooklaa

namespace Go.Proofs.Ytmgpmcjbnooklaa
/-- Ascending, each row once. -/
def AscR (L : List (List Int)) : Prop := L.Pairwise fun a b => lexL a b = true
theorem lexL_asym {p q : List Int} (h : lexL p q = true) : lexL q p = false := by
  cases e : lexL q p with
  | false => rfl
  | true =>
    have := lexL_trans h e
    rw [lexL_irr] at this
    cases this
theorem lexL_of_ne {p q : List Int} (h : lexL q p = false) (hne : p ≠ q) : lexL p q = true := by
  cases e : lexL p q with
  | true => rfl
  | false => exact absurd (lexL_eq p q e h) hne
theorem AscR.nodup {L : List (List Int)} (h : AscR L) : L.Nodup := List.Pairwise.imp (fun {a b} h e => by
  subst e
  rw [lexL_irr] at h
  cases h) h
theorem AscR.ext {L M : List (List Int)} (hL : AscR L) (hM : AscR M) (h : ∀ x, x ∈ L ↔ x ∈ M) : L = M := by
  have hp : L.Perm M := (List.perm_ext_iff_of_nodup hL.nodup hM.nodup).2 h
  exact hp.eq_of_pairwise (fun a b _ _ h1 h2 => by
    have := lexL_asym h1
    rw [h2] at this
    cases this) hL hM
theorem putAt_hi (L : List (List Int)) (r : List Int) : ∀ k i, putAt L r k ≤ i → i < k → lexL r (L[i]?.getD []) = true
  | 0, i, _, h => absurd h (Nat.not_lt_zero i)
  | k + 1, i, h1, h2 => by
    unfold putAt at h1
    by_cases hx : lexL r (L[k]?.getD []) = true
    · rw [if_pos hx] at h1
      by_cases e : i = k
      · rw [e]; exact hx
      · exact putAt_hi L r k i h1 (by omega)
    · rw [if_neg hx] at h1
      omega
theorem putAt_lo (L : List (List Int)) (r : List Int) : ∀ k j, putAt L r k = j + 1 → lexL r (L[j]?.getD []) = false
  | 0, j, h => by simp [putAt] at h
  | k + 1, j, h => by
    unfold putAt at h
    by_cases hx : lexL r (L[k]?.getD []) = true
    · rw [if_pos hx] at h
      exact putAt_lo L r k j h
    · rw [if_neg hx] at h
      obtain rfl : k = j := by omega
      simpa using hx
theorem take_before {L : List (List Int)} {r : List Int} (hL : AscR L) (hn : putHas L r = false) : ∀ x ∈ L.take (putAt L r L.length), lexL x r = true := by
  intro x hx
  have hle := putAt_le L r L.length
  obtain ⟨i, hi, rfl⟩ := List.mem_iff_getElem.1 hx
  rw [List.length_take] at hi
  obtain ⟨j, hj⟩ : ∃ j, putAt L r L.length = j + 1 := ⟨putAt L r L.length - 1, by omega⟩
  have hjl : j < L.length := by omega
  have hlo := putAt_lo L r _ j hj
  rw [List.getElem?_eq_getElem hjl, Option.getD_some] at hlo
  have hne : L[j] ≠ r := by
    intro e
    rw [putHas, hj] at hn
    simp [List.getElem?_eq_getElem hjl, e] at hn
  have hlast := lexL_of_ne hlo hne
  rw [List.getElem_take]
  by_cases e : i = j
  · subst e
    exact hlast
  · have hp := (List.pairwise_iff_getElem.1 hL) i j (by omega) hjl (by omega)
    exact lexL_trans hp hlast
theorem drop_behind {L : List (List Int)} {r : List Int} : ∀ x ∈ L.drop (putAt L r L.length), lexL r x = true := by
  intro x hx
  obtain ⟨i, hi, rfl⟩ := List.mem_iff_getElem.1 hx
  rw [List.length_drop] at hi
  rw [List.getElem_drop]
  have := putAt_hi L r L.length (putAt L r L.length + i) (by omega) (by omega)
  rw [List.getElem?_eq_getElem (by omega), Option.getD_some] at this
  exact this
theorem putL_asc {L : List (List Int)} (hL : AscR L) (r : List Int) : AscR (putL L r) := by
  unfold putL
  cases hn : putHas L r with
  | true => simpa using hL
  | false =>
    rw [if_neg (by decide)]
    have h1 := take_before hL hn
    have h2 := drop_behind (L := L) (r := r)
    refine List.pairwise_append.2 ⟨hL.sublist (List.take_sublist _ _), List.pairwise_cons.2 ⟨fun x hx => h2 x hx, hL.sublist (List.drop_sublist _ _)⟩, ?_⟩
    intro x hx y hy
    rcases List.mem_cons.1 hy with rfl | hy
    · exact h1 x hx
    · exact lexL_trans (h1 x hx) (h2 y hy)
theorem putL_mem {L : List (List Int)} {r x : List Int} : x ∈ putL L r ↔ x = r ∨ x ∈ L := by
  unfold putL
  cases hn : putHas L r with
  | true =>
    rw [if_pos rfl]
    refine ⟨.inr, fun h => h.elim (fun e => ?_) id⟩
    subst e
    simp only [putHas, Bool.and_eq_true, decide_eq_true_eq] at hn
    have hle := putAt_le L x L.length
    have := hn.2
    rw [List.getElem?_eq_getElem (by omega), Option.getD_some] at this
    rw [← this]
    exact List.getElem_mem _
  | false =>
    rw [if_neg (by decide), List.mem_append, List.mem_cons]
    have : x ∈ L ↔ x ∈ L.take (putAt L r L.length) ∨ x ∈ L.drop (putAt L r L.length) := by
      conv => lhs; rw [← List.take_append_drop (putAt L r L.length) L]
      rw [List.mem_append]
    rw [this]
    constructor
    · rintro (h | h | h)
      · exact .inr (.inl h)
      · exact .inl h
      · exact .inr (.inr h)
    · rintro (h | h | h)
      · exact .inr (.inl h)
      · exact .inl h
      · exact .inr (.inr h)
theorem putL_len (L : List (List Int)) (r : List Int) : (putL L r).length ≤ L.length + 1 := by
  have := putAt_le L r L.length
  unfold putL
  split
  · omega
  · simp
    omega
/-- The outline's list of the rows of a list. -/
def setR (Rs : List (List Int)) : List (List Int) := Rs.foldl putL []
theorem setR_snoc (Rs : List (List Int)) (r : List Int) : setR (Rs ++ [r]) = putL (setR Rs) r := by simp [setR]
theorem foldl_put {Rs : List (List Int)} : ∀ {L : List (List Int)}, AscR L → AscR (Rs.foldl putL L) ∧ (∀ x, x ∈ Rs.foldl putL L ↔ x ∈ Rs ∨ x ∈ L) ∧ (Rs.foldl putL L).length ≤ L.length + Rs.length := by
  induction Rs with
  | nil => exact fun hL => ⟨hL, fun x => by simp, by simp⟩
  | cons r Rs ih =>
    intro L hL
    obtain ⟨h1, h2, h3⟩ := ih (putL_asc hL r)
    refine ⟨h1, fun x => ?_, ?_⟩
    · rw [List.foldl_cons, h2 x, putL_mem, List.mem_cons]
      constructor
      · rintro (h | h | h)
        · exact .inl (.inr h)
        · exact .inl (.inl h)
        · exact .inr h
      · rintro ((h | h) | h)
        · exact .inr (.inl h)
        · exact .inl h
        · exact .inr (.inr h)
    · have := putL_len L r
      rw [List.foldl_cons, List.length_cons]
      omega
theorem setR_asc (Rs : List (List Int)) : AscR (setR Rs) := (foldl_put (Rs := Rs) (L := []) List.Pairwise.nil).1
theorem setR_mem {Rs : List (List Int)} {x : List Int} : x ∈ setR Rs ↔ x ∈ Rs := by
  have := (foldl_put (Rs := Rs) (L := []) List.Pairwise.nil).2.1 x
  simpa [setR] using this
theorem setR_len (Rs : List (List Int)) : (setR Rs).length ≤ Rs.length := by
  have := (foldl_put (Rs := Rs) (L := []) List.Pairwise.nil).2.2
  simpa [setR] using this
theorem setR_of {Rs L : List (List Int)} (hL : AscR L) (h : ∀ x, x ∈ L ↔ x ∈ Rs) : setR Rs = L := (setR_asc Rs).ext hL fun x => by rw [setR_mem, h]
end Go.Proofs.Ytmgpmcjbnooklaa

namespace Go.Proofs.Ytmgpmcjbnooklaa
open Go.RowKit Go.Maps
theorem mkRow (n : Nat) (hn : n ≤ 1100000) (W : World) : (Instr.makeSlice 26 (.int .i64 (n : Int)) (.int .i64 (n : Int))).run Try.prog W = .ok (.slice (some ⟨W.heap.size, 0, none⟩) n n) (W.alloc (.cells (madeCells #[.int .i64 0] n) 2)) := by
  obtain ⟨i0, hi, hz0, hz1, hz2⟩ := info_parts infoInt64
  have hr := run_make (P := Try.prog) W 26 2 i0 (.int .i64 0) Try.underlying26 hi hz0 .i64 .i64 n n (by omega) (by omega) (by rw [hz2]; omega) (by omega)
  simp only [Int.toNat_natCast, hz1, Nat.mul_one] at hr
  exact hr
end Go.Proofs.Ytmgpmcjbnooklaa

namespace Go.Proofs.Ytmgpmcjbnooklaa
open Go.RowKit Go.Maps
set_option maxRecDepth 100000 in
theorem szInt64S_any (s : Value) (n : Nat) (hs : ∃ a c, s = .slice a n c) (hn : (n : Int) ≤ 9223372036854775807) (left : Int) (h0 : 0 ≤ left) (h1 : left ≤ 1048576) (w : World) : Calls Try.prog 56 #[s, .int .i64 left] w
    (RS (.int .i64 (if left - n < 0 then -1 else left - n)) w) := by
  obtain ⟨a, c, rfl⟩ := hs
  by_cases h : left - n < 0
  · rw [if_pos h]
    have h' : left < n := by omega
    clear h
    go_enter Try.func56, Try.ntmps56
    go_wp2
    go_ret
    exact RS_of rfl
  · rw [if_neg h]
    have h' : (n : Int) ≤ left := by omega
    clear h
    go_enter Try.func56, Try.ntmps56
    go_wp2
    go_ret
    exact RS_of rfl
theorem copy_next (zs : List Int) {k : Nat} (hk : k < zs.length) : (zs.take k ++ List.replicate (zs.length - k) 0).set k (zs[k]?.getD 0) = zs.take (k + 1) ++ List.replicate (zs.length - (k + 1)) 0 := by
  rw [show zs.length - k = (zs.length - (k + 1)) + 1 by omega, List.replicate_succ, List.set_append_right _ _ (by simp; omega), List.length_take, show k - min k zs.length = 0 by omega, List.set_cons_zero, List.take_add_one, List.append_assoc]
  simp [hk]
set_option maxRecDepth 100000 in
theorem toInt64S_any (s : Value) (zs : List Int) (w : World) (h : IB w s zs) :
    Calls Try.prog 60 #[s] w (fun e w' => e = .returned (.slice (some ⟨w.heap.size, 0, none⟩) zs.length zs.length) ∧ Below w.heap.size w w' ∧ OwnAtI w' w.heap.size zs) := by
  obtain ⟨hlen, h3⟩ := h
  rcases h3 with ⟨a0, c0, rfl, rfl⟩ | ⟨b, off, cap, rfl, hlt, hI⟩
  · have hm := mkRow 0 (by omega)
    simp only [Int.natCast_zero] at hm
    clear hlen
    go_enter Try.func60, Try.ntmps60
    go_wp2
    refine wp_loop_rounds 1 ?_
    rw [rounds_succ]
    go_wp2
    go_ret
    exact ⟨rfl, (Below.refl _ _).alloc (Nat.le_refl _) _, ⟨by simp, fun k hk => by simp at hk, fun o => by simp⟩⟩
  · have hm := mkRow zs.length hlen
    have HI := Lib.hid hI
    clear hI
    go_enter Try.func60, Try.ntmps60
    go_wp2
    go_loopw [4] (fun i wr => ∃ k : Nat, k ≤ zs.length ∧ i = .int .i64 k ∧ Below w.heap.size w wr ∧ OwnAtI wr w.heap.size (zs.take k ++ List.replicate (zs.length - k) 0)) (fun i _ => zs.length - (intOf i).toNat)
    case atStart => exact ⟨0, Nat.zero_le _, rfl, (Below.refl _ _).alloc (Nat.le_refl _) _, by simpa using made_ints w zs.length _⟩
    case round =>
      obtain ⟨k, hk, rfl, hB, ho⟩ := hrel
      by_cases hkl : k < zs.length
      · have c0 := (hB.cell (p := ⟨b, off + k, none⟩) hlt).trans (HI.out k hkl)
        have hlk : k < (zs.take k ++ List.replicate (zs.length - k) 0).length := by simp; omega
        have c1 := ho.at_ k hlk
        rw [Nat.zero_add] at c1
        have f1 := ho.free
        have hs := Ints.set ho.at_ hlk (zs[k]?.getD 0)
        rw [copy_next zs hkl] at hs
        have hzlt := ho.lt
        obtain ⟨z, hz⟩ : ∃ z, z = zs[k]?.getD 0 := ⟨_, rfl⟩
        rw [← hz] at c0 hs
        have HS := Lib.hid hs
        clear hz hs ho
        have g0 : (0 : Int) ≤ (k : Int) := by omega
        have g1 : (k : Int) < (zs.length : Int) := by omega
        go_wp2
        go_roundw
        case rel => exact ⟨k + 1, by omega, by go_num, hB.setCell (p := ⟨w.heap.size, k, none⟩) (Nat.le_refl _) _, ⟨by simpa [World.setCell] using hzlt, HS.out, fun o => by rw [World.frozen?_setCell]; exact f1 o⟩⟩
        case measure => simp [intOf]; omega
      · go_wp2
        go_ret
        have e : k = zs.length := by omega
        subst e
        exact ⟨rfl, hB, by simpa using ho⟩
end Go.Proofs.Ytmgpmcjbnooklaa

namespace Go.Proofs.Ytmgpmcjbnooklaa
open Go.RowKit Go.Maps
/-- How many elements rows of these lengths hold, the first k of them. -/
def totL (l : Nat → Nat) : Nat → Nat
  | 0 => 0
  | k + 1 => totL l k + l k
theorem totL_le (l : Nat → Nat) {j n : Nat} (h : j ≤ n) : totL l j ≤ totL l n := by
  induction h with
  | refl => exact Nat.le_refl _
  | step _ ih => exact Nat.le_trans ih (by simp [totL])
/-- A slice of n slices of these lengths. -/
def HeadS (w : World) (s : Value) (n : Nat) (l : Nat → Nat) : Prop :=
  (n = 0 ∧ ∃ a c, s = .slice a 0 c) ∨ ∃ b off cap, s = .slice (some ⟨b, off, none⟩) n cap ∧ ∀ k, k < n → (l k : Int) ≤ 9223372036854775807 ∧ ∃ a c, w.cell? ⟨b, off + k, none⟩ = some (.slice a (l k) c)
theorem HeadS.slice {w : World} {s : Value} {n : Nat} {l : Nat → Nat} (h : HeadS w s n l) : ∃ a c, s = .slice a n c := by
  rcases h with ⟨rfl, a, c, rfl⟩ | ⟨b, off, cap, rfl, _⟩ <;> exact ⟨_, _, rfl⟩
set_option maxRecDepth 100000 in
theorem szInt64SS_any (s : Value) (n : Nat) (l : Nat → Nat) (hn : (n : Int) ≤ 9223372036854775807) (left : Int) (h0 : 0 ≤ left) (h1 : left ≤ 1048576) (w : World) (h : HeadS w s n l) : Calls Try.prog 23 #[s, .int .i64 left] w
    (RS (.int .i64 (if left - n - totL l n < 0 then -1 else left - n - totL l n)) w) := by
  by_cases hlt : left < n
  · rw [if_pos (by omega)]
    obtain ⟨a, c, rfl⟩ := h.slice
    clear h
    go_enter Try.func23, Try.ntmps23
    go_wp2
    go_ret
    exact RS_of rfl
  · have hle : (n : Int) ≤ left := by omega
    rcases h with ⟨rfl, a, c, rfl⟩ | ⟨b, off, cap, rfl, hB⟩
    · have e : (if left - ((0 : Nat) : Int) - ((totL l 0 : Nat) : Int) < 0 then -1 else left - ((0 : Nat) : Int) - ((totL l 0 : Nat) : Int)) = left := by simp [totL]; omega
      rw [e]
      clear hlt hle hn e
      go_enter Try.func23, Try.ntmps23
      go_wp2
      refine wp_loop_rounds 1 ?_
      rw [rounds_succ]
      go_wp2
      go_ret
      exact RS_of rfl
    · have HB := Lib.hid hB
      clear hB
      obtain ⟨m, hm⟩ : ∃ m, left - (n : Int) = m := ⟨_, rfl⟩
      rw [hm]
      obtain ⟨res, hres⟩ : ∃ res, res = (if m - ((totL l n : Nat) : Int) < 0 then -1 else m - ((totL l n : Nat) : Int)) := ⟨_, rfl⟩
      rw [← hres]
      have HRES := Lib.hid hres
      clear hres
      have m0 : 0 ≤ m := by omega
      have m1 : m ≤ 1048576 := by omega
      go_enter Try.func23, Try.ntmps23
      go_wp2
      have HM := Lib.hid hm
      clear hm
      go_loopw [1, 5] (fun t i wr => wr = w ∧ ∃ j : Nat, j ≤ n ∧ i = .int .i64 j ∧ t = .int .i64 (m - totL l j) ∧ (totL l j : Int) ≤ m) (fun _ i _ => n - (intOf i).toNat)
      case atStart => exact ⟨rfl, 0, Nat.zero_le _, rfl, by simp [totL], by simp [totL]; omega⟩
      case round =>
        obtain ⟨hww, j, hj, rfl, rfl, hr⟩ := hrel
        subst hww
        by_cases hjl : j < n
        · obtain ⟨hlj, a, c, c1⟩ := HB.out j hjl
          have htj := totL_le l (show j + 1 ≤ n from hjl)
          have htj' : totL l (j + 1) = totL l j + l j := rfl
          have g0 : (0 : Int) ≤ (j : Int) := by omega
          have g1 : (j : Int) < (n : Int) := by omega
          have hz := szInt64S_any (.slice a (l j) c) (l j) ⟨_, _, rfl⟩ hlj (m - totL l j) (by omega) (by omega) wr
          by_cases hneg : m - (totL l j : Int) - (l j : Int) < 0
          · rw [if_pos hneg] at hz
            have HZ := Lib.hid hz
            clear hz
            have e : res = -1 := by rw [HRES.out]; exact if_pos (by omega)
            subst e
            go_wp2_with (go_at_call 56; refine HZ.out.mono ?_; rintro e w1 ⟨rfl, hw1⟩; subst hw1)
            go_ret
            exact RS_of rfl
          · rw [if_neg hneg] at hz
            obtain ⟨r, hr'⟩ : ∃ r, r = m - (totL l j : Int) - (l j : Int) := ⟨_, rfl⟩
            rw [← hr'] at hz
            have HZ := Lib.hid hz
            have r0 : 0 ≤ r := by omega
            have HR := Lib.hid hr'
            clear hz hr'
            go_wp2_with (go_at_call 56; refine HZ.out.mono ?_; rintro e w1 ⟨rfl, rfl⟩)
            go_roundw
            case rel => exact ⟨trivial, j + 1, by omega, by go_num, int_eq (by rw [HR.out, htj']; omega), by rw [htj']; have := HR.out; omega⟩
            case measure => simp [intOf]; omega
        · have e : j = n := by omega
          subst e
          have e : res = m - ((totL l j : Nat) : Int) := by rw [HRES.out]; exact if_neg (by omega)
          subst e
          go_wp2
          go_ret
          exact RS_of rfl
end Go.Proofs.Ytmgpmcjbnooklaa

namespace Go.Proofs.Ytmgpmcjbnooklaa
open Go.RowKit Go.Maps
theorem mkRows (n : Nat) (hn : n ≤ 1100000) (W : World) : (Instr.makeSlice 45 (.int .i64 (n : Int)) (.int .i64 (n : Int))).run Try.prog W = .ok (.slice (some ⟨W.heap.size, 0, none⟩) n n) (W.alloc (.cells (madeCells #[.slice none 0 0] n) 26)) := by
  obtain ⟨i0, hi, hz0, hz1, hz2⟩ := info_parts infoRow
  have hr := run_make (P := Try.prog) W 45 26 i0 (.slice none 0 0) Try.underlying45 hi hz0 .i64 .i64 n n (by omega) (by omega) (by rw [hz2]; omega) (by omega)
  simp only [Int.toNat_natCast, hz1, Nat.mul_one] at hr
  exact hr
set_option maxRecDepth 100000 in
theorem toInt64SS_any (s : Value) (n : Nat) (F : Nat → List Int) (w : World) (h : SSB w s n F) :
    Calls Try.prog 25 #[s] w (fun e w' => ∃ gs caps, e = .returned (.slice (some ⟨w.heap.size, 0, none⟩) n n) ∧ Below w.heap.size w w' ∧ SSR w' w.heap.size w.heap.size gs caps n F) := by
  obtain ⟨hlen, h3⟩ := h
  rcases h3 with ⟨rfl, a0, c0, rfl⟩ | ⟨b, off, cap, rfl, hlt, hI⟩
  · have hm := mkRows 0 (by omega)
    simp only [Int.natCast_zero] at hm
    clear hlen
    go_enter Try.func25, Try.ntmps25
    go_wp2
    refine wp_loop_rounds 1 ?_
    rw [rounds_succ]
    go_wp2
    go_ret
    exact ⟨fun _ => 0, fun _ => 0, rfl, (Below.refl _ _).alloc (Nat.le_refl _) _, ⟨fun k hk => by omega, fun k hk => by omega, fun k hk => by omega, fun j k _ hk => by omega, fun k hk => by omega, by simp⟩⟩
  · have hm := mkRows n hlen
    have HI := Lib.hid hI
    clear hI
    go_enter Try.func25, Try.ntmps25
    go_wp2
    go_loopw [4] (fun i wr => ∃ (k : Nat) (gs caps : Nat → Nat), k ≤ n ∧ i = .int .i64 k ∧ Below w.heap.size w wr ∧ w.heap.size < wr.heap.size ∧ SSR wr w.heap.size w.heap.size gs caps k F ∧ (∀ q, q < n → ∃ u, wr.cell? ⟨w.heap.size, q, none⟩ = some u) ∧ (∀ o, wr.frozen? ⟨w.heap.size, o, none⟩ = false)) (fun i _ => n - (intOf i).toNat)
    case atStart => exact ⟨0, fun _ => 0, fun _ => 0, Nat.zero_le _, rfl, (Below.refl _ _).alloc (Nat.le_refl _) _, by simp, ⟨fun k hk => by omega, fun k hk => by omega, fun k hk => by omega, fun j k _ hk => by omega, fun k hk => by omega, by simp⟩, fun q hq => by rw [World.cell?_alloc_at _ _ _ _ rfl]; exact ⟨.slice none 0 0, by simp [madeCells, hq, Nat.mod_one]⟩, fun o => by simp⟩
    case round =>
      obtain ⟨k, gs, caps, hk, rfl, hB, hz, hS, hcs, hfz⟩ := hrel
      by_cases hkl : k < n
      · obtain ⟨a1, c1, q1, i1⟩ := HI.out k hkl
        have q1 := (hB.cell (p := ⟨b, off + k, none⟩) hlt).trans q1
        have I1 := Lib.hid (i1.below hB (Nat.le_refl _))
        have HS := Lib.hid hS
        have HC := Lib.hid hcs
        have HFZ := Lib.hid hfz
        clear i1 hS hcs hfz
        have g0 : (0 : Int) ≤ (k : Int) := by omega
        have g1 : (k : Int) < (n : Int) := by omega
        go_wp2_with (go_at_call 60; refine (toInt64S_any _ (F k) _ I1.out).mono ?_; rintro e w1 ⟨rfl, hb1, ho1⟩; obtain ⟨u, hu⟩ := HC.out k hkl; have m1 := (hb1.cell (p := ⟨w.heap.size, k, none⟩) hz).trans hu; have f1 := fun o => (hb1.frozen (p := ⟨w.heap.size, o, none⟩) hz).trans (HFZ.out o))
        have hz1 := hb1.size
        have hS1 := HS.out.below hb1 (Nat.le_refl _)
        have hst := only_setCell (only_refl w1 (some w.heap.size)) (p := ⟨w.heap.size, k, none⟩) rfl (.slice (some ⟨wr.heap.size, 0, none⟩) (F k).length (F k).length)
        go_roundw
        case rel =>
          refine ⟨k + 1, fun q => if q = k then wr.heap.size else gs q, fun q => if q = k then (F k).length else caps q, by omega, by go_num, (hB.trans (hb1.mono (by omega))).setCell (p := ⟨w.heap.size, k, none⟩) (Nat.le_refl _) _, by simp [World.setCell]; omega, ⟨fun q hq => ?_, fun q hq => ?_, fun q hq => ?_, fun p q hpq hq => ?_, fun q hq => ?_, by simp [World.setCell]; omega⟩, fun q hq => ?_, fun o => by rw [World.frozen?_setCell]; exact f1 o⟩
          · by_cases e : q = k
            · subst e
              rw [World.cell?_setCell_same' _ _ _ (by rw [m1]; rfl)]
              simp
            · rw [World.cell?_setCell_other _ _ _ _ (by simp <;> omega), hS1.cell q (by omega)]
              simp [e]
          · by_cases e : q = k
            · subst e
              simp only [if_pos]
              exact ho1.kept hst (by simp; omega)
            · simp only [if_neg e]
              exact (hS1.row q (by omega)).kept hst (by have := hS1.ne q (by omega); simpa using this)
          · by_cases e : q = k
            · simp only [if_pos e]; omega
            · simp only [if_neg e]; exact hS1.ne q (by omega)
          · have e1 : p ≠ k := by omega
            simp only [if_neg e1]
            by_cases e : q = k
            · simp only [if_pos e]
              exact Nat.ne_of_lt (HS.out.row p (by omega)).lt
            · simp only [if_neg e]
              exact hS1.inc p q hpq (by omega)
          · by_cases e : q = k
            · simp only [if_pos e]; omega
            · simp only [if_neg e]; exact hS1.low q (by omega)
          · by_cases e : q = k
            · subst e
              exact ⟨_, World.cell?_setCell_same' _ _ _ (by rw [m1]; rfl)⟩
            · obtain ⟨u', hu'⟩ := HC.out q hq
              exact ⟨u', by rw [World.cell?_setCell_other _ _ _ _ (by simp <;> omega)]; exact (hb1.cell (p := ⟨w.heap.size, q, none⟩) hz).trans hu'⟩
        case measure => simp [intOf]; omega
      · go_wp2
        go_ret
        have e : k = n := by omega
        subst e
        exact ⟨gs, caps, rfl, hB, hS⟩
end Go.Proofs.Ytmgpmcjbnooklaa

namespace Go.Proofs.Ytmgpmcjbnooklaa
theorem bef_iff (x y : Blk) : befB x y = true ↔ x.a < y.a ∨ (x.a = y.a ∧ (x.b < y.b ∨ (x.b = y.b ∧ x.c < y.c))) := by
  unfold befB
  split
  · split
    · simp; omega
    · simp; omega
  · simp; omega
theorem bef_niff (x y : Blk) : befB x y = false ↔ ¬ (x.a < y.a ∨ (x.a = y.a ∧ (x.b < y.b ∨ (x.b = y.b ∧ x.c < y.c)))) := by
  rw [← bef_iff]; simp
theorem bef_irrefl (x : Blk) : befB x x = false := by rw [bef_niff]; omega
theorem bef_trans {x y z : Blk} (h1 : befB x y = true) (h2 : befB y z = true) : befB x z = true := by
  rw [bef_iff] at *; omega
theorem bef_ntrans {x y z : Blk} (h1 : befB x y = false) (h2 : befB y z = false) : befB x z = false := by
  rw [bef_niff] at *; omega
theorem bef_asymm {x y : Blk} (h : befB x y = true) : befB y x = false := by
  rw [bef_niff]; rw [bef_iff] at h; omega
theorem bef_total {x y : Blk} (h1 : befB x y = false) (h2 : befB y x = false) : x = y := by
  rw [bef_niff] at h1 h2
  obtain ⟨a, b, c⟩ := x
  obtain ⟨d, e, f⟩ := y
  simp only at h1 h2
  simp only [Blk.mk.injEq]
  omega
/-- No block stands behind a greater one. -/
def Srt (l : List Blk) : Prop := l.Pairwise fun x y => befB y x = false
theorem srt_unique {l m : List Blk} (h1 : Srt l) (h2 : Srt m) (hp : l.Perm m) : l = m :=
  List.Perm.eq_of_pairwise (le := fun x y => befB y x = false) (fun _ _ _ _ h1 h2 => bef_total h2 h1) h1 h2 hp
/-- Where x goes in among the first n of l. -/
def posB (x : Blk) (l : List Blk) : Nat → Nat
  | 0 => 0
  | n + 1 => if befB x (l[n]?.getD default) then posB x l n else n + 1
theorem posB_le (x : Blk) (l : List Blk) : ∀ n, posB x l n ≤ n
  | 0 => Nat.le_refl _
  | n + 1 => by
    unfold posB
    split
    · have := posB_le x l n; omega
    · exact Nat.le_refl _
theorem posB_after (x : Blk) (l : List Blk) : ∀ n j, posB x l n ≤ j → j < n → befB x (l[j]?.getD default) = true
  | 0, j, _, h => by omega
  | n + 1, j, h1, h2 => by
    unfold posB at h1
    split at h1
    · by_cases e : j = n
      · subst e; assumption
      · exact posB_after x l n j h1 (by omega)
    · omega
theorem posB_at (x : Blk) (l : List Blk) : ∀ n m, posB x l n = m + 1 → befB x (l[m]?.getD default) = false
  | 0, m, h => by simp [posB] at h
  | n + 1, m, h => by
    unfold posB at h
    split at h
    · exact posB_at x l n m h
    · obtain rfl : m = n := by omega
      exact Bool.eq_false_iff.2 ‹¬ befB _ _ = true›
def insB (x : Blk) (l : List Blk) : List Blk := l.take (posB x l l.length) ++ x :: l.drop (posB x l l.length)
theorem insB_perm (x : Blk) (l : List Blk) : (insB x l).Perm (x :: l) := by
  unfold insB
  refine List.perm_middle.trans ?_
  rw [List.take_append_drop]
theorem insB_length (x : Blk) (l : List Blk) : (insB x l).length = l.length + 1 := by
  rw [(insB_perm x l).length_eq]; rfl
theorem insB_srt {x : Blk} {l : List Blk} (h : Srt l) : Srt (insB x l) := by
  unfold insB Srt
  have hle := posB_le x l l.length
  have hb : ∀ y ∈ l.take (posB x l l.length), befB x y = false := by
    intro y hy
    obtain ⟨i, hi, e⟩ := List.getElem_of_mem hy
    rw [List.length_take] at hi
    rw [List.getElem_take] at e
    obtain ⟨m, hm⟩ : ∃ m, posB x l l.length = m + 1 := ⟨posB x l l.length - 1, by omega⟩
    have hm2 := posB_at x l _ m hm
    have hml : m < l.length := by omega
    rw [List.getElem?_eq_getElem hml, Option.getD_some] at hm2
    by_cases hi2 : i = m
    · subst hi2; rw [← e]; exact hm2
    · have hh := List.pairwise_iff_getElem.1 h i m (by omega) hml (by omega)
      rw [← e]
      exact bef_ntrans hm2 hh
  have ha : ∀ y ∈ l.drop (posB x l l.length), befB x y = true := by
    intro y hy
    obtain ⟨i, hi, e⟩ := List.getElem_of_mem hy
    rw [List.length_drop] at hi
    rw [List.getElem_drop] at e
    have h2 := posB_after x l l.length (posB x l l.length + i) (by omega) (by omega)
    rw [List.getElem?_eq_getElem (by omega), Option.getD_some, e] at h2
    exact h2
  have h0 : Srt (l.take (posB x l l.length) ++ l.drop (posB x l l.length)) := by rw [List.take_append_drop]; exact h
  obtain ⟨h1, h2, h3⟩ := List.pairwise_append.1 h0
  refine List.pairwise_append.2 ⟨h1, List.pairwise_cons.2 ⟨fun y hy => bef_asymm (ha y hy), h2⟩, fun y hy z hz => ?_⟩
  rcases List.mem_cons.1 hz with rfl | hz
  · exact hb y hy
  · exact h3 y hy z hz
/-- The blocks in order. -/
def sortB (bs : List Blk) : List Blk := bs.foldl (fun acc x => insB x acc) []
theorem sortB_snoc (bs : List Blk) (x : Blk) : sortB (bs ++ [x]) = insB x (sortB bs) := by simp [sortB]
theorem foldIns_perm : ∀ (bs acc : List Blk), (bs.foldl (fun acc x => insB x acc) acc).Perm (bs ++ acc)
  | [], acc => List.Perm.refl _
  | x :: r, acc => by
    rw [List.foldl_cons]
    refine (foldIns_perm r _).trans ?_
    refine ((insB_perm x acc).append_left r).trans ?_
    exact List.perm_middle
theorem foldIns_srt : ∀ (bs acc : List Blk), Srt acc → Srt (bs.foldl (fun acc x => insB x acc) acc)
  | [], _, h => h
  | x :: r, acc, h => by
    rw [List.foldl_cons]
    exact foldIns_srt r _ (insB_srt h)
theorem sortB_perm (bs : List Blk) : (sortB bs).Perm bs := by
  have := foldIns_perm bs []
  rwa [List.append_nil] at this
theorem sortB_srt (bs : List Blk) : Srt (sortB bs) := foldIns_srt bs [] List.Pairwise.nil
theorem sortB_length (bs : List Blk) : (sortB bs).length = bs.length := (sortB_perm bs).length_eq
theorem sortB_eq {bs l : List Blk} (h1 : Srt l) (h2 : l.Perm bs) : sortB bs = l := srt_unique (sortB_srt bs) h1 ((sortB_perm bs).trans h2.symm)
theorem sortB_of_perm {bs cs : List Blk} (h : bs.Perm cs) : sortB bs = sortB cs := sortB_eq (sortB_srt cs) ((sortB_perm cs).trans h.symm)
theorem sortB_mem {bs : List Blk} {x : Blk} : x ∈ sortB bs ↔ x ∈ bs := (sortB_perm bs).mem_iff
theorem sortB_merge (bs : List Blk) : bs.mergeSort (fun x y => !befB y x) = sortB bs := by
  refine (sortB_eq ?_ (List.mergeSort_perm _ _)).symm
  have := List.pairwise_mergeSort (le := fun x y => !befB y x) (fun x y z h1 h2 => by
    simp only [Bool.not_eq_true'] at *
    exact bef_ntrans h2 h1) (fun x y => by
    cases h : befB y x
    · simp
    · simp [bef_asymm h]) bs
  exact this.imp fun h => by simpa using h
/-- Blocks in strict order are in order. -/
theorem order_srt {v : Int} : ∀ {bs : List Blk} {p : Option Blk}, orderGo v p bs = true → (bs.Pairwise fun x y => befB x y = true) ∧ ∀ y, p = some y → ∀ x ∈ bs, befB y x = true
  | [], _, _ => ⟨List.Pairwise.nil, by simp⟩
  | x :: r, p, h => by
    simp only [orderGo, Bool.and_eq_true] at h
    obtain ⟨⟨_, h1⟩, h2⟩ := h
    obtain ⟨i1, i2⟩ := order_srt h2
    refine ⟨List.pairwise_cons.2 ⟨fun y hy => i2 x rfl y hy, i1⟩, fun y hy z hz => ?_⟩
    subst hy
    simp only at h1
    rcases List.mem_cons.1 hz with rfl | hz
    · exact h1
    · exact bef_trans h1 (i2 x rfl z hz)
theorem sys_strict {v : Int} {bs : List Blk} (h : isSysImpl v bs = true) : bs.Pairwise fun x y => befB x y = true := by
  simp only [isSysImpl, Bool.and_eq_true] at h
  exact (order_srt h.1.2).1
theorem strict_srt {bs : List Blk} (h : bs.Pairwise fun x y => befB x y = true) : Srt bs := h.imp bef_asymm
theorem strict_nodup {bs : List Blk} (h : bs.Pairwise fun x y => befB x y = true) : bs.Nodup :=
  h.imp fun {x y} hxy e => by subst e; rw [bef_irrefl] at hxy; cases hxy
end Go.Proofs.Ytmgpmcjbnooklaa

namespace Go.Proofs.Ytmgpmcjbnooklaa
/-- The pairs of a list of blocks. -/
def prs (bs : List Blk) : List (Int × Int) := bs.flatMap pairsL
/-- The same pairs. -/
def samePr (bs cs : List Blk) : Bool := (prs bs).all (fun p => decide (p ∈ prs cs)) && (prs cs).all (fun p => decide (p ∈ prs bs))
/-- No block is in both. -/
def dsj (bs cs : List Blk) : Bool := bs.all fun x => !decide (x ∈ cs)
def trdB (v : Int) (bo bi : List Blk) : Bool := isSysImpl v bo && isSysImpl v bi && (samePr bo bi && dsj bo bi)
theorem samePr_iff {bs cs : List Blk} : samePr bs cs = true ↔ ∀ p, p ∈ prs bs ↔ p ∈ prs cs := by
  simp only [samePr, Bool.and_eq_true, List.all_eq_true, decide_eq_true_eq]
  exact ⟨fun h p => ⟨h.1 p, h.2 p⟩, fun h => ⟨fun p => (h p).1, fun p => (h p).2⟩⟩
theorem dsj_iff {bs cs : List Blk} : dsj bs cs = true ↔ ∀ x ∈ bs, x ∉ cs := by simp [dsj]
theorem dsj_symm (bs cs : List Blk) : dsj bs cs = dsj cs bs := by
  rw [Bool.eq_iff_iff, dsj_iff, dsj_iff]
  exact ⟨fun h x hx hy => h x hy hx, fun h x hx hy => h x hy hx⟩
theorem samePr_symm (bs cs : List Blk) : samePr bs cs = samePr cs bs := by
  rw [Bool.eq_iff_iff, samePr_iff, samePr_iff]
  exact ⟨fun h p => (h p).symm, fun h p => (h p).symm⟩
theorem trdB_symm (v : Int) (bo bi : List Blk) : trdB v bo bi = trdB v bi bo := by
  unfold trdB
  rw [samePr_symm, dsj_symm, Bool.and_comm (isSysImpl v bo)]
theorem prs_length (bs : List Blk) : (prs bs).length = 3 * bs.length := by
  induction bs with
  | nil => rfl
  | cons x r ih =>
    simp only [prs, List.flatMap_cons, List.length_append, List.length_cons] at ih ⊢
    rw [ih]
    simp [pairsL]; omega
theorem share_nodup {v : Int} (hv : v ≤ 15) : ∀ (bs : List Blk) (seen : List (Int × Int)), (∀ x ∈ bs, goodB v x = true) → seen.Nodup → shareGo seen bs = false → (seen ++ prs bs).Nodup
  | [], seen, _, hn, _ => by simpa [prs] using hn
  | x :: r, seen, hb, hn, h => by
    unfold shareGo at h
    split at h
    · rename_i hf
      rw [freeB_iff] at hf
      obtain ⟨g1, _⟩ := good_pairs hv (hb x (by simp))
      have := share_nodup hv r (seen ++ pairsL x) (fun y hy => hb y (by simp [hy])) (List.nodup_append.2 ⟨hn, g1, fun p hp q hq e => hf q hq (e ▸ hp)⟩) h
      simpa [prs, List.append_assoc] using this
    · cases h
theorem sys_parts {v : Int} {bs : List Blk} (h : isSysImpl v bs = true) : 3 ≤ v ∧ v ≤ 15 ∧ (∀ x ∈ bs, goodB v x = true) ∧ shareGo [] bs = false := by
  simp only [isSysImpl, Bool.and_eq_true, decide_eq_true_eq, Bool.not_eq_true'] at h
  exact ⟨h.1.1.1, h.1.1.2, order_good h.1.2, h.2⟩
theorem prs_nodup {v : Int} {bs : List Blk} (h : isSysImpl v bs = true) : (prs bs).Nodup := by
  obtain ⟨_, h2, h3, h4⟩ := sys_parts h
  simpa using share_nodup h2 bs [] h3 List.nodup_nil h4
theorem sub_back {α : Type} [DecidableEq α] {l m : List α} (hn : l.Nodup) (hs : ∀ x ∈ l, x ∈ m) (hl : m.length ≤ l.length) : ∀ x ∈ m, x ∈ l := by
  intro x hx
  apply Classical.byContradiction
  intro hnot
  have h := nodup_length l (m.erase x) hn (fun y hy => by
    have hne : y ≠ x := fun e => hnot (e ▸ hy)
    exact (List.mem_erase_of_ne hne).2 (hs y hy))
  rw [List.length_erase_of_mem hx] at h
  have : 0 < m.length := List.length_pos_of_mem hx
  omega
/-- Of two systems: as many pairs, and those of the first in the second, say the same. -/
theorem samePr_of {v u : Int} {bs cs : List Blk} (h1 : isSysImpl v bs = true) (h2 : isSysImpl u cs = true) : samePr bs cs = (decide ((prs bs).length = (prs cs).length) && (prs bs).all fun p => decide (p ∈ prs cs)) := by
  have n1 := prs_nodup h1
  have n2 := prs_nodup h2
  rw [Bool.eq_iff_iff, samePr_iff]
  simp only [Bool.and_eq_true, List.all_eq_true, decide_eq_true_eq]
  constructor
  · intro h
    exact ⟨Nat.le_antisymm (nodup_length _ _ n1 fun x hx => (h x).1 hx) (nodup_length _ _ n2 fun x hx => (h x).2 hx), fun x hx => (h x).1 hx⟩
  · rintro ⟨h, hs⟩ p
    exact ⟨hs p, sub_back n1 hs (by omega) p⟩
/-- The blocks that are not in the others. -/
def lessL (bs cs : List Blk) : List Blk := bs.filter fun x => !decide (x ∈ cs)
theorem lessL_length (bs cs : List Blk) : (lessL bs cs).length ≤ bs.length := List.length_filter_le _ _
theorem lessL_mem {bs cs : List Blk} {x : Blk} : x ∈ lessL bs cs ↔ x ∈ bs ∧ x ∉ cs := by simp [lessL]
theorem lessL_strict {bs cs : List Blk} (h : bs.Pairwise fun x y => befB x y = true) : (lessL bs cs).Pairwise fun x y => befB x y = true := h.filter _
theorem sortB_strict {bs : List Blk} (h : bs.Pairwise fun x y => befB x y = true) : sortB bs = bs := sortB_eq (strict_srt h) (List.Perm.refl _)
end Go.Proofs.Ytmgpmcjbnooklaa

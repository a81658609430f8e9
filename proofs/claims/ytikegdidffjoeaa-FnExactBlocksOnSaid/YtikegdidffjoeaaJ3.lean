
/- The law FnExactIsSystem returns true. Whether a system is full: the program and the model. The blocks that two systems have in common: the program and the model. Third points, in plain words. The part of a system on some points: plain. The model's ThirdPoint answers as the plain function thirdV. The model's ThirdPoint answers as the plain function thirdV. What DoubleSystem answers: plain. Renumbered systems, and systems of blocks in any order: plain. The members of the library that ask whether a value is in a slice; the iterator over the blocks through a point. The iterator over the blocks through a point. -/
import Derived.Test.YtikegdidffjoeaaJ2
import Derived.Deep.RegionWith
import Derived.RangeFuncNested
import Derived.RangeFuncBound
import Derived.RangeFuncCalls
import Derived.RangeFuncLeaves
import Derived.RangeFuncBox
import Derived.Shelf.Abstract
import Derived.Shelf.RegionOpen
import Derived.OwnWalkIn
import Derived.TacticsInMore
import Derived.LoopNIn
import Derived.LoopIn
import Derived.Lib.QuietBelowIn
namespace Go.Proofs.Ytikegdidffjoeaa
open Go.RowKit Go.Maps
/-- What is known of a slice of blocks that came in. -/
def InB (w : World) (s : Value) (bs : List Blk) : Prop :=
  (∀ x ∈ bs, WFB x) ∧ bs.length ≤ 9223372036854775807 ∧ ((∃ a c, s = .slice a 0 c ∧ bs = []) ∨ ∃ b off cap, s = .slice (some ⟨b, off, none⟩) bs.length cap ∧ b < w.heap.size ∧ Blks w b off bs)
theorem InB.slice {w : World} {s : Value} {bs : List Blk} (h : InB w s bs) : ∃ a c, s = .slice a bs.length c := by
  rcases h.2.2 with ⟨a0, c0, rfl, rfl⟩ | ⟨b, off, cap, rfl, _⟩ <;> exact ⟨_, _, rfl⟩
theorem InB.sb {w : World} {s : Value} {bs : List Blk} (h : InB w s bs) (hl : bs.length ≤ 1048576) : SB w s bs := ⟨h.1, by omega, h.2.2⟩

end Go.Proofs.Ytikegdidffjoeaa

namespace Go.Proofs.Ytikegdidffjoeaa
open Go.RowKit Go.Maps
def fullB (v : Int) (bs : List Blk) : Bool := decide (6 * (bs.length : Int) = v * (v - 1))
/-- Two results: a bool and a code. -/
def boolCode (b : Bool) (c : Int) : Value := .tuple #[.bool b, .int .i64 c]
theorem sys_size {v : Int} {bs : List Blk} (h : isSysImpl v bs = true) : 3 ≤ v ∧ v ≤ 15 ∧ bs.length ≤ 35 := by
  have h2 := h
  rw [isSys_same] at h2
  simp [isSysSpec] at h2
  exact ⟨h2.1.1.1.1, h2.1.1.1.2, h2.1.1.2⟩
theorem sq_bounds {v : Int} (h0 : 3 ≤ v) (h1 : v ≤ 15) : 6 ≤ v * (v - 1) ∧ v * (v - 1) ≤ 210 := by
  have : v = 3 ∨ v = 4 ∨ v = 5 ∨ v = 6 ∨ v = 7 ∨ v = 8 ∨ v = 9 ∨ v = 10 ∨ v = 11 ∨ v = 12 ∨ v = 13 ∨ v = 14 ∨ v = 15 := by omega
  rcases this with rfl | rfl | rfl | rfl | rfl | rfl | rfl | rfl | rfl | rfl | rfl | rfl | rfl <;> decide
theorem sq_even {v : Int} (h0 : 3 ≤ v) (h1 : v ≤ 15) : ∃ k, v * (v - 1) = 2 * k := by
  have : v = 3 ∨ v = 4 ∨ v = 5 ∨ v = 6 ∨ v = 7 ∨ v = 8 ∨ v = 9 ∨ v = 10 ∨ v = 11 ∨ v = 12 ∨ v = 13 ∨ v = 14 ∨ v = 15 := by omega
  rcases this with rfl | rfl | rfl | rfl | rfl | rfl | rfl | rfl | rfl | rfl | rfl | rfl | rfl
  · exact ⟨3, by decide⟩
  · exact ⟨6, by decide⟩
  · exact ⟨10, by decide⟩
  · exact ⟨15, by decide⟩
  · exact ⟨21, by decide⟩
  · exact ⟨28, by decide⟩
  · exact ⟨36, by decide⟩
  · exact ⟨45, by decide⟩
  · exact ⟨55, by decide⟩
  · exact ⟨66, by decide⟩
  · exact ⟨78, by decide⟩
  · exact ⟨91, by decide⟩
  · exact ⟨105, by decide⟩
/-- What IsFull answers. -/
def fullV (v : Int) (bs : List Blk) : Value := if isSysImpl v bs then boolCode (fullB v bs) 0 else boolCode false 1

theorem RV2_of {v u : Value} {w w' : World} (h : u = v) (hb : Below w.heap.size w w') : RV v w (.returned u) w' := ⟨by rw [h], hb⟩
set_option maxRecDepth 100000 in
theorem IsFull_any (v : Int) (s : Value) (bs : List Blk) (w : World) (h : SB w s bs) : Calls Try.prog 210 #[.agg #[.int .i64 v, s]] w (RV (fullV v bs) w) := by
  have hs : ∃ a c, s = .slice a bs.length c := by rcases h.2.2 with ⟨a0, c0, rfl, rfl⟩ | ⟨b, off, cap, rfl, _⟩ <;> exact ⟨_, _, rfl⟩
  have hc := IsSystem_any v s bs (w.alloc (.cells #[.int .i64 v, s] 26)) (h.below ((Below.refl _ _).alloc (Nat.le_refl _) _) (Nat.le_refl _))
  obtain ⟨a, c, rfl⟩ := hs
  cases hi : isSysImpl v bs with
  | false =>
    rw [hi] at hc
    have hf : fullV v bs = boolCode false 1 := by simp [fullV, hi]
    rw [hf]
    have HC := Lib.hid hc
    clear hc hi h hf
    go_enter Try.func210, Try.ntmps210
    go_wp2_with (go_at_call 104; refine HC.out.mono ?_; rintro e w1 ⟨rfl, hb1⟩)
    go_ret2
    exact RV_of rfl (((Below.refl _ _).alloc (Nat.le_refl _) _).trans (hb1.mono (by simp)))
  | true =>
    rw [hi] at hc
    obtain ⟨h3, h15, hl⟩ := sys_size hi
    obtain ⟨q0, q1⟩ := sq_bounds h3 h15
    obtain ⟨k, hk⟩ := sq_even h3 h15
    have hf : fullV v bs = boolCode (fullB v bs) 0 := by simp [fullV, hi]
    rw [hf]
    have hfb : fullB v bs = decide (3 * (bs.length : Int) = v * (v - 1) / 2) := by
      unfold fullB
      rw [hk]
      rw [show 2 * k / 2 = k by omega]
      by_cases e : 3 * (bs.length : Int) = k
      · simp [e]; omega
      · simp [e]; omega
    rw [hfb]
    have hb0 : (0 : Int) ≤ (bs.length : Int) := by omega
    have hb35 : (bs.length : Int) ≤ 35 := by omega
    have q0' : 0 ≤ v * (v - 1) := by omega
    have HC := Lib.hid hc
    clear hc hi h hf hfb hk
    go_enter Try.func210, Try.ntmps210
    go_wp2_with (go_at_call 104; refine HC.out.mono ?_; rintro e w1 ⟨rfl, hb1⟩; have c0 := cell_new hb1 0 rfl; have c1 := cell_new hb1 1 rfl)
    all_goals go_ret2
    exact RV_of (congrArg (fun b => boolCode b 0) (by rw [Bool.eq_iff_iff]; simp)) (((Below.refl _ _).alloc (Nat.le_refl _) _).trans (hb1.mono (by simp)))

set_option maxRecDepth 100000 in
theorem l01Full_any (v : Int) (s : Value) (bs : List Blk) (w : World) (hs : ∃ a c, s = .slice a bs.length c) (h3 : 3 ≤ v) (h15 : v ≤ 15) (hl : bs.length ≤ 1100000) : Calls Try.prog 206 #[.agg #[.int .i64 v, s]] w (RV (.bool (fullB v bs)) w) := by
  obtain ⟨a, c, rfl⟩ := hs
  obtain ⟨q0, q1⟩ := sq_bounds h3 h15
  have hb0 : (0 : Int) ≤ (bs.length : Int) := by omega
  have hb35 : (bs.length : Int) ≤ 1100000 := by omega
  go_enter Try.func206, Try.ntmps206
  go_wp2
  go_ret
  exact RV_of (bool_eq (by rw [Bool.eq_iff_iff]; simp [fullB])) ((Below.refl _ _).alloc (Nat.le_refl _) _)

end Go.Proofs.Ytikegdidffjoeaa

namespace Go.Proofs.Ytikegdidffjoeaa
open Go.RowKit Go.Maps
def commonL (bs cs : List Blk) : List Blk := bs.filter fun x => decide (x ∈ cs)
def commonF (v : Int) (bs : List Blk) (u : Int) (cs : List Blk) : List Blk × Int :=
  if isSysImpl v bs && isSysImpl u cs then (if v = u then (commonL bs cs, 0) else ([], 2)) else ([], 1)
/-- Two results: a list of blocks in new memory, and a code. -/
def RLC (p : List Blk × Int) (w : World) (e : Ending) (w' : World) : Prop := ∃ s, e = .returned (.tuple #[s, .int .i64 p.2]) ∧ ResR w' w.heap.size w'.heap.size s p.1 ∧ Below w.heap.size w w'
theorem run_makeMap_hint {P : Program} (t k e : TypeId) (kd : IntKind) (n : Int) (ht : P.underlying t = some (.map k e)) (w : World) :
    (Instr.makeMap t (some (.int kd n))).run P w = .ok (.map (some w.heap.size)) (w.alloc (.map #[] 0)) := by
  simp [Instr.makeMap, run_underlying ht]; rfl
theorem SB.slice {w : World} {s : Value} {bs : List Blk} (h : SB w s bs) : ∃ a c, s = .slice a bs.length c := by
  rcases h.2.2 with ⟨a0, c0, rfl, rfl⟩ | ⟨b, off, cap, rfl, _⟩ <;> exact ⟨_, _, rfl⟩

theorem filter_take_next {p : Blk → Bool} {bs : List Blk} {k : Nat} {x : Blk} (hk : k < bs.length) (hx : bs[k]? = some x) : (bs.take (k + 1)).filter p = (bs.take k).filter p ++ if p x then [x] else [] := by
  have e : bs[k] = x := by
    rw [List.getElem?_eq_getElem hk] at hx
    simpa using hx
  rw [take_next hk, e, List.filter_append]
  cases h : p x <;> simp [h]
theorem commonL_length (bs cs : List Blk) : (commonL bs cs).length ≤ bs.length := List.length_filter_le _ _
theorem commonL_wf {bs cs : List Blk} (h : ∀ x ∈ bs, WFB x) : ∀ x ∈ commonL bs cs, WFB x := fun x hx => h x ((List.mem_filter.1 hx).1)
theorem OwnR.row {w : World} {base : Nat} {v : Value} {bs : List Blk} (h : OwnR w base v bs) : ∀ r, v.ownBlock = some r → base ≤ r := fun r hr => by
  rcases h.2 with ⟨rfl, _⟩ | ⟨g, cap, cur, rfl, hb, _⟩
  · cases hr
  · cases hr; exact hb
end Go.Proofs.Ytikegdidffjoeaa

namespace Go.Proofs.Ytikegdidffjoeaa
open Go.RowKit Go.Maps
def hasB (x : Blk) (p : Int) : Bool := decide (x.a = p) || decide (x.b = p) || decide (x.c = p)
def bothB (a b : Int) (x : Blk) : Bool := hasB x a && hasB x b
def thirdOf (x : Blk) (a b : Int) : Int := x.a + x.b + x.c - a - b
def inP (v a : Int) : Bool := decide (0 ≤ a) && decide (a < v)
/-- The third point, or -1. -/
def third1 (bs : List Blk) (a b : Int) : Int := match bs.find? (bothB a b) with | some x => thirdOf x a b | none => -1
def thirdV (v : Int) (bs : List Blk) (a b : Int) : Value :=
  if isSysImpl v bs then
    (if inP v a && inP v b then (if a = b then .tuple #[.int .i64 0, .int .i64 2] else
      (match bs.find? (bothB a b) with | some x => .tuple #[.int .i64 (thirdOf x a b), .int .i64 0] | none => .tuple #[.int .i64 0, .int .i64 4]))
    else .tuple #[.int .i64 0, .int .i64 2])
  else .tuple #[.int .i64 0, .int .i64 1]
theorem sys_good {v : Int} {bs : List Blk} (h : isSysImpl v bs = true) : ∀ x ∈ bs, goodB v x = true := by
  unfold isSysImpl at h
  simp only [Bool.and_eq_true] at h
  exact order_good h.1.2
theorem third_bounds {v : Int} {x : Blk} {a b : Int} (hg : goodB v x = true) (hv : v ≤ 15) (h : bothB a b x = true) (hab : a ≠ b) : 0 ≤ thirdOf x a b ∧ thirdOf x a b ≤ 15 := by
  rw [goodB_iff] at hg
  unfold bothB hasB at h
  unfold thirdOf
  simp at h
  omega
theorem find_next {p : Blk → Bool} {bs : List Blk} {k : Nat} {x : Blk} (hk : k < bs.length) (hx : bs[k]? = some x) (h : (bs.take k).find? p = none) : (p x = true → bs.find? p = some x) ∧ (p x = false → (bs.take (k + 1)).find? p = none) := by
  have e : bs[k] = x := by
    rw [List.getElem?_eq_getElem hk] at hx
    simpa using hx
  refine ⟨fun hp => ?_, fun hp => ?_⟩
  · rw [← List.take_append_drop k bs, List.find?_append, h, List.drop_eq_getElem_cons hk, e]
    simp [hp]
  · rw [take_next hk, e, List.find?_append, h]
    simp [hp]
end Go.Proofs.Ytikegdidffjoeaa

namespace Go.Proofs.Ytikegdidffjoeaa
/-- The place of a number in a list, from k on, or -1. -/
def plGo (x : Int) : List Int → Nat → Int
  | [], _ => -1
  | z :: r, k => if z = x then (k : Int) else plGo x r (k + 1)
def place (zs : List Int) (x : Int) : Int := plGo x zs 0
theorem plGo_le (x : Int) : ∀ (l : List Int) (k : Nat), plGo x l k = -1 ∨ ((k : Int) ≤ plGo x l k ∧ plGo x l k < (k : Int) + l.length)
  | [], k => .inl rfl
  | z :: r, k => by
    unfold plGo
    split
    · right; simp; omega
    · rcases plGo_le x r (k + 1) with h | h
      · exact .inl h
      · right; simp; omega
theorem place_le (zs : List Int) (x : Int) : place zs x = -1 ∨ (0 ≤ place zs x ∧ place zs x < zs.length) := by
  have := plGo_le x zs 0
  unfold place
  omega
/-- An ascending list of points. -/
def ptGo (v : Int) : Option Int → List Int → Bool
  | _, [] => true
  | p, a :: r => inP v a && (match p with | none => true | some q => decide (q < a)) && ptGo v (some a) r
def ascGo : Option Int → List Int → Bool
  | _, [] => true
  | p, a :: r => (match p with | none => true | some q => decide (q < a)) && ascGo (some a) r
theorem ptGo_split (v : Int) : ∀ (l : List Int) (p : Option Int), ptGo v p l = (l.all (inP v) && ascGo p l)
  | [], _ => rfl
  | a :: r, p => by
    unfold ptGo ascGo
    rw [ptGo_split v r (some a), List.all_cons]
    cases inP v a <;> cases r.all (inP v) <;> simp
theorem asc_lt : ∀ {l : List Int} {p : Option Int}, ascGo p l = true → (l.Pairwise (· < ·)) ∧ ∀ q, p = some q → ∀ x ∈ l, q < x
  | [], _, _ => ⟨List.Pairwise.nil, by simp⟩
  | a :: r, p, h => by
    unfold ascGo at h
    rw [Bool.and_eq_true] at h
    obtain ⟨h1, h2⟩ := asc_lt h.2
    refine ⟨List.pairwise_cons.2 ⟨fun x hx => h2 a rfl x hx, h1⟩, ?_⟩
    rintro q rfl x hx
    have hq : q < a := by simpa using h.1
    rcases List.mem_cons.1 hx with rfl | hx
    · exact hq
    · have := h2 a rfl x hx; omega
theorem plGo_mono {x y : Int} (hxy : x < y) : ∀ {l : List Int} {k : Nat}, l.Pairwise (· < ·) → 0 ≤ plGo x l k → 0 ≤ plGo y l k → plGo x l k < plGo y l k
  | [], k, _, h, _ => by simp [plGo] at h
  | z :: r, k, hp, hx, hy => by
    rw [List.pairwise_cons] at hp
    unfold plGo at hx hy ⊢
    by_cases h1 : z = x
    · rw [if_pos h1] at hx ⊢
      rw [if_neg (by omega)] at hy ⊢
      have := plGo_le y r (k + 1)
      omega
    · rw [if_neg h1] at hx ⊢
      by_cases h2 : z = y
      · exfalso
        -- x is behind z, so greater
        have hx' : ∃ u ∈ r, u = x := by
          clear hy hp
          induction r generalizing k with
          | nil => simp [plGo] at hx
          | cons u r ih =>
            unfold plGo at hx
            split at hx
            · exact ⟨u, by simp, ‹_›⟩
            · obtain ⟨q, hq, e⟩ := ih (k := k + 1) hx
              exact ⟨q, by simp [hq], e⟩
        obtain ⟨u, hu, rfl⟩ := hx'
        have := hp.1 u hu
        omega
      · rw [if_neg h2] at hy ⊢
        exact plGo_mono hxy hp.2 hx hy
/-- The block's place on the points, if it is there. -/
def onB (pts : List Int) (x : Blk) : Option Blk :=
  if 0 ≤ place pts x.a ∧ 0 ≤ place pts x.b ∧ 0 ≤ place pts x.c then some ⟨place pts x.a, place pts x.b, place pts x.c⟩ else none
def onF (v : Int) (bs : List Blk) (pts : List Int) : Int × List Blk × Int :=
  if isSysImpl v bs then (if decide (3 ≤ pts.length) && ptGo v none pts then ((pts.length : Int), bs.filterMap (onB pts), 0) else (0, [], 2)) else (0, [], 1)
theorem onB_bef {pts : List Int} (hp : pts.Pairwise (· < ·)) {x y x' y' : Blk} (hx : onB pts x = some x') (hy : onB pts y = some y') (h : befB x y = true) : befB x' y' = true := by
  unfold onB at hx hy
  split at hx
  · split at hy
    · rename_i h1 h2
      cases hx; cases hy
      rw [bef_iff] at h ⊢
      dsimp only
      rcases h with h | ⟨h, h' | ⟨h', h''⟩⟩
      · exact .inl (plGo_mono h hp h1.1 h2.1)
      · exact .inr ⟨by rw [h], .inl (plGo_mono h' hp h1.2.1 h2.2.1)⟩
      · exact .inr ⟨by rw [h], .inr ⟨by rw [h'], plGo_mono h'' hp h1.2.2 h2.2.2⟩⟩
    · cases hy
  · cases hx
theorem onL_strict {pts : List Int} (hp : pts.Pairwise (· < ·)) : ∀ {bs : List Blk}, (bs.Pairwise fun x y => befB x y = true) → (bs.filterMap (onB pts)).Pairwise fun x y => befB x y = true
  | [], _ => List.Pairwise.nil
  | b :: r, h => by
    rw [List.pairwise_cons] at h
    rw [List.filterMap_cons]
    split
    · exact onL_strict hp h.2
    · rename_i b' hb
      refine List.pairwise_cons.2 ⟨fun y' hy' => ?_, onL_strict hp h.2⟩
      obtain ⟨y, hy, e⟩ := List.mem_filterMap.1 hy'
      exact onB_bef hp hb e (h.1 y hy)
theorem onL_sorted {v : Int} {bs : List Blk} {pts : List Int} (hi : isSysImpl v bs = true) (hp : ptGo v none pts = true) : sortB (bs.filterMap (onB pts)) = bs.filterMap (onB pts) := by
  rw [ptGo_split, Bool.and_eq_true] at hp
  exact sortB_eq (strict_srt (onL_strict (asc_lt hp.2).1 (sys_strict hi))) (List.Perm.refl _)
theorem onB_in {pts : List Int} {x y : Blk} (h : onB pts x = some y) : (0 ≤ y.a ∧ y.a < pts.length) ∧ (0 ≤ y.b ∧ y.b < pts.length) ∧ (0 ≤ y.c ∧ y.c < pts.length) := by
  unfold onB at h
  split at h
  · cases h
    have h1 := place_le pts x.a
    have h2 := place_le pts x.b
    have h3 := place_le pts x.c
    dsimp only
    omega
  · cases h
theorem filterMap_take {pts : List Int} {bs : List Blk} {k : Nat} (hk : k < bs.length) {x : Blk} (hx : bs[k]? = some x) : (bs.take (k + 1)).filterMap (onB pts) = (bs.take k).filterMap (onB pts) ++ (onB pts x).toList := by
  have e : bs[k] = x := by rw [List.getElem?_eq_getElem hk] at hx; simpa using hx
  rw [List.take_succ_eq_append_getElem hk, List.filterMap_append, e]
  congr 1
theorem onF_len (v : Int) (bs : List Blk) (pts : List Int) : (onF v bs pts).2.1.length ≤ bs.length := by
  unfold onF
  split
  · split
    · exact List.length_filterMap_le _ _
    · simp
  · simp
end Go.Proofs.Ytikegdidffjoeaa

namespace Go.Proofs.Ytikegdidffjoeaa
open Go.RowKit Go.Maps
set_option maxRecDepth 100000 in
theorem l01With_any (x : Blk) (p : Int) (w : World) : Calls Try.prog 158 #[bv x, .int .i64 p] w (RV (.bool (hasB x p)) w) := by
  obtain ⟨a, b, c⟩ := x
  unfold bv
  dsimp only
  by_cases h1 : a = p
  · have e1 : (a == p) = true := by simp [h1]
    have H1 := Lib.hid h1
    clear h1
    go_enter Try.func158, Try.ntmps158
    go_wp2
    go_ret
    exact RV_of (bool_eq (by simp [hasB, H1.out])) ((Below.refl _ _).alloc (Nat.le_refl _) _)
  · have e1 : (a == p) = false := by simp [h1]
    have H1 := Lib.hid h1
    clear h1
    by_cases h2 : b = p
    · have e2 : (b == p) = true := by simp [h2]
      have H2 := Lib.hid h2
      clear h2
      go_enter Try.func158, Try.ntmps158
      go_wp2
      go_ret
      exact RV_of (bool_eq (by simp [hasB, H2.out])) ((Below.refl _ _).alloc (Nat.le_refl _) _)
    · have e2 : (b == p) = false := by simp [h2]
      have H2 := Lib.hid h2
      clear h2
      go_enter Try.func158, Try.ntmps158
      go_wp2
      go_ret
      exact RV_of (bool_eq (by rw [Bool.eq_iff_iff]; simp [hasB, H1.out, H2.out])) ((Below.refl _ _).alloc (Nat.le_refl _) _)

set_option maxRecDepth 100000 in
theorem l01Third_any (v : Int) (s : Value) (bs : List Blk) (a b : Int) (w : World) (h : SB w s bs) (hg : ∀ x ∈ bs, goodB v x = true) (hv : v ≤ 15) (ha : 0 ≤ a) (ha' : a ≤ 15) (hb : 0 ≤ b) (hb' : b ≤ 15) :
    Calls Try.prog 103 #[.agg #[.int .i64 v, s], .int .i64 a, .int .i64 b] w (RV (.int .i64 (third1 bs a b)) w) := by
  have hs := h.slice
  have H := Lib.hid h
  have HG := Lib.hid hg
  have hl := h.2.1
  clear h hg
  obtain ⟨a0, c0, rfl⟩ := hs
  go_enter Try.func103, Try.ntmps103
  go_wp2
  go_loopw [7] (fun i wr => ∃ k : Nat, k ≤ bs.length ∧ i = .int .i64 k ∧ Below (w.heap.size + 1) (w.alloc (.cells #[.int .i64 v, .slice a0 bs.length c0] 26)) wr ∧ Hid ((bs.take k).find? (bothB a b) = none)) (fun i _ => bs.length - (intOf i).toNat)
  case atStart => exact ⟨0, Nat.zero_le _, rfl, Below.refl _ _, Lib.hid (by simp)⟩
  case round =>
    obtain ⟨k, hk, rfl, hB, HN⟩ := hrel
    have hz := hB.size
    simp at hz
    have p1 : wr.cell? ⟨w.heap.size, 1, none⟩ = some (.slice a0 bs.length c0) := by rw [hB.cell (by simp)]; simp
    have hBw : Below w.heap.size w wr := ((Below.refl _ _).alloc (Nat.le_refl _) _).trans (hB.mono (by omega))
    by_cases hkl : k < bs.length
    · rcases H.out.2.2 with ⟨_, _, _, hnil⟩ | ⟨bb, off, cap, hval, hblt, hbl⟩
      · rw [hnil] at hkl; simp at hkl
      · simp at hval
        obtain ⟨rfl, rfl⟩ := hval
        obtain ⟨x, hx, ex, x1, x2, x3⟩ := blks_at (hbl.below hBw hblt) hkl
        have hgx := HG.out x hx
        rw [goodB_iff] at hgx
        obtain ⟨b1, b2, b3, b4⟩ := hgx
        have hn := find_next hkl ex HN.out
        have hw1 := l01With_any x a
        have hw2 := l01With_any x b
        have hth : third1 bs a b = (match bs.find? (bothB a b) with | some x => thirdOf x a b | none => -1) := rfl
        have hbo : bothB a b x = (hasB x a && hasB x b) := rfl
        have htx : thirdOf x a b = x.a + x.b + x.c - a - b := rfl
        obtain ⟨p, q, r⟩ := x
        dsimp only at x1 x2 x3 b1 b2 b3 b4 htx
        have g0 : (0 : Int) ≤ (k : Int) := by omega
        have g1 : (k : Int) < (bs.length : Int) := by omega
        have HNX := Lib.hid hn
        have HTH := Lib.hid hth
        have HTX := Lib.hid htx
        clear hbl hx ex hn hth htx
        cases h1 : hasB ⟨p, q, r⟩ a with
        | false =>
          rw [h1] at hw1 hbo
          have HW1 := Lib.hid hw1
          have HBO := Lib.hid hbo
          clear hw1 hw2 h1 hbo
          go_wp2_with (go_at_call 158; refine (HW1.out _).mono ?_; rintro e w1 ⟨rfl, hb1⟩)
          go_roundw
          case rel => exact ⟨k + 1, by omega, by go_num, (hB.alloc (by omega) _).trans (hb1.mono (by simp; omega)), Lib.hid (HNX.out.2 (by rw [HBO.out]; rfl))⟩
          case measure => simp [intOf]; omega
        | true =>
          rw [h1] at hw1 hbo
          have HW1 := Lib.hid hw1
          clear hw1 h1
          cases h2 : hasB ⟨p, q, r⟩ b with
          | false =>
            rw [h2] at hw2 hbo
            have HW2 := Lib.hid hw2
            have HBO := Lib.hid hbo
            clear hw2 h2 hbo
            go_wp2_with fail
            refine (HW1.out _).mono ?_
            rintro e w1 ⟨rfl, hb1⟩
            have d1 := cell_new hb1 0 rfl
            have d2 := cell_new hb1 1 rfl
            have d3 := cell_new hb1 2 rfl
            have z1 := hb1.size
            simp at z1
            go_wp2_with (go_at_call 158; refine (HW2.out _).mono ?_; rintro e w2 ⟨rfl, hb2⟩)
            go_roundw
            case rel => exact ⟨k + 1, by omega, by go_num, ((hB.alloc (by omega) _).trans (hb1.mono (by simp; omega))).trans (hb2.mono (by omega)), Lib.hid (HNX.out.2 (by rw [HBO.out]; rfl))⟩
            case measure => simp [intOf]; omega
          | true =>
            rw [h2] at hw2 hbo
            have HW2 := Lib.hid hw2
            have HBO := Lib.hid hbo
            clear hw2 h2 hbo
            go_wp2_with fail
            refine (HW1.out _).mono ?_
            rintro e w1 ⟨rfl, hb1⟩
            have d1 := cell_new hb1 0 rfl
            have d2 := cell_new hb1 1 rfl
            have d3 := cell_new hb1 2 rfl
            have z1 := hb1.size
            simp at z1
            go_wp2_with (go_at_call 158; refine (HW2.out _).mono ?_; rintro e w2 ⟨rfl, hb2⟩; have e1 := (hb2.cell (p := ⟨wr.heap.size, 0, none⟩) (by show wr.heap.size < _; omega)).trans d1; have e2 := (hb2.cell (p := ⟨wr.heap.size, 1, none⟩) (by show wr.heap.size < _; omega)).trans d2; have e3 := (hb2.cell (p := ⟨wr.heap.size, 2, none⟩) (by show wr.heap.size < _; omega)).trans d3)
            go_ret
            refine RV_of (int_eq ?_) (((hBw.alloc (by omega) _).trans (hb1.mono (by simp; omega))).trans (hb2.mono (by omega)))
            rw [HTH.out, HNX.out.1 (by rw [HBO.out]; rfl)]
            exact HTX.out.symm
    · go_wp2
      go_ret
      have e : k = bs.length := by omega
      subst e
      refine RV_of (int_eq ?_) hBw
      have := HN.out
      rw [List.take_length] at this
      unfold third1
      rw [this]
end Go.Proofs.Ytikegdidffjoeaa

namespace Go.Proofs.Ytikegdidffjoeaa
open Go.RowKit Go.Maps
def pointsCode (v : Int) (bs : List Blk) (ps : List Int) : Int := if isSysImpl v bs then (if ps.all (inP v) then 0 else 2) else 1
theorem RS.quiet2 {P : Program} {f : FuncId} {args : Array Value} {w : World} {a n : Nat} {v : Value} (h : Calls P f args (w.drewN (a + n)) (RS v (w.drewN (a + n)))) :
    Calls P f args (w.drewN (a + n)) fun e w'' => e = .returned v ∧ ∃ m, w'' = w.drewN (a + m) :=
  h.mono fun _ _ ⟨he, hm⟩ => ⟨he, n, hm.symm⟩
theorem Ints.below {w w' : World} {b off B : Nat} {zs : List Int} (h : Ints w b off zs) (hb : Below B w w') (hl : b < B) : Ints w' b off zs := fun k hk => (hb.cell (p := ⟨b, off + k, none⟩) hl).trans (h k hk)
set_option maxRecDepth 100000 in
theorem l01Points_any (v : Int) (s : Value) (bs : List Blk) (b off cap : Nat) (ps : List Int) (w : World) (h : SB w s bs) (hps : Ints w b off ps) (hb : b < w.heap.size) (hpl : ps.length ≤ 1100000) :
    Calls Try.prog 102 #[.agg #[.int .i64 v, s], .slice (some ⟨b, off, none⟩) ps.length cap] w (RV (.int .i64 (pointsCode v bs ps)) w) := by
  have hs := h.slice
  have hc := l01Is_any v s bs (w.alloc (.cells #[.int .i64 v, s] 26)) (h.below ((Below.refl _ _).alloc (Nat.le_refl _) _) (Nat.le_refl _))
  have HPS := Lib.hid hps
  clear h hps
  obtain ⟨a0, c0, rfl⟩ := hs
  cases hi : isSysImpl v bs with
  | false =>
    rw [hi] at hc
    have HC := Lib.hid hc
    have hp : pointsCode v bs ps = 1 := by simp [pointsCode, hi]
    rw [hp]
    clear hc hi hp
    go_enter Try.func102, Try.ntmps102
    go_wp2_with (go_at_call 108; refine HC.out.mono ?_; rintro e w1 ⟨rfl, hb1⟩)
    go_ret
    exact RV_of rfl (((Below.refl _ _).alloc (Nat.le_refl _) _).trans (hb1.mono (by simp)))
  | true =>
    rw [hi] at hc
    have HC := Lib.hid hc
    obtain ⟨v3, v15, _⟩ := sys_size hi
    have hp : pointsCode v bs ps = if ps.all (inP v) then 0 else 2 := by simp [pointsCode, hi]
    have HP := Lib.hid hp
    clear hc hi hp
    go_enter Try.func102, Try.ntmps102
    go_wp2_with fail
    refine HC.out.mono ?_
    rintro e w1 ⟨rfl, hb1⟩
    have p0 := cell_new hb1 0 rfl
    have z1 := hb1.size
    simp at z1
    have hbw := ((Below.refl w.heap.size w).alloc (Nat.le_refl _) (.cells #[.int .i64 v, .slice a0 bs.length c0] 26)).trans (hb1.mono (by simp))
    have HI1 := Lib.hid (HPS.out.below hbw hb)
    clear hb1 HPS HC
    go_wp2_with fail
    go_loopw [5] (fun i wr => ∃ k : Nat, k ≤ ps.length ∧ i = .int .i64 k ∧ (∃ n, wr = w1.drewN n) ∧ Hid ((ps.take k).all (inP v) = true)) (fun i _ => ps.length - (intOf i).toNat)
    case atStart => exact ⟨0, Nat.zero_le _, rfl, ⟨0, rfl⟩, Lib.hid (by simp)⟩
    case round =>
      obtain ⟨k, hk, rfl, ⟨n, rfl⟩, HA⟩ := hrel
      by_cases hkl : k < ps.length
      · have hx := HI1.out k hkl
        obtain ⟨x, hxe⟩ : ∃ x, x = ps[k]?.getD 0 := ⟨_, rfl⟩
        rw [← hxe] at hx
        have hnx : (ps.take (k + 1)).all (inP v) = ((ps.take k).all (inP v) && inP v x) := by
          rw [take_next hkl, List.all_append, hxe, List.getElem?_eq_getElem hkl]
          simp only [Option.getD_some, List.all_cons, List.all_nil, Bool.and_true]
        have hall : inP v x = false → ps.all (inP v) = false := fun hf => by
          rw [List.all_eq_false]
          exact ⟨ps[k], List.getElem_mem hkl, by rw [hxe] at hf; simpa [hkl] using hf⟩
        have HNX := Lib.hid hnx
        have HALL := Lib.hid hall
        have g0 : (0 : Int) ≤ (k : Int) := by omega
        have g1 : (k : Int) < (ps.length : Int) := by omega
        have hc2 := fun W => l01In_any x 0 (v - 1) W
        have he : (decide (0 ≤ x) && decide (x ≤ v - 1)) = inP v x := by
          unfold inP
          rw [Bool.eq_iff_iff]
          simp
          omega
        rw [he] at hc2
        clear hnx hall hxe he
        cases hp : inP v x with
        | false =>
          rw [hp] at hc2
          have HC2 := Lib.hid hc2
          have HPX := Lib.hid hp
          clear hc2 hp
          go_wp2
          go_quiet ((go_at_call 91; exact RS.quiet2 (HC2.out _)))
          go_wp2
          go_ret
          exact RV_of (int_eq (by rw [HP.out, HALL.out HPX.out]; rfl)) (below_drewN (below_drewN hbw _) _)
        | true =>
          rw [hp] at hc2
          have HC2 := Lib.hid hc2
          have HPX := Lib.hid hp
          clear hc2 hp
          go_wp2
          go_quiet ((go_at_call 91; exact RS.quiet2 (HC2.out _)))
          go_wp2
          go_roundw
          case rel => exact ⟨k + 1, by omega, by go_num, ⟨_, rfl⟩, Lib.hid (by rw [HNX.out, HA.out, HPX.out]; rfl)⟩
          case measure => simp [intOf]; omega
      · go_wp2
        go_ret
        have e : k = ps.length := by omega
        subst e
        have := HA.out
        rw [List.take_length] at this
        exact RV_of (int_eq (by rw [HP.out, this]; rfl)) (below_drewN hbw _)

theorem ints2 {w : World} {b : Nat} {x y : Int} (h0 : w.cell? ⟨b, 0, none⟩ = some (.int .i64 x)) (h1 : w.cell? ⟨b, 1, none⟩ = some (.int .i64 y)) : Ints w b 0 [x, y] := by
  intro k hk
  match k, hk with
  | 0, _ => simpa using h0
  | 1, _ => simpa using h1
set_option maxRecDepth 100000 in
theorem specThird_any (v : Int) (s : Value) (bs : List Blk) (a b : Int) (w : World) (h : SB w s bs) :
    Calls Try.prog 36 #[.agg #[.int .i64 v, s], .int .i64 a, .int .i64 b] w (RV (thirdV v bs a b) w) := by
  have hs := h.slice
  have HPT := Lib.hid fun W b0 c (hb : Below w.heap.size w W) (hI : Ints W b0 0 [a, b]) (hl : b0 < W.heap.size) => l01Points_any v s bs b0 0 c [a, b] W (h.below hb (Nat.le_refl _)) hI hl (by simp)
  have hcode : pointsCode v bs [a, b] = if isSysImpl v bs then (if inP v a && inP v b then 0 else 2) else 1 := by simp [pointsCode]
  have H := Lib.hid h
  clear h
  obtain ⟨a0, c0, rfl⟩ := hs
  have hval : thirdV v bs a b = if isSysImpl v bs then (if inP v a && inP v b then (if a = b then .tuple #[.int .i64 0, .int .i64 2] else
      (match bs.find? (bothB a b) with | some x => .tuple #[.int .i64 (thirdOf x a b), .int .i64 0] | none => .tuple #[.int .i64 0, .int .i64 4]))
      else .tuple #[.int .i64 0, .int .i64 2]) else .tuple #[.int .i64 0, .int .i64 1] := rfl
  by_cases hi : isSysImpl v bs = true
  · rw [if_pos hi] at hcode hval
    by_cases hp : (inP v a && inP v b) = true
    · rw [if_pos hp] at hcode hval
      rw [hcode] at HPT
      by_cases hab : a = b
      · rw [if_pos hab] at hval
        rw [hval]
        have e1 : (a == b) = true := by simp [hab]
        clear hcode hval hi hp hab
        go_enter Try.func36, Try.ntmps36
        go_wp2_with (go_at_call 102; refine (HPT.out _ _ _ (((Below.refl _ _).alloc (Nat.le_refl _) _).alloc (by simp) _) (ints2 (by simp) (by simp)) (by simp)).mono ?_; rintro e w1 ⟨rfl, hb1⟩)
        go_ret2
        exact RV_of rfl ((((Below.refl _ _).alloc (Nat.le_refl _) _).alloc (by simp) _).trans (hb1.mono (by simp; omega)))
      · rw [if_neg hab] at hval
        rw [hval]
        have e1 : (a == b) = false := by simp [hab]
        obtain ⟨v3, v15, _⟩ := sys_size hi
        have hgood := sys_good hi
        simp only [Bool.and_eq_true, inP, decide_eq_true_eq] at hp
        obtain ⟨⟨pa, pa'⟩, pb, pb'⟩ := hp
        have hth := fun W (hb : Below w.heap.size w W) => l01Third_any v (.slice a0 bs.length c0) bs a b W (H.out.below hb (Nat.le_refl _)) hgood v15 pa (by omega) pb (by omega)
        have HTH := Lib.hid hth
        cases hf : bs.find? (bothB a b) with
        | none =>
          have ht1 : third1 bs a b = -1 := by simp [third1, hf]
          rw [ht1] at HTH
          clear hcode hval hi hab hf ht1 hgood hth
          go_enter Try.func36, Try.ntmps36
          go_wp2_with fail
          refine (HPT.out _ _ _ (((Below.refl _ _).alloc (Nat.le_refl _) _).alloc (by simp) _) (ints2 (by simp) (by simp)) (by simp)).mono ?_
          rintro e w1 ⟨rfl, hb1⟩
          have d0 := (hb1.cell (p := ⟨w.heap.size, 0, none⟩) (by simp; omega)).trans (by simp [go_sem] : _ = some (Value.int .i64 v))
          have d1 := (hb1.cell (p := ⟨w.heap.size, 1, none⟩) (by simp; omega)).trans (by simp [go_sem] : _ = some (Value.slice a0 bs.length c0))
          have hbw := (((Below.refl w.heap.size w).alloc (Nat.le_refl _) (.cells #[.int .i64 v, .slice a0 bs.length c0] 26)).alloc (by simp) (.cells #[.int .i64 a, .int .i64 b] 2)).trans (hb1.mono (by simp; omega))
          clear hb1
          go_wp2_with (go_at_call 103; refine (HTH.out _ hbw).mono ?_; rintro e w2 ⟨rfl, hb2⟩)
          go_ret2
          exact RV_of rfl (hbw.trans (hb2.mono hbw.size))
        | some x =>
          have hx : x ∈ bs ∧ bothB a b x = true := ⟨List.mem_of_find?_eq_some hf, List.find?_some hf⟩
          have htb := third_bounds (hgood x hx.1) v15 hx.2 hab
          have ht1 : third1 bs a b = thirdOf x a b := by simp [third1, hf]
          rw [ht1] at HTH
          show Calls Try.prog 36 #[.agg #[.int .i64 v, .slice a0 bs.length c0], .int .i64 a, .int .i64 b] w (RV (.tuple #[.int .i64 (thirdOf x a b), .int .i64 0]) w)
          generalize thirdOf x a b = m at HTH htb ⊢
          obtain ⟨m0, m15⟩ := htb
          clear hcode hval hi hab hf ht1 hgood hth hx
          go_enter Try.func36, Try.ntmps36
          go_wp2_with fail
          refine (HPT.out _ _ _ (((Below.refl _ _).alloc (Nat.le_refl _) _).alloc (by simp) _) (ints2 (by simp) (by simp)) (by simp)).mono ?_
          rintro e w1 ⟨rfl, hb1⟩
          have d0 := (hb1.cell (p := ⟨w.heap.size, 0, none⟩) (by simp; omega)).trans (by simp [go_sem] : _ = some (Value.int .i64 v))
          have d1 := (hb1.cell (p := ⟨w.heap.size, 1, none⟩) (by simp; omega)).trans (by simp [go_sem] : _ = some (Value.slice a0 bs.length c0))
          have hbw := (((Below.refl w.heap.size w).alloc (Nat.le_refl _) (.cells #[.int .i64 v, .slice a0 bs.length c0] 26)).alloc (by simp) (.cells #[.int .i64 a, .int .i64 b] 2)).trans (hb1.mono (by simp; omega))
          clear hb1
          go_wp2_with (go_at_call 103; refine (HTH.out _ hbw).mono ?_; rintro e w2 ⟨rfl, hb2⟩)
          go_ret2
          exact RV_of rfl (hbw.trans (hb2.mono hbw.size))
    · rw [if_neg hp] at hcode hval
      rw [hcode] at HPT
      rw [hval]
      clear hcode hval hi hp
      go_enter Try.func36, Try.ntmps36
      go_wp2_with (go_at_call 102; refine (HPT.out _ _ _ (((Below.refl _ _).alloc (Nat.le_refl _) _).alloc (by simp) _) (ints2 (by simp) (by simp)) (by simp)).mono ?_; rintro e w1 ⟨rfl, hb1⟩)
      go_ret2
      exact RV_of rfl ((((Below.refl _ _).alloc (Nat.le_refl _) _).alloc (by simp) _).trans (hb1.mono (by simp; omega)))
  · rw [if_neg hi] at hcode hval
    rw [hcode] at HPT
    rw [hval]
    clear hcode hval hi
    go_enter Try.func36, Try.ntmps36
    go_wp2_with (go_at_call 102; refine (HPT.out _ _ _ (((Below.refl _ _).alloc (Nat.le_refl _) _).alloc (by simp) _) (ints2 (by simp) (by simp)) (by simp)).mono ?_; rintro e w1 ⟨rfl, hb1⟩)
    go_ret2
    exact RV_of rfl ((((Below.refl _ _).alloc (Nat.le_refl _) _).alloc (by simp) _).trans (hb1.mono (by simp; omega)))
end Go.Proofs.Ytikegdidffjoeaa

namespace Go.Proofs.Ytikegdidffjoeaa
def dblB (v : Int) (x : Blk) : List Blk := [⟨x.a, v + x.b, v + x.c⟩, ⟨x.b, v + x.a, v + x.c⟩, ⟨x.c, v + x.a, v + x.b⟩]
def dblP (v : Int) (k : Nat) : List Blk := (List.range k).map fun (a : Nat) => ⟨(a : Int), v + (a : Int), 2 * v⟩
theorem dblP_succ (v : Int) (k : Nat) : dblP v (k + 1) = dblP v k ++ [⟨(k : Int), v + (k : Int), 2 * v⟩] := by simp [dblP, List.range_succ]
theorem dblP_len (v : Int) (k : Nat) : (dblP v k).length = k := by simp [dblP]
def dblA (v : Int) (bs : List Blk) (k : Nat) : List Blk := bs ++ (bs.take k).flatMap (dblB v)
theorem dblA_succ {v : Int} {bs : List Blk} {k : Nat} (hk : k < bs.length) {x : Blk} (hx : bs[k]? = some x) : dblA v bs (k + 1) = dblA v bs k ++ dblB v x := by
  have e : bs[k] = x := by
    rw [List.getElem?_eq_getElem hk] at hx
    simpa using hx
  unfold dblA
  rw [List.take_succ_eq_append_getElem hk, e, List.flatMap_append, List.append_assoc]
  simp
theorem dblB_len (v : Int) : ∀ l : List Blk, (l.flatMap (dblB v)).length = 3 * l.length
  | [] => rfl
  | x :: r => by rw [List.flatMap_cons, List.length_append, dblB_len v r]; simp [dblB]; omega
theorem dblA_len (v : Int) (bs : List Blk) {k : Nat} (hk : k ≤ bs.length) : (dblA v bs k).length = bs.length + 3 * k := by
  unfold dblA
  rw [List.length_append, dblB_len, List.length_take, Nat.min_eq_left hk]
def dblL (v : Int) (bs : List Blk) : List Blk := dblA v bs bs.length ++ dblP v v.toNat
theorem dblL_len (v : Int) (bs : List Blk) : (dblL v bs).length = bs.length + 3 * bs.length + v.toNat := by
  unfold dblL
  rw [List.length_append, dblA_len v bs (Nat.le_refl _), dblP_len]
theorem dblL_mem {v : Int} (hv : 0 ≤ v) (hv15 : v ≤ 15) {bs : List Blk} (hg : ∀ x ∈ bs, goodB v x = true) : ∀ x ∈ dblL v bs, (0 ≤ x.a ∧ x.a ≤ 1000) ∧ (0 ≤ x.b ∧ x.b ≤ 1000) ∧ (0 ≤ x.c ∧ x.c ≤ 1000) := by
  intro x hx
  unfold dblL dblA at hx
  rw [List.take_length] at hx
  rcases List.mem_append.1 hx with hx | hx
  · rcases List.mem_append.1 hx with hx | hx
    · have := goodB_iff.1 (hg x hx); omega
    · obtain ⟨y, hy, hxy⟩ := List.mem_flatMap.1 hx
      have := goodB_iff.1 (hg y hy)
      simp only [dblB, List.mem_cons, List.not_mem_nil, or_false] at hxy
      rcases hxy with rfl | rfl | rfl <;> (dsimp only; omega)
  · obtain ⟨a, ha, rfl⟩ := List.mem_map.1 hx
    have := List.mem_range.1 ha
    dsimp only
    omega
/-- The smallest, the middle and the greatest of three. -/
def blk3 (a b c : Int) : Blk := ⟨min (min a b) c, a + b + c - min (min a b) c - max (max a b) c, max (max a b) c⟩
theorem blk3_of {a b c p q r : Int} (hp : p = min (min a b) c) (hr : r = max (max a b) c) (hq : q = a + b + c - p - r) : blk3 a b c = ⟨p, q, r⟩ := by
  unfold blk3
  rw [← hp, ← hr, ← hq]
end Go.Proofs.Ytikegdidffjoeaa

namespace Go.Proofs.Ytikegdidffjoeaa
/-- Each number is a point, and comes once. -/
def rnGo (v : Int) : List Int → List Int → Bool
  | _, [] => true
  | seen, a :: r => inP v a && !(decide (a ∈ seen)) && rnGo v (seen ++ [a]) r
def isRen (v : Int) (p : List Int) : Bool := decide ((p.length : Int) = v) && rnGo v [] p
theorem rnGo_in {v : Int} : ∀ {l seen : List Int}, rnGo v seen l = true → ∀ a ∈ l, inP v a = true
  | [], _, _, a, h => by cases h
  | b :: r, seen, h, a, ha => by
    simp only [rnGo, Bool.and_eq_true] at h
    rcases List.mem_cons.1 ha with rfl | ha
    · exact h.1.1
    · exact rnGo_in h.2 a ha
theorem rnGo_bad {v : Int} {a : Int} {r seen : List Int} (h : inP v a = false) : rnGo v seen (a :: r) = false := by simp [rnGo, h]
theorem rnGo_dup {v : Int} {a : Int} {r seen : List Int} (h : a ∈ seen) : rnGo v seen (a :: r) = false := by simp [rnGo, h]
theorem rnGo_next {v : Int} {a : Int} {r seen : List Int} (h : inP v a = true) (h2 : a ∉ seen) : rnGo v seen (a :: r) = rnGo v (seen ++ [a]) r := by simp [rnGo, h, h2]
def at0 (p : List Int) (a : Int) : Int := p[a.toNat]?.getD 0
def renB (p : List Int) (x : Blk) : Blk := blk3 (at0 p x.a) (at0 p x.b) (at0 p x.c)
/-- A system and a code: points, blocks, code. -/
def renF (v : Int) (bs : List Blk) (p : List Int) : Int × List Blk × Int :=
  if isSysImpl v bs then (if isRen v p then (v, sortB (bs.map (renB p)), 0) else (0, [], 2)) else (0, [], 1)
theorem renF_len (v : Int) (bs : List Blk) (p : List Int) : (renF v bs p).2.1.length ≤ bs.length := by
  unfold renF
  split
  · split
    · simp only [sortB_length, List.length_map]; exact Nat.le_refl _
    · simp
  · simp
theorem at0_in {v : Int} {p : List Int} (h : isRen v p = true) {a : Int} (h0 : 0 ≤ a) (h1 : a < v) : 0 ≤ at0 p a ∧ at0 p a < v := by
  unfold isRen at h
  simp only [Bool.and_eq_true, decide_eq_true_eq] at h
  have hl : a.toNat < p.length := by omega
  have := rnGo_in h.2 p[a.toNat] (List.getElem_mem hl)
  rw [inP] at this
  simp only [Bool.and_eq_true, decide_eq_true_eq] at this
  unfold at0
  rw [List.getElem?_eq_getElem hl]
  exact this
theorem blk3_in {v a b c : Int} (ha : 0 ≤ a ∧ a < v) (hb : 0 ≤ b ∧ b < v) (hc : 0 ≤ c ∧ c < v) : (0 ≤ (blk3 a b c).a ∧ (blk3 a b c).a < v) ∧ (0 ≤ (blk3 a b c).b ∧ (blk3 a b c).b < v) ∧ (0 ≤ (blk3 a b c).c ∧ (blk3 a b c).c < v) := by
  unfold blk3
  dsimp only
  omega
/-- The middle one. -/
theorem blk3_good {v a b c : Int} : goodB v (blk3 a b c) = true ↔ (0 ≤ a ∧ a < v) ∧ (0 ≤ b ∧ b < v) ∧ (0 ≤ c ∧ c < v) ∧ a ≠ b ∧ b ≠ c ∧ a ≠ c := by
  rw [goodB_iff]
  unfold blk3
  dsimp only
  omega
def b3 (x : Blk) : Blk := blk3 x.a x.b x.c
def sysOfF (v : Int) (bs : List Blk) : Int × List Blk × Int :=
  if decide (3 ≤ v) && decide (v ≤ 15) && decide (bs.length ≤ 35) && bs.all (fun x => goodB v (b3 x)) then
    (if shareGo [] (bs.map b3) then (0, [], 5) else (v, sortB (bs.map b3), 0))
  else (0, [], 2)
theorem sort3 (a b c : Int) : [a, b, c].mergeSort (fun x y => decide (x ≤ y)) = [(blk3 a b c).a, (blk3 a b c).b, (blk3 a b c).c] := by
  have hs : ([a, b, c].mergeSort (fun x y => decide (x ≤ y))).Pairwise (· ≤ ·) := by
    have := List.pairwise_mergeSort (le := fun x y : Int => decide (x ≤ y)) (fun x y z h1 h2 => by simp at *; omega) (fun x y => by simp; omega) [a, b, c]
    exact this.imp (by simp)
  have hp := List.mergeSort_perm [a, b, c] (fun x y : Int => decide (x ≤ y))
  have hs2 : [(blk3 a b c).a, (blk3 a b c).b, (blk3 a b c).c].Pairwise (· ≤ ·) := by
    unfold blk3
    simp
    omega
  have hp2 : [(blk3 a b c).a, (blk3 a b c).b, (blk3 a b c).c].Perm [a, b, c] := by
    unfold blk3
    dsimp only
    rw [List.perm_iff_count]
    intro x
    simp only [List.count_cons, List.count_nil, beq_iff_eq]
    by_cases h1 : a ≤ b <;> by_cases h2 : b ≤ c <;> by_cases h3 : a ≤ c <;> simp only [Int.min_def, Int.max_def, h1, h2, h3, if_true, if_false] <;> (try omega) <;> (repeat' split) <;> omega
  exact (hp.trans hp2.symm).eq_of_pairwise (fun x y _ _ h1 h2 => by omega) hs hs2
end Go.Proofs.Ytikegdidffjoeaa

namespace Go.Proofs.Ytikegdidffjoeaa
open Go.RowKit Go.Maps Go.Shelf
/-- Whether p is in the list. -/
def inL (p : Int) (zs : List Int) : Bool := zs.any fun z => p == z
theorem Index_any (b off cap : Nat) (zs : List Int) (p : Int) (w : World) (h : Ints w b off zs) (m1 : zs.length ≤ 9223372036854775807) :
    Calls Try.prog 178 #[.slice (some ⟨b, off, none⟩) zs.length cap, .int .i64 p] w fun e w' => ∃ r : Int, e = .returned (.int .i64 r) ∧ w = w' ∧ (decide (r ≥ 0) = inL p zs) := by
  have H1 := Lib.hid h
  clear h
  go_enter Try.func178, Try.ntmps178
  go_wp2
  go_loop [8] (fun i => ∃ k : Nat, k ≤ zs.length ∧ i = .int .i64 k ∧ Hid (inL p zs = inL p (zs.drop k))) (fun i => zs.length - (intOf i).toNat)
  case atStart => exact ⟨0, Nat.zero_le _, rfl, Lib.hid (by simp)⟩
  case round =>
    obtain ⟨k, hk, rfl, HE⟩ := hrel
    by_cases hlt : k < zs.length
    · obtain ⟨x, r, e1, e2, hc1⟩ := ints_next H1.out hlt
      rw [e1] at HE
      have E2 := Lib.hid e2
      clear e1 e2
      go_wp2
      · have hne : (p == x) = true := by assumption
        go_ret
        exact ⟨_, rfl, rfl, by rw [HE.out]; simp [inL, hne]⟩
      · have hne : (p == x) = false := by assumption
        go_round
        case rel => exact ⟨k + 1, by omega, by go_num, Lib.hid (by rw [HE.out, E2.out]; simp [inL, hne])⟩
        case measure => simp [intOf]; omega
    · go_wp2
      go_ret
      exact ⟨_, rfl, rfl, by rw [HE.out, List.drop_eq_nil_of_le (by omega : zs.length ≤ k)]; simp [inL]⟩
theorem Contains_any (b off cap : Nat) (zs : List Int) (p : Int) (w : World) (h : Ints w b off zs) (m1 : zs.length ≤ 9223372036854775807) :
    Calls Try.prog 107 #[.slice (some ⟨b, off, none⟩) zs.length cap, .int .i64 p] w (RS (.bool (inL p zs)) w) := by
  go_enter Try.func107, Try.ntmps107
  go_wp2_with (go_at_call 178; refine (Index_any _ _ _ _ _ _ h m1).mono ?_; rintro e w' ⟨r, rfl, rfl, hr⟩)
  go_ret
  exact RS_of rfl
theorem inL3 (x : Blk) (p : Int) : inL p [x.a, x.b, x.c] = hasB x p := by
  unfold inL hasB
  rw [Bool.eq_iff_iff]
  simp [eq_comm (a := p), or_assoc]
theorem isPointI_any (v a : Int) (w : World) : Calls Try.prog 176 #[.int .i64 v, .int .i64 a] w (RS (.bool (inP v a)) w) := by
  unfold inP
  go_enter Try.func176, Try.ntmps176
  go_wp2
  all_goals go_ret
  all_goals refine RS_of (bool_eq ?_)
  all_goals simp_all
  all_goals omega
end Go.Proofs.Ytikegdidffjoeaa

namespace Go.Proofs.Ytikegdidffjoeaa
open Go.RowKit Go.Maps Go.Shelf
attribute [local go_sem] Oper.semAt_some
/-- The blocks through p among the first k, each with its index. -/
def upTo (p : Int) (bs : List Blk) (k : Nat) : List (Nat × Blk) := ((List.range k).map fun j => (j, bs[j]?.getD default)).filter fun q => hasB q.2 p
theorem upTo_succ (p : Int) (bs : List Blk) (k : Nat) : upTo p bs (k + 1) = upTo p bs k ++ if hasB (bs[k]?.getD default) p then [(k, bs[k]?.getD default)] else [] := by
  unfold upTo
  rw [List.range_succ, List.map_append, List.filter_append]
  congr 1
  simp [List.filter_cons]
theorem upTo_len (p : Int) (bs : List Blk) (k : Nat) : (upTo p bs k).length ≤ k := by
  unfold upTo
  refine Nat.le_trans (List.length_filter_le _ _) ?_
  simp
/-- What a round that goes on keeps: old memory, and the box at Bp. -/
def KpB (n₀ Bp : Nat) (A B : World) : Prop := Below n₀ A B ∧ ∀ v, A.cell? ⟨Bp, 0, none⟩ = some v → B.cell? ⟨Bp, 0, none⟩ = some v
theorem KpB.refl (n₀ Bp : Nat) (A : World) : KpB n₀ Bp A A := ⟨Below.refl _ _, fun _ h => h⟩
theorem KpB.trans {n₀ Bp : Nat} {A B C : World} (h : KpB n₀ Bp A B) (k : KpB n₀ Bp B C) : KpB n₀ Bp A C := ⟨h.1.trans k.1, fun v hv => k.2 v (h.2 v hv)⟩
theorem KpB.put {n₀ Bp : Nat} {w : World} (hn : n₀ ≤ w.heap.size) (W : World) (l : Nat) (o o' : Obj) (hl : w.heap.size ≤ l) (h : W.heap[l]? = some o) (hc : o.isCells = false) (hw : o.isWalk = false) : KpB n₀ Bp W (W.putObj l o') :=
  ⟨belowK_b hn W l o o' hl h hc hw, fun v hv => cell_kept hv (grownBy_putObj' W l o') (fun r e => by cases e; exact ⟨_, h, hc⟩)⟩
/-- The closure captures the box of the system and the box of the point. -/
theorem blocksWith_any (v : Int) (s : Value) (p : Int) (w : World) : Calls Try.prog 106 #[.agg #[.int .i64 v, s], .int .i64 p] w fun e w' =>
    e = .returned (.func (.func 177) #[] #[.pointer (some ⟨w.heap.size, 0, none⟩), .pointer (some ⟨w.heap.size + 1, 0, none⟩)]) ∧ w' = (w.alloc (.cells #[.int .i64 v, s] 26)).alloc (.cells #[.int .i64 p] 2) := by
  go_enter Try.func106, Try.ntmps106
  go_wp2
  go_ret
  exact ⟨rfl, rfl⟩
theorem RS.quietIn {r : Nat} {P : Program} {f : FuncId} {args : Array Value} {w : World} {n : Nat} {v : Value} (h : Calls P f args (w.drewN n) (RS v (w.drewN n))) :
    CallsIn Fence.wide r P f args (w.drewN n) fun e w'' => e = .returned v ∧ ∃ m, w'' = w.drewN m := callsIn_wide.2 (RS.quiet h)
theorem wide_asked {P : Program} {C : World → Prop} {o : Oper} {a : Act} : o.askedIn Fence.wide P a C := fun _ _ _ _ => trivial
theorem grown_drewN (w : World) (n : Nat) : w.grownBy (w.drewN n) none := ⟨rfl, rfl, rfl, Nat.le_refl _, fun _ _ _ => rfl⟩
theorem cell_drewN {w : World} {p : Addr} {u : Value} (h : w.cell? p = some u) (n : Nat) : (w.drewN n).cell? p = some u := h
theorem yes_no {e : Ending} {p q : Prop} (h : (e = .returned (.bool true) ∧ p) ∨ (e = .returned (.bool false) ∧ q)) : ∃ β, e = .returned (.bool β) ∧ (if β = true then p else q) := by
  rcases h with ⟨rfl, h⟩ | ⟨rfl, h⟩
  · exact ⟨true, rfl, by simpa using h⟩
  · exact ⟨false, rfl, by simpa using h⟩
set_option maxRecDepth 100000 in
set_option maxHeartbeats 2000000 in
theorem with1_in (n : Nat) (hn : 1 ≤ n) (l Bx Bp n₀ b off cap : Nat) (p : Int) (bs : List Blk) (hlen : bs.length ≤ 1100000) (hb : b < n₀) (J Jx : List (Nat × Blk) → World → Prop) (W : World)
    (hJ : AbidesFrom W.heap.size J)
    (hY : ∀ pre x W1, J pre W1 → pre.length < bs.length → YieldAt Fence.wide (n - 1) Try.prog l #[.int .i64 (x.1 : Int), bv x.2] W1 fun e W' =>
      (e = .returned (.bool true) ∧ J (pre ++ [x]) W' ∧ KpB n₀ Bp W1 W') ∨ (e = .returned (.bool false) ∧ Jx (pre ++ [x]) W'))
    (hx1 : W.cell? ⟨Bx, 1, none⟩ = some (.slice (some ⟨b, off, none⟩) bs.length cap)) (hp : W.cell? ⟨Bp, 0, none⟩ = some (.int .i64 p)) (hbl : Blks W b off bs) (_hbn : n₀ ≤ W.heap.size) (hBp : Bp < W.heap.size) (h0 : J [] W) :
    CallsIn Fence.wide n Try.prog 177 #[.func (.yield l) #[] #[], .pointer (some ⟨Bx, 0, none⟩), .pointer (some ⟨Bp, 0, none⟩)] W fun e W' => (∃ v, e = .returned v) ∧
      ((∃ ys, ys = upTo p bs bs.length ∧ J ys W') ∨ (∃ pre, (∃ k, k ≤ bs.length ∧ pre = upTo p bs k) ∧ Jx pre W')) := by
  have hro : Fence.wide.round = none := rfl
  have hmx : Try.prog.follows .mixedOrders = true := by kernel_rfl
  have HJ := Lib.hid hJ
  clear hJ
  refine callsIn_of_wp Try.func177 rfl trivial ?_ hro
  simp only [Try.ntmps177, List.size_toArray, List.length_cons, List.length_nil, Nat.reduceAdd, Nat.reduceSub, Array.replicate_succ, Array.replicate_zero, List.push_toArray, List.append_toArray, List.nil_append, List.cons_append]
  gi_wp2
  gi_loopw [9] (fun i wr => ∃ k : Nat, k ≤ bs.length ∧ i = .int .i64 k ∧ J (upTo p bs k) wr ∧ KpB n₀ Bp W wr ∧ W.heap.size ≤ wr.heap.size)
    (fun i _ => bs.length - (intOf i).toNat)
  case atStart => exact ⟨0, Nat.zero_le _, rfl, h0, KpB.refl _ _ _, Nat.le_refl _⟩
  case round =>
    obtain ⟨k, hk, rfl, hJs, hK, hsz⟩ := hrel
    have hcp := hK.2 _ hp
    have hbl1 : Bp < wr.heap.size := by omega
    have hcp2 : (wr.alloc (.cells #[.int .i64 (bs[k]?.getD default).a, .int .i64 (bs[k]?.getD default).b, .int .i64 (bs[k]?.getD default).c] 50)).cell? ⟨Bp, 0, none⟩ = some (.int .i64 p) := cell_past hcp hbl1
    have hcp3 := (below_drewN (Below.refl (Bp + 1) _) 1).cell (p := ⟨Bp, 0, none⟩) (by simp) |>.trans hcp2
    by_cases hlt : k < bs.length
    · obtain ⟨c1, c2, c3⟩ := (hbl.below hK.1 hb) k hlt
      obtain ⟨x, hx⟩ : ∃ x, x = bs[k]?.getD default := ⟨_, rfl⟩
      rw [← hx] at c1 c2 c3 hcp2 hcp3
      have hsucc := upTo_succ p bs k
      rw [← hx] at hsucc
      have hul := upTo_len p bs k
      have HX := Lib.hid hx
      have HS := Lib.hid hsucc
      clear hx hsucc
      have hcont : ∀ W', W'.cell? ⟨wr.heap.size, 0, none⟩ = some (.int .i64 x.a) → W'.cell? ⟨wr.heap.size, 1, none⟩ = some (.int .i64 x.b) → W'.cell? ⟨wr.heap.size, 2, none⟩ = some (.int .i64 x.c) → Calls Try.prog 107 #[.slice (some ⟨wr.heap.size, 0, none⟩) 3 3, .int .i64 p] W' (RS (.bool (hasB x p)) W') := fun W' g1 g2 g3 => by
        rw [← inL3]
        exact Contains_any wr.heap.size 0 3 [x.a, x.b, x.c] p W' (ints3 g1 g2 g3) (by simp)
      have HC := Lib.hid hcont
      clear hcont
      cases hB : hasB x p with
      | true =>
        rw [hB] at HC HS
        have hJ2 : J (upTo p bs k) (wr.alloc (.cells #[.int .i64 x.a, .int .i64 x.b, .int .i64 x.c] 50)).drew := HJ.out _ _ _ none (HJ.out _ _ _ none hJs (World.grownBy_alloc wr _ none) nofun) ⟨rfl, rfl, rfl, Nat.le_refl _, fun _ _ _ => rfl⟩ nofun
        obtain ⟨fn, tmps, assign, body, hy, hR⟩ := hY _ (k, x) _ hJ2 (by omega)
        dsimp only [bv] at hy
        gi_wp2
        gi_region_with_o (first | (refine ⟨trivial, ?_⟩; gi_at_call 107; refine (callsIn_wide.2 (HC.out _ (by simp) (by simp) (by simp))).mono ?_; rintro e w' ⟨rfl, rfl⟩) | (gi_at_call 107; refine (callsIn_wide.2 (HC.out _ (by simp) (by simp) (by simp))).mono ?_; rintro e w' ⟨rfl, rfl⟩) | (refine hR.mono ?_; intro e W3 hc; obtain ⟨β, rfl, hβ⟩ := yes_no hc; clear hc))
        cases β with
        | true =>
          rw [if_pos rfl] at hβ
          obtain ⟨hJ3, hK3⟩ := hβ
          have hsz3 := hK3.1.size
          simp at hsz3
          gi_wp2
          refine ⟨⟨k + 1, by omega, by simp, by rw [HS.out, if_pos trivial]; exact hJ3, hK.trans (KpB.trans ⟨((Below.refl _ _).alloc (by omega) _).trans (below_drewN (Below.refl _ _) 1), fun u hu => cell_drewN (cell_past hu hbl1) 1⟩ hK3), by omega⟩, by simp [intOf]; omega⟩
        | false =>
          rw [if_neg (by decide)] at hβ
          gi_wp2
          refine bodyPost_ret (results_none rfl _ _ _) rfl ?_
          exact ⟨⟨_, rfl⟩, .inr ⟨_, ⟨k + 1, by omega, by rw [HS.out, if_pos trivial]⟩, hβ⟩⟩
      | false =>
        rw [hB] at HC HS
        gi_wp2
        refine wpIn_region_quiet_lit rfl (by kernel_rfl) (by kernel_rfl) ?_
        repeat (refine wpQuietIn_step (by first | exact wide_asked | quiet_asked_in) (fun K hK => ?_); go_simp; first | (refine hK _ ?_; clear hK K) | (apply Exists.intro; refine ⟨fun _ => ?_, hK _ ?_⟩; (gi_at_call 107; exact RS.quietIn (HC.out _ (by simp [go_sem]) (by simp [go_sem]) (by simp [go_sem]))); clear hK K))
        refine wpQuietIn_nil ?_
        rintro _ ⟨nq, rfl⟩
        gi_wp2
        refine ⟨⟨k + 1, by omega, by simp, by rw [HS.out, if_neg (by decide), List.append_nil]; exact HJ.out _ _ _ none (HJ.out _ _ _ none hJs (World.grownBy_alloc wr _ none) nofun) (grown_drewN _ _) nofun, hK.trans ⟨((Below.refl _ _).alloc (by omega) _).trans (below_drewN (Below.refl _ _) _), fun u hu => (cell_drewN (cell_past hu hbl1) _)⟩, by simp; omega⟩, by simp [intOf]; omega⟩
    · obtain rfl : k = bs.length := by omega
      gi_wp2
      go_end0
      exact ⟨⟨_, rfl⟩, .inl ⟨_, rfl, hJs⟩⟩
set_option maxRecDepth 100000 in
theorem with1_nil_in (n : Nat) (l Bx Bp : Nat) (a0 : Option Addr) (c0 : Nat) (p : Int) (J : List (Nat × Blk) → World → Prop) (W : World) (hx1 : W.cell? ⟨Bx, 1, none⟩ = some (.slice a0 0 c0)) (_hp : W.cell? ⟨Bp, 0, none⟩ = some (.int .i64 p)) (h0 : J [] W) :
    CallsIn Fence.wide n Try.prog 177 #[.func (.yield l) #[] #[], .pointer (some ⟨Bx, 0, none⟩), .pointer (some ⟨Bp, 0, none⟩)] W fun e W' => (∃ v, e = .returned v) ∧ J [] W' := by
  have hro : Fence.wide.round = none := rfl
  refine callsIn_of_wp Try.func177 rfl trivial ?_ hro
  simp only [Try.ntmps177, List.size_toArray, List.length_cons, List.length_nil, Nat.reduceAdd, Nat.reduceSub, Array.replicate_succ, Array.replicate_zero, List.push_toArray, List.append_toArray, List.nil_append, List.cons_append]
  gi_wp2
  gi_loopw [9] (fun i wr => i = .int .i64 0 ∧ J [] wr) (fun _ _ => 0)
  case atStart => exact ⟨rfl, h0⟩
  case round =>
    obtain ⟨rfl, hJs⟩ := hrel
    gi_wp2
    go_end0
    exact ⟨⟨_, rfl⟩, hJs⟩
/-- The encoding of a round's two variables. -/
def encQ (x : Nat × Blk) : Array Value := #[.int .i64 (x.1 : Int), bv x.2]
theorem with_stops (n : Nat) (hn : 1 ≤ n) (Bx Bp : Nat) (p : Int) (s : Value) (bs : List Blk) (w0 w : World) (hS : SB w0 s bs) (hb0 : Below w0.heap.size w0 w) (hx : w.cell? ⟨Bx, 1, none⟩ = some s) (hBx : Bx < w.heap.size)
    (hp : w.cell? ⟨Bp, 0, none⟩ = some (.int .i64 p)) (hBp : Bp < w.heap.size) :
    SeqStopsK Fence.wide n Try.prog 177 #[.pointer (some ⟨Bx, 0, none⟩), .pointer (some ⟨Bp, 0, none⟩)] encQ (KpB w0.heap.size Bp) (fun ys => ys = upTo p bs bs.length)
      (fun pre => ∃ k, k ≤ bs.length ∧ pre = upTo p bs k) bs.length w := fun l J Jx W hW hJ _ hY h0 => by
  have hx' := (hW.cell (p := ⟨Bx, 1, none⟩) hBx).trans hx
  have hp' := (hW.cell (p := ⟨Bp, 0, none⟩) hBp).trans hp
  have hsz := hW.size
  have hsz0 := hb0.size
  obtain ⟨_, hlen, hr⟩ := hS
  rcases hr with ⟨a0, c0, rfl, rfl⟩ | ⟨b, off, cap, rfl, hb, hbl⟩
  · exact (with1_nil_in n l Bx Bp a0 c0 p J W hx' hp' h0).mono fun e W' ⟨he, hj⟩ => ⟨he, .inl ⟨_, rfl, hj⟩⟩
  · refine with1_in n hn l Bx Bp w0.heap.size b off cap p bs hlen hb J Jx W hJ hY hx' hp' (hbl.below (hb0.trans (hW.mono hsz0)) hb) (by omega) (by omega) h0
end Go.Proofs.Ytikegdidffjoeaa

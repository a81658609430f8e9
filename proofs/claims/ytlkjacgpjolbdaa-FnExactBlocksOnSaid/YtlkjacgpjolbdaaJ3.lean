
/- The law FnExactIsSystem returns true. Whether a system is full: the program and the model. The blocks that two systems have in common: the program and the model. Third points, in plain words. The part of a system on some points: plain. The model's ThirdPoint answers as the plain function thirdV. The model's ThirdPoint answers as the plain function thirdV. What DoubleSystem answers: plain. Renumbered systems, and systems of blocks in any order: plain. The members of the library that ask whether a value is in a slice; the iterator over the blocks through a point. The iterator over the blocks through a point. -/
import Derived.Test.YtlkjacgpjolbdaaJ2
import Derived.Deep.RegionWith
import Derived.RangeFuncNested
import Derived.RangeFuncBound
import Derived.RangeFuncCalls
import Derived.RangeFuncLeaves
import Derived.RangeFuncBox
import Derived.Shelf.Abstract
import Derived.Shelf.RegionOpen
import Derived.OwnWalkIn
import Derived.TacticsInMore
import Derived.LoopNIn
import Derived.LoopIn
import Derived.Lib.QuietBelowIn
namespace Go.Proofs.Ytlkjacgpjolbdaa
open Go.RowKit Go.Maps
/-- What is known of a slice of blocks that came in. -/
def InB (w : World) (s : Value) (bs : List Blk) : Prop :=
  (∀ x ∈ bs, WFB x) ∧ bs.length ≤ 9223372036854775807 ∧ ((∃ a c, s = .slice a 0 c ∧ bs = []) ∨ ∃ b off cap, s = .slice (some ⟨b, off, none⟩) bs.length cap ∧ b < w.heap.size ∧ Blks w b off bs)
theorem InB.slice {w : World} {s : Value} {bs : List Blk} (h : InB w s bs) : ∃ a c, s = .slice a bs.length c := by
  rcases h.2.2 with ⟨a0, c0, rfl, rfl⟩ | ⟨b, off, cap, rfl, _⟩ <;> exact ⟨_, _, rfl⟩
theorem InB.sb {w : World} {s : Value} {bs : List Blk} (h : InB w s bs) (hl : bs.length ≤ 1048576) : SB w s bs := ⟨h.1, by omega, h.2.2⟩

end Go.Proofs.Ytlkjacgpjolbdaa

namespace Go.Proofs.Ytlkjacgpjolbdaa
open Go.RowKit Go.Maps
def fullB (v : Int) (bs : List Blk) : Bool := decide (6 * (bs.length : Int) = v * (v - 1))
/-- Two results: a bool and a code. -/
def boolCode (b : Bool) (c : Int) : Value := .tuple #[.bool b, .int .i64 c]
theorem sys_size {v : Int} {bs : List Blk} (h : isSysImpl v bs = true) : 3 ≤ v ∧ v ≤ 15 ∧ bs.length ≤ 35 := by
  have h2 := h
  rw [isSys_same] at h2
  simp [isSysSpec] at h2
  exact ⟨h2.1.1.1.1, h2.1.1.1.2, h2.1.1.2⟩
theorem sq_bounds {v : Int} (h0 : 3 ≤ v) (h1 : v ≤ 15) : 6 ≤ v * (v - 1) ∧ v * (v - 1) ≤ 210 := by
  have : v = 3 ∨ v = 4 ∨ v = 5 ∨ v = 6 ∨ v = 7 ∨ v = 8 ∨ v = 9 ∨ v = 10 ∨ v = 11 ∨ v = 12 ∨ v = 13 ∨ v = 14 ∨ v = 15 := by omega
  rcases this with rfl | rfl | rfl | rfl | rfl | rfl | rfl | rfl | rfl | rfl | rfl | rfl | rfl <;> decide
theorem sq_even {v : Int} (h0 : 3 ≤ v) (h1 : v ≤ 15) : ∃ k, v * (v - 1) = 2 * k := by
  have : v = 3 ∨ v = 4 ∨ v = 5 ∨ v = 6 ∨ v = 7 ∨ v = 8 ∨ v = 9 ∨ v = 10 ∨ v = 11 ∨ v = 12 ∨ v = 13 ∨ v = 14 ∨ v = 15 := by omega
  rcases this with rfl | rfl | rfl | rfl | rfl | rfl | rfl | rfl | rfl | rfl | rfl | rfl | rfl
  · exact ⟨3, by decide⟩
  · exact ⟨6, by decide⟩
  · exact ⟨10, by decide⟩
  · exact ⟨15, by decide⟩
  · exact ⟨21, by decide⟩
  · exact ⟨28, by decide⟩
  · exact ⟨36, by decide⟩
  · exact ⟨45, by decide⟩
  · exact ⟨55, by decide⟩
  · exact ⟨66, by decide⟩
  · exact ⟨78, by decide⟩
  · exact ⟨91, by decide⟩
  · exact ⟨105, by decide⟩
/-- What IsFull answers. -/
def fullV (v : Int) (bs : List Blk) : Value := if isSysImpl v bs then boolCode (fullB v bs) 0 else boolCode false 1

theorem RV2_of {v u : Value} {w w' : World} (h : u = v) (hb : Below w.heap.size w w') : RV v w (.returned u) w' := ⟨by rw [h], hb⟩
set_option maxRecDepth 100000 in
theorem IsFull_any (v : Int) (s : Value) (bs : List Blk) (w : World) (h : SB w s bs) : Calls Try.prog 142 #[.agg #[.int .i64 v, s]] w (RV (fullV v bs) w) := by
  have hs : ∃ a c, s = .slice a bs.length c := by rcases h.2.2 with ⟨a0, c0, rfl, rfl⟩ | ⟨b, off, cap, rfl, _⟩ <;> exact ⟨_, _, rfl⟩
  have hc := IsSystem_any v s bs (w.alloc (.cells #[.int .i64 v, s] 28)) (h.below ((Below.refl _ _).alloc (Nat.le_refl _) _) (Nat.le_refl _))
  obtain ⟨a, c, rfl⟩ := hs
  cases hi : isSysImpl v bs with
  | false =>
    rw [hi] at hc
    have hf : fullV v bs = boolCode false 1 := by simp [fullV, hi]
    rw [hf]
    have HC := Lib.hid hc
    clear hc hi h hf
    go_enter Try.func142, Try.ntmps142
    go_wp2_with (go_at_call 70; refine HC.out.mono ?_; rintro e w1 ⟨rfl, hb1⟩)
    go_ret2
    exact RV_of rfl (((Below.refl _ _).alloc (Nat.le_refl _) _).trans (hb1.mono (by simp)))
  | true =>
    rw [hi] at hc
    obtain ⟨h3, h15, hl⟩ := sys_size hi
    obtain ⟨q0, q1⟩ := sq_bounds h3 h15
    obtain ⟨k, hk⟩ := sq_even h3 h15
    have hf : fullV v bs = boolCode (fullB v bs) 0 := by simp [fullV, hi]
    rw [hf]
    have hfb : fullB v bs = decide (3 * (bs.length : Int) = v * (v - 1) / 2) := by
      unfold fullB
      rw [hk]
      rw [show 2 * k / 2 = k by omega]
      by_cases e : 3 * (bs.length : Int) = k
      · simp [e]; omega
      · simp [e]; omega
    rw [hfb]
    have hb0 : (0 : Int) ≤ (bs.length : Int) := by omega
    have hb35 : (bs.length : Int) ≤ 35 := by omega
    have q0' : 0 ≤ v * (v - 1) := by omega
    have HC := Lib.hid hc
    clear hc hi h hf hfb hk
    go_enter Try.func142, Try.ntmps142
    go_wp2_with (go_at_call 70; refine HC.out.mono ?_; rintro e w1 ⟨rfl, hb1⟩; have c0 := cell_new hb1 0 rfl; have c1 := cell_new hb1 1 rfl)
    all_goals go_ret2
    exact RV_of (congrArg (fun b => boolCode b 0) (by rw [Bool.eq_iff_iff]; simp)) (((Below.refl _ _).alloc (Nat.le_refl _) _).trans (hb1.mono (by simp)))

set_option maxRecDepth 100000 in
theorem l01Full_any (v : Int) (s : Value) (bs : List Blk) (w : World) (hs : ∃ a c, s = .slice a bs.length c) (h3 : 3 ≤ v) (h15 : v ≤ 15) (hl : bs.length ≤ 1100000) : Calls Try.prog 110 #[.agg #[.int .i64 v, s]] w (RV (.bool (fullB v bs)) w) := by
  obtain ⟨a, c, rfl⟩ := hs
  obtain ⟨q0, q1⟩ := sq_bounds h3 h15
  have hb0 : (0 : Int) ≤ (bs.length : Int) := by omega
  have hb35 : (bs.length : Int) ≤ 1100000 := by omega
  go_enter Try.func110, Try.ntmps110
  go_wp2
  go_ret
  exact RV_of (bool_eq (by rw [Bool.eq_iff_iff]; simp [fullB])) ((Below.refl _ _).alloc (Nat.le_refl _) _)

end Go.Proofs.Ytlkjacgpjolbdaa

namespace Go.Proofs.Ytlkjacgpjolbdaa
open Go.RowKit Go.Maps
def commonL (bs cs : List Blk) : List Blk := bs.filter fun x => decide (x ∈ cs)
def commonF (v : Int) (bs : List Blk) (u : Int) (cs : List Blk) : List Blk × Int :=
  if isSysImpl v bs && isSysImpl u cs then (if v = u then (commonL bs cs, 0) else ([], 2)) else ([], 1)
/-- Two results: a list of blocks in new memory, and a code. -/
def RLC (p : List Blk × Int) (w : World) (e : Ending) (w' : World) : Prop := ∃ s, e = .returned (.tuple #[s, .int .i64 p.2]) ∧ ResR w' w.heap.size w'.heap.size s p.1 ∧ Below w.heap.size w w'
theorem run_makeMap_hint {P : Program} (t k e : TypeId) (kd : IntKind) (n : Int) (ht : P.underlying t = some (.map k e)) (w : World) :
    (Instr.makeMap t (some (.int kd n))).run P w = .ok (.map (some w.heap.size)) (w.alloc (.map #[] 0)) := by
  simp [Instr.makeMap, run_underlying ht]; rfl
theorem SB.slice {w : World} {s : Value} {bs : List Blk} (h : SB w s bs) : ∃ a c, s = .slice a bs.length c := by
  rcases h.2.2 with ⟨a0, c0, rfl, rfl⟩ | ⟨b, off, cap, rfl, _⟩ <;> exact ⟨_, _, rfl⟩

theorem filter_take_next {p : Blk → Bool} {bs : List Blk} {k : Nat} {x : Blk} (hk : k < bs.length) (hx : bs[k]? = some x) : (bs.take (k + 1)).filter p = (bs.take k).filter p ++ if p x then [x] else [] := by
  have e : bs[k] = x := by
    rw [List.getElem?_eq_getElem hk] at hx
    simpa using hx
  rw [take_next hk, e, List.filter_append]
  cases h : p x <;> simp [h]
theorem commonL_length (bs cs : List Blk) : (commonL bs cs).length ≤ bs.length := List.length_filter_le _ _
theorem commonL_wf {bs cs : List Blk} (h : ∀ x ∈ bs, WFB x) : ∀ x ∈ commonL bs cs, WFB x := fun x hx => h x ((List.mem_filter.1 hx).1)
theorem OwnR.row {w : World} {base : Nat} {v : Value} {bs : List Blk} (h : OwnR w base v bs) : ∀ r, v.ownBlock = some r → base ≤ r := fun r hr => by
  rcases h.2 with ⟨rfl, _⟩ | ⟨g, cap, cur, rfl, hb, _⟩
  · cases hr
  · cases hr; exact hb
end Go.Proofs.Ytlkjacgpjolbdaa

namespace Go.Proofs.Ytlkjacgpjolbdaa
open Go.RowKit Go.Maps
def hasB (x : Blk) (p : Int) : Bool := decide (x.a = p) || decide (x.b = p) || decide (x.c = p)
def bothB (a b : Int) (x : Blk) : Bool := hasB x a && hasB x b
def thirdOf (x : Blk) (a b : Int) : Int := x.a + x.b + x.c - a - b
def inP (v a : Int) : Bool := decide (0 ≤ a) && decide (a < v)
/-- The third point, or -1. -/
def third1 (bs : List Blk) (a b : Int) : Int := match bs.find? (bothB a b) with | some x => thirdOf x a b | none => -1
def thirdV (v : Int) (bs : List Blk) (a b : Int) : Value :=
  if isSysImpl v bs then
    (if inP v a && inP v b then (if a = b then .tuple #[.int .i64 0, .int .i64 2] else
      (match bs.find? (bothB a b) with | some x => .tuple #[.int .i64 (thirdOf x a b), .int .i64 0] | none => .tuple #[.int .i64 0, .int .i64 4]))
    else .tuple #[.int .i64 0, .int .i64 2])
  else .tuple #[.int .i64 0, .int .i64 1]
theorem sys_good {v : Int} {bs : List Blk} (h : isSysImpl v bs = true) : ∀ x ∈ bs, goodB v x = true := by
  unfold isSysImpl at h
  simp only [Bool.and_eq_true] at h
  exact order_good h.1.2
theorem third_bounds {v : Int} {x : Blk} {a b : Int} (hg : goodB v x = true) (hv : v ≤ 15) (h : bothB a b x = true) (hab : a ≠ b) : 0 ≤ thirdOf x a b ∧ thirdOf x a b ≤ 15 := by
  rw [goodB_iff] at hg
  unfold bothB hasB at h
  unfold thirdOf
  simp at h
  omega
theorem find_next {p : Blk → Bool} {bs : List Blk} {k : Nat} {x : Blk} (hk : k < bs.length) (hx : bs[k]? = some x) (h : (bs.take k).find? p = none) : (p x = true → bs.find? p = some x) ∧ (p x = false → (bs.take (k + 1)).find? p = none) := by
  have e : bs[k] = x := by
    rw [List.getElem?_eq_getElem hk] at hx
    simpa using hx
  refine ⟨fun hp => ?_, fun hp => ?_⟩
  · rw [← List.take_append_drop k bs, List.find?_append, h, List.drop_eq_getElem_cons hk, e]
    simp [hp]
  · rw [take_next hk, e, List.find?_append, h]
    simp [hp]
end Go.Proofs.Ytlkjacgpjolbdaa

namespace Go.Proofs.Ytlkjacgpjolbdaa
/-- The place of a number in a list, from k on, or -1. -/
def plGo (x : Int) : List Int → Nat → Int
  | [], _ => -1
  | z :: r, k => if z = x then (k : Int) else plGo x r (k + 1)
def place (zs : List Int) (x : Int) : Int := plGo x zs 0
theorem plGo_le (x : Int) : ∀ (l : List Int) (k : Nat), plGo x l k = -1 ∨ ((k : Int) ≤ plGo x l k ∧ plGo x l k < (k : Int) + l.length)
  | [], k => .inl rfl
  | z :: r, k => by
    unfold plGo
    split
    · right; simp; omega
    · rcases plGo_le x r (k + 1) with h | h
      · exact .inl h
      · right; simp; omega
theorem place_le (zs : List Int) (x : Int) : place zs x = -1 ∨ (0 ≤ place zs x ∧ place zs x < zs.length) := by
  have := plGo_le x zs 0
  unfold place
  omega
/-- An ascending list of points. -/
def ptGo (v : Int) : Option Int → List Int → Bool
  | _, [] => true
  | p, a :: r => inP v a && (match p with | none => true | some q => decide (q < a)) && ptGo v (some a) r
def ascGo : Option Int → List Int → Bool
  | _, [] => true
  | p, a :: r => (match p with | none => true | some q => decide (q < a)) && ascGo (some a) r
theorem ptGo_split (v : Int) : ∀ (l : List Int) (p : Option Int), ptGo v p l = (l.all (inP v) && ascGo p l)
  | [], _ => rfl
  | a :: r, p => by
    unfold ptGo ascGo
    rw [ptGo_split v r (some a), List.all_cons]
    cases inP v a <;> cases r.all (inP v) <;> simp
theorem asc_lt : ∀ {l : List Int} {p : Option Int}, ascGo p l = true → (l.Pairwise (· < ·)) ∧ ∀ q, p = some q → ∀ x ∈ l, q < x
  | [], _, _ => ⟨List.Pairwise.nil, by simp⟩
  | a :: r, p, h => by
    unfold ascGo at h
    rw [Bool.and_eq_true] at h
    obtain ⟨h1, h2⟩ := asc_lt h.2
    refine ⟨List.pairwise_cons.2 ⟨fun x hx => h2 a rfl x hx, h1⟩, ?_⟩
    rintro q rfl x hx
    have hq : q < a := by simpa using h.1
    rcases List.mem_cons.1 hx with rfl | hx
    · exact hq
    · have := h2 a rfl x hx; omega
theorem plGo_mono {x y : Int} (hxy : x < y) : ∀ {l : List Int} {k : Nat}, l.Pairwise (· < ·) → 0 ≤ plGo x l k → 0 ≤ plGo y l k → plGo x l k < plGo y l k
  | [], k, _, h, _ => by simp [plGo] at h
  | z :: r, k, hp, hx, hy => by
    rw [List.pairwise_cons] at hp
    unfold plGo at hx hy ⊢
    by_cases h1 : z = x
    · rw [if_pos h1] at hx ⊢
      rw [if_neg (by omega)] at hy ⊢
      have := plGo_le y r (k + 1)
      omega
    · rw [if_neg h1] at hx ⊢
      by_cases h2 : z = y
      · exfalso
        -- x is behind z, so greater
        have hx' : ∃ u ∈ r, u = x := by
          clear hy hp
          induction r generalizing k with
          | nil => simp [plGo] at hx
          | cons u r ih =>
            unfold plGo at hx
            split at hx
            · exact ⟨u, by simp, ‹_›⟩
            · obtain ⟨q, hq, e⟩ := ih (k := k + 1) hx
              exact ⟨q, by simp [hq], e⟩
        obtain ⟨u, hu, rfl⟩ := hx'
        have := hp.1 u hu
        omega
      · rw [if_neg h2] at hy ⊢
        exact plGo_mono hxy hp.2 hx hy
/-- The block's place on the points, if it is there. -/
def onB (pts : List Int) (x : Blk) : Option Blk :=
  if 0 ≤ place pts x.a ∧ 0 ≤ place pts x.b ∧ 0 ≤ place pts x.c then some ⟨place pts x.a, place pts x.b, place pts x.c⟩ else none
def onF (v : Int) (bs : List Blk) (pts : List Int) : Int × List Blk × Int :=
  if isSysImpl v bs then (if decide (3 ≤ pts.length) && ptGo v none pts then ((pts.length : Int), bs.filterMap (onB pts), 0) else (0, [], 2)) else (0, [], 1)
theorem onB_bef {pts : List Int} (hp : pts.Pairwise (· < ·)) {x y x' y' : Blk} (hx : onB pts x = some x') (hy : onB pts y = some y') (h : befB x y = true) : befB x' y' = true := by
  unfold onB at hx hy
  split at hx
  · split at hy
    · rename_i h1 h2
      cases hx; cases hy
      rw [bef_iff] at h ⊢
      dsimp only
      rcases h with h | ⟨h, h' | ⟨h', h''⟩⟩
      · exact .inl (plGo_mono h hp h1.1 h2.1)
      · exact .inr ⟨by rw [h], .inl (plGo_mono h' hp h1.2.1 h2.2.1)⟩
      · exact .inr ⟨by rw [h], .inr ⟨by rw [h'], plGo_mono h'' hp h1.2.2 h2.2.2⟩⟩
    · cases hy
  · cases hx
theorem onL_strict {pts : List Int} (hp : pts.Pairwise (· < ·)) : ∀ {bs : List Blk}, (bs.Pairwise fun x y => befB x y = true) → (bs.filterMap (onB pts)).Pairwise fun x y => befB x y = true
  | [], _ => List.Pairwise.nil
  | b :: r, h => by
    rw [List.pairwise_cons] at h
    rw [List.filterMap_cons]
    split
    · exact onL_strict hp h.2
    · rename_i b' hb
      refine List.pairwise_cons.2 ⟨fun y' hy' => ?_, onL_strict hp h.2⟩
      obtain ⟨y, hy, e⟩ := List.mem_filterMap.1 hy'
      exact onB_bef hp hb e (h.1 y hy)
theorem onL_sorted {v : Int} {bs : List Blk} {pts : List Int} (hi : isSysImpl v bs = true) (hp : ptGo v none pts = true) : sortB (bs.filterMap (onB pts)) = bs.filterMap (onB pts) := by
  rw [ptGo_split, Bool.and_eq_true] at hp
  exact sortB_eq (strict_srt (onL_strict (asc_lt hp.2).1 (sys_strict hi))) (List.Perm.refl _)
theorem onB_in {pts : List Int} {x y : Blk} (h : onB pts x = some y) : (0 ≤ y.a ∧ y.a < pts.length) ∧ (0 ≤ y.b ∧ y.b < pts.length) ∧ (0 ≤ y.c ∧ y.c < pts.length) := by
  unfold onB at h
  split at h
  · cases h
    have h1 := place_le pts x.a
    have h2 := place_le pts x.b
    have h3 := place_le pts x.c
    dsimp only
    omega
  · cases h
theorem filterMap_take {pts : List Int} {bs : List Blk} {k : Nat} (hk : k < bs.length) {x : Blk} (hx : bs[k]? = some x) : (bs.take (k + 1)).filterMap (onB pts) = (bs.take k).filterMap (onB pts) ++ (onB pts x).toList := by
  have e : bs[k] = x := by rw [List.getElem?_eq_getElem hk] at hx; simpa using hx
  rw [List.take_succ_eq_append_getElem hk, List.filterMap_append, e]
  congr 1
theorem onF_len (v : Int) (bs : List Blk) (pts : List Int) : (onF v bs pts).2.1.length ≤ bs.length := by
  unfold onF
  split
  · split
    · exact List.length_filterMap_le _ _
    · simp
  · simp
end Go.Proofs.Ytlkjacgpjolbdaa

namespace Go.Proofs.Ytlkjacgpjolbdaa
open Go.RowKit Go.Maps
end Go.Proofs.Ytlkjacgpjolbdaa

namespace Go.Proofs.Ytlkjacgpjolbdaa
open Go.RowKit Go.Maps
def pointsCode (v : Int) (bs : List Blk) (ps : List Int) : Int := if isSysImpl v bs then (if ps.all (inP v) then 0 else 2) else 1
theorem RS.quiet2 {P : Program} {f : FuncId} {args : Array Value} {w : World} {a n : Nat} {v : Value} (h : Calls P f args (w.drewN (a + n)) (RS v (w.drewN (a + n)))) :
    Calls P f args (w.drewN (a + n)) fun e w'' => e = .returned v ∧ ∃ m, w'' = w.drewN (a + m) :=
  h.mono fun _ _ ⟨he, hm⟩ => ⟨he, n, hm.symm⟩
theorem Ints.below {w w' : World} {b off B : Nat} {zs : List Int} (h : Ints w b off zs) (hb : Below B w w') (hl : b < B) : Ints w' b off zs := fun k hk => (hb.cell (p := ⟨b, off + k, none⟩) hl).trans (h k hk)
set_option maxRecDepth 100000 in
theorem l01Points_any (v : Int) (s : Value) (bs : List Blk) (b off cap : Nat) (ps : List Int) (w : World) (h : SB w s bs) (hps : Ints w b off ps) (hb : b < w.heap.size) (hpl : ps.length ≤ 1100000) :
    Calls Try.prog 124 #[.agg #[.int .i64 v, s], .slice (some ⟨b, off, none⟩) ps.length cap] w (RV (.int .i64 (pointsCode v bs ps)) w) := by
  have hs := h.slice
  have hc := l01Is_any v s bs (w.alloc (.cells #[.int .i64 v, s] 28)) (h.below ((Below.refl _ _).alloc (Nat.le_refl _) _) (Nat.le_refl _))
  have HPS := Lib.hid hps
  clear h hps
  obtain ⟨a0, c0, rfl⟩ := hs
  cases hi : isSysImpl v bs with
  | false =>
    rw [hi] at hc
    have HC := Lib.hid hc
    have hp : pointsCode v bs ps = 1 := by simp [pointsCode, hi]
    rw [hp]
    clear hc hi hp
    go_enter Try.func124, Try.ntmps124
    go_wp2_with (go_at_call 66; refine HC.out.mono ?_; rintro e w1 ⟨rfl, hb1⟩)
    go_ret
    exact RV_of rfl (((Below.refl _ _).alloc (Nat.le_refl _) _).trans (hb1.mono (by simp)))
  | true =>
    rw [hi] at hc
    have HC := Lib.hid hc
    obtain ⟨v3, v15, _⟩ := sys_size hi
    have hp : pointsCode v bs ps = if ps.all (inP v) then 0 else 2 := by simp [pointsCode, hi]
    have HP := Lib.hid hp
    clear hc hi hp
    go_enter Try.func124, Try.ntmps124
    go_wp2_with fail
    refine HC.out.mono ?_
    rintro e w1 ⟨rfl, hb1⟩
    have p0 := cell_new hb1 0 rfl
    have z1 := hb1.size
    simp at z1
    have hbw := ((Below.refl w.heap.size w).alloc (Nat.le_refl _) (.cells #[.int .i64 v, .slice a0 bs.length c0] 28)).trans (hb1.mono (by simp))
    have HI1 := Lib.hid (HPS.out.below hbw hb)
    clear hb1 HPS HC
    go_wp2_with fail
    go_loopw [5] (fun i wr => ∃ k : Nat, k ≤ ps.length ∧ i = .int .i64 k ∧ (∃ n, wr = w1.drewN n) ∧ Hid ((ps.take k).all (inP v) = true)) (fun i _ => ps.length - (intOf i).toNat)
    case atStart => exact ⟨0, Nat.zero_le _, rfl, ⟨0, rfl⟩, Lib.hid (by simp)⟩
    case round =>
      obtain ⟨k, hk, rfl, ⟨n, rfl⟩, HA⟩ := hrel
      by_cases hkl : k < ps.length
      · have hx := HI1.out k hkl
        obtain ⟨x, hxe⟩ : ∃ x, x = ps[k]?.getD 0 := ⟨_, rfl⟩
        rw [← hxe] at hx
        have hnx : (ps.take (k + 1)).all (inP v) = ((ps.take k).all (inP v) && inP v x) := by
          rw [take_next hkl, List.all_append, hxe, List.getElem?_eq_getElem hkl]
          simp only [Option.getD_some, List.all_cons, List.all_nil, Bool.and_true]
        have hall : inP v x = false → ps.all (inP v) = false := fun hf => by
          rw [List.all_eq_false]
          exact ⟨ps[k], List.getElem_mem hkl, by rw [hxe] at hf; simpa [hkl] using hf⟩
        have HNX := Lib.hid hnx
        have HALL := Lib.hid hall
        have g0 : (0 : Int) ≤ (k : Int) := by omega
        have g1 : (k : Int) < (ps.length : Int) := by omega
        have hc2 := fun W => l01In_any x 0 (v - 1) W
        have he : (decide (0 ≤ x) && decide (x ≤ v - 1)) = inP v x := by
          unfold inP
          rw [Bool.eq_iff_iff]
          simp
          omega
        rw [he] at hc2
        clear hnx hall hxe he
        cases hp : inP v x with
        | false =>
          rw [hp] at hc2
          have HC2 := Lib.hid hc2
          have HPX := Lib.hid hp
          clear hc2 hp
          go_wp2
          go_quiet ((go_at_call 67; exact RS.quiet2 (HC2.out _)))
          go_wp2
          go_ret
          exact RV_of (int_eq (by rw [HP.out, HALL.out HPX.out]; rfl)) (below_drewN (below_drewN hbw _) _)
        | true =>
          rw [hp] at hc2
          have HC2 := Lib.hid hc2
          have HPX := Lib.hid hp
          clear hc2 hp
          go_wp2
          go_quiet ((go_at_call 67; exact RS.quiet2 (HC2.out _)))
          go_wp2
          go_roundw
          case rel => exact ⟨k + 1, by omega, by go_num, ⟨_, rfl⟩, Lib.hid (by rw [HNX.out, HA.out, HPX.out]; rfl)⟩
          case measure => simp [intOf]; omega
      · go_wp2
        go_ret
        have e : k = ps.length := by omega
        subst e
        have := HA.out
        rw [List.take_length] at this
        exact RV_of (int_eq (by rw [HP.out, this]; rfl)) (below_drewN hbw _)

theorem ints2 {w : World} {b : Nat} {x y : Int} (h0 : w.cell? ⟨b, 0, none⟩ = some (.int .i64 x)) (h1 : w.cell? ⟨b, 1, none⟩ = some (.int .i64 y)) : Ints w b 0 [x, y] := by
  intro k hk
  match k, hk with
  | 0, _ => simpa using h0
  | 1, _ => simpa using h1
end Go.Proofs.Ytlkjacgpjolbdaa

namespace Go.Proofs.Ytlkjacgpjolbdaa
def dblB (v : Int) (x : Blk) : List Blk := [⟨x.a, v + x.b, v + x.c⟩, ⟨x.b, v + x.a, v + x.c⟩, ⟨x.c, v + x.a, v + x.b⟩]
def dblP (v : Int) (k : Nat) : List Blk := (List.range k).map fun (a : Nat) => ⟨(a : Int), v + (a : Int), 2 * v⟩
theorem dblP_succ (v : Int) (k : Nat) : dblP v (k + 1) = dblP v k ++ [⟨(k : Int), v + (k : Int), 2 * v⟩] := by simp [dblP, List.range_succ]
theorem dblP_len (v : Int) (k : Nat) : (dblP v k).length = k := by simp [dblP]
def dblA (v : Int) (bs : List Blk) (k : Nat) : List Blk := bs ++ (bs.take k).flatMap (dblB v)
theorem dblA_succ {v : Int} {bs : List Blk} {k : Nat} (hk : k < bs.length) {x : Blk} (hx : bs[k]? = some x) : dblA v bs (k + 1) = dblA v bs k ++ dblB v x := by
  have e : bs[k] = x := by
    rw [List.getElem?_eq_getElem hk] at hx
    simpa using hx
  unfold dblA
  rw [List.take_succ_eq_append_getElem hk, e, List.flatMap_append, List.append_assoc]
  simp
theorem dblB_len (v : Int) : ∀ l : List Blk, (l.flatMap (dblB v)).length = 3 * l.length
  | [] => rfl
  | x :: r => by rw [List.flatMap_cons, List.length_append, dblB_len v r]; simp [dblB]; omega
theorem dblA_len (v : Int) (bs : List Blk) {k : Nat} (hk : k ≤ bs.length) : (dblA v bs k).length = bs.length + 3 * k := by
  unfold dblA
  rw [List.length_append, dblB_len, List.length_take, Nat.min_eq_left hk]
def dblL (v : Int) (bs : List Blk) : List Blk := dblA v bs bs.length ++ dblP v v.toNat
theorem dblL_len (v : Int) (bs : List Blk) : (dblL v bs).length = bs.length + 3 * bs.length + v.toNat := by
  unfold dblL
  rw [List.length_append, dblA_len v bs (Nat.le_refl _), dblP_len]
theorem dblL_mem {v : Int} (hv : 0 ≤ v) (hv15 : v ≤ 15) {bs : List Blk} (hg : ∀ x ∈ bs, goodB v x = true) : ∀ x ∈ dblL v bs, (0 ≤ x.a ∧ x.a ≤ 1000) ∧ (0 ≤ x.b ∧ x.b ≤ 1000) ∧ (0 ≤ x.c ∧ x.c ≤ 1000) := by
  intro x hx
  unfold dblL dblA at hx
  rw [List.take_length] at hx
  rcases List.mem_append.1 hx with hx | hx
  · rcases List.mem_append.1 hx with hx | hx
    · have := goodB_iff.1 (hg x hx); omega
    · obtain ⟨y, hy, hxy⟩ := List.mem_flatMap.1 hx
      have := goodB_iff.1 (hg y hy)
      simp only [dblB, List.mem_cons, List.not_mem_nil, or_false] at hxy
      rcases hxy with rfl | rfl | rfl <;> (dsimp only; omega)
  · obtain ⟨a, ha, rfl⟩ := List.mem_map.1 hx
    have := List.mem_range.1 ha
    dsimp only
    omega
/-- The smallest, the middle and the greatest of three. -/
def blk3 (a b c : Int) : Blk := ⟨min (min a b) c, a + b + c - min (min a b) c - max (max a b) c, max (max a b) c⟩
theorem blk3_of {a b c p q r : Int} (hp : p = min (min a b) c) (hr : r = max (max a b) c) (hq : q = a + b + c - p - r) : blk3 a b c = ⟨p, q, r⟩ := by
  unfold blk3
  rw [← hp, ← hr, ← hq]
end Go.Proofs.Ytlkjacgpjolbdaa

namespace Go.Proofs.Ytlkjacgpjolbdaa
/-- Each number is a point, and comes once. -/
def rnGo (v : Int) : List Int → List Int → Bool
  | _, [] => true
  | seen, a :: r => inP v a && !(decide (a ∈ seen)) && rnGo v (seen ++ [a]) r
def isRen (v : Int) (p : List Int) : Bool := decide ((p.length : Int) = v) && rnGo v [] p
theorem rnGo_in {v : Int} : ∀ {l seen : List Int}, rnGo v seen l = true → ∀ a ∈ l, inP v a = true
  | [], _, _, a, h => by cases h
  | b :: r, seen, h, a, ha => by
    simp only [rnGo, Bool.and_eq_true] at h
    rcases List.mem_cons.1 ha with rfl | ha
    · exact h.1.1
    · exact rnGo_in h.2 a ha
theorem rnGo_bad {v : Int} {a : Int} {r seen : List Int} (h : inP v a = false) : rnGo v seen (a :: r) = false := by simp [rnGo, h]
theorem rnGo_dup {v : Int} {a : Int} {r seen : List Int} (h : a ∈ seen) : rnGo v seen (a :: r) = false := by simp [rnGo, h]
theorem rnGo_next {v : Int} {a : Int} {r seen : List Int} (h : inP v a = true) (h2 : a ∉ seen) : rnGo v seen (a :: r) = rnGo v (seen ++ [a]) r := by simp [rnGo, h, h2]
def at0 (p : List Int) (a : Int) : Int := p[a.toNat]?.getD 0
def renB (p : List Int) (x : Blk) : Blk := blk3 (at0 p x.a) (at0 p x.b) (at0 p x.c)
/-- A system and a code: points, blocks, code. -/
def renF (v : Int) (bs : List Blk) (p : List Int) : Int × List Blk × Int :=
  if isSysImpl v bs then (if isRen v p then (v, sortB (bs.map (renB p)), 0) else (0, [], 2)) else (0, [], 1)
theorem renF_len (v : Int) (bs : List Blk) (p : List Int) : (renF v bs p).2.1.length ≤ bs.length := by
  unfold renF
  split
  · split
    · simp only [sortB_length, List.length_map]; exact Nat.le_refl _
    · simp
  · simp
theorem at0_in {v : Int} {p : List Int} (h : isRen v p = true) {a : Int} (h0 : 0 ≤ a) (h1 : a < v) : 0 ≤ at0 p a ∧ at0 p a < v := by
  unfold isRen at h
  simp only [Bool.and_eq_true, decide_eq_true_eq] at h
  have hl : a.toNat < p.length := by omega
  have := rnGo_in h.2 p[a.toNat] (List.getElem_mem hl)
  rw [inP] at this
  simp only [Bool.and_eq_true, decide_eq_true_eq] at this
  unfold at0
  rw [List.getElem?_eq_getElem hl]
  exact this
theorem blk3_in {v a b c : Int} (ha : 0 ≤ a ∧ a < v) (hb : 0 ≤ b ∧ b < v) (hc : 0 ≤ c ∧ c < v) : (0 ≤ (blk3 a b c).a ∧ (blk3 a b c).a < v) ∧ (0 ≤ (blk3 a b c).b ∧ (blk3 a b c).b < v) ∧ (0 ≤ (blk3 a b c).c ∧ (blk3 a b c).c < v) := by
  unfold blk3
  dsimp only
  omega
/-- The middle one. -/
theorem blk3_good {v a b c : Int} : goodB v (blk3 a b c) = true ↔ (0 ≤ a ∧ a < v) ∧ (0 ≤ b ∧ b < v) ∧ (0 ≤ c ∧ c < v) ∧ a ≠ b ∧ b ≠ c ∧ a ≠ c := by
  rw [goodB_iff]
  unfold blk3
  dsimp only
  omega
def b3 (x : Blk) : Blk := blk3 x.a x.b x.c
def sysOfF (v : Int) (bs : List Blk) : Int × List Blk × Int :=
  if decide (3 ≤ v) && decide (v ≤ 15) && decide (bs.length ≤ 35) && bs.all (fun x => goodB v (b3 x)) then
    (if shareGo [] (bs.map b3) then (0, [], 5) else (v, sortB (bs.map b3), 0))
  else (0, [], 2)
theorem sort3 (a b c : Int) : [a, b, c].mergeSort (fun x y => decide (x ≤ y)) = [(blk3 a b c).a, (blk3 a b c).b, (blk3 a b c).c] := by
  have hs : ([a, b, c].mergeSort (fun x y => decide (x ≤ y))).Pairwise (· ≤ ·) := by
    have := List.pairwise_mergeSort (le := fun x y : Int => decide (x ≤ y)) (fun x y z h1 h2 => by simp at *; omega) (fun x y => by simp; omega) [a, b, c]
    exact this.imp (by simp)
  have hp := List.mergeSort_perm [a, b, c] (fun x y : Int => decide (x ≤ y))
  have hs2 : [(blk3 a b c).a, (blk3 a b c).b, (blk3 a b c).c].Pairwise (· ≤ ·) := by
    unfold blk3
    simp
    omega
  have hp2 : [(blk3 a b c).a, (blk3 a b c).b, (blk3 a b c).c].Perm [a, b, c] := by
    unfold blk3
    dsimp only
    rw [List.perm_iff_count]
    intro x
    simp only [List.count_cons, List.count_nil, beq_iff_eq]
    by_cases h1 : a ≤ b <;> by_cases h2 : b ≤ c <;> by_cases h3 : a ≤ c <;> simp only [Int.min_def, Int.max_def, h1, h2, h3, if_true, if_false] <;> (try omega) <;> (repeat' split) <;> omega
  exact (hp.trans hp2.symm).eq_of_pairwise (fun x y _ _ h1 h2 => by omega) hs hs2
end Go.Proofs.Ytlkjacgpjolbdaa

namespace Go.Proofs.Ytlkjacgpjolbdaa
open Go.RowKit Go.Maps Go.Shelf
/-- Whether p is in the list. -/
def inL (p : Int) (zs : List Int) : Bool := zs.any fun z => p == z
theorem Index_any (b off cap : Nat) (zs : List Int) (p : Int) (w : World) (h : Ints w b off zs) (m1 : zs.length ≤ 9223372036854775807) :
    Calls Try.prog 127 #[.slice (some ⟨b, off, none⟩) zs.length cap, .int .i64 p] w fun e w' => ∃ r : Int, e = .returned (.int .i64 r) ∧ w = w' ∧ (decide (r ≥ 0) = inL p zs) := by
  have H1 := Lib.hid h
  clear h
  go_enter Try.func127, Try.ntmps127
  go_wp2
  go_loop [8] (fun i => ∃ k : Nat, k ≤ zs.length ∧ i = .int .i64 k ∧ Hid (inL p zs = inL p (zs.drop k))) (fun i => zs.length - (intOf i).toNat)
  case atStart => exact ⟨0, Nat.zero_le _, rfl, Lib.hid (by simp)⟩
  case round =>
    obtain ⟨k, hk, rfl, HE⟩ := hrel
    by_cases hlt : k < zs.length
    · obtain ⟨x, r, e1, e2, hc1⟩ := ints_next H1.out hlt
      rw [e1] at HE
      have E2 := Lib.hid e2
      clear e1 e2
      go_wp2
      · have hne : (p == x) = true := by assumption
        go_ret
        exact ⟨_, rfl, rfl, by rw [HE.out]; simp [inL, hne]⟩
      · have hne : (p == x) = false := by assumption
        go_round
        case rel => exact ⟨k + 1, by omega, by go_num, Lib.hid (by rw [HE.out, E2.out]; simp [inL, hne])⟩
        case measure => simp [intOf]; omega
    · go_wp2
      go_ret
      exact ⟨_, rfl, rfl, by rw [HE.out, List.drop_eq_nil_of_le (by omega : zs.length ≤ k)]; simp [inL]⟩
theorem Contains_any (b off cap : Nat) (zs : List Int) (p : Int) (w : World) (h : Ints w b off zs) (m1 : zs.length ≤ 9223372036854775807) :
    Calls Try.prog 151 #[.slice (some ⟨b, off, none⟩) zs.length cap, .int .i64 p] w (RS (.bool (inL p zs)) w) := by
  go_enter Try.func151, Try.ntmps151
  go_wp2_with (go_at_call 127; refine (Index_any _ _ _ _ _ _ h m1).mono ?_; rintro e w' ⟨r, rfl, rfl, hr⟩)
  go_ret
  exact RS_of rfl
theorem inL3 (x : Blk) (p : Int) : inL p [x.a, x.b, x.c] = hasB x p := by
  unfold inL hasB
  rw [Bool.eq_iff_iff]
  simp [eq_comm (a := p), or_assoc]
theorem isPointI_any (v a : Int) (w : World) : Calls Try.prog 111 #[.int .i64 v, .int .i64 a] w (RS (.bool (inP v a)) w) := by
  unfold inP
  go_enter Try.func111, Try.ntmps111
  go_wp2
  all_goals go_ret
  all_goals refine RS_of (bool_eq ?_)
  all_goals simp_all
  all_goals omega
end Go.Proofs.Ytlkjacgpjolbdaa

namespace Go.Proofs.Ytlkjacgpjolbdaa
open Go.RowKit Go.Maps Go.Shelf
attribute [local go_sem] Oper.semAt_some
/-- The blocks through p among the first k, each with its index. -/
def upTo (p : Int) (bs : List Blk) (k : Nat) : List (Nat × Blk) := ((List.range k).map fun j => (j, bs[j]?.getD default)).filter fun q => hasB q.2 p
theorem upTo_succ (p : Int) (bs : List Blk) (k : Nat) : upTo p bs (k + 1) = upTo p bs k ++ if hasB (bs[k]?.getD default) p then [(k, bs[k]?.getD default)] else [] := by
  unfold upTo
  rw [List.range_succ, List.map_append, List.filter_append]
  congr 1
  simp [List.filter_cons]
theorem upTo_len (p : Int) (bs : List Blk) (k : Nat) : (upTo p bs k).length ≤ k := by
  unfold upTo
  refine Nat.le_trans (List.length_filter_le _ _) ?_
  simp
/-- What a round that goes on keeps: old memory, and the box at Bp. -/
def KpB (n₀ Bp : Nat) (A B : World) : Prop := Below n₀ A B ∧ ∀ v, A.cell? ⟨Bp, 0, none⟩ = some v → B.cell? ⟨Bp, 0, none⟩ = some v
theorem KpB.refl (n₀ Bp : Nat) (A : World) : KpB n₀ Bp A A := ⟨Below.refl _ _, fun _ h => h⟩
theorem KpB.trans {n₀ Bp : Nat} {A B C : World} (h : KpB n₀ Bp A B) (k : KpB n₀ Bp B C) : KpB n₀ Bp A C := ⟨h.1.trans k.1, fun v hv => k.2 v (h.2 v hv)⟩
theorem KpB.put {n₀ Bp : Nat} {w : World} (hn : n₀ ≤ w.heap.size) (W : World) (l : Nat) (o o' : Obj) (hl : w.heap.size ≤ l) (h : W.heap[l]? = some o) (hc : o.isCells = false) (hw : o.isWalk = false) : KpB n₀ Bp W (W.putObj l o') :=
  ⟨belowK_b hn W l o o' hl h hc hw, fun v hv => cell_kept hv (grownBy_putObj' W l o') (fun r e => by cases e; exact ⟨_, h, hc⟩)⟩
theorem RS.quietIn {r : Nat} {P : Program} {f : FuncId} {args : Array Value} {w : World} {n : Nat} {v : Value} (h : Calls P f args (w.drewN n) (RS v (w.drewN n))) :
    CallsIn Fence.wide r P f args (w.drewN n) fun e w'' => e = .returned v ∧ ∃ m, w'' = w.drewN m := callsIn_wide.2 (RS.quiet h)
theorem wide_asked {P : Program} {C : World → Prop} {o : Oper} {a : Act} : o.askedIn Fence.wide P a C := fun _ _ _ _ => trivial
theorem grown_drewN (w : World) (n : Nat) : w.grownBy (w.drewN n) none := ⟨rfl, rfl, rfl, Nat.le_refl _, fun _ _ _ => rfl⟩
theorem cell_drewN {w : World} {p : Addr} {u : Value} (h : w.cell? p = some u) (n : Nat) : (w.drewN n).cell? p = some u := h
theorem yes_no {e : Ending} {p q : Prop} (h : (e = .returned (.bool true) ∧ p) ∨ (e = .returned (.bool false) ∧ q)) : ∃ β, e = .returned (.bool β) ∧ (if β = true then p else q) := by
  rcases h with ⟨rfl, h⟩ | ⟨rfl, h⟩
  · exact ⟨true, rfl, by simpa using h⟩
  · exact ⟨false, rfl, by simpa using h⟩
/-- The encoding of a round's two variables. -/
def encQ (x : Nat × Blk) : Array Value := #[.int .i64 (x.1 : Int), bv x.2]
end Go.Proofs.Ytlkjacgpjolbdaa

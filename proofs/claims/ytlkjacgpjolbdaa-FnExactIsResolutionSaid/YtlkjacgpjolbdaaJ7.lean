
/- The model's common point of two blocks. The model's other points of a block. The model's order of lists of integers. The model's test whether two lists are the same, and its number of a block. The contract of slices.Grow, laid at []int64. slices.Concat of rows of integers. The contract of slices.Sort, laid at []int64. slices.Sort of a list of the call's own, and slices.Equal, at integers. Resolutions: plain. Rows of blocks that are written and sorted in place. append of many blocks to a list of the call's own. -/
import Derived.Test.YtlkjacgpjolbdaaJ6
import Derived.Deep.RegionHeld3
import Derived.BigQuiet
import Derived.Shelf.Spec.SlicesGrow
import Derived.Ground.Names8Prog
import Derived.Test.YtlkjacgpjolbdaaProg
import Derived.Shelf.SortM.Plain
import Derived.Ground.SlgmProg
import Derived.Shelf.SortM.SortNone
import Derived.Lib.OwnBridge
import Derived.Shelf.SlSortCmp.NoneTotal
import Derived.Deep.RegionLaw
import Derived.Deep.AppendLies
namespace Go.Proofs.Ytlkjacgpjolbdaa
open Go.RowKit Go.Maps
/-- Two blocks that came in, in their boxes. -/
structure Two (w' : World) (b : Nat) (x y : Blk) : Prop where
  x0 : w'.cell? ⟨b, 0, none⟩ = some (.int .i64 x.a)
  x1 : w'.cell? ⟨b, 1, none⟩ = some (.int .i64 x.b)
  x2 : w'.cell? ⟨b, 2, none⟩ = some (.int .i64 x.c)
  y0 : w'.cell? ⟨b + 1, 0, none⟩ = some (.int .i64 y.a)
  y1 : w'.cell? ⟨b + 1, 1, none⟩ = some (.int .i64 y.b)
  y2 : w'.cell? ⟨b + 1, 2, none⟩ = some (.int .i64 y.c)
theorem Two.below {w w' : World} {b B : Nat} {x y : Blk} (h : Two w b x y) (hb : Below B w w') (hB : b + 1 < B) : Two w' b x y :=
  ⟨(hb.cell (p := ⟨b, 0, none⟩) (by show b < B; omega)).trans h.x0, (hb.cell (p := ⟨b, 1, none⟩) (by show b < B; omega)).trans h.x1, (hb.cell (p := ⟨b, 2, none⟩) (by show b < B; omega)).trans h.x2, (hb.cell (p := ⟨b + 1, 0, none⟩) hB).trans h.y0, (hb.cell (p := ⟨b + 1, 1, none⟩) hB).trans h.y1, (hb.cell (p := ⟨b + 1, 2, none⟩) hB).trans h.y2⟩
def meetK (x y : Blk) : Nat → Bool
  | 0 => true
  | 1 => !hasB y x.a
  | 2 => !hasB y x.a && !hasB y x.b
  | _ => !hasB y x.a && !hasB y x.b && !hasB y x.c
def comI (x y : Blk) : Int := (comP x y).getD (-1)
end Go.Proofs.Ytlkjacgpjolbdaa

namespace Go.Proofs.Ytlkjacgpjolbdaa
open Go.RowKit Go.Maps
def othersP (x : Blk) (a : Int) : Int × Int := if a = x.a then (x.b, x.c) else if a = x.b then (x.a, x.c) else (x.a, x.b)
end Go.Proofs.Ytlkjacgpjolbdaa

namespace Go.Proofs.Ytlkjacgpjolbdaa
open Go.RowKit Go.Maps
/-- Lexicographic, a shorter list first. -/
def lexL : List Int → List Int → Bool
  | [], [] => false
  | [], _ :: _ => true
  | _ :: _, [] => false
  | a :: r, b :: t => if a = b then lexL r t else decide (a < b)
theorem lexL_end (ps qs : List Int) (h : ps = [] ∨ qs = []) : lexL ps qs = decide (ps.length < qs.length) := by
  cases ps <;> cases qs <;> simp_all [lexL]
/-- Returns a value and draws alone. -/
def RD (v : Value) (w : World) (e : Ending) (w' : World) : Prop := e = .returned v ∧ ∃ n, w' = w.drewN n
theorem drewN_add (w : World) (a b : Nat) : (w.drewN a).drewN b = w.drewN (a + b) := by simp [World.drewN, Nat.add_assoc]
theorem RD_of {v u : Value} {w w' : World} {n : Nat} (h : u = v) (hw : w' = w.drewN n) : RD v w (.returned u) w' := ⟨by rw [h], n, hw⟩
theorem RD.rv {P : Program} {f : FuncId} {args : Array Value} {w : World} {v : Value} (h : Calls P f args w (RD v w)) : Calls P f args w (RV v w) :=
  h.mono fun _ _ ⟨he, n, hn⟩ => ⟨he, by rw [hn]; exact below_drewN (Below.refl _ _) _⟩
theorem RD.quiet2 {P : Program} {f : FuncId} {args : Array Value} {w : World} {a n : Nat} {v : Value} (h : Calls P f args (w.drewN (a + n)) (RD v (w.drewN (a + n)))) :
    Calls P f args (w.drewN (a + n)) fun e w'' => e = .returned v ∧ ∃ m, w'' = w.drewN (a + m) :=
  h.mono fun _ _ ⟨he, m, hm⟩ => ⟨he, n + m, by rw [hm, drewN_add, Nat.add_assoc]⟩
theorem RD.quiet {P : Program} {f : FuncId} {args : Array Value} {w : World} {n : Nat} {v : Value} (h : Calls P f args (w.drewN n) (RD v (w.drewN n))) :
    Calls P f args (w.drewN n) fun e w'' => e = .returned v ∧ ∃ m, w'' = w.drewN m :=
  h.mono fun _ _ ⟨he, m, hm⟩ => ⟨he, n + m, by rw [hm, drewN_add]⟩
set_option maxRecDepth 100000 in
theorem l03LessD_any (s t : Value) (ps qs : List Int) (w : World) (h : IB w s ps) (k : IB w t qs) : Calls Try.prog 93 #[s, t] w (RD (.bool (lexL ps qs)) w) := by
  have hs : ∃ a c, s = .slice a ps.length c := by rcases h.2 with ⟨a, c, rfl, rfl⟩ | ⟨b, off, cap, rfl, _⟩ <;> exact ⟨_, _, rfl⟩
  have ht : ∃ a c, t = .slice a qs.length c := by rcases k.2 with ⟨a, c, rfl, rfl⟩ | ⟨b, off, cap, rfl, _⟩ <;> exact ⟨_, _, rfl⟩
  have H := Lib.hid h
  have K := Lib.hid k
  have hl := h.1
  have kl := k.1
  clear h k
  obtain ⟨a0, c0, rfl⟩ := hs
  obtain ⟨a1, c1, rfl⟩ := ht
  go_enter Try.func93, Try.ntmps93
  go_wp2
  go_loopw [5] (fun i wr => ∃ k : Nat, k ≤ ps.length ∧ k ≤ qs.length ∧ i = .int .i64 k ∧ (∃ n, wr = w.drewN n) ∧ Hid (lexL ps qs = lexL (ps.drop k) (qs.drop k))) (fun i _ => ps.length - (intOf i).toNat)
  case atStart => exact ⟨0, Nat.zero_le _, Nat.zero_le _, rfl, ⟨0, rfl⟩, Lib.hid (by simp)⟩
  case round =>
    obtain ⟨k, hk1, hk2, rfl, ⟨n, rfl⟩, HE⟩ := hrel
    by_cases h1 : k < ps.length
    · have i1 : decide ((k : Int) < (ps.length : Int)) = true := by simpa using h1
      by_cases h2 : k < qs.length
      · have i2 : decide ((k : Int) < (qs.length : Int)) = true := by simpa using h2
        rcases H.out.2 with ⟨_, _, _, hnil⟩ | ⟨b, off, cap, hv, hlt, hI⟩
        · exfalso; rw [hnil] at h1; simp at h1
        rcases K.out.2 with ⟨_, _, _, hnil⟩ | ⟨b', off', cap', hv', hlt', hI'⟩
        · exfalso; rw [hnil] at h2; simp at h2
        simp at hv hv'
        obtain ⟨rfl, rfl⟩ := hv
        obtain ⟨rfl, rfl⟩ := hv'
        have d0 := hI k h1
        have d1 := hI' k h2
        have e0 : ps.drop k = (ps[k]?.getD 0) :: ps.drop (k + 1) := by rw [List.drop_eq_getElem_cons h1]; simp [h1]
        have e1 : qs.drop k = (qs[k]?.getD 0) :: qs.drop (k + 1) := by rw [List.drop_eq_getElem_cons h2]; simp [h2]
        obtain ⟨x, hx⟩ : ∃ x, x = ps[k]?.getD 0 := ⟨_, rfl⟩
        obtain ⟨y, hy⟩ : ∃ y, y = qs[k]?.getD 0 := ⟨_, rfl⟩
        rw [← hx] at d0 e0
        rw [← hy] at d1 e1
        have he := HE.out
        rw [e0, e1, lexL] at he
        have g0 : (0 : Int) ≤ (k : Int) := by omega
        have g1 : (k : Int) < (ps.length : Int) := by omega
        have g2 : (k : Int) < (qs.length : Int) := by omega
        clear hx hy e0 e1 hI hI' HE
        by_cases e : x = y
        · have q1 : (x != y) = false := by simpa using e
          have q2 : decide (x = y) = true := by simpa using e
          have HN := Lib.hid (show lexL ps qs = lexL (ps.drop (k + 1)) (qs.drop (k + 1)) by rw [he, if_pos e])
          clear he e
          go_wp2
          go_quiet (fail)
          go_wp2
          go_roundw
          case rel => exact ⟨k + 1, by omega, by omega, by go_num, ⟨_, rfl⟩, HN⟩
          case measure => simp [intOf]; omega
        · have q1 : (x != y) = true := by simpa using e
          have q2 : decide (x = y) = false := by simpa using e
          have HN := Lib.hid (show lexL ps qs = decide (x < y) by rw [he, if_neg e])
          clear he e
          go_wp2
          go_quiet (fail)
          go_wp2
          go_quiet (fail)
          go_wp2
          go_ret
          exact RD_of (bool_eq (by rw [HN.out])) (by simp only [drewN_add]; rfl)
      · have i2 : decide ((k : Int) < (qs.length : Int)) = false := by simpa using h2
        have HN := Lib.hid (show lexL ps qs = decide (ps.length < qs.length) by
          rw [HE.out, lexL_end _ _ (.inr (List.drop_eq_nil_of_le (by omega)))]
          rw [decide_eq_decide, List.length_drop, List.length_drop]
          omega)
        go_wp2
        go_ret
        exact RD_of (bool_eq (by rw [HN.out, decide_eq_decide] <;> omega)) rfl
    · have i1 : decide ((k : Int) < (ps.length : Int)) = false := by simpa using h1
      have HN := Lib.hid (show lexL ps qs = decide (ps.length < qs.length) by
        rw [HE.out, lexL_end _ _ (.inl (List.drop_eq_nil_of_le (by omega)))]
        rw [decide_eq_decide, List.length_drop, List.length_drop]
        omega)
      go_wp2
      go_ret
      exact RD_of (bool_eq (by rw [HN.out, decide_eq_decide] <;> omega)) rfl
theorem l03Less_any (s t : Value) (ps qs : List Int) (w : World) (h : IB w s ps) (k : IB w t qs) : Calls Try.prog 93 #[s, t] w (RV (.bool (lexL ps qs)) w) := RD.rv (l03LessD_any s t ps qs w h k)
end Go.Proofs.Ytlkjacgpjolbdaa

namespace Go.Proofs.Ytlkjacgpjolbdaa
open Go.RowKit Go.Maps
theorem lexL_irr : ∀ ps : List Int, lexL ps ps = false
  | [] => rfl
  | a :: r => by rw [lexL, if_pos rfl]; exact lexL_irr r
theorem lexL_eq : ∀ ps qs : List Int, lexL ps qs = false → lexL qs ps = false → ps = qs
  | [], [], _, _ => rfl
  | [], _ :: _, h, _ => by simp [lexL] at h
  | _ :: _, [], _, h => by simp [lexL] at h
  | a :: r, b :: t, h, k => by
    rw [lexL] at h k
    by_cases e : a = b
    · subst e
      rw [if_pos rfl] at h k
      rw [lexL_eq r t h k]
    · rw [if_neg e] at h
      rw [if_neg (fun q => e q.symm)] at k
      simp at h k
      omega
theorem lexL_trans : ∀ {ps qs rs : List Int}, lexL ps qs = true → lexL qs rs = true → lexL ps rs = true
  | [], [], _, h, _ => by simp [lexL] at h
  | [], _ :: _, [], _, h => by simp [lexL] at h
  | [], _ :: _, _ :: _, _, _ => by simp [lexL]
  | _ :: _, [], _, h, _ => by simp [lexL] at h
  | _ :: _, _ :: _, [], _, h => by simp [lexL] at h
  | a :: r, b :: t, c :: u, h, k => by
    rw [lexL] at h k ⊢
    by_cases e : a = b
    · subst e
      rw [if_pos rfl] at h
      by_cases e2 : a = c
      · subst e2
        rw [if_pos rfl] at k ⊢
        exact lexL_trans h k
      · rw [if_neg e2] at k ⊢
        exact k
    · rw [if_neg e] at h
      by_cases e2 : b = c
      · subst e2
        rw [if_neg e]
        exact h
      · rw [if_neg e2] at k
        simp at h k
        rw [if_neg (by omega)]
        simp
        omega
end Go.Proofs.Ytlkjacgpjolbdaa

namespace Go.Proofs
open Go.Shelf
def Try.growI_ren : Go.Shelf.Ren := ⟨fun | 4 => 153 | n => n, fun | 22 => 35 | 25 => 2 | 3 => 3 | 4 => 4 | 9 => 9 | 20 => 20 | 0 => 0 | n => n, fun | n => n⟩
theorem Try.growI : Go.Proofs.Lays8.n4 Try.prog Try.growI_ren := {
  mixed := by kernel_rfl
  f4 := ⟨Try.f153.name, by decide, Try.func153.trans (congrArg some (by kernel_rfl))⟩
  t0 := Try.underlying0
  a0 := Try.isAgg0
  z0 := Try.sizeOf0
  v0 := Try.zeroValue0
  t3 := Try.underlying3
  a3 := Try.isAgg3
  z3 := Try.sizeOf3
  v3 := Try.zeroValue3
  t4 := Try.underlying4
  a4 := Try.isAgg4
  z4 := Try.sizeOf4
  v4 := Try.zeroValue4
  t9 := Try.underlying9
  a9 := Try.isAgg9
  z9 := Try.sizeOf9
  v9 := Try.zeroValue9
  t20 := Try.underlying20
  a20 := Try.isAgg20
  z20 := Try.sizeOf20
  v20 := Try.zeroValue20
  t22 := Try.underlying35
  a22 := Try.isAgg35
  z22 := Try.sizeOf35
  v22 := Try.zeroValue35 }
end Go.Proofs

namespace Go.Proofs.Ytlkjacgpjolbdaa
open Go.RowKit Go.Maps Go.Shelf
theorem growS_any (n : Nat) (hn : n ≤ 4000000) (w : World) : Calls Try.prog 153 #[.slice none 0 0, .int .i64 (n : Int)] w (fun e w' => ∃ u, e = .returned u ∧ OwnJ w' w.heap.size u [] ∧ Below w.heap.size w w') := by
  by_cases h0 : n = 0
  · subst h0
    refine Calls.mono (Any8.slices_Grow_room Try.growI none 0 0 0 w (by omega) (by omega) (by omega) (by omega)) ?_
    rintro e w' ⟨rfl, rfl⟩
    exact ⟨_, rfl, OwnJ.nil _ _, Below.refl _ _⟩
  · obtain ⟨i0, hi, hz0, hz1, hz2⟩ := info_parts infoInt64
    refine Calls.mono (Any8.slices_Grow_grow Try.growI i0 _ hi hz0 (by rw [hz1]; omega) none 0 0 n [] w (by omega) (by omega) (by rw [hz2]; omega) (by omega) (by simp) (fun _ => rfl) (by simp)) ?_
    rintro e w' ⟨rfl, rfl⟩
    have hge := grownCap_ge w (0 + n) 0 (Try.growI_ren.t 25)
    have hle := grownCap_le_maxLen w (0 + n) 0 (Try.growI_ren.t 25) (by unfold maxLen; omega)
    refine ⟨_, rfl, World.ownsRow_made w.drew _ _ (Nat.le_refl _) hle ?_, (Below.refl _ _).drew.alloc (Nat.le_refl _) _⟩
    obtain ⟨cap, hcap⟩ : ∃ cap, cap = grownCap w (0 + n) 0 (Try.growI_ren.t 25) := ⟨_, rfl⟩
    rw [← hcap] at hge ⊢
    simp only [Array.size_append, List.size_toArray, List.length_nil, size_zeroCells, Value.cells]
    show 0 + (0 + n - 0) * 1 + (cap - (0 + n)) * 1 = cap * 1
    omega
theorem catF_tot (F : Nat → List Int) : ∀ n, (catF n F).length = tot F n
  | 0 => rfl
  | n + 1 => by rw [catF_succ, List.length_append, catF_tot F n, tot]
theorem wpList_append_intsN {w : World} {ops : Array Oper} {rest : List Oper} {o : Oper} {a : Act} {Q : Exit → Act → World → Prop} (hgd : o.guard = none) (s x : Operand)
    (ho : o.op = .call { callee := .builtin .append, args := #[s, x], argTypes := #[35, 35] })
    (base : Nat) (v : Value) (zs : List Int) (hs : a.eval s = v) (hown : OwnJ w base v zs) (b0 off m c : Nat) (ys : List Int) (hm : m = ys.length) (hm0 : 0 < m) (hx : a.eval x = .slice (some ⟨b0, off, none⟩) m c)
    (c1 : Ints w b0 off ys) (hl : zs.length + m ≤ 3300000) (hbase : base ≤ w.heap.size)
    (h : ∀ (g cap : Nat) (w' : World), OwnJ w' base (.slice (some ⟨g, 0, none⟩) (zs.length + m) cap) (zs ++ ys) → w.grownBy w' v.ownBlock → wpList Try.prog ops Q rest (a.put o.dst (.slice (some ⟨g, 0, none⟩) (zs.length + m) cap)) w') : wpList Try.prog ops Q (o :: rest) a w := by
  obtain ⟨i0, hi, hz0, hz1, hz2⟩ := info_parts infoInt64
  refine wpList_append_own w hgd s x 35 ho base 2 i0 _ 1 8 Try.underlying35 hi hz0 hz1 hz2 rfl (by decide) v zs.length (zs.map (Value.int .i64)) hs hown ⟨b0, off, none⟩ m c (ys.map (Value.int .i64)) hx (by rw [List.length_map]; omega) ?_ ?_ (by unfold maxLen; omega) (by omega) hbase ?_
  · intro j u hj
    rw [addr_at]
    rw [List.getElem?_map] at hj
    have hjl : j < ys.length := by
      rcases Nat.lt_or_ge j ys.length with h1 | h1
      · exact h1
      · rw [List.getElem?_eq_none h1] at hj; cases hj
    have := c1 j hjl
    rw [List.getElem?_eq_getElem hjl] at hj this
    simp at hj
    rw [← hj]
    simpa using this
  · intro u hu
    obtain ⟨y, _, rfl⟩ := List.mem_map.1 hu
    rfl
  · intro v' w' hown' hg _
    obtain ⟨k, rfl⟩ : ∃ k, m = k + 1 := ⟨m - 1, by omega⟩
    obtain ⟨g, cap, rfl⟩ := row_some (k := zs.length + k) hown'
    refine h g cap w' ?_ hg
    unfold OwnJ
    rw [List.length_append, ← hm, List.map_append]
    exact hown'
set_option maxRecDepth 100000 in
set_option maxHeartbeats 2000000 in
theorem concatS_any (s : Value) (n : Nat) (F : Nat → List Int) (w : World) (h : SSB w s n F) (h3 : ∀ k, k < n → 0 < (F k).length) (ht : tot F n ≤ 1100000) :
    Calls Try.prog 133 #[s] w (fun e w' => ∃ u, e = .returned u ∧ OwnJ w' w.heap.size u (catF n F) ∧ Below w.heap.size w w') := by
  have hn := h.1
  have hs : ∃ a c, s = .slice a n c := by
    rcases h.2 with ⟨rfl, a, c, rfl⟩ | ⟨b, off, cap, rfl, _⟩ <;> exact ⟨_, _, rfl⟩
  have HSS := Lib.hid h
  have H3 := Lib.hid h3
  have HG := Lib.hid (growS_any (tot F n) (by omega) w)
  have HTL := Lib.hid fun k (hk : k ≤ n) => Nat.le_trans (tot_le F hk) ht
  clear h h3
  obtain ⟨a, c, rfl⟩ := hs
  have HROW := Lib.hid (show ∀ k, k < n → ∃ b off cap b' off' c', a = some ⟨b, off, none⟩ ∧ c = cap ∧ b < w.heap.size ∧ b' < w.heap.size ∧ 0 < (F k).length ∧ w.cell? ⟨b, off + k, none⟩ = some (.slice (some ⟨b', off', none⟩) (F k).length c') ∧ Ints w b' off' (F k) from fun k hk => by
    rcases HSS.out.2 with ⟨h0, _⟩ | ⟨b, off, cap, e, hlt, hr⟩
    · omega
    · simp at e
      obtain ⟨rfl, rfl⟩ := e
      obtain ⟨a', c', hc, hi⟩ := hr k hk
      have h0 := H3.out k hk
      rcases hi.2 with ⟨_, _, _, hnil⟩ | ⟨b', off', cap', e', hlt', hr'⟩
      · rw [hnil] at h0; simp at h0
      · simp at e'
        obtain ⟨rfl, rfl⟩ := e'
        exact ⟨b, off, c, b', off', c', rfl, rfl, hlt, hlt', h0, hc, hr'⟩)
  go_enter Try.func133, Try.ntmps133
  go_wp2_with fail
  go_loopw [3, 11] (fun z i wr => ∃ k : Nat, k ≤ n ∧ i = .int .i64 k ∧ z = .int .i64 ((tot F k : Nat) : Int) ∧ wr = w) (fun _ i _ => n - (intOf i).toNat)
  case atStart => exact ⟨0, Nat.zero_le _, rfl, rfl, rfl⟩
  case round =>
    obtain ⟨k, hk, rfl, rfl, rfl⟩ := hrel
    by_cases hkl : k < n
    · obtain ⟨b, off, cap, b', off', c', rfl, rfl, hlt, hlt', h0, q0, q1⟩ := HROW.out k hkl
      have ht1 := HTL.out (k + 1) hkl
      have ets : tot F (k + 1) = tot F k + (F k).length := rfl
      have HTS := Lib.hid ets
      rw [ets] at ht1
      obtain ⟨T, hT⟩ : ∃ T, T = tot F k := ⟨_, rfl⟩
      obtain ⟨m, hm⟩ : ∃ m, m = (F k).length := ⟨_, rfl⟩
      rw [← hT, ← hm] at ht1 HTS
      rw [← hm] at q0
      rw [← hT]
      clear q1 ets hT hm h0
      go_wp2
      go_roundw
      case rel => refine ⟨k + 1, by omega, by go_num, ?_, ?_⟩ <;> first | trivial | rfl | (rw [HTS.out]; go_num) | go_num | omega | (congr 1; omega)
      case measure => simp [intOf]; omega
    · have e : k = n := by omega
      subst e
      clear hkl hk
      obtain ⟨W0, rfl⟩ : ∃ W0, W0 = wr := ⟨_, rfl⟩
      go_wp2_with fail
      refine HG.out.mono ?_
      rintro e w1 ⟨u1, rfl, ho1, hb1⟩
      have hf1 : ∃ a c, u1 = .slice a 0 c := by
        rcases ho1.2 with ⟨rfl, _⟩ | ⟨g, cap, cur, rfl, _⟩ <;> exact ⟨_, _, rfl⟩
      have HO1 := Lib.hid ho1
      have HB1 := Lib.hid hb1
      clear ho1 hb1
      go_wp2_with fail
      go_loopw [6, 27] (fun o i w2 => ∃ j : Nat, j ≤ k ∧ i = .int .i64 j ∧ Below W0.heap.size W0 w2 ∧ OwnJ w2 W0.heap.size o (catF j F) ∧ ∃ a n c, o = .slice a n c) (fun _ i _ => k - (intOf i).toNat)
      case atStart =>
        obtain ⟨a1, c1, rfl⟩ := hf1
        exact ⟨0, Nat.zero_le _, rfl, HB1.out, HO1.out, _, _, _, rfl⟩
      case round =>
        obtain ⟨j, hj, rfl, hB2, hO, hform⟩ := hrel
        have hz2 := hB2.size
        by_cases hjl : j < k
        · obtain ⟨b, off, cap, b', off', c', rfl, rfl, hlt, hlt', h0, q0, q1⟩ := HROW.out j hjl
          have r0 := (hB2.cell (p := ⟨b, off + j, none⟩) hlt).trans q0
          have HQ := Lib.hid (q1.below hB2 hlt')
          have HCL := Lib.hid (catF_succ j F)
          have hle : (catF j F).length + (F j).length ≤ 3300000 := by
            have h1 := HTL.out (j + 1) hjl
            have h2 : tot F (j + 1) = tot F j + (F j).length := rfl
            rw [catF_tot]
            omega
          obtain ⟨m, hm⟩ : ∃ m, m = (F j).length := ⟨_, rfl⟩
          rw [← hm] at r0 hle h0
          have HM := Lib.hid hm
          obtain ⟨a3, n3, c3, rfl⟩ := hform
          have HO := Lib.hid hO
          have HB := Lib.hid hB2
          clear q0 q1 hO hB2 hm
          go_wp2_with (at_builtin; refine wpList_append_intsN rfl _ _ rfl W0.heap.size _ (catF j F) rfl HO.out b' off' m _ (F j) HM.out h0 rfl HQ.out hle hz2 ?_; intro g' cap' w4 hO4 hg4)
          have hrow := HO.out.row
          go_roundw
          case rel => exact ⟨j + 1, by omega, by go_num, HB.out.grown hg4 hz2 (fun j e => hrow j e), by rw [HCL.out]; exact hO4, _, _, _, rfl⟩
          case measure => simp [intOf]; omega
        · have e : j = k := by omega
          subst e
          obtain ⟨a3, n3, c3, rfl⟩ := hform
          go_wp2
          go_ret
          exact ⟨_, rfl, hO, hB2⟩
end Go.Proofs.Ytlkjacgpjolbdaa

namespace Go.Proofs
open Go.Shelf
def Try.sortI_ren : Go.Shelf.Ren := ⟨fun | 5 => 134 | 8 => 155 | 7 => 154 | 19 => 172 | 20 => 173 | 10 => 163 | 11 => 164 | 12 => 165 | 13 => 166 | 14 => 167 | 15 => 168 | 16 => 169 | 17 => 170 | 18 => 171 | 30 => 177 | 31 => 178 | 32 => 179 | 33 => 180 | 34 => 181 | 35 => 162 | 40 => 190 | n => n, fun | 23 => 35 | 25 => 2 | 3 => 3 | 32 => 144 | 22 => 35 | 0 => 0 | 44 => 159 | 46 => 116 | 4 => 4 | 36 => 152 | 35 => 151 | 41 => 156 | 5 => 5 | 9 => 9 | 53 => 166 | 57 => 170 | 63 => 177 | 64 => 178 | n => n, fun | n => n⟩
theorem Try.sortI : Go.Proofs.SlLaysM.n5 Try.prog Try.sortI_ren := {
  mixed := by kernel_rfl
  f5 := ⟨Try.f134.name, by decide, Try.func134.trans (congrArg some (by kernel_rfl))⟩
  f7 := ⟨Try.f154.name, by decide, Try.func154.trans (congrArg some (by kernel_rfl))⟩
  f8 := Try.func155.trans (congrArg some (by kernel_rfl))
  f10 := ⟨Try.f163.name, by decide, Try.func163.trans (congrArg some (by kernel_rfl))⟩
  f11 := ⟨Try.f164.name, by decide, Try.func164.trans (congrArg some (by kernel_rfl))⟩
  f12 := ⟨Try.f165.name, by decide, Try.func165.trans (congrArg some (by kernel_rfl))⟩
  f13 := ⟨Try.f166.name, by decide, Try.func166.trans (congrArg some (by kernel_rfl))⟩
  f14 := ⟨Try.f167.name, by decide, Try.func167.trans (congrArg some (by kernel_rfl))⟩
  f15 := ⟨Try.f168.name, by decide, Try.func168.trans (congrArg some (by kernel_rfl))⟩
  f16 := ⟨Try.f169.name, by decide, Try.func169.trans (congrArg some (by kernel_rfl))⟩
  f17 := ⟨Try.f170.name, by decide, Try.func170.trans (congrArg some (by kernel_rfl))⟩
  f18 := ⟨Try.f171.name, by decide, Try.func171.trans (congrArg some (by kernel_rfl))⟩
  f19 := Try.func172.trans (congrArg some (by kernel_rfl))
  f20 := Try.func173.trans (congrArg some (by kernel_rfl))
  f30 := ⟨Try.f177.name, by decide, Try.func177.trans (congrArg some (by kernel_rfl))⟩
  f31 := Try.func178.trans (congrArg some (by kernel_rfl))
  f32 := Try.func179.trans (congrArg some (by kernel_rfl))
  f33 := ⟨Try.f180.name, by decide, Try.func180.trans (congrArg some (by kernel_rfl))⟩
  f34 := ⟨Try.f181.name, by decide, Try.func181.trans (congrArg some (by kernel_rfl))⟩
  f35 := ⟨Try.f162.name, by decide, Try.func162.trans (congrArg some (by kernel_rfl))⟩
  f40 := ⟨Try.f190.name, by decide, Try.func190.trans (congrArg some (by kernel_rfl))⟩
  t0 := Try.underlying0
  a0 := Try.isAgg0
  z0 := Try.sizeOf0
  v0 := Try.zeroValue0
  t3 := Try.underlying3
  a3 := Try.isAgg3
  z3 := Try.sizeOf3
  v3 := Try.zeroValue3
  t4 := Try.underlying4
  a4 := Try.isAgg4
  z4 := Try.sizeOf4
  v4 := Try.zeroValue4
  t5 := Try.underlying5
  a5 := Try.isAgg5
  z5 := Try.sizeOf5
  v5 := Try.zeroValue5
  t9 := Try.underlying9
  a9 := Try.isAgg9
  z9 := Try.sizeOf9
  v9 := Try.zeroValue9
  t22 := Try.underlying35
  a22 := Try.isAgg35
  z22 := Try.sizeOf35
  v22 := Try.zeroValue35
  t23 := Try.underlying35
  a23 := Try.isAgg35
  z23 := Try.sizeOf35
  v23 := Try.zeroValue35
  t25 := Try.underlying2
  a25 := Try.isAgg2
  z25 := Try.sizeOf2
  v25 := Try.zeroValue2
  t32 := Try.underlying144
  a32 := Try.isAgg144
  z32 := Try.sizeOf144
  v32 := Try.zeroValue144
  t35 := Try.underlying151
  a35 := Try.isAgg151
  z35 := Try.sizeOf151
  v35 := Try.zeroValue151
  t36 := Try.underlying152
  a36 := Try.isAgg152
  z36 := Try.sizeOf152
  v36 := Try.zeroValue152
  t41 := Try.underlying156
  a41 := Try.isAgg156
  z41 := Try.sizeOf156
  v41 := Try.zeroValue156
  t44 := Try.underlying159
  a44 := Try.isAgg159
  z44 := Try.sizeOf159
  v44 := Try.zeroValue159
  t46 := Try.underlying116
  a46 := Try.isAgg116
  z46 := Try.sizeOf116
  v46 := Try.zeroValue116
  t53 := Try.underlying166
  a53 := Try.isAgg166
  z53 := Try.sizeOf166
  v53 := Try.zeroValue166
  t57 := Try.underlying170
  a57 := Try.isAgg170
  z57 := Try.sizeOf170
  v57 := Try.zeroValue170
  t63 := Try.underlying177
  a63 := Try.isAgg177
  z63 := Try.sizeOf177
  v63 := Try.zeroValue177
  t64 := Try.underlying178
  a64 := Try.isAgg178
  z64 := Try.sizeOf178
  v64 := Try.zeroValue178 }
end Go.Proofs

namespace Go.Proofs.Ytlkjacgpjolbdaa
open Go.RowKit Go.Maps Go.Sort Go.Shelf
def ascS (l : List Int) : List Int := l.mergeSort fun x y => decide (x ≤ y)
theorem ascS_perm (l : List Int) : (ascS l).Perm l := List.mergeSort_perm l _
theorem ascS_asc (l : List Int) : (ascS l).Pairwise (· ≤ ·) := by
  have h := List.pairwise_mergeSort (le := fun x y : Int => decide (x ≤ y)) (by intro a b c h1 h2; simp at *; omega) (by intro a b; simp; omega) l
  exact h.imp (by simp)
theorem ascS_of {l s : List Int} (hp : s.Perm l) (hs : s.Pairwise (· ≤ ·)) : s = ascS l :=
  (hp.trans (ascS_perm l).symm).eq_of_pairwise (fun _ _ _ _ h1 h2 => Int.le_antisymm h1 h2) hs (ascS_asc l)
theorem ascS_len (l : List Int) : (ascS l).length = l.length := (ascS_perm l).length_eq
theorem grownBy_putR {w : World} {g n : Nat} {os : Array Obj} (F : Array Int) : w.grownBy (grow (putRow (Value.int .i64) (Sort.ahead w n) g 0 F) os) (some g) := by
  refine ⟨rfl, rfl, rfl, by simp, fun k hk hne => ?_⟩
  rw [heap_grow_old _ _ (by simpa using hk)]
  have : g ≠ k := fun e => hne (by rw [e])
  simp [putRow, mapBlock, Sort.ahead, Array.getElem?_modify, this]
theorem grownBy_growR (w : World) (os : Array Obj) : w.grownBy (grow w os) none :=
  ⟨rfl, rfl, rfl, by simp, fun k hk _ => heap_grow_old _ _ hk⟩
theorem OwnJ.putR {w : World} {base g n cap q : Nat} {os : Array Obj} {zs ys : List Int} (h : OwnJ w base (.slice (some ⟨g, 0, none⟩) n cap) zs) (hy : ys.length = zs.length) :
    OwnJ (grow (putRow (Value.int .i64) (Sort.ahead w q) g 0 ys.toArray) os) base (.slice (some ⟨g, 0, none⟩) n cap) ys ∧ w.grownBy (grow (putRow (Value.int .i64) (Sort.ahead w q) g 0 ys.toArray) os) (some g) := by
  have hn : n = zs.length := by
    rcases h.2 with ⟨e, _⟩ | ⟨g', cap', cur, e, _⟩
    · cases e
    · injection e
  subst hn
  refine ⟨?_, grownBy_putR _⟩
  have h1 := Lib.ownsRow_putRow (q := q) (k := zs.length) h hy (Nat.le_refl _)
  rw [List.take_of_length_le (Nat.le_of_eq hy)] at h1
  refine OwnJ.kept ?_ (grownBy_growR _ os) (by simp)
  unfold OwnJ
  rw [hy]
  exact h1
theorem OwnJ.holdsR {w : World} {base g n cap : Nat} {zs : List Int} (h : OwnJ w base (.slice (some ⟨g, 0, none⟩) n cap) zs) : Holds (Value.int .i64) w g 0 zs.toArray ∧ g < w.heap.size ∧ n = zs.length := by
  obtain ⟨_, h | ⟨g', cap', cur, e, hb, hcur, hn, hc, hsz, hx⟩⟩ := h
  · simp at h
  · simp at e
    obtain ⟨rfl, rfl, rfl⟩ := e
    refine ⟨fun j hj => ?_, (Array.getElem?_eq_some_iff.1 hcur).1, rfl⟩
    have hj' : j < zs.length := by simpa using hj
    have e : (zs.map (Value.int .i64))[j]? = some (.int .i64 zs[j]) := by simp [hj']
    rw [← hx, List.getElem?_take_of_lt (by omega)] at e
    rw [Nat.zero_add]
    refine ⟨?_, by simp [World.frozen?, hcur]⟩
    rw [getElem!_pos zs.toArray j hj]
    simp [World.cell?, hcur]
    simpa using e
theorem sortS_any (base : Nat) (u : Value) (zs : List Int) (w : World) (h : OwnJ w base u zs) (hl : zs.length ≤ 3300000) :
    Calls Try.prog 134 #[u] w (fun e w' => e = .returned (.tuple #[]) ∧ w.grownBy w' u.ownBlock ∧ OwnJ w' base u (ascS zs)) := by
  rcases h.2 with ⟨rfl, h0⟩ | ⟨g, cap, cur, rfl, _⟩
  · have e0 : zs = [] := List.length_eq_zero_iff.1 h0
    subst e0
    refine (AnyM.slices_Sort_int_none Try.sortI _ _ _).mono ?_
    rintro e w' ⟨rfl, rfl⟩
    exact ⟨rfl, only_refl _ _, by simpa [ascS] using OwnJ.nil _ _⟩
  · obtain ⟨hH, hlt, _⟩ := h.holdsR
    refine (AnyM.slices_Sort_int Try.sortI g 0 cap zs w hH hlt (by omega)).mono ?_
    rintro e w' ⟨rfl, n, os, hw⟩
    obtain ⟨h1, h2⟩ := h.putR (q := n) (os := os) (ascS_len zs)
    subst hw
    exact ⟨rfl, h2, h1⟩
theorem take_eq_nextZ {xs ys : List Int} {k : Nat} (h : xs.take k = ys.take k) (he : xs[k]? = ys[k]?) : xs.take (k + 1) = ys.take (k + 1) := by
  rw [List.take_add_one, List.take_add_one, h, he]
theorem ne_atZ {xs ys : List Int} {k : Nat} (he : xs[k]? ≠ ys[k]?) : decide (xs = ys) = false := decide_eq_false fun e => he (by rw [e])
set_option maxRecDepth 100000 in
set_option maxHeartbeats 1000000 in
theorem EqualZ_any (s t : Value) (xs ys : List Int) (w : World) (h : IB w s xs) (k : IB w t ys) :
    Calls Try.prog 135 #[s, t] w (RV (.bool (decide (xs = ys))) w) := by
  have hs : ∃ a c, s = .slice a xs.length c := by rcases h.2 with ⟨a, c, rfl, rfl⟩ | ⟨b, off, cap, rfl, _⟩ <;> exact ⟨_, _, rfl⟩
  have ht : ∃ a c, t = .slice a ys.length c := by rcases k.2 with ⟨a, c, rfl, rfl⟩ | ⟨b, off, cap, rfl, _⟩ <;> exact ⟨_, _, rfl⟩
  have hlx := h.1
  have hly := k.1
  have HX := Lib.hid h
  have HY := Lib.hid k
  clear h k
  obtain ⟨a0, c0, rfl⟩ := hs
  obtain ⟨a1, c1, rfl⟩ := ht
  by_cases hl : xs.length = ys.length
  case neg =>
    have hne : ((xs.length : Int) != (ys.length : Int)) = true := by simp; omega
    have HV := Lib.hid (show decide (xs = ys) = false from decide_eq_false fun e => hl (by rw [e]))
    clear hl
    go_enter Try.func135, Try.ntmps135
    go_wp2
    go_ret
    exact RV_of (bool_eq (by rw [HV.out])) (Below.refl _ _)
  have hne : ((xs.length : Int) != (ys.length : Int)) = false := by simp; omega
  have hle : ys.length ≤ xs.length ∧ xs.length ≤ ys.length := by omega
  obtain ⟨hle1, hle2⟩ := hle
  clear hl
  go_enter Try.func135, Try.ntmps135
  go_wp2
  go_loopw [13] (fun i wr => ∃ k : Nat, k ≤ xs.length ∧ i = .int .i64 k ∧ Below w.heap.size w wr ∧ Hid (xs.take k = ys.take k)) (fun i _ => xs.length - (intOf i).toNat)
  case atStart => exact ⟨0, Nat.zero_le _, rfl, Below.refl _ _, Lib.hid rfl⟩
  case round =>
    obtain ⟨k, hk, rfl, hB, HT⟩ := hrel
    have hz := hB.size
    by_cases hkl : k < xs.length
    · rcases HX.out.2 with ⟨_, _, _, hnil⟩ | ⟨b, off, cap, hv, hblt, hbl⟩
      · rw [hnil] at hkl; simp at hkl
      simp at hv
      obtain ⟨rfl, rfl⟩ := hv
      rcases HY.out.2 with ⟨_, _, _, hnil⟩ | ⟨b', off', cap', hv, hblt', hbl'⟩
      · exfalso; rw [hnil, List.length_nil] at hle2; omega
      simp at hv
      obtain ⟨rfl, rfl⟩ := hv
      have hkl' : k < ys.length := by omega
      have x1 := (hbl.below hB hblt) k hkl
      have y1 := (hbl'.below hB hblt') k hkl'
      have ex : xs[k]? = some (xs[k]?.getD 0) := by simp [hkl]
      have ey : ys[k]? = some (ys[k]?.getD 0) := by simp [hkl']
      obtain ⟨x, hx⟩ : ∃ x, x = xs[k]?.getD 0 := ⟨_, rfl⟩
      obtain ⟨y, hy⟩ : ∃ y, y = ys[k]?.getD 0 := ⟨_, rfl⟩
      rw [← hx] at x1 ex
      rw [← hy] at y1 ey
      have g0 : (0 : Int) ≤ (k : Int) := by omega
      have g1 : (k : Int) < (xs.length : Int) := by omega
      have g2 : (k : Int) < (ys.length : Int) := by omega
      have HXY := Lib.hid (And.intro ex ey)
      clear hx hy ex ey hbl hbl'
      by_cases hd : x = y
      · have HS := Lib.hid (take_eq_nextZ HT.out (by rw [HXY.out.1, HXY.out.2, hd]))
        have q : (x != y) = false := by simpa using hd
        clear hd HXY
        go_wp2
        go_quiet (fail)
        go_wp2
        go_roundw
        case rel => exact ⟨k + 1, by omega, by go_num, below_drewN hB _, HS⟩
        case measure => simp [intOf]; omega
      · have HS := Lib.hid (ne_atZ (xs := xs) (ys := ys) (k := k) (by rw [HXY.out.1, HXY.out.2]; intro e; exact hd (Option.some.inj e)))
        have q : (x != y) = true := by simpa using hd
        clear hd HXY
        go_wp2
        go_quiet (fail)
        go_wp2
        go_ret
        exact RV_of (bool_eq (by rw [HS.out])) (below_drewN hB _)
    · have HS := Lib.hid (show decide (xs = ys) = true by
        have h1 := HT.out
        rw [List.take_of_length_le (by omega), List.take_of_length_le (by omega)] at h1
        exact decide_eq_true h1)
      go_wp2
      go_ret
      exact RV_of (bool_eq (by rw [HS.out])) hB
end Go.Proofs.Ytlkjacgpjolbdaa

namespace Go.Proofs.Ytlkjacgpjolbdaa
theorem cmpL_lex : ∀ ps qs : List Int, decide (cmpL ps qs ≥ 0) = !(lexL ps qs)
  | [], [] => by simp [cmpL, lexL]
  | [], _ :: _ => by simp [cmpL, lexL]
  | _ :: _, [] => by simp [cmpL, lexL]
  | x :: r, y :: t => by
    have ih := cmpL_lex r t
    unfold cmpL lexL
    rcases cmp1_cases x y with ⟨h, e⟩ | ⟨h, e⟩ | ⟨h, e⟩
    · rw [e, if_neg (by decide), if_neg (by omega)]; simp [h]
    · rw [e, if_pos rfl, if_pos h]; exact ih
    · rw [e, if_neg (by decide), if_neg (by omega)]; simp; omega
/-- The class k: a class, and behind the one before. -/
def rowR (v : Int) (bs : List Blk) (F : Nat → List Int) (k : Nat) : Bool := clsB v (blksAt bs (F k)) && (decide (k = 0) || lexL (F (k - 1)) (F k))
def rowsR (v : Int) (bs : List Blk) (n : Nat) (F : Nat → List Int) : Bool := (List.range n).all (rowR v bs F)
theorem rowsR_succ (v : Int) (bs : List Blk) (n : Nat) (F : Nat → List Int) : rowsR v bs (n + 1) F = (rowsR v bs n F && rowR v bs F n) := by simp [rowsR, List.range_succ]
theorem rowsR_false {v : Int} {bs : List Blk} {n k : Nat} {F : Nat → List Int} (hk : k < n) (h : rowR v bs F k = false) : rowsR v bs n F = false := by
  unfold rowsR
  rw [List.all_eq_false]
  exact ⟨k, List.mem_range.2 hk, by rw [h]; decide⟩
theorem rowsR_at {v : Int} {bs : List Blk} {n k : Nat} {F : Nat → List Int} (hk : k < n) (h : rowsR v bs n F = true) : rowR v bs F k = true := List.all_eq_true.1 h k (List.mem_range.2 hk)
def rstB (v : Int) (bs : List Blk) (n : Nat) (F : Nat → List Int) : Bool := rowsR v bs n F && (decide (catF n F).Nodup && decide ((catF n F).length = bs.length))
noncomputable def resF (v : Int) (bs : List Blk) (n : Nat) (F : Nat → List Int) : Bool × Int := (rstB v bs n F && decide (chkF v bs n F = 0), chkF v bs n F)
def numL (m : Nat) : List Int := (List.range m).map fun (k : Nat) => (k : Int)
theorem numL_succ (m : Nat) : numL (m + 1) = numL m ++ [(m : Int)] := by simp [numL, List.range_succ]
theorem numL_len (m : Nat) : (numL m).length = m := by simp [numL]
theorem numL_asc (m : Nat) : (numL m).Pairwise (· ≤ ·) := by
  unfold numL
  rw [List.pairwise_map]
  exact List.pairwise_lt_range.imp (by intro a b h; omega)
theorem numL_nodup (m : Nat) : (numL m).Nodup := by
  unfold numL
  rw [List.Nodup, List.pairwise_map]
  exact List.nodup_range.imp fun h e => h (by omega)
theorem mem_numL {m : Nat} {z : Int} : z ∈ numL m ↔ 0 ≤ z ∧ z < (m : Int) := by
  unfold numL
  rw [List.mem_map]
  constructor
  · rintro ⟨k, hk, rfl⟩
    have := List.mem_range.1 hk
    omega
  · rintro ⟨h1, h2⟩
    exact ⟨z.toNat, List.mem_range.2 (by omega), by omega⟩
/-- Numbers below m, put in order, are all of them just if no number is there twice and there are m. -/
theorem sorted_all {m : Nat} {C : List Int} (h : ∀ z ∈ C, 0 ≤ z ∧ z < (m : Int)) : decide (ascS C = numL m) = (decide C.Nodup && decide (C.length = m)) := by
  rw [Bool.eq_iff_iff, Bool.and_eq_true, decide_eq_true_eq, decide_eq_true_eq, decide_eq_true_eq]
  constructor
  · intro e
    have hp := ascS_perm C
    rw [e] at hp
    exact ⟨hp.nodup_iff.1 (numL_nodup m), by rw [← hp.length_eq, numL_len]⟩
  · rintro ⟨hn, hl⟩
    have hsub : ∀ z ∈ C, z ∈ numL m := fun z hz => mem_numL.2 (h z hz)
    refine asc_unique (asc_of (ascS_asc C) ((ascS_perm C).nodup_iff.2 hn)) (asc_of (numL_asc m) (numL_nodup m)) fun d => ?_
    rw [(ascS_perm C).mem_iff]
    exact ⟨hsub d, fun hd => sub_back hn hsub (by rw [numL_len, hl]; exact Nat.le_refl _) d hd⟩
theorem chk_rows {v : Int} {bs : List Blk} {n : Nat} {F : Nat → List Int} (h : chkF v bs n F = 0) : isSysImpl v bs = true ∧ ∀ k, k < n → ∀ z ∈ F k, 0 ≤ z ∧ z < (bs.length : Int) := by
  unfold chkF at h
  cases hi : isSysImpl v bs with
  | false => rw [hi] at h; simp at h
  | true =>
    cases hp : setsOk (bs.length : Int) n F with
    | false => rw [hi, hp] at h; simp at h
    | true =>
      refine ⟨rfl, fun k hk z hz => ?_⟩
      have := List.all_eq_true.1 hp k (List.mem_range.2 hk)
      rw [ptGo_split, Bool.and_eq_true, List.all_eq_true] at this
      have := this.1 z hz
      simpa [inP] using this
theorem cat_in {n : Nat} {F : Nat → List Int} {m : Int} (h : ∀ k, k < n → ∀ z ∈ F k, 0 ≤ z ∧ z < m) : ∀ z ∈ catF n F, 0 ≤ z ∧ z < m := fun z hz => by
  obtain ⟨k, hk, hz⟩ := List.mem_flatMap.1 hz
  exact h k (List.mem_range.1 hk) z hz
theorem row_len {v : Int} {bs : List Blk} {F : Nat → List Int} {k : Nat} (hv : 3 ≤ v) (h : rowR v bs F k = true) : 0 < (F k).length := by
  unfold rowR clsB at h
  simp only [Bool.and_eq_true, decide_eq_true_eq, blksAt_len] at h
  omega
end Go.Proofs.Ytlkjacgpjolbdaa

namespace Go.Proofs.Ytlkjacgpjolbdaa
open Go.RowKit Go.Maps Go.Sort
theorem heap_set_own {w : World} {g o : Nat} {u : Value} {cs : Array Value} {e : TypeId} {fr : Nat × Nat} (h : w.heap[g]? = some (.cells cs e fr)) : (w.setCell ⟨g, o, none⟩ u).heap[g]? = some (.cells (cs.setIfInBounds o u) e fr) := by
  obtain ⟨hlt, hk⟩ := Array.getElem?_eq_some_iff.1 h
  show (w.heap.modify g _)[g]? = _
  rw [Array.getElem?_eq_getElem (by rw [Array.size_modify]; exact hlt), Array.getElem_modify_self, hk]
  rfl
theorem flat_set : ∀ (bs : List Blk) (i : Nat) (x : Blk), i < bs.length → (((bs.flatMap cells3).set (i * 3) (.int .i64 x.a)).set (i * 3 + 1) (.int .i64 x.b)).set (i * 3 + 2) (.int .i64 x.c) = (bs.set i x).flatMap cells3
  | [], _, _, h => by simp at h
  | y :: r, 0, x, _ => by simp [cells3]
  | y :: r, i + 1, x, h => by
    have ih := flat_set r i x (by simpa using h)
    rw [List.set_cons_succ, List.flatMap_cons, List.flatMap_cons, ← ih]
    rw [show (i + 1) * 3 = i * 3 + 1 + 1 + 1 by omega, show i * 3 + 1 + 1 + 1 + 1 = i * 3 + 1 + 1 + 1 + 1 from rfl, show i * 3 + 1 + 1 + 1 + 2 = i * 3 + 2 + 1 + 1 + 1 by omega]
    simp only [cells3, List.cons_append, List.nil_append, List.set_cons_succ]
theorem OwnR.set3 {w : World} {base g n cap : Nat} {bs : List Blk} (h : OwnR w base (.slice (some ⟨g, 0, none⟩) n cap) bs) {i : Nat} (hi : i < bs.length) (x : Blk) :
    OwnR (((w.setCell ⟨g, i * 3, none⟩ (.int .i64 x.a)).setCell ⟨g, i * 3 + 1, none⟩ (.int .i64 x.b)).setCell ⟨g, i * 3 + 2, none⟩ (.int .i64 x.c)) base (.slice (some ⟨g, 0, none⟩) n cap) (bs.set i x) := by
  obtain ⟨hl, h | ⟨g', cap', cur, hv, hb, hcur, hn, hc, hsz, hx⟩⟩ := h
  · cases h.1
  · cases hv
    refine ⟨by rw [flat_length, List.length_set], .inr ⟨g, cap, _, by rw [List.length_set], hb, heap_set_own (heap_set_own (heap_set_own hcur)), by rw [List.length_set]; exact hn, hc, by simpa using hsz, ?_⟩⟩
    rw [List.length_set, Array.toList_setIfInBounds, Array.toList_setIfInBounds, Array.toList_setIfInBounds, List.take_set, List.take_set, List.take_set, hx]
    exact flat_set bs i x hi
theorem OwnR.at_ {w : World} {base g n cap : Nat} {bs : List Blk} (h : OwnR w base (.slice (some ⟨g, 0, none⟩) n cap) bs) : n = bs.length ∧ base ≤ g ∧ OwnAt w g bs := by
  rcases h.res with ⟨rfl, a, c, e⟩ | ⟨g', cap', e, h1, h2, h3⟩
  · cases e
    obtain ⟨hl, h | ⟨g', cap', cur, hv, hb, hcur, hn, hc, hsz, hx⟩⟩ := h
    · cases h.1
    · cases hv
      exact ⟨rfl, hb, ⟨(Array.getElem?_eq_some_iff.1 hcur).1, fun k hk => by simp at hk, fun o => by simp [World.frozen?, hcur]⟩⟩
  · cases e
    exact ⟨rfl, h1, h3⟩

theorem heap_put {w : World} {g n : Nat} {os : Array Obj} {cur : Array Value} {e : TypeId} {fr : Nat × Nat} (F : Array Value) (hb : w.heap[g]? = some (.cells cur e fr)) :
    (grow (putRow id (Sort.ahead w n) g 0 F) os).heap[g]? = some (.cells (putCells id 0 F cur) e fr) := by
  have hg : g < w.heap.size := (Array.getElem?_eq_some_iff.1 hb).1
  rw [heap_grow_old _ _ (by simpa using hg)]
  simp [putRow, mapBlock, Sort.ahead, Array.getElem?_modify, hb, onCells]
theorem grownBy_put {w : World} {g n : Nat} {os : Array Obj} (F : Array Value) : w.grownBy (grow (putRow id (Sort.ahead w n) g 0 F) os) (some g) := by
  refine ⟨rfl, rfl, rfl, by simp, fun k hk hne => ?_⟩
  rw [heap_grow_old _ _ (by simpa using hk)]
  have : g ≠ k := fun e => hne (by rw [e])
  simp [putRow, mapBlock, Sort.ahead, Array.getElem?_modify, this]
theorem take_put (cur F : Array Value) (h : F.size ≤ cur.size) : (putCells id 0 F cur).toList.take F.size = F.toList := by
  apply List.ext_getElem?
  intro j
  by_cases hj : j < F.size
  · rw [List.getElem?_take_of_lt hj, Array.getElem?_toList]
    simp [putCells, hj, show j < cur.size by omega]
  · rw [List.getElem?_take_eq_none (by omega), List.getElem?_eq_none (by simp; omega)]
theorem cells3_at (x : Blk) : (cells3 x)[0]! = .int .i64 x.a ∧ (cells3 x)[1]! = .int .i64 x.b ∧ (cells3 x)[2]! = .int .i64 x.c := ⟨rfl, rfl, rfl⟩
theorem flatK_at (bs : List Blk) (j : Nat) (h : j < bs.length * 3) : (flatK cells3 3 bs.toArray)[j]! = (bs.flatMap cells3)[j]?.getD undef := by
  rw [get_flatK _ _ _ _ (by simpa using h)]
  have hk : j / 3 < bs.length := by omega
  obtain ⟨h0, h1, h2⟩ := flat_at bs (j / 3) hk
  obtain ⟨c0, c1, c2⟩ := cells3_at (bs.toArray[j / 3]!)
  have e : bs.toArray[j / 3]! = bs[j / 3]?.getD default := by simp [hk]
  rw [e] at c0 c1 c2
  rw [e]
  have hm : j % 3 = 0 ∨ j % 3 = 1 ∨ j % 3 = 2 := by omega
  rcases hm with hm | hm | hm
  · rw [hm, c0]; rw [show j / 3 * 3 = j by omega] at h0; rw [h0]; rfl
  · rw [hm, c1]; rw [show j / 3 * 3 + 1 = j by omega] at h1; rw [h1]; rfl
  · rw [hm, c2]; rw [show j / 3 * 3 + 2 = j by omega] at h2; rw [h2]; rfl
theorem flatK_list (bs : List Blk) : (flatK cells3 3 bs.toArray).toList = bs.flatMap cells3 := by
  apply List.ext_getElem?
  intro j
  by_cases hj : j < bs.length * 3
  · have h1 := flatK_at bs j hj
    have hs : j < (flatK cells3 3 bs.toArray).size := by rw [size_flatK]; simpa using hj
    rw [getElem!_pos _ j hs] at h1
    rw [Array.getElem?_toList, Array.getElem?_eq_getElem hs, h1]
    have hf : j < (bs.flatMap cells3).length := by rw [flat_length]; exact hj
    rw [List.getElem?_eq_getElem hf]
    rfl
  · have h1 : (flatK cells3 3 bs.toArray).toList.length = bs.length * 3 := by rw [Array.length_toList, size_flatK]; simp
    rw [List.getElem?_eq_none (by omega), List.getElem?_eq_none (by rw [flat_length]; omega)]
theorem OwnAt.holds {w : World} {g : Nat} {bs : List Blk} (h : OwnAt w g bs) : HoldsK cells3 3 w g 0 bs.toArray := by
  intro j hj
  rw [size_flatK, List.size_toArray] at hj
  refine ⟨?_, h.free _⟩
  rw [flatK_at bs j hj, Nat.zero_add]
  obtain ⟨h0, h1, h2⟩ := h.at_ (j / 3) (by omega)
  obtain ⟨f0, f1, f2⟩ := flat_at bs (j / 3) (by omega)
  rw [Nat.zero_add] at h0 h1 h2
  have hm : j % 3 = 0 ∨ j % 3 = 1 ∨ j % 3 = 2 := by omega
  rcases hm with hm | hm | hm
  · rw [show j / 3 * 3 = j by omega] at h0 f0; rw [h0, f0]; rfl
  · rw [show j / 3 * 3 + 1 = j by omega] at h1 f1; rw [h1, f1]; rfl
  · rw [show j / 3 * 3 + 2 = j by omega] at h2 f2; rw [h2, f2]; rfl
/-- Behind the sort the same slice owns the blocks in order. -/
theorem OwnR.sorted {w : World} {base g n cap : Nat} {bs cs : List Blk} (h : OwnR w base (.slice (some ⟨g, 0, none⟩) n cap) bs) (hl : cs.length = bs.length) (m : Nat) (os : Array Obj) :
    OwnR (sortWorldK cells3 3 w g 0 m cs.toArray os) base (.slice (some ⟨g, 0, none⟩) n cap) cs ∧ w.grownBy (sortWorldK cells3 3 w g 0 m cs.toArray os) (some g) := by
  refine ⟨?_, grownBy_put _⟩
  obtain ⟨hl2, h | ⟨g', cap', cur, hv, hb, hcur, hn, hc, hsz, hx⟩⟩ := h
  · cases h.1
  · cases hv
    have hF : (flatK cells3 3 cs.toArray).size = cs.length * 3 := by rw [size_flatK]; simp
    refine ⟨by rw [flat_length], .inr ⟨g, cap, _, by rw [hl], hb, heap_put _ hcur, by rw [hl]; exact hn, hc, by simp [putCells]; omega, ?_⟩⟩
    rw [← hF, take_put _ _ (by rw [hF, hl]; have := Nat.mul_le_mul_right 3 hn; omega)]
    exact flatK_list cs
theorem lt_bef (x y : Blk) : ltOf cmpB x y = befB x y := by
  unfold ltOf
  rw [Bool.eq_iff_iff, ← cmpB_neg]
  simp
theorem swoB : SWO (ltOf cmpB) where
  irrefl x := by rw [lt_bef]; exact bef_irrefl x
  trans x y z h1 h2 := by rw [lt_bef] at *; exact bef_trans h1 h2
  ntrans x y z h1 h2 := by rw [lt_bef] at *; exact bef_ntrans h1 h2
theorem totB (x y : Blk) (h1 : ltOf cmpB x y = false) (h2 : ltOf cmpB y x = false) : x = y := by rw [lt_bef] at *; exact bef_total h1 h2
theorem mergeB (bs : List Blk) : (bs.mergeSort fun x y => !ltOf cmpB y x) = sortB bs := by
  rw [← sortB_merge]
  congr 1
  funext x y
  rw [lt_bef]
theorem compareBlocks_lays (x y : Blk) (w : World) : Calls Try.prog 121 #[bv x, bv y] w fun e w' => e = .returned (.int .i64 (cmpB x y)) ∧ ∃ q os, w' = grow (w.drewN q) os := by
  obtain ⟨a, b, c⟩ := x
  obtain ⟨d, e, f⟩ := y
  unfold bv
  dsimp only
  go_enter Try.func121, Try.ntmps121
  go_wp2
  go_quiet ((go_at_call 132; exact RS.quiet (Compare_any _ 0 _ _ 0 _ [a, b, c] [d, e, f] _ (ints3 (by simp [go_sem]) (by simp [go_sem]) (by simp [go_sem])) (ints3 (by simp [go_sem]) (by simp [go_sem]) (by simp [go_sem])) (by simp) (by simp))))
  go_wp2
  go_ret
  exact ⟨rfl, _, _, by rw [alloc_eq_grow, alloc_eq_grow, grow_grow]; rfl⟩
end Go.Proofs.Ytlkjacgpjolbdaa

namespace Go.Proofs.Ytlkjacgpjolbdaa
open Go.RowKit Go.Maps
/-- The value is a slice of just these blocks; of the numbers nothing is said. -/
def SX (w : World) (s : Value) (bs : List Blk) : Prop := (∃ a c, s = .slice a 0 c ∧ bs = []) ∨ ∃ b off cap, s = .slice (some ⟨b, off, none⟩) bs.length cap ∧ b < w.heap.size ∧ Blks w b off bs
theorem SB.sx {w : World} {s : Value} {bs : List Blk} (h : SB w s bs) : SX w s bs := h.2.2
theorem SX.below {w w' : World} {s : Value} {bs : List Blk} (h : SX w s bs) {B : Nat} (hb : Below B w w') (hB : w.heap.size ≤ B) : SX w' s bs := by
  rcases h with h3 | ⟨b, off, cap, rfl, hl, hr⟩
  · exact .inl h3
  · exact .inr ⟨b, off, cap, rfl, by have := hb.size; omega, hr.below hb (by omega)⟩
theorem OwnR.sx {w : World} {base : Nat} {s : Value} {bs : List Blk} (h : OwnR w base s bs) : SX w s bs := by
  rcases h.res with ⟨rfl, a, c, rfl⟩ | ⟨g, cap, rfl, _, _, ho⟩
  · exact .inl ⟨a, c, rfl, rfl⟩
  · exact .inr ⟨g, 0, cap, rfl, ho.lt, ho.at_⟩
theorem OwnR.form {w : World} {base : Nat} {s : Value} {bs : List Blk} (h : OwnR w base s bs) : ∃ a c, s = .slice a bs.length c := by
  rcases h.res with ⟨rfl, a, c, rfl⟩ | ⟨g, cap, rfl, _⟩ <;> exact ⟨_, _, rfl⟩
theorem blks_flat {w : World} {b off : Nat} {bs : List Blk} (h : Blks w b off bs) (j : Nat) (u : Value) (hu : (bs.flatMap cells3)[j]? = some u) : w.cell? ⟨b, off + j, none⟩ = some u := by
  have hj : j < bs.length * 3 := by
    rw [← flat_length]
    exact (List.getElem?_eq_some_iff.1 hu).1
  obtain ⟨h0, h1, h2⟩ := h (j / 3) (by omega)
  obtain ⟨f0, f1, f2⟩ := flat_at bs (j / 3) (by omega)
  have hm : j % 3 = 0 ∨ j % 3 = 1 ∨ j % 3 = 2 := by omega
  rcases hm with hm | hm | hm
  · rw [show j / 3 * 3 = j by omega] at f0
    rw [show off + j / 3 * 3 = off + j by omega] at h0
    rw [h0, ← hu, f0]
  · rw [show j / 3 * 3 + 1 = j by omega] at f1
    rw [show off + j / 3 * 3 + 1 = off + j by omega] at h1
    rw [h1, ← hu, f1]
  · rw [show j / 3 * 3 + 2 = j by omega] at f2
    rw [show off + j / 3 * 3 + 2 = off + j by omega] at h2
    rw [h2, ← hu, f2]
theorem flat_one (bs : List Blk) : ∀ u ∈ bs.flatMap cells3, u.oneCell' = true := by
  intro u hu
  obtain ⟨x, _, hx⟩ := List.mem_flatMap.1 hu
  simp [cells3] at hx
  rcases hx with rfl | rfl | rfl <;> rfl
theorem run_append_many (w : World) (ty : TypeId) (base : Nat) (v : Value) (bs : List Blk) (hown : OwnR w base v bs) (x : Value) (cs : List Blk) (hx : SX w x cs) (hl : bs.length + cs.length ≤ 2200000) (hb : base ≤ w.heap.size) :
    ∃ v' w', (Builtin.append_ #[26, 26] ty #[v, x]).run Try.prog w = .ok v' w' ∧ OwnR w' base v' (bs ++ cs) ∧ w.grownBy w' v.ownBlock := by
  obtain ⟨i0, hi, hz0, hz1, hz2⟩ := info_parts infoBlock
  have key : ∀ (a : Addr) (m c : Nat) (news : List Value), x = .slice (some a) m c → m = cs.length → news = cs.flatMap cells3 → (∀ j u, news[j]? = some u → w.cell? (a.add j) = some u) →
      ∃ v' w', (Builtin.append_ #[26, 26] ty #[v, x]).run Try.prog w = .ok v' w' ∧ OwnR w' base v' (bs ++ cs) ∧ w.grownBy w' v.ownBlock := by
    intro a m c news ex em en hn
    subst ex
    subst en
    subst em
    obtain ⟨v', w', h1, h2, h3, _⟩ := run_append_own_at (P := Try.prog) w base 26 ty 70 i0 _ 3 24 Try.underlying26 hi hz0 hz1 hz2 rfl (by decide) v bs.length (bs.flatMap cells3) hown a cs.length c (cs.flatMap cells3) (flat_length cs) hn (flat_one cs) (by unfold maxLen; omega) (by omega) hb
    exact ⟨v', w', h1, by unfold OwnR; rw [List.length_append, List.flatMap_append]; exact h2, h3⟩
  rcases hx with ⟨a, c, rfl, rfl⟩ | ⟨b, off, cap, rfl, _, hbl⟩
  · cases a with
    | some a => exact key a 0 c [] rfl rfl rfl (by simp)
    | none =>
      refine ⟨v, w, ?_, by rw [List.append_nil]; exact hown, only_refl _ _⟩
      obtain ⟨a, c', rfl⟩ := hown.form
      have hroom : bs.length ≤ c' := by
        rcases hown.2 with ⟨h, h0⟩ | ⟨g, cap, cur, h, _, _, hn, _⟩
        · rw [h0]; exact Nat.zero_le _
        · simp at h; omega
      have hc : ∀ W : World, (Builtin.lenOf (.slice none 0 c)).run Try.prog W = .ok 0 W := fun _ => rfl
      have hc2 : ∀ W : World, (Builtin.firstCells 3 0 (.slice none 0 c)).run Try.prog W = .ok #[] W := fun _ => rfl
      simp [Builtin.append_, run_underlying Try.underlying26, sizeOf, typeInfo, hi, hz1, hc, hc2, hroom]
      cases a <;> rfl
  · refine key ⟨b, off, none⟩ cs.length cap (cs.flatMap cells3) rfl rfl rfl fun j u hu => ?_
    rw [addr_at]
    exact blks_flat hbl j u hu
theorem wp_append_many {w : World} {o : Oper} {a : Act} {K : Act → World → Prop} {Q : Exit → Act → World → Prop} (s x : Operand)
    (ho : o.op = .call { callee := .builtin .append, args := #[s, x], argTypes := #[26, 26] })
    (base : Nat) (v : Value) (bs : List Blk) (hs : a.eval s = v) (hown : OwnR w base v bs) (xv : Value) (cs : List Blk) (hxv : a.eval x = xv) (hx : SX w xv cs) (hl : bs.length + cs.length ≤ 2200000) (hb : base ≤ w.heap.size)
    (h : ∀ (a' : Option Addr) (c' : Nat) (w' : World), OwnR w' base (.slice a' (bs.length + cs.length) c') (bs ++ cs) → w.grownBy w' v.ownBlock → K (a.put o.dst (.slice a' (bs.length + cs.length) c')) w') : o.wp Try.prog a w K Q := by
  obtain ⟨v', w', hr, h2, h3⟩ := run_append_many w o.type base v bs hown xv cs hx hl hb
  obtain ⟨a', c', hv⟩ := h2.form
  rw [List.length_append] at hv
  subst hv
  unfold Oper.wp execOp
  simp only [ho, resolve, invoke, builtin, Sem.run_bind, Sem.run_pure, Result.andThen_ok, List.map_toArray, List.map_cons, List.map_nil, hs, hxv, hr]
  exact h a' c' w' h2 h3
theorem wpList_append_many {w : World} {ops : Array Oper} {rest : List Oper} {o : Oper} {a : Act} {Q : Exit → Act → World → Prop} (hgd : o.guard = none) (s x : Operand)
    (ho : o.op = .call { callee := .builtin .append, args := #[s, x], argTypes := #[26, 26] })
    (base : Nat) (v : Value) (bs : List Blk) (hs : a.eval s = v) (hown : OwnR w base v bs) (xv : Value) (cs : List Blk) (hxv : a.eval x = xv) (hx : SX w xv cs) (hl : bs.length + cs.length ≤ 2200000) (hb : base ≤ w.heap.size)
    (h : ∀ (a' : Option Addr) (c' : Nat) (w' : World), OwnR w' base (.slice a' (bs.length + cs.length) c') (bs ++ cs) → w.grownBy w' v.ownBlock → wpList Try.prog ops Q rest (a.put o.dst (.slice a' (bs.length + cs.length) c')) w') : wpList Try.prog ops Q (o :: rest) a w :=
  wpList_plain hgd fun _ hK => wp_append_many s x ho base v bs hs hown xv cs hxv hx hl hb fun a' c' w' h1 h2 => hK _ _ (h a' c' w' h1 h2)
theorem step_append_many {w : World} {ops : Array Oper} {o : Oper} {a : Act} {K : Act → World → Prop} {Q : Exit → Act → World → Prop} {E : Prop} (hgd : o.guard = none) (s x : Operand)
    (ho : o.op = .call { callee := .builtin .append, args := #[s, x], argTypes := #[26, 26] })
    (base : Nat) (v : Value) (bs : List Blk) (hs : a.eval s = v) (hown : OwnR w base v bs) (xv : Value) (cs : List Blk) (hxv : a.eval x = xv) (hx : SX w xv cs) (hl : bs.length + cs.length ≤ 2200000) (hb : base ≤ w.heap.size)
    (h : ∀ (a' : Option Addr) (c' : Nat) (w' : World), OwnR w' base (.slice a' (bs.length + cs.length) c') (bs ++ cs) → w.grownBy w' v.ownBlock → K (a.put o.dst (.slice a' (bs.length + cs.length) c')) w') :
    if Region.wanted o (yielded ops a.tmps) = true then Oper.wp Try.prog o a w K Q else E := by
  have hw : Region.wanted o (yielded ops a.tmps) = true := by simp [Region.wanted, hgd]
  rw [if_pos hw]
  exact wp_append_many s x ho base v bs hs hown xv cs hxv hx hl hb h
end Go.Proofs.Ytlkjacgpjolbdaa

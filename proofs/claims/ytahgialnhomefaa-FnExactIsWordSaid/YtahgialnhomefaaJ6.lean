
/- The program's PairsLeft. The model's squares. PairsLeft: the program and the model answer alike. Third points of full systems: plain. A table of rows, written in place. The laws' marks in systems. Two blocks are compared point by point. What TakeBlock answers: plain. -/
import Derived.Test.YtahgialnhomefaaJ5
namespace Go.Proofs.Ytahgialnhomefaa
open Go.RowKit Go.Maps
/-- The pairs (a, b), b among the next n, that P lets through; then those of the rows before a. -/
def rowL (P : Int → Int → Bool) (a : Nat) : Nat → List (Int × Int)
  | 0 => []
  | n + 1 => rowL P a n ++ if P a ((a : Int) + 1 + n) then [((a : Int), (a : Int) + 1 + n)] else []
def leftL (P : Int → Int → Bool) (v : Nat) : Nat → List (Int × Int)
  | 0 => []
  | a + 1 => leftL P v a ++ rowL P a (v - 1 - a)
theorem rowL_len (P : Int → Int → Bool) (a n : Nat) : (rowL P a n).length ≤ n := by
  induction n with
  | zero => simp [rowL]
  | succ n ih =>
    unfold rowL
    rw [List.length_append]
    split <;> simp <;> omega
theorem leftL_len (P : Int → Int → Bool) (v a : Nat) : (leftL P v a).length ≤ a * v := by
  induction a with
  | zero => simp [leftL]
  | succ a ih =>
    unfold leftL
    rw [List.length_append, Nat.succ_mul]
    have := rowL_len P a (v - 1 - a)
    omega
theorem rowL_congr {P Q : Int → Int → Bool} {a : Nat} : ∀ n : Nat, (∀ b : Int, (a : Int) < b → b ≤ a + n → P a b = Q a b) → rowL P a n = rowL Q a n
  | 0, _ => rfl
  | n + 1, h => by
    unfold rowL
    rw [rowL_congr n (fun b h1 h2 => h b h1 (by omega)), h ((a : Int) + 1 + n) (by omega) (by omega)]
theorem leftL_congr {P Q : Int → Int → Bool} {v : Nat} : ∀ a : Nat, a ≤ v → (∀ a' b : Int, 0 ≤ a' → a' < b → b < v → P a' b = Q a' b) → leftL P v a = leftL Q v a
  | 0, _, _ => rfl
  | a + 1, ha, h => by
    unfold leftL
    rw [leftL_congr a (by omega) h, rowL_congr _ (fun b h1 h2 => h a b (by omega) h1 (by omega))]
def fnL (L : List (Int × Int)) (k : Nat) : List Int := let p := L[k]?.getD (0, 0); [p.1, p.2]
theorem fnL_len (L : List (Int × Int)) (k : Nat) : (fnL L k).length = 2 := rfl
theorem fnL_lt {L L' : List (Int × Int)} {k : Nat} (h : k < L.length) : fnL L k = fnL (L ++ L') k := by
  unfold fnL
  rw [List.getElem?_append_left h]
theorem fnL_at (L : List (Int × Int)) (p : Int × Int) : fnL (L ++ [p]) L.length = [p.1, p.2] := by simp [fnL]
theorem AccS.congr {w : World} {base : Nat} {u : Value} {n : Nat} {gs caps : Nat → Nat} {F F' : Nat → List Int} (h : AccS w base u n gs caps F) (e : ∀ k, k < n → F k = F' k) : AccS w base u n gs caps F' := by
  refine ⟨?_, fun k hk => by rw [← e k hk]; exact h.row k hk, h.ne, h.inc, h.low⟩
  have he : (List.range n).map (rowV gs caps F') = (List.range n).map (rowV gs caps F) := map_congr' fun k hk => by
    have := e k (List.mem_range.1 hk)
    simp [rowV, this]
  rw [he]
  exact h.own
theorem AccS.base {w : World} {base base' : Nat} {u : Value} {n : Nat} {gs caps : Nat → Nat} {F : Nat → List Int} (h : AccS w base u n gs caps F) (hb : base' ≤ base) : AccS w base' u n gs caps F :=
  ⟨ownsRow_base h.own hb, h.row, h.ne, h.inc, fun k hk => Nat.le_trans hb (h.low k hk)⟩
theorem wf_pl {n : Int} (h0 : 0 ≤ n) (h1 : n ≤ 1000) : WF n := by
  have : n = wrap64 n := by unfold wrap64; omega
  unfold WF
  rw [this]
  exact wrap64_wf _
def notIn (seen : List (Int × Int)) (a b : Int) : Bool := !decide ((a, b) ∈ seen)
theorem two_own (w : World) (x y : Int) (T : TypeId) : OwnAtI (w.alloc (.cells #[.int .i64 x, .int .i64 y] T)) w.heap.size [x, y] := by
  refine ⟨by simp, fun k hk => ?_, fun o => by simp⟩
  rw [World.cell?_alloc_at _ _ _ _ rfl]
  match k, hk with
  | 0, _ => rfl
  | 1, _ => rfl
end Go.Proofs.Ytahgialnhomefaa

namespace Go.Proofs.Ytahgialnhomefaa
open Go.RowKit Go.Maps
theorem AccS.new0 (W : World) (gs caps : Nat → Nat) (F : Nat → List Int) {base : Nat} (hb : base ≤ W.heap.size) : AccS (W.alloc (.cells #[] 38)) base (.slice (some ⟨W.heap.size, 0, none⟩) 0 0) 0 gs caps F :=
  ⟨⟨rfl, .inr ⟨W.heap.size, 0, #[], rfl, hb, World.alloc_heap_new W _, Nat.le_refl _, Nat.zero_le _, rfl, rfl⟩⟩, fun k hk => by omega, fun k hk => by omega, fun j k _ hk => by omega, fun k hk => by omega⟩
theorem l01In_val (n : Int) (β : Bool) (hβ : (decide ((2 : Int) ≤ n) && decide (n ≤ 5)) = β) (W : World) : Calls Try.prog 80 #[.int .i64 n, .int .i64 2, .int .i64 5] W (RS (.bool β) W) := by
  have h := l01In_any n 2 5 W
  rw [hβ] at h
  exact h
end Go.Proofs.Ytahgialnhomefaa

namespace Go.Proofs.Ytahgialnhomefaa
open Go.RowKit Go.Maps
theorem both_pair {v : Int} {x : Blk} (hg : goodB v x = true) {a b : Int} (hab : a < b) : bothB a b x = true ↔ (a, b) ∈ pairsL x := by
  obtain ⟨h1, h2, h3, h4⟩ := goodB_iff.1 hg
  unfold bothB hasB pairsL
  simp only [Bool.and_eq_true, Bool.or_eq_true, decide_eq_true_iff, List.mem_cons, List.mem_nil_iff, or_false, Prod.mk.injEq]
  omega
theorem third_left {v : Int} {bs : List Blk} (hg : ∀ x ∈ bs, goodB v x = true) (hv : v ≤ 15) {a b : Int} (hab : a < b) :
    (notIn (bs.flatMap pairsL) a b = true → third1 bs a b = -1) ∧ (notIn (bs.flatMap pairsL) a b = false → 0 ≤ third1 bs a b ∧ third1 bs a b ≤ 15) := by
  unfold notIn third1
  cases hf : bs.find? (bothB a b) with
  | none =>
    have hn := List.find?_eq_none.1 hf
    have : ¬ (a, b) ∈ bs.flatMap pairsL := fun h => by
      obtain ⟨x, hx, hp⟩ := List.mem_flatMap.1 h
      exact hn x hx ((both_pair (hg x hx) hab).2 hp)
    simp [this]
  | some x =>
    have hx := List.mem_of_find?_eq_some hf
    have hb := List.find?_some hf
    have hin : (a, b) ∈ bs.flatMap pairsL := List.mem_flatMap.2 ⟨x, hx, (both_pair (hg x hx) hab).1 hb⟩
    have hne : a ≠ b := by omega
    have h3 := third_bounds (hg x hx) hv hb hne
    refine ⟨fun h => ?_, fun _ => h3⟩
    simp [hin] at h
def pairsF (v : Int) (bs : List Blk) : List (Int × Int) × Int := if isSysImpl v bs then (leftL (notIn (bs.flatMap pairsL)) v.toNat v.toNat, 0) else ([], 1)
/-- A result that is a list of rows: empty anywhere, or memory of its own from lo on. -/
def ResSS (w : World) (lo : Nat) (u : Value) (n : Nat) (F : Nat → List Int) : Prop := (n = 0 ∧ ∃ a c, u = .slice a 0 c) ∨ ∃ G cap gs caps, u = .slice (some ⟨G, 0, none⟩) n cap ∧ lo ≤ G ∧ SSR w lo G gs caps n F
theorem AccS.res {w : World} {base : Nat} {u : Value} {n : Nat} {gs caps : Nat → Nat} {F : Nat → List Int} (h : AccS w base u n gs caps F) : ResSS w base u n F := by
  by_cases h0 : n = 0
  · subst h0
    rcases h.own.2 with ⟨rfl, _⟩ | ⟨g, cap, cur, rfl, _⟩
    · exact .inl ⟨rfl, _, _, rfl⟩
    · exact .inl ⟨rfl, _, _, rfl⟩
  · obtain ⟨G, cap, hu, hG, hS⟩ := h.ssr (by omega)
    exact .inr ⟨G, cap, gs, caps, hu, hG, hS⟩
def RPL (r : List (Int × Int) × Int) (w : World) (e : Ending) (w' : World) : Prop := ∃ u, e = .returned (.tuple #[u, .int .i64 r.2]) ∧ Below w.heap.size w w' ∧ ResSS w' w.heap.size u r.1.length (fnL r.1)
end Go.Proofs.Ytahgialnhomefaa

namespace Go.Proofs.Ytahgialnhomefaa
def pairsV (n : Nat) : List (Int × Int) := (List.range n).flatMap fun (b : Nat) => (List.range b).map fun (a : Nat) => ((a : Int), (b : Int))
theorem pairsV_len : ∀ n : Fin 16, 2 * (pairsV n.val).length = n.val * (n.val - 1) := by decide +kernel
theorem mem_pairsV {n : Nat} {a b : Int} : (a, b) ∈ pairsV n ↔ 0 ≤ a ∧ a < b ∧ b < (n : Int) := by
  simp only [pairsV, List.mem_flatMap, List.mem_range, List.mem_map, Prod.mk.injEq]
  constructor
  · rintro ⟨b', hb, a', ha, rfl, rfl⟩
    omega
  · rintro ⟨h0, h1, h2⟩
    exact ⟨b.toNat, by omega, a.toNat, by omega, by omega, by omega⟩
theorem full_pair {n : Nat} {bs : List Blk} (h : isSysImpl (n : Int) bs = true) (hf : fullB (n : Int) bs = true) {a b : Int} (h0 : 0 ≤ a) (h1 : a < b) (h2 : b < (n : Int)) : (a, b) ∈ prs bs := by
  obtain ⟨h3, h15, hg, _⟩ := sys_parts h
  have hl := pairsV_len ⟨n, by omega⟩
  simp only at hl
  simp only [fullB, decide_eq_true_eq] at hf
  refine sub_back (prs_nodup h) (m := pairsV n) ?_ ?_ (a, b) (mem_pairsV.2 ⟨h0, h1, h2⟩)
  · rintro ⟨p, q⟩ hp
    obtain ⟨x, hx, hp⟩ := List.mem_flatMap.1 hp
    have := goodB_iff.1 (hg x hx)
    simp only [pairsL, List.mem_cons, List.not_mem_nil, or_false, Prod.mk.injEq] at hp
    rw [mem_pairsV]
    omega
  · rw [prs_length]
    have e : ((n * (n - 1) : Nat) : Int) = (n : Int) * ((n : Int) - 1) := by
      have : ((n - 1 : Nat) : Int) = (n : Int) - 1 := by omega
      rw [Int.natCast_mul, this]
    rw [← e] at hf
    omega
theorem flat_unique {α β : Type} {f : α → List β} : ∀ {l : List α}, (l.flatMap f).Nodup → ∀ {x y : α} {p : β}, x ∈ l → y ∈ l → p ∈ f x → p ∈ f y → x = y
  | [], _, _, _, _, hx, _, _, _ => by cases hx
  | z :: r, hn, x, y, p, hx, hy, hp, hq => by
    rw [List.flatMap_cons, List.nodup_append] at hn
    obtain ⟨_, h2, h3⟩ := hn
    rcases List.mem_cons.1 hx with ex | hx'
    · rcases List.mem_cons.1 hy with ey | hy'
      · rw [ex, ey]
      · exact absurd rfl (h3 p (ex ▸ hp) p (List.mem_flatMap.2 ⟨y, hy', hq⟩))
    · rcases List.mem_cons.1 hy with ey | hy'
      · exact absurd rfl (h3 p (ey ▸ hq) p (List.mem_flatMap.2 ⟨x, hx', hp⟩))
      · exact flat_unique h2 hx' hy' hp hq
/-- Three points of a block. -/
def Tri (bs : List Blk) (a b c : Int) : Prop := ∃ x ∈ bs, hasB x a = true ∧ hasB x b = true ∧ hasB x c = true ∧ a ≠ b ∧ b ≠ c ∧ a ≠ c
theorem Tri.swap {bs : List Blk} {a b c : Int} (h : Tri bs a b c) : Tri bs b a c := by
  obtain ⟨x, hx, h1, h2, h3, h4, h5, h6⟩ := h
  exact ⟨x, hx, h2, h1, h3, fun e => h4 e.symm, h6, h5⟩
theorem Tri.turn {bs : List Blk} {a b c : Int} (h : Tri bs a b c) : Tri bs a c b := by
  obtain ⟨x, hx, h1, h2, h3, h4, h5, h6⟩ := h
  exact ⟨x, hx, h1, h3, h2, h6, fun e => h5 e.symm, h4⟩
theorem both_or {v : Int} {x : Blk} (hg : goodB v x = true) {a b : Int} (hab : a ≠ b) : bothB a b x = true ↔ ((if a < b then (a, b) else (b, a)) ∈ pairsL x) := by
  obtain ⟨h1, h2, h3, h4⟩ := goodB_iff.1 hg
  unfold bothB hasB pairsL
  split
  · simp only [Bool.and_eq_true, Bool.or_eq_true, decide_eq_true_iff, List.mem_cons, List.mem_nil_iff, or_false, Prod.mk.injEq]
    omega
  · simp only [Bool.and_eq_true, Bool.or_eq_true, decide_eq_true_iff, List.mem_cons, List.mem_nil_iff, or_false, Prod.mk.injEq]
    omega
section
variable {n : Nat} {bs : List Blk}
theorem tri_has {x : Blk} {v a b c : Int} (hg : goodB v x = true) (ha : hasB x a = true) (hb : hasB x b = true) (hc : hasB x c = true) (h1 : a ≠ b) (h2 : b ≠ c) (h3 : a ≠ c) : thirdOf x a b = c := by
  have := goodB_iff.1 hg
  unfold hasB at ha hb hc
  unfold thirdOf
  simp at ha hb hc
  omega
theorem third_has {x : Blk} {v a b : Int} (hg : goodB v x = true) (ha : hasB x a = true) (hb : hasB x b = true) (h1 : a ≠ b) : hasB x (thirdOf x a b) = true ∧ b ≠ thirdOf x a b ∧ a ≠ thirdOf x a b := by
  have := goodB_iff.1 hg
  unfold hasB at ha hb ⊢
  unfold thirdOf
  simp at ha hb ⊢
  omega
/-- The third point of two that are in a block. -/
theorem third1_of (h : isSysImpl (n : Int) bs = true) {a b c : Int} (ht : Tri bs a b c) : third1 bs a b = c := by
  obtain ⟨x, hx, h1, h2, h3, h4, h5, h6⟩ := ht
  have hg := (sys_parts h).2.2.1
  have hbx : bothB a b x = true := by simp [bothB, h1, h2]
  unfold third1
  cases hf : bs.find? (bothB a b) with
  | none => exact absurd hbx (by simpa using List.find?_eq_none.1 hf x hx)
  | some y =>
    have hy := List.mem_of_find?_eq_some hf
    have hby := List.find?_some hf
    have : x = y := flat_unique (prs_nodup h) hx hy ((both_or (hg x hx) h4).1 hbx) ((both_or (hg y hy) h4).1 hby)
    subst this
    exact tri_has (hg x hx) h1 h2 h3 h4 h5 h6
theorem tri_third (h : isSysImpl (n : Int) bs = true) (hf : fullB (n : Int) bs = true) {a b : Int} (ha : 0 ≤ a ∧ a < (n : Int)) (hb : 0 ≤ b ∧ b < (n : Int)) (hab : a ≠ b) : Tri bs a b (third1 bs a b) := by
  have hg := (sys_parts h).2.2.1
  have hp : (if a < b then (a, b) else (b, a)) ∈ prs bs := by
    split
    · exact full_pair h hf ha.1 (by omega) hb.2
    · exact full_pair h hf hb.1 (by omega) ha.2
  obtain ⟨x, hx, hp⟩ := List.mem_flatMap.1 hp
  have hb2 := (both_or (hg x hx) hab).2 hp
  simp only [bothB, Bool.and_eq_true] at hb2
  obtain ⟨h1, h2, h3⟩ := third_has (hg x hx) hb2.1 hb2.2 hab
  have ht : Tri bs a b (thirdOf x a b) := ⟨x, hx, hb2.1, hb2.2, h1, hab, h2, h3⟩
  rw [third1_of h ht]
  exact ht
theorem Tri.range (h : isSysImpl (n : Int) bs = true) {a b c : Int} (ht : Tri bs a b c) : 0 ≤ c ∧ c < (n : Int) := by
  obtain ⟨x, hx, _, _, h3, _⟩ := ht
  have := goodB_iff.1 ((sys_parts h).2.2.1 x hx)
  unfold hasB at h3
  simp at h3
  omega
/-- The points beyond a, b and their third. -/
def Beyond (n : Nat) (bs : List Blk) (a b : Int) (x : Int) : Prop := (0 ≤ x ∧ x < (n : Int)) ∧ x ≠ a ∧ x ≠ b ∧ x ≠ third1 bs a b
theorem beyond_in (h : isSysImpl (n : Int) bs = true) (hf : fullB (n : Int) bs = true) {a b : Int} (ha : 0 ≤ a ∧ a < (n : Int)) (hb : 0 ≤ b ∧ b < (n : Int)) (hab : a ≠ b) {x : Int} (hx : Beyond n bs a b x) : Beyond n bs a b (third1 bs a x) := by
  obtain ⟨hr, hxa, hxb, hxc⟩ := hx
  have ht := tri_third h hf ha hr (fun e => hxa e.symm)
  have hab3 := tri_third h hf ha hb hab
  obtain ⟨_, _, _, _, _, h4, h5, h6⟩ := id ht
  refine ⟨ht.range h, fun e => h6 e.symm, fun e => ?_, fun e => ?_⟩
  · -- b is the third of a and x: x is that of a and b
    have := third1_of h ht.turn
    rw [e] at this
    exact hxc this.symm
  · -- the same third point: x is b
    have h1 := third1_of h ht.turn
    have h2 := third1_of h hab3.turn
    rw [e] at h1
    rw [h1] at h2
    exact hxb h2
theorem two_thirds (h : isSysImpl (n : Int) bs = true) (hf : fullB (n : Int) bs = true) {a b : Int} (ha : 0 ≤ a ∧ a < (n : Int)) (hb : 0 ≤ b ∧ b < (n : Int)) (hab : a ≠ b) : Two (third1 bs a) (third1 bs b) (Beyond n bs a b) where
  fin := fun x hx => beyond_in h hf ha hb hab hx
  gin := fun x hx => by
    have hs : third1 bs b a = third1 bs a b := third1_of h (tri_third h hf ha hb hab).swap
    have hx' : Beyond n bs b a x := ⟨hx.1, hx.2.2.1, hx.2.1, by rw [hs]; exact hx.2.2.2⟩
    obtain ⟨h1, h2, h3, h4⟩ := beyond_in h hf hb ha (fun e => hab e.symm) hx'
    exact ⟨h1, h3, h2, by rw [← hs]; exact h4⟩
  ff := fun x hx => third1_of h (tri_third h hf ha hx.1 (fun e => hx.2.1 e.symm)).turn
  gg := fun x hx => third1_of h (tri_third h hf hb hx.1 (fun e => hx.2.2.1 e.symm)).turn
  fne := fun x hx => by
    obtain ⟨_, _, _, _, _, _, h5, _⟩ := tri_third h hf ha hx.1 (fun e => hx.2.1 e.symm)
    exact fun e => h5 e.symm
  gne := fun x hx => by
    obtain ⟨_, _, _, _, _, _, h5, _⟩ := tri_third h hf hb hx.1 (fun e => hx.2.2.1 e.symm)
    exact fun e => h5 e.symm
  fg := fun x hx e => by
    have h1 := tri_third h hf ha hx.1 (fun e => hx.2.1 e.symm)
    have h2 := tri_third h hf hb hx.1 (fun e => hx.2.2.1 e.symm)
    have e1 := third1_of h h1.swap.turn
    have e2 := third1_of h h2.swap.turn
    rw [e] at e1
    rw [e1] at e2
    exact hab e2
end
end Go.Proofs.Ytahgialnhomefaa

namespace Go.Proofs.Ytahgialnhomefaa
open Go.RowKit Go.Maps
def rowT (n : Nat) (T : Nat → Nat → Int) (j : Nat) : List Int := (List.range n).map (T j)
def setT (T : Nat → Nat → Int) (i q : Nat) (z : Int) : Nat → Nat → Int := fun j p => if j = i ∧ p = q then z else T j p
theorem rowT_len (n : Nat) (T : Nat → Nat → Int) (j : Nat) : (rowT n T j).length = n := by simp [rowT]
theorem rowT_at {n : Nat} (T : Nat → Nat → Int) (j : Nat) {q : Nat} (h : q < n) : (rowT n T j)[q]?.getD 0 = T j q := by simp [rowT, h]
theorem rowT_congr {n : Nat} {T T' : Nat → Nat → Int} {j : Nat} (h : ∀ q, q < n → T j q = T' j q) : rowT n T j = rowT n T' j :=
  List.map_congr_left fun q hq => h q (List.mem_range.1 hq)
theorem rowT_zero (n j : Nat) : rowT n (fun _ _ => 0) j = List.replicate n 0 := by
  unfold rowT
  rw [List.map_const', List.length_range]
section
variable {w : World} {lo G : Nat} {gs caps : Nat → Nat} {n : Nat}
theorem SSR.inj {F : Nat → List Int} (h : SSR w lo G gs caps n F) {i j : Nat} (hi : i < n) (hj : j < n) (hij : i ≠ j) : gs i ≠ gs j := by
  rcases Nat.lt_or_ge i j with h1 | h1
  · exact h.inc i j h1 hj
  · exact (h.inc j i (by omega) hi).symm
theorem SSR.setT {T : Nat → Nat → Int} (h : SSR w lo G gs caps n (rowT n T)) {i q : Nat} (hi : i < n) (hq : q < n) (z : Int) : SSR (w.setCell ⟨gs i, q, none⟩ (.int .i64 z)) lo G gs caps n (rowT n (setT T i q z)) := by
  have hst := only_setCell (only_refl w (some (gs i))) (p := ⟨gs i, q, none⟩) rfl (.int .i64 z)
  refine ⟨fun k hk => ?_, fun k hk => ?_, h.ne, h.inc, h.low, by have := h.lt; simpa [World.setCell] using this⟩
  · have := hst.cell (h.cell k hk) (fun e => h.ne i hi (by cases e; rfl))
    rw [rowT_len] at this ⊢
    exact this
  · by_cases e : k = i
    · subst e
      have ho := h.row k hk
      refine ⟨by have := ho.lt; simpa [World.setCell] using this, fun p hp => ?_, fun o => by rw [World.frozen?_setCell]; exact ho.free o⟩
      rw [rowT_len] at hp
      have hc := ho.at_ p (by rw [rowT_len]; exact hp)
      have hcq := ho.at_ q (by rw [rowT_len]; exact hq)
      rw [rowT_at _ _ hp]
      rw [Nat.zero_add] at hc hcq ⊢
      by_cases e2 : p = q
      · subst e2
        rw [World.cell?_setCell_same' _ _ _ (by rw [hcq]; rfl)]
        simp [Go.Proofs.Ytahgialnhomefaa.setT]
      · rw [World.cell?_setCell_other _ _ _ _ (by simp <;> omega), hc, rowT_at _ _ hp]
        simp [Go.Proofs.Ytahgialnhomefaa.setT, e2]
    · have := (h.row k hk).kept hst (by have := h.inj hk hi e; simpa using this)
      rw [rowT_congr (T' := T) (fun p _ => by simp [Go.Proofs.Ytahgialnhomefaa.setT, e])]
      exact this
end
/-- The table, and the block that is looked at. -/
structure TBx (W1 W : World) (lo G Bb : Nat) (gs caps : Nat → Nat) (n : Nat) (T : Nat → Nat → Int) (p q r : Nat) : Prop where
  below : Below lo W1 W
  tab : SSR W lo G gs caps n (rowT n T)
  c0 : W.cell? ⟨Bb, 0, none⟩ = some (.int .i64 (p : Int))
  c1 : W.cell? ⟨Bb, 1, none⟩ = some (.int .i64 (q : Int))
  c2 : W.cell? ⟨Bb, 2, none⟩ = some (.int .i64 (r : Int))
  bb : ∀ j, j < n → gs j < Bb
theorem TBx.step {W1 W : World} {lo G Bb : Nat} {gs caps : Nat → Nat} {n : Nat} {T : Nat → Nat → Int} {p q r : Nat} (h : TBx W1 W lo G Bb gs caps n T p q r) {i k : Nat} (hi : i < n) (hk : k < n) (z : Int) :
    TBx W1 (W.setCell ⟨gs i, k, none⟩ (.int .i64 z)).drew lo G Bb gs caps n (setT T i k z) p q r := by
  show TBx W1 (W.drew.setCell ⟨gs i, k, none⟩ (.int .i64 z)) lo G Bb gs caps n (setT T i k z) p q r
  have hbb := h.bb i hi
  have ht : SSR W.drew lo G gs caps n (rowT n T) := ⟨h.tab.cell, fun k hk => ⟨(h.tab.row k hk).lt, (h.tab.row k hk).at_, (h.tab.row k hk).free⟩, h.tab.ne, h.tab.inc, h.tab.low, h.tab.lt⟩
  refine ⟨(h.below.drew).setCell (p := ⟨gs i, k, none⟩) (h.tab.low i hi) _, ht.setT hi hk z, ?_, ?_, ?_, h.bb⟩
  · rw [World.cell?_setCell_other _ _ _ _ (by simp <;> omega)]; exact h.c0
  · rw [World.cell?_setCell_other _ _ _ _ (by simp <;> omega)]; exact h.c1
  · rw [World.cell?_setCell_other _ _ _ _ (by simp <;> omega)]; exact h.c2
/-- The table after some blocks. -/
def tabI (bs : List Blk) (a b : Int) : Int := if a = b then 0 else match bs.find? (bothB a b) with | some x => thirdOf x a b | none => 0
def tabN (bs : List Blk) (j q : Nat) : Int := tabI bs (j : Int) (q : Int)
theorem tabI_snoc {n : Nat} {bs : List Blk} (h : isSysImpl (n : Int) bs = true) {m : Nat} {x : Blk} (hm : m < bs.length) (hx : bs[m]? = some x) (a b : Int) :
    tabI (bs.take (m + 1)) a b = if a ≠ b ∧ bothB a b x = true then thirdOf x a b else tabI (bs.take m) a b := by
  have e : bs[m] = x := by
    rw [List.getElem?_eq_getElem hm] at hx
    simpa using hx
  have hxm : x ∈ bs := by rw [← e]; exact List.getElem_mem _
  have hg := (sys_parts h).2.2.1
  unfold tabI
  by_cases hab : a = b
  · simp [hab]
  · rw [if_neg hab, if_neg hab, List.take_succ_eq_append_getElem hm, e, List.find?_append]
    cases hf : (bs.take m).find? (bothB a b) with
    | none =>
      by_cases hb : bothB a b x = true
      · rw [if_pos ⟨hab, hb⟩]; simp [hb]
      · rw [if_neg (fun e => hb e.2)]; simp [hb]
    | some y =>
      have hy := List.mem_of_mem_take (List.mem_of_find?_eq_some hf)
      have hby := List.find?_some hf
      by_cases hb : bothB a b x = true
      · rw [if_pos ⟨hab, hb⟩]
        have : y = x := flat_unique (prs_nodup h) hy hxm ((both_or (hg y hy) hab).1 hby) ((both_or (hg x hxm) hab).1 hb)
        simp [this]
      · rw [if_neg (fun e => hb e.2)]
        simp
/-- The six pairs of a block. -/
def sixT (T : Nat → Nat → Int) (p q r : Nat) : Nat → Nat → Int :=
  setT (setT (setT (setT (setT (setT T p q r) p r q) q p r) q r p) r p q) r q p
theorem six_tab {n : Nat} {bs : List Blk} (h : isSysImpl (n : Int) bs = true) {m p q r : Nat} (hm : m < bs.length) (hx : bs[m]? = some ⟨(p : Int), (q : Int), (r : Int)⟩) (hpq : p < q) (hqr : q < r) (j k : Nat) :
    sixT (tabN (bs.take m)) p q r j k = tabN (bs.take (m + 1)) j k := by
  unfold tabN
  rw [tabI_snoc h hm hx]
  unfold sixT setT bothB hasB thirdOf
  simp only [Bool.and_eq_true, Bool.or_eq_true, decide_eq_true_eq]
  by_cases h1 : j = p
  · subst h1
    by_cases h2 : k = q
    · subst h2
      rw [if_neg (by omega), if_neg (by omega), if_neg (by omega), if_neg (by omega), if_neg (by omega), if_pos ⟨rfl, rfl⟩, if_pos (by omega)]
      omega
    · by_cases h3 : k = r
      · subst h3
        rw [if_neg (by omega), if_neg (by omega), if_neg (by omega), if_neg (by omega), if_pos ⟨rfl, rfl⟩, if_pos (by omega)]
        omega
      · rw [if_neg (by omega), if_neg (by omega), if_neg (by omega), if_neg (by omega), if_neg (by omega), if_neg (by omega), if_neg (by omega)]
  · by_cases h2 : j = q
    · subst h2
      by_cases h3 : k = p
      · subst h3
        rw [if_neg (by omega), if_neg (by omega), if_neg (by omega), if_pos ⟨rfl, rfl⟩, if_pos (by omega)]
        omega
      · by_cases h4 : k = r
        · subst h4
          rw [if_neg (by omega), if_neg (by omega), if_pos ⟨rfl, rfl⟩, if_pos (by omega)]
          omega
        · rw [if_neg (by omega), if_neg (by omega), if_neg (by omega), if_neg (by omega), if_neg (by omega), if_neg (by omega), if_neg (by omega)]
    · by_cases h3 : j = r
      · subst h3
        by_cases h4 : k = p
        · subst h4
          rw [if_neg (by omega), if_pos ⟨rfl, rfl⟩, if_pos (by omega)]
          omega
        · by_cases h5 : k = q
          · subst h5
            rw [if_pos ⟨rfl, rfl⟩, if_pos (by omega)]
            omega
          · rw [if_neg (by omega), if_neg (by omega), if_neg (by omega), if_neg (by omega), if_neg (by omega), if_neg (by omega), if_neg (by omega)]
      · rw [if_neg (by omega), if_neg (by omega), if_neg (by omega), if_neg (by omega), if_neg (by omega), if_neg (by omega), if_neg (by omega)]
end Go.Proofs.Ytahgialnhomefaa

namespace Go.Proofs.Ytahgialnhomefaa
open Go.RowKit Go.Maps
theorem gb_trans {a b c : World} {row : Option Nat} (h : a.grownBy b none) (k : b.grownBy c row) : a.grownBy c row :=
  ⟨k.os.trans h.os, k.tape.trans h.tape, k.output.trans h.output, Nat.le_trans h.size k.size, fun i hi hne => (k.block i (Nat.lt_of_lt_of_le hi h.size) hne).trans (h.block i hi (by simp))⟩
theorem gb_below {a b : World} (h : Below a.heap.size a b) : a.grownBy b none := only_of_below h none
theorem ResR.slice {w : World} {lo hi : Nat} {s : Value} {bs : List Blk} (h : ResR w lo hi s bs) : ∃ a c, s = .slice a bs.length c := by
  rcases h with ⟨rfl, a, c, rfl⟩ | ⟨g, cap, rfl, _⟩ <;> exact ⟨_, _, rfl⟩
set_option maxRecDepth 100000 in
theorem markSystem_any (lo hi : Nat) (v : Int) (s : Value) (bs : List Blk) (k : Int) (w : World) (h : ResR w lo hi s bs) (hl : bs.length ≤ 1100000) (h0 : 0 ≤ k) (h1 : k ≤ 9000000) :
    Calls Try.prog 30 #[.agg #[.int .i64 v, s], .int .i64 k] w (fun e w' => e = .returned (.int .i64 (k + 3 * bs.length)) ∧ (∃ row, w.grownBy w' row ∧ ∀ r, row = some r → lo ≤ r ∧ r < hi) ∧ ResR w' lo hi s (markL k bs.length)) := by
  have hc := markR lo hi s bs k (w.alloc (.cells #[.int .i64 v, s] 30)) (h.below ((Below.refl _ _).alloc (Nat.le_refl _) _) (Nat.le_refl _)) hl h0 h1
  have hs := h.slice
  have HC := Lib.hid hc
  clear hc h
  obtain ⟨a, c, rfl⟩ := hs
  go_enter Try.func30, Try.ntmps30
  go_wp2_with (go_at_call 59; refine HC.out.mono ?_; rintro e w1 ⟨rfl, hg, hr⟩)
  go_ret
  obtain ⟨row, hg, hrow⟩ := hg
  exact ⟨rfl, ⟨row, gb_trans (World.grownBy_alloc _ _ none) hg, hrow⟩, hr⟩
end Go.Proofs.Ytahgialnhomefaa

namespace Go.Proofs.Ytahgialnhomefaa
open Go.RowKit Go.Maps
theorem sizeInt64 (w : World) : (sizeOf 2).run Try.prog w = .ok 1 w := by kernel_rfl
theorem partInt64 (x y z : Value) (w : World) : (part 2 #[x, y, z] 0).run Try.prog w = .ok x w ∧ (part 2 #[x, y, z] 1).run Try.prog w = .ok y w ∧ (part 2 #[x, y, z] 2).run Try.prog w = .ok z w := by
  refine ⟨?_, ?_, ?_⟩ <;> kernel_rfl
theorem eqIn64 (d : Nat) (a b : Int) (w : World) : (Op.equalIn (d + 1) 2 (.int .i64 a) (.int .i64 b)).run Try.prog w = .ok (a == b) w := by
  simp [Op.equalIn, run_underlying Try.underlying2]
theorem eqInBlk (n : Nat) (a b c d e f : Int) (w : World) : (Op.equalIn (n + 1 + 1) 84 (.agg #[.int .i64 a, .int .i64 b, .int .i64 c]) (.agg #[.int .i64 d, .int .i64 e, .int .i64 f])).run Try.prog w = .ok (a == d && b == e && c == f) w := by
  rw [Op.equalIn]
  simp only [Sem.run_bind, run_underlying Try.underlying84, Result.andThen_ok, sizeInt64]
  simp [Std.Legacy.Range.forIn_eq_forIn_range', Std.Legacy.Range.size, List.range', partInt64, eqIn64, Sem.run_ite]
  by_cases h1 : a = d <;> by_cases h2 : b = e <;> by_cases h3 : c = f <;> simp [h1, h2, h3]
theorem run_eql_blk (x y : Blk) (w : World) : (binOp .eql 84 (bv x) (bv y)).run Try.prog w = .ok (.bool (decide (x = y))) w := by
  obtain ⟨a, b, c⟩ := x
  obtain ⟨d, e, f⟩ := y
  simp only [bv, binOp]
  simp [Op.equal, Op.maxDepth, eqInBlk 9998]
  by_cases h1 : a = d <;> by_cases h2 : b = e <;> by_cases h3 : c = f <;> simp [h1, h2, h3]
theorem run_neq_blk (x y : Blk) (w : World) : (binOp .neq 84 (bv x) (bv y)).run Try.prog w = .ok (.bool (!decide (x = y))) w := by
  obtain ⟨a, b, c⟩ := x
  obtain ⟨d, e, f⟩ := y
  simp only [bv, binOp]
  simp [Op.equal, Op.maxDepth, eqInBlk 9998]
  by_cases h1 : a = d <;> by_cases h2 : b = e <;> by_cases h3 : c = f <;> simp [h1, h2, h3]
end Go.Proofs.Ytahgialnhomefaa

namespace Go.Proofs.Ytahgialnhomefaa
/-- A system and a code: points, blocks, code. -/
def takeF (v : Int) (bs : List Blk) (i : Int) : Int × List Blk × Int :=
  if isSysImpl v bs then (if decide (0 ≤ i) && decide (i < (bs.length : Int)) then (v, bs.take i.toNat ++ bs.drop (i.toNat + 1), 0) else (0, [], 2)) else (0, [], 1)
theorem filter_all {p : Blk → Bool} : ∀ {l : List Blk}, (∀ x ∈ l, p x = true) → l.filter p = l
  | [], _ => rfl
  | x :: r, h => by rw [List.filter_cons, if_pos (h x (by simp)), filter_all (fun y hy => h y (by simp [hy]))]
/-- The blocks that are not the i-th. -/
theorem filter_other {bs : List Blk} (h : bs.Nodup) {i : Nat} (hi : i < bs.length) : bs.filter (fun x => !decide (x = bs[i])) = bs.take i ++ bs.drop (i + 1) := by
  have e : bs = bs.take i ++ bs[i] :: bs.drop (i + 1) := by rw [← List.drop_eq_getElem_cons hi, List.take_append_drop]
  obtain ⟨y, hy⟩ : ∃ y, y = bs[i] := ⟨_, rfl⟩
  rw [← hy] at e ⊢
  clear hy
  obtain ⟨p, hp⟩ : ∃ p, p = bs.take i := ⟨_, rfl⟩
  obtain ⟨q, hq⟩ : ∃ q, q = bs.drop (i + 1) := ⟨_, rfl⟩
  rw [← hp, ← hq] at e ⊢
  clear hp hq hi
  subst e
  obtain ⟨h1, h2, h3⟩ := List.nodup_append.1 h
  rw [List.nodup_cons] at h2
  rw [List.filter_append, List.filter_cons, if_neg (by simp)]
  rw [filter_all (fun x hx => by have := h3 x hx y (by simp); simpa using this), filter_all (fun x hx => by
    have : x ≠ y := fun e => h2.1 (e ▸ hx)
    simpa using this)]
theorem takeF_sub (v : Int) (bs : List Blk) (i : Int) : ∀ x ∈ (takeF v bs i).2.1, x ∈ bs := by
  unfold takeF
  split
  · split
    · intro x hx
      rcases List.mem_append.1 hx with h | h
      · exact List.mem_of_mem_take h
      · exact List.mem_of_mem_drop h
    · simp
  · simp
theorem takeF_len (v : Int) (bs : List Blk) (i : Int) : (takeF v bs i).2.1.length ≤ bs.length := by
  unfold takeF
  split
  · split
    · simp
      omega
    · simp
  · simp
end Go.Proofs.Ytahgialnhomefaa

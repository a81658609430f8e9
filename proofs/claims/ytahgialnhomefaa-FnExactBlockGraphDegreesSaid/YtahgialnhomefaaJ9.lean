
/- PairsLeft: the program and the model answer alike. Third points of full systems: plain. A table of rows, written in place. impl.cycleFrom. What a law over one system whose result is a list of integers knows of the memory between two of its steps. The memory of a law between two of its steps: items, each in blocks of its own, the newest first. -/
import Derived.Test.YtahgialnhomefaaJ8
import Derived.WalkMore
import Derived.ScopeJumps
namespace Go.Proofs.Ytahgialnhomefaa
open Go.RowKit Go.Maps
theorem both_pair {v : Int} {x : Blk} (hg : goodB v x = true) {a b : Int} (hab : a < b) : bothB a b x = true ↔ (a, b) ∈ pairsL x := by
  obtain ⟨h1, h2, h3, h4⟩ := goodB_iff.1 hg
  unfold bothB hasB pairsL
  simp only [Bool.and_eq_true, Bool.or_eq_true, decide_eq_true_iff, List.mem_cons, List.mem_nil_iff, or_false, Prod.mk.injEq]
  omega
theorem third_left {v : Int} {bs : List Blk} (hg : ∀ x ∈ bs, goodB v x = true) (hv : v ≤ 15) {a b : Int} (hab : a < b) :
    (notIn (bs.flatMap pairsL) a b = true → third1 bs a b = -1) ∧ (notIn (bs.flatMap pairsL) a b = false → 0 ≤ third1 bs a b ∧ third1 bs a b ≤ 15) := by
  unfold notIn third1
  cases hf : bs.find? (bothB a b) with
  | none =>
    have hn := List.find?_eq_none.1 hf
    have : ¬ (a, b) ∈ bs.flatMap pairsL := fun h => by
      obtain ⟨x, hx, hp⟩ := List.mem_flatMap.1 h
      exact hn x hx ((both_pair (hg x hx) hab).2 hp)
    simp [this]
  | some x =>
    have hx := List.mem_of_find?_eq_some hf
    have hb := List.find?_some hf
    have hin : (a, b) ∈ bs.flatMap pairsL := List.mem_flatMap.2 ⟨x, hx, (both_pair (hg x hx) hab).1 hb⟩
    have hne : a ≠ b := by omega
    have h3 := third_bounds (hg x hx) hv hb hne
    refine ⟨fun h => ?_, fun _ => h3⟩
    simp [hin] at h
def pairsF (v : Int) (bs : List Blk) : List (Int × Int) × Int := if isSysImpl v bs then (leftL (notIn (bs.flatMap pairsL)) v.toNat v.toNat, 0) else ([], 1)
/-- A result that is a list of rows: empty anywhere, or memory of its own from lo on. -/
def ResSS (w : World) (lo : Nat) (u : Value) (n : Nat) (F : Nat → List Int) : Prop := (n = 0 ∧ ∃ a c, u = .slice a 0 c) ∨ ∃ G cap gs caps, u = .slice (some ⟨G, 0, none⟩) n cap ∧ lo ≤ G ∧ SSR w lo G gs caps n F
theorem AccS.res {w : World} {base : Nat} {u : Value} {n : Nat} {gs caps : Nat → Nat} {F : Nat → List Int} (h : AccS w base u n gs caps F) : ResSS w base u n F := by
  by_cases h0 : n = 0
  · subst h0
    rcases h.own.2 with ⟨rfl, _⟩ | ⟨g, cap, cur, rfl, _⟩
    · exact .inl ⟨rfl, _, _, rfl⟩
    · exact .inl ⟨rfl, _, _, rfl⟩
  · obtain ⟨G, cap, hu, hG, hS⟩ := h.ssr (by omega)
    exact .inr ⟨G, cap, gs, caps, hu, hG, hS⟩
def RPL (r : List (Int × Int) × Int) (w : World) (e : Ending) (w' : World) : Prop := ∃ u, e = .returned (.tuple #[u, .int .i64 r.2]) ∧ Below w.heap.size w w' ∧ ResSS w' w.heap.size u r.1.length (fnL r.1)
end Go.Proofs.Ytahgialnhomefaa

namespace Go.Proofs.Ytahgialnhomefaa
def pairsV (n : Nat) : List (Int × Int) := (List.range n).flatMap fun (b : Nat) => (List.range b).map fun (a : Nat) => ((a : Int), (b : Int))
theorem pairsV_len : ∀ n : Fin 16, 2 * (pairsV n.val).length = n.val * (n.val - 1) := by decide +kernel
theorem mem_pairsV {n : Nat} {a b : Int} : (a, b) ∈ pairsV n ↔ 0 ≤ a ∧ a < b ∧ b < (n : Int) := by
  simp only [pairsV, List.mem_flatMap, List.mem_range, List.mem_map, Prod.mk.injEq]
  constructor
  · rintro ⟨b', hb, a', ha, rfl, rfl⟩
    omega
  · rintro ⟨h0, h1, h2⟩
    exact ⟨b.toNat, by omega, a.toNat, by omega, by omega, by omega⟩
theorem full_pair {n : Nat} {bs : List Blk} (h : isSysImpl (n : Int) bs = true) (hf : fullB (n : Int) bs = true) {a b : Int} (h0 : 0 ≤ a) (h1 : a < b) (h2 : b < (n : Int)) : (a, b) ∈ prs bs := by
  obtain ⟨h3, h15, hg, _⟩ := sys_parts h
  have hl := pairsV_len ⟨n, by omega⟩
  simp only at hl
  simp only [fullB, decide_eq_true_eq] at hf
  refine sub_back (prs_nodup h) (m := pairsV n) ?_ ?_ (a, b) (mem_pairsV.2 ⟨h0, h1, h2⟩)
  · rintro ⟨p, q⟩ hp
    obtain ⟨x, hx, hp⟩ := List.mem_flatMap.1 hp
    have := goodB_iff.1 (hg x hx)
    simp only [pairsL, List.mem_cons, List.not_mem_nil, or_false, Prod.mk.injEq] at hp
    rw [mem_pairsV]
    omega
  · rw [prs_length]
    have e : ((n * (n - 1) : Nat) : Int) = (n : Int) * ((n : Int) - 1) := by
      have : ((n - 1 : Nat) : Int) = (n : Int) - 1 := by omega
      rw [Int.natCast_mul, this]
    rw [← e] at hf
    omega
theorem flat_unique {α β : Type} {f : α → List β} : ∀ {l : List α}, (l.flatMap f).Nodup → ∀ {x y : α} {p : β}, x ∈ l → y ∈ l → p ∈ f x → p ∈ f y → x = y
  | [], _, _, _, _, hx, _, _, _ => by cases hx
  | z :: r, hn, x, y, p, hx, hy, hp, hq => by
    rw [List.flatMap_cons, List.nodup_append] at hn
    obtain ⟨_, h2, h3⟩ := hn
    rcases List.mem_cons.1 hx with ex | hx'
    · rcases List.mem_cons.1 hy with ey | hy'
      · rw [ex, ey]
      · exact absurd rfl (h3 p (ex ▸ hp) p (List.mem_flatMap.2 ⟨y, hy', hq⟩))
    · rcases List.mem_cons.1 hy with ey | hy'
      · exact absurd rfl (h3 p (ey ▸ hq) p (List.mem_flatMap.2 ⟨x, hx', hp⟩))
      · exact flat_unique h2 hx' hy' hp hq
/-- Three points of a block. -/
def Tri (bs : List Blk) (a b c : Int) : Prop := ∃ x ∈ bs, hasB x a = true ∧ hasB x b = true ∧ hasB x c = true ∧ a ≠ b ∧ b ≠ c ∧ a ≠ c
theorem Tri.swap {bs : List Blk} {a b c : Int} (h : Tri bs a b c) : Tri bs b a c := by
  obtain ⟨x, hx, h1, h2, h3, h4, h5, h6⟩ := h
  exact ⟨x, hx, h2, h1, h3, fun e => h4 e.symm, h6, h5⟩
theorem Tri.turn {bs : List Blk} {a b c : Int} (h : Tri bs a b c) : Tri bs a c b := by
  obtain ⟨x, hx, h1, h2, h3, h4, h5, h6⟩ := h
  exact ⟨x, hx, h1, h3, h2, h6, fun e => h5 e.symm, h4⟩
theorem both_or {v : Int} {x : Blk} (hg : goodB v x = true) {a b : Int} (hab : a ≠ b) : bothB a b x = true ↔ ((if a < b then (a, b) else (b, a)) ∈ pairsL x) := by
  obtain ⟨h1, h2, h3, h4⟩ := goodB_iff.1 hg
  unfold bothB hasB pairsL
  split
  · simp only [Bool.and_eq_true, Bool.or_eq_true, decide_eq_true_iff, List.mem_cons, List.mem_nil_iff, or_false, Prod.mk.injEq]
    omega
  · simp only [Bool.and_eq_true, Bool.or_eq_true, decide_eq_true_iff, List.mem_cons, List.mem_nil_iff, or_false, Prod.mk.injEq]
    omega
section
variable {n : Nat} {bs : List Blk}
theorem tri_has {x : Blk} {v a b c : Int} (hg : goodB v x = true) (ha : hasB x a = true) (hb : hasB x b = true) (hc : hasB x c = true) (h1 : a ≠ b) (h2 : b ≠ c) (h3 : a ≠ c) : thirdOf x a b = c := by
  have := goodB_iff.1 hg
  unfold hasB at ha hb hc
  unfold thirdOf
  simp at ha hb hc
  omega
theorem third_has {x : Blk} {v a b : Int} (hg : goodB v x = true) (ha : hasB x a = true) (hb : hasB x b = true) (h1 : a ≠ b) : hasB x (thirdOf x a b) = true ∧ b ≠ thirdOf x a b ∧ a ≠ thirdOf x a b := by
  have := goodB_iff.1 hg
  unfold hasB at ha hb ⊢
  unfold thirdOf
  simp at ha hb ⊢
  omega
/-- The third point of two that are in a block. -/
theorem third1_of (h : isSysImpl (n : Int) bs = true) {a b c : Int} (ht : Tri bs a b c) : third1 bs a b = c := by
  obtain ⟨x, hx, h1, h2, h3, h4, h5, h6⟩ := ht
  have hg := (sys_parts h).2.2.1
  have hbx : bothB a b x = true := by simp [bothB, h1, h2]
  unfold third1
  cases hf : bs.find? (bothB a b) with
  | none => exact absurd hbx (by simpa using List.find?_eq_none.1 hf x hx)
  | some y =>
    have hy := List.mem_of_find?_eq_some hf
    have hby := List.find?_some hf
    have : x = y := flat_unique (prs_nodup h) hx hy ((both_or (hg x hx) h4).1 hbx) ((both_or (hg y hy) h4).1 hby)
    subst this
    exact tri_has (hg x hx) h1 h2 h3 h4 h5 h6
theorem tri_third (h : isSysImpl (n : Int) bs = true) (hf : fullB (n : Int) bs = true) {a b : Int} (ha : 0 ≤ a ∧ a < (n : Int)) (hb : 0 ≤ b ∧ b < (n : Int)) (hab : a ≠ b) : Tri bs a b (third1 bs a b) := by
  have hg := (sys_parts h).2.2.1
  have hp : (if a < b then (a, b) else (b, a)) ∈ prs bs := by
    split
    · exact full_pair h hf ha.1 (by omega) hb.2
    · exact full_pair h hf hb.1 (by omega) ha.2
  obtain ⟨x, hx, hp⟩ := List.mem_flatMap.1 hp
  have hb2 := (both_or (hg x hx) hab).2 hp
  simp only [bothB, Bool.and_eq_true] at hb2
  obtain ⟨h1, h2, h3⟩ := third_has (hg x hx) hb2.1 hb2.2 hab
  have ht : Tri bs a b (thirdOf x a b) := ⟨x, hx, hb2.1, hb2.2, h1, hab, h2, h3⟩
  rw [third1_of h ht]
  exact ht
theorem Tri.range (h : isSysImpl (n : Int) bs = true) {a b c : Int} (ht : Tri bs a b c) : 0 ≤ c ∧ c < (n : Int) := by
  obtain ⟨x, hx, _, _, h3, _⟩ := ht
  have := goodB_iff.1 ((sys_parts h).2.2.1 x hx)
  unfold hasB at h3
  simp at h3
  omega
/-- The points beyond a, b and their third. -/
def Beyond (n : Nat) (bs : List Blk) (a b : Int) (x : Int) : Prop := (0 ≤ x ∧ x < (n : Int)) ∧ x ≠ a ∧ x ≠ b ∧ x ≠ third1 bs a b
theorem beyond_in (h : isSysImpl (n : Int) bs = true) (hf : fullB (n : Int) bs = true) {a b : Int} (ha : 0 ≤ a ∧ a < (n : Int)) (hb : 0 ≤ b ∧ b < (n : Int)) (hab : a ≠ b) {x : Int} (hx : Beyond n bs a b x) : Beyond n bs a b (third1 bs a x) := by
  obtain ⟨hr, hxa, hxb, hxc⟩ := hx
  have ht := tri_third h hf ha hr (fun e => hxa e.symm)
  have hab3 := tri_third h hf ha hb hab
  obtain ⟨_, _, _, _, _, h4, h5, h6⟩ := id ht
  refine ⟨ht.range h, fun e => h6 e.symm, fun e => ?_, fun e => ?_⟩
  · -- b is the third of a and x: x is that of a and b
    have := third1_of h ht.turn
    rw [e] at this
    exact hxc this.symm
  · -- the same third point: x is b
    have h1 := third1_of h ht.turn
    have h2 := third1_of h hab3.turn
    rw [e] at h1
    rw [h1] at h2
    exact hxb h2
theorem two_thirds (h : isSysImpl (n : Int) bs = true) (hf : fullB (n : Int) bs = true) {a b : Int} (ha : 0 ≤ a ∧ a < (n : Int)) (hb : 0 ≤ b ∧ b < (n : Int)) (hab : a ≠ b) : Two (third1 bs a) (third1 bs b) (Beyond n bs a b) where
  fin := fun x hx => beyond_in h hf ha hb hab hx
  gin := fun x hx => by
    have hs : third1 bs b a = third1 bs a b := third1_of h (tri_third h hf ha hb hab).swap
    have hx' : Beyond n bs b a x := ⟨hx.1, hx.2.2.1, hx.2.1, by rw [hs]; exact hx.2.2.2⟩
    obtain ⟨h1, h2, h3, h4⟩ := beyond_in h hf hb ha (fun e => hab e.symm) hx'
    exact ⟨h1, h3, h2, by rw [← hs]; exact h4⟩
  ff := fun x hx => third1_of h (tri_third h hf ha hx.1 (fun e => hx.2.1 e.symm)).turn
  gg := fun x hx => third1_of h (tri_third h hf hb hx.1 (fun e => hx.2.2.1 e.symm)).turn
  fne := fun x hx => by
    obtain ⟨_, _, _, _, _, _, h5, _⟩ := tri_third h hf ha hx.1 (fun e => hx.2.1 e.symm)
    exact fun e => h5 e.symm
  gne := fun x hx => by
    obtain ⟨_, _, _, _, _, _, h5, _⟩ := tri_third h hf hb hx.1 (fun e => hx.2.2.1 e.symm)
    exact fun e => h5 e.symm
  fg := fun x hx e => by
    have h1 := tri_third h hf ha hx.1 (fun e => hx.2.1 e.symm)
    have h2 := tri_third h hf hb hx.1 (fun e => hx.2.2.1 e.symm)
    have e1 := third1_of h h1.swap.turn
    have e2 := third1_of h h2.swap.turn
    rw [e] at e1
    rw [e1] at e2
    exact hab e2
end
end Go.Proofs.Ytahgialnhomefaa

namespace Go.Proofs.Ytahgialnhomefaa
open Go.RowKit Go.Maps
def rowT (n : Nat) (T : Nat → Nat → Int) (j : Nat) : List Int := (List.range n).map (T j)
def setT (T : Nat → Nat → Int) (i q : Nat) (z : Int) : Nat → Nat → Int := fun j p => if j = i ∧ p = q then z else T j p
theorem rowT_len (n : Nat) (T : Nat → Nat → Int) (j : Nat) : (rowT n T j).length = n := by simp [rowT]
theorem rowT_at {n : Nat} (T : Nat → Nat → Int) (j : Nat) {q : Nat} (h : q < n) : (rowT n T j)[q]?.getD 0 = T j q := by simp [rowT, h]
theorem rowT_congr {n : Nat} {T T' : Nat → Nat → Int} {j : Nat} (h : ∀ q, q < n → T j q = T' j q) : rowT n T j = rowT n T' j :=
  List.map_congr_left fun q hq => h q (List.mem_range.1 hq)
theorem rowT_zero (n j : Nat) : rowT n (fun _ _ => 0) j = List.replicate n 0 := by
  unfold rowT
  rw [List.map_const', List.length_range]
section
variable {w : World} {lo G : Nat} {gs caps : Nat → Nat} {n : Nat}
theorem SSR.inj {F : Nat → List Int} (h : SSR w lo G gs caps n F) {i j : Nat} (hi : i < n) (hj : j < n) (hij : i ≠ j) : gs i ≠ gs j := by
  rcases Nat.lt_or_ge i j with h1 | h1
  · exact h.inc i j h1 hj
  · exact (h.inc j i (by omega) hi).symm
theorem SSR.setT {T : Nat → Nat → Int} (h : SSR w lo G gs caps n (rowT n T)) {i q : Nat} (hi : i < n) (hq : q < n) (z : Int) : SSR (w.setCell ⟨gs i, q, none⟩ (.int .i64 z)) lo G gs caps n (rowT n (setT T i q z)) := by
  have hst := only_setCell (only_refl w (some (gs i))) (p := ⟨gs i, q, none⟩) rfl (.int .i64 z)
  refine ⟨fun k hk => ?_, fun k hk => ?_, h.ne, h.inc, h.low, by have := h.lt; simpa [World.setCell] using this⟩
  · have := hst.cell (h.cell k hk) (fun e => h.ne i hi (by cases e; rfl))
    rw [rowT_len] at this ⊢
    exact this
  · by_cases e : k = i
    · subst e
      have ho := h.row k hk
      refine ⟨by have := ho.lt; simpa [World.setCell] using this, fun p hp => ?_, fun o => by rw [World.frozen?_setCell]; exact ho.free o⟩
      rw [rowT_len] at hp
      have hc := ho.at_ p (by rw [rowT_len]; exact hp)
      have hcq := ho.at_ q (by rw [rowT_len]; exact hq)
      rw [rowT_at _ _ hp]
      rw [Nat.zero_add] at hc hcq ⊢
      by_cases e2 : p = q
      · subst e2
        rw [World.cell?_setCell_same' _ _ _ (by rw [hcq]; rfl)]
        simp [Go.Proofs.Ytahgialnhomefaa.setT]
      · rw [World.cell?_setCell_other _ _ _ _ (by simp <;> omega), hc, rowT_at _ _ hp]
        simp [Go.Proofs.Ytahgialnhomefaa.setT, e2]
    · have := (h.row k hk).kept hst (by have := h.inj hk hi e; simpa using this)
      rw [rowT_congr (T' := T) (fun p _ => by simp [Go.Proofs.Ytahgialnhomefaa.setT, e])]
      exact this
end
/-- The table, and the block that is looked at. -/
structure TBx (W1 W : World) (lo G Bb : Nat) (gs caps : Nat → Nat) (n : Nat) (T : Nat → Nat → Int) (p q r : Nat) : Prop where
  below : Below lo W1 W
  tab : SSR W lo G gs caps n (rowT n T)
  c0 : W.cell? ⟨Bb, 0, none⟩ = some (.int .i64 (p : Int))
  c1 : W.cell? ⟨Bb, 1, none⟩ = some (.int .i64 (q : Int))
  c2 : W.cell? ⟨Bb, 2, none⟩ = some (.int .i64 (r : Int))
  bb : ∀ j, j < n → gs j < Bb
theorem TBx.step {W1 W : World} {lo G Bb : Nat} {gs caps : Nat → Nat} {n : Nat} {T : Nat → Nat → Int} {p q r : Nat} (h : TBx W1 W lo G Bb gs caps n T p q r) {i k : Nat} (hi : i < n) (hk : k < n) (z : Int) :
    TBx W1 (W.setCell ⟨gs i, k, none⟩ (.int .i64 z)).drew lo G Bb gs caps n (setT T i k z) p q r := by
  show TBx W1 (W.drew.setCell ⟨gs i, k, none⟩ (.int .i64 z)) lo G Bb gs caps n (setT T i k z) p q r
  have hbb := h.bb i hi
  have ht : SSR W.drew lo G gs caps n (rowT n T) := ⟨h.tab.cell, fun k hk => ⟨(h.tab.row k hk).lt, (h.tab.row k hk).at_, (h.tab.row k hk).free⟩, h.tab.ne, h.tab.inc, h.tab.low, h.tab.lt⟩
  refine ⟨(h.below.drew).setCell (p := ⟨gs i, k, none⟩) (h.tab.low i hi) _, ht.setT hi hk z, ?_, ?_, ?_, h.bb⟩
  · rw [World.cell?_setCell_other _ _ _ _ (by simp <;> omega)]; exact h.c0
  · rw [World.cell?_setCell_other _ _ _ _ (by simp <;> omega)]; exact h.c1
  · rw [World.cell?_setCell_other _ _ _ _ (by simp <;> omega)]; exact h.c2
/-- The table after some blocks. -/
def tabI (bs : List Blk) (a b : Int) : Int := if a = b then 0 else match bs.find? (bothB a b) with | some x => thirdOf x a b | none => 0
def tabN (bs : List Blk) (j q : Nat) : Int := tabI bs (j : Int) (q : Int)
theorem tabI_snoc {n : Nat} {bs : List Blk} (h : isSysImpl (n : Int) bs = true) {m : Nat} {x : Blk} (hm : m < bs.length) (hx : bs[m]? = some x) (a b : Int) :
    tabI (bs.take (m + 1)) a b = if a ≠ b ∧ bothB a b x = true then thirdOf x a b else tabI (bs.take m) a b := by
  have e : bs[m] = x := by
    rw [List.getElem?_eq_getElem hm] at hx
    simpa using hx
  have hxm : x ∈ bs := by rw [← e]; exact List.getElem_mem _
  have hg := (sys_parts h).2.2.1
  unfold tabI
  by_cases hab : a = b
  · simp [hab]
  · rw [if_neg hab, if_neg hab, List.take_succ_eq_append_getElem hm, e, List.find?_append]
    cases hf : (bs.take m).find? (bothB a b) with
    | none =>
      by_cases hb : bothB a b x = true
      · rw [if_pos ⟨hab, hb⟩]; simp [hb]
      · rw [if_neg (fun e => hb e.2)]; simp [hb]
    | some y =>
      have hy := List.mem_of_mem_take (List.mem_of_find?_eq_some hf)
      have hby := List.find?_some hf
      by_cases hb : bothB a b x = true
      · rw [if_pos ⟨hab, hb⟩]
        have : y = x := flat_unique (prs_nodup h) hy hxm ((both_or (hg y hy) hab).1 hby) ((both_or (hg x hxm) hab).1 hb)
        simp [this]
      · rw [if_neg (fun e => hb e.2)]
        simp
/-- The six pairs of a block. -/
def sixT (T : Nat → Nat → Int) (p q r : Nat) : Nat → Nat → Int :=
  setT (setT (setT (setT (setT (setT T p q r) p r q) q p r) q r p) r p q) r q p
theorem six_tab {n : Nat} {bs : List Blk} (h : isSysImpl (n : Int) bs = true) {m p q r : Nat} (hm : m < bs.length) (hx : bs[m]? = some ⟨(p : Int), (q : Int), (r : Int)⟩) (hpq : p < q) (hqr : q < r) (j k : Nat) :
    sixT (tabN (bs.take m)) p q r j k = tabN (bs.take (m + 1)) j k := by
  unfold tabN
  rw [tabI_snoc h hm hx]
  unfold sixT setT bothB hasB thirdOf
  simp only [Bool.and_eq_true, Bool.or_eq_true, decide_eq_true_eq]
  by_cases h1 : j = p
  · subst h1
    by_cases h2 : k = q
    · subst h2
      rw [if_neg (by omega), if_neg (by omega), if_neg (by omega), if_neg (by omega), if_neg (by omega), if_pos ⟨rfl, rfl⟩, if_pos (by omega)]
      omega
    · by_cases h3 : k = r
      · subst h3
        rw [if_neg (by omega), if_neg (by omega), if_neg (by omega), if_neg (by omega), if_pos ⟨rfl, rfl⟩, if_pos (by omega)]
        omega
      · rw [if_neg (by omega), if_neg (by omega), if_neg (by omega), if_neg (by omega), if_neg (by omega), if_neg (by omega), if_neg (by omega)]
  · by_cases h2 : j = q
    · subst h2
      by_cases h3 : k = p
      · subst h3
        rw [if_neg (by omega), if_neg (by omega), if_neg (by omega), if_pos ⟨rfl, rfl⟩, if_pos (by omega)]
        omega
      · by_cases h4 : k = r
        · subst h4
          rw [if_neg (by omega), if_neg (by omega), if_pos ⟨rfl, rfl⟩, if_pos (by omega)]
          omega
        · rw [if_neg (by omega), if_neg (by omega), if_neg (by omega), if_neg (by omega), if_neg (by omega), if_neg (by omega), if_neg (by omega)]
    · by_cases h3 : j = r
      · subst h3
        by_cases h4 : k = p
        · subst h4
          rw [if_neg (by omega), if_pos ⟨rfl, rfl⟩, if_pos (by omega)]
          omega
        · by_cases h5 : k = q
          · subst h5
            rw [if_pos ⟨rfl, rfl⟩, if_pos (by omega)]
            omega
          · rw [if_neg (by omega), if_neg (by omega), if_neg (by omega), if_neg (by omega), if_neg (by omega), if_neg (by omega), if_neg (by omega)]
      · rw [if_neg (by omega), if_neg (by omega), if_neg (by omega), if_neg (by omega), if_neg (by omega), if_neg (by omega), if_neg (by omega)]
end Go.Proofs.Ytahgialnhomefaa

namespace Go.Proofs.Ytahgialnhomefaa
open Go.RowKit Go.Maps
theorem wpList_append_int2 {w : World} {ops : Array Oper} {rest : List Oper} {o : Oper} {a : Act} {Q : Exit → Act → World → Prop} (hgd : o.guard = none) (s x : Operand)
    (ho : o.op = .call { callee := .builtin .append, args := #[s, x], argTypes := #[38, 38] })
    (base : Nat) (v : Value) (zs : List Int) (hs : a.eval s = v) (hown : OwnJ w base v zs) (b0 c : Nat) (y1 y2 : Int) (hx : a.eval x = .slice (some ⟨b0, 0, none⟩) 2 c)
    (c1 : w.cell? ⟨b0, 0, none⟩ = some (.int .i64 y1)) (c2 : w.cell? ⟨b0, 1, none⟩ = some (.int .i64 y2)) (hl : zs.length ≤ 3300000) (hbase : base ≤ w.heap.size)
    (h : ∀ (g cap : Nat) (w' : World), OwnJ w' base (.slice (some ⟨g, 0, none⟩) (zs.length + 2) cap) (zs ++ [y1, y2]) → w.grownBy w' v.ownBlock → wpList Try.prog ops Q rest (a.put o.dst (.slice (some ⟨g, 0, none⟩) (zs.length + 2) cap)) w') : wpList Try.prog ops Q (o :: rest) a w := by
  obtain ⟨i0, hi, hz0, hz1, hz2⟩ := info_parts infoInt64
  refine wpList_append_own w hgd s x 38 ho base 2 i0 _ 1 8 Try.underlying38 hi hz0 hz1 hz2 rfl (by decide) v zs.length (zs.map (Value.int .i64)) hs hown ⟨b0, 0, none⟩ 2 c [.int .i64 y1, .int .i64 y2] hx rfl ?_ ?_ (by unfold maxLen; omega) (by omega) hbase ?_
  · intro j u hj
    rw [addr_at, Nat.zero_add]
    match j, hj with
    | 0, hj => simp at hj; rw [← hj]; exact c1
    | 1, hj => simp at hj; rw [← hj]; exact c2
    | j + 2, hj => simp at hj
  · intro u hu
    simp at hu
    rcases hu with rfl | rfl <;> rfl
  · intro v' w' hown' hg _
    obtain ⟨g, cap, rfl⟩ := row_some (k := zs.length + 1) hown'
    refine h g cap w' ?_ hg
    unfold OwnJ
    rw [List.length_append, List.map_append]
    exact hown'
theorem tab_third {n : Nat} {bs : List Blk} (h : isSysImpl (n : Int) bs = true) (hf : fullB (n : Int) bs = true) {a b : Int} (ha : 0 ≤ a ∧ a < (n : Int)) (hb : 0 ≤ b ∧ b < (n : Int)) (hab : a ≠ b) : tabI bs a b = third1 bs a b := by
  obtain ⟨x, hx, h1, h2, _⟩ := tri_third h hf ha hb hab
  unfold tabI third1
  rw [if_neg hab]
  cases hfd : bs.find? (bothB a b) with
  | none => exact absurd (show bothB a b x = true by simp [bothB, h1, h2]) (by simpa using List.find?_eq_none.1 hfd x hx)
  | some y => rfl
/-- The points of the walk. -/
def wk (bs : List Blk) (a b : Nat) (s : Int) (k : Nat) : Int := stepN (third1 bs (a : Int)) (third1 bs (b : Int)) s k
def wkL (bs : List Blk) (a b : Nat) (s : Int) (k : Nat) : List Int := (List.range k).map (wk bs a b s)
theorem wkL_two (bs : List Blk) (a b : Nat) (s : Int) (k : Nat) : wkL bs a b s (k + 2) = wkL bs a b s k ++ [wk bs a b s k, wk bs a b s (k + 1)] := by
  simp [wkL, List.range_succ]
theorem wkL_len (bs : List Blk) (a b : Nat) (s : Int) (k : Nat) : (wkL bs a b s k).length = k := by simp [wkL]
/-- The length of a slice. -/
def lenOf : Value → Nat
  | .slice _ n _ => n
  | _ => 0
end Go.Proofs.Ytahgialnhomefaa

namespace Go.Proofs.Ytahgialnhomefaa
open Go.RowKit Go.Maps
theorem ResI.slice {w : World} {lo hi : Nat} {s : Value} {zs : List Int} (h : ResI w lo hi s zs) : ∃ a c, s = .slice a zs.length c := by
  rcases h with ⟨rfl, a, c, rfl⟩ | ⟨g, cap, rfl, _⟩ <;> exact ⟨_, _, rfl⟩
theorem ResI.wide {w : World} {lo hi lo' hi' : Nat} {s : Value} {zs : List Int} (h : ResI w lo hi s zs) (h1 : lo' ≤ lo) (h2 : hi ≤ hi') : ResI w lo' hi' s zs := by
  rcases h with h | ⟨g, cap, rfl, h3, h4, ho⟩
  · exact .inl h
  · exact .inr ⟨g, cap, rfl, by omega, by omega, ho⟩
structure St1 (w : World) (v : Int) (s : Value) (W : World) : Prop where
  below : Below w.heap.size w W
  big : w.heap.size < W.heap.size
  x0 : W.cell? ⟨w.heap.size, 0, none⟩ = some (.int .i64 v)
  x1 : W.cell? ⟨w.heap.size, 1, none⟩ = some s
theorem St1.step {w : World} {v : Int} {s : Value} {W W' : World} {row : Option Nat} (h : St1 w v s W) (hg : W.grownBy W' row) (hr : ∀ r, row = some r → w.heap.size < r) : St1 w v s W' :=
  ⟨h.below.grown hg h.below.size (fun r e => by have := hr r e; omega), Nat.lt_of_lt_of_le h.big hg.size,
    hg.cell h.x0 (fun e => by have := hr _ e.symm; simp at this), hg.cell h.x1 (fun e => by have := hr _ e.symm; simp at this)⟩
theorem St1.start (w : World) (v : Int) (s : Value) : St1 w v s (w.alloc (.cells #[.int .i64 v, s] 24)) :=
  ⟨(Below.refl _ _).alloc (Nat.le_refl _) _, by simp, by simp [go_sem], by simp [go_sem]⟩
structure CI (w : World) (v : Int) (s sW s8 sG : Value) (X i0 i1 i2 i5 i6 : Nat) (LW : List Int) (L8 : List Blk) (LG : List Int) (W : World) : Prop where
  st : St1 w v s W
  o0 : w.heap.size < i0
  o1 : i0 ≤ i1
  o2 : i1 ≤ i2
  oX : i2 ≤ X
  oX' : X < i5
  o6 : i5 ≤ i6
  rW : ResI W i0 i1 sW LW
  r8 : ResR W i1 i2 s8 L8
  vX : VarB W X v s8
  rG : ResI W i5 i6 sG LG
section
variable {w : World} {v : Int} {s sW s8 sG : Value} {X i0 i1 i2 i5 i6 : Nat} {LW LG : List Int} {L8 : List Blk} {W W' : World}
theorem CI.step (h : CI w v s sW s8 sG X i0 i1 i2 i5 i6 LW L8 LG W) (hg : W.grownBy W' none) : CI w v s sW s8 sG X i0 i1 i2 i5 i6 LW L8 LG W' :=
  ⟨h.st.step hg (by simp), h.o0, h.o1, h.o2, h.oX, h.oX', h.o6, h.rW.kept hg (by simp), h.r8.kept hg (by simp), h.vX.step hg (by simp), h.rG.kept hg (by simp)⟩
theorem CI.mark8 (h : CI w v s sW s8 sG X i0 i1 i2 i5 i6 LW L8 LG W) {row : Option Nat} (hg : W.grownBy W' row) (hr : ∀ r, row = some r → i1 ≤ r ∧ r < i2) {L : List Blk} (hn : ResR W' i1 i2 s8 L) :
    CI w v s sW s8 sG X i0 i1 i2 i5 i6 LW L LG W' := by
  obtain ⟨st, o0, o1, o2, oX, oX', o6, rW, r8, vX, rG⟩ := h
  exact ⟨st.step hg (fun r e => by have := hr r e; omega), o0, o1, o2, oX, oX', o6, rW.kept hg (fun r e => by have := hr r e; omega), hn, vX.step hg (fun e => by have := hr _ e; omega), rG.kept hg (fun r e => by have := hr r e; omega)⟩
theorem CI.markG (h : CI w v s sW s8 sG X i0 i1 i2 i5 i6 LW L8 LG W) {row : Option Nat} (hg : W.grownBy W' row) (hr : ∀ r, row = some r → i5 ≤ r ∧ r < i6) {L : List Int} (hn : ResI W' i5 i6 sG L) :
    CI w v s sW s8 sG X i0 i1 i2 i5 i6 LW L8 L W' := by
  obtain ⟨st, o0, o1, o2, oX, oX', o6, rW, r8, vX, rG⟩ := h
  exact ⟨st.step hg (fun r e => by have := hr r e; omega), o0, o1, o2, oX, oX', o6, rW.kept hg (fun r e => by have := hr r e; omega), r8.kept hg (fun r e => by have := hr r e; omega), vX.step hg (fun e => by have := hr _ e; omega), hn⟩
end
theorem gb_drew1 (w : World) : w.grownBy w.drew none := ⟨rfl, rfl, rfl, Nat.le_refl _, fun _ _ _ => rfl⟩
theorem gb_alloc1 (w : World) (o : Obj) : w.grownBy (w.alloc o) none := World.grownBy_alloc w o none
end Go.Proofs.Ytahgialnhomefaa

namespace Go.Proofs.Ytahgialnhomefaa
open Go.RowKit Go.Maps
def Stays (lo hi : Nat) (W W' : World) : Prop := W.heap.size ≤ W'.heap.size ∧ ∀ i, lo ≤ i → i < hi → W'.heap[i]? = W.heap[i]?
structure Item where
  lo : Nat
  hi : Nat
  P : World → Prop
def Item.Ok (it : Item) : Prop := ∀ W W', it.hi ≤ W.heap.size → Stays it.lo it.hi W W' → it.P W → it.P W'
structure Mem (w : World) (L : List Item) (W : World) : Prop where
  below : Below w.heap.size w W
  pw : L.Pairwise (fun x y => y.hi ≤ x.lo ∨ x.hi ≤ y.lo)
  rng : ∀ it ∈ L, w.heap.size ≤ it.lo ∧ it.lo ≤ it.hi ∧ it.hi ≤ W.heap.size
  ok : ∀ it ∈ L, it.Ok
  holds : ∀ it ∈ L, it.P W
def MemOf {w : World} {L : List Item} {W : World} (_ : Mem w L W) (wx : World) : Prop := Mem w L wx
/-- Only blocks from lo on, below hi, have changed, and what is new. -/
structure OnlyIn (lo hi : Nat) (W W' : World) : Prop where
  os : W'.os = W.os
  tape : W'.tape = W.tape
  output : W'.output = W.output
  size : W.heap.size ≤ W'.heap.size
  block : ∀ i, i < W.heap.size → (i < lo ∨ hi ≤ i) → W'.heap[i]? = W.heap[i]?
section
variable {lo hi lo' hi' : Nat} {W W' W'' w : World} {L : List Item}
theorem OnlyIn.of_grown {row : Option Nat} (hg : W.grownBy W' row) (hr : ∀ r, row = some r → lo ≤ r ∧ r < hi) : OnlyIn lo hi W W' :=
  ⟨hg.os, hg.tape, hg.output, hg.size, fun i h1 h2 => hg.block i h1 (fun e => by have := hr i e.symm; omega)⟩
theorem OnlyIn.refl (lo hi : Nat) (W : World) : OnlyIn lo hi W W := ⟨rfl, rfl, rfl, Nat.le_refl _, fun _ _ _ => rfl⟩
theorem OnlyIn.trans (h : OnlyIn lo hi W W') (k : OnlyIn lo hi W' W'') : OnlyIn lo hi W W'' :=
  ⟨k.os.trans h.os, k.tape.trans h.tape, k.output.trans h.output, Nat.le_trans h.size k.size, fun i h1 h2 => (k.block i (Nat.lt_of_lt_of_le h1 h.size) h2).trans (h.block i h1 h2)⟩
theorem OnlyIn.of_below (h : Below lo W W') : OnlyIn lo W.heap.size W W' :=
  ⟨h.os, h.tape, h.output, h.size, fun i h1 h2 => h.block i (by omega)⟩
theorem OnlyIn.stays (h : OnlyIn lo hi W W') (hh : hi' ≤ W.heap.size) (hd : hi' ≤ lo ∨ hi ≤ lo') : Stays lo' hi' W W' :=
  ⟨h.size, fun i h1 h2 => h.block i (by omega) (by omega)⟩
theorem OnlyIn.below (h : OnlyIn lo hi W W') {B : Nat} (hB : B ≤ lo) (hz : B ≤ W.heap.size) : Below B W W' :=
  ⟨h.os, h.tape, h.output, h.size, fun i h1 => h.block i (by omega) (by omega)⟩
theorem Mem.start (w : World) : Mem w [] w := ⟨Below.refl _ _, List.Pairwise.nil, by simp, by simp, by simp⟩
theorem Mem.step (h : Mem w L W) (hg : W.grownBy W' none) : Mem w L W' :=
  ⟨h.below.grown hg h.below.size (by simp), h.pw, fun it hi => ⟨(h.rng it hi).1, (h.rng it hi).2.1, Nat.le_trans (h.rng it hi).2.2 hg.size⟩, h.ok,
    fun it hi => h.ok it hi W W' (h.rng it hi).2.2 ⟨hg.size, fun i _ h2 => hg.block i (Nat.lt_of_lt_of_le h2 (h.rng it hi).2.2) (by simp)⟩ (h.holds it hi)⟩
theorem Mem.push (h : Mem w L W) (hg : W.grownBy W' none) (it : Item) (h1 : W.heap.size ≤ it.lo) (h2 : it.lo ≤ it.hi) (h3 : it.hi ≤ W'.heap.size) (ok : it.Ok) (hP : it.P W') : Mem w (it :: L) W' := by
  have hs := h.step hg
  refine ⟨hs.below, List.pairwise_cons.2 ⟨fun y hy => .inl (Nat.le_trans (h.rng y hy).2.2 h1), hs.pw⟩, ?_, ?_, ?_⟩
  · intro x hx
    rcases List.mem_cons.1 hx with rfl | hx
    · exact ⟨Nat.le_trans h.below.size h1, h2, h3⟩
    · exact hs.rng x hx
  · intro x hx
    rcases List.mem_cons.1 hx with rfl | hx
    · exact ok
    · exact hs.ok x hx
  · intro x hx
    rcases List.mem_cons.1 hx with rfl | hx
    · exact hP
    · exact hs.holds x hx
theorem Mem.swap {a b : Item} (h : Mem w (a :: b :: L) W) : Mem w (b :: a :: L) W := by
  have hm : ∀ x, x ∈ b :: a :: L → x ∈ a :: b :: L := fun x hx => by simp only [List.mem_cons] at hx ⊢; rcases hx with h | h | h <;> simp [h]
  refine ⟨h.below, ?_, fun it hi => h.rng it (hm it hi), fun it hi => h.ok it (hm it hi), fun it hi => h.holds it (hm it hi)⟩
  have hp := h.pw
  rw [List.pairwise_cons, List.pairwise_cons] at hp
  refine List.pairwise_cons.2 ⟨fun y hy => ?_, List.pairwise_cons.2 ⟨fun y hy => hp.1 y (by simp [hy]), hp.2.2⟩⟩
  rcases List.mem_cons.1 hy with rfl | hy
  · exact (hp.1 b (by simp)).symm
  · exact hp.2.1 y hy
theorem Mem.at (h : Mem w L W) (k : Nat) {it : Item} (e : L[k]? = some it) : it.P W := h.holds it (List.mem_of_getElem? e)
theorem mem_set_cases {k : Nat} {x y it : Item} (_e : L[k]? = some it) (hx : x ∈ L.set k y) : x = y ∨ ∃ j, j ≠ k ∧ L[j]? = some x := by
  obtain ⟨j, hj⟩ := List.mem_iff_getElem?.1 hx
  rw [List.getElem?_set] at hj
  split at hj
  · split at hj
    · cases hj; exact .inl rfl
    · cases hj
  · exact .inr ⟨j, by omega, hj⟩
theorem Mem.apart (h : Mem w L W) {k j : Nat} {x it : Item} (e : L[k]? = some it) (f : L[j]? = some x) (hne : j ≠ k) : it.hi ≤ x.lo ∨ x.hi ≤ it.lo := by
  obtain ⟨hk, e⟩ := List.getElem?_eq_some_iff.1 e
  obtain ⟨hj, f⟩ := List.getElem?_eq_some_iff.1 f
  have hp := List.pairwise_iff_getElem.1 h.pw
  rcases Nat.lt_or_gt_of_ne hne with hlt | hlt
  · have := hp j k hj hk hlt
    rw [e, f] at this
    exact this
  · have := hp k j hk hj hlt
    rw [e, f] at this
    exact this.symm
theorem Mem.mark (h : Mem w L W) (k : Nat) {it : Item} (e : L[k]? = some it) (hw : OnlyIn it.lo it.hi W W') {P' : World → Prop} (ok : Item.Ok ⟨it.lo, it.hi, P'⟩) (hP : P' W') : Mem w (L.set k ⟨it.lo, it.hi, P'⟩) W' := by
  have hit := List.mem_of_getElem? e
  have hr := h.rng it hit
  refine ⟨h.below.trans (hw.below hr.1 (by omega)), ?_, ?_, ?_, ?_⟩
  · rw [List.pairwise_iff_getElem]
    intro i j hi hj hlt
    rw [List.length_set] at hi hj
    have hp := List.pairwise_iff_getElem.1 h.pw i j hi hj hlt
    obtain ⟨hk, e'⟩ := List.getElem?_eq_some_iff.1 e
    rw [List.getElem_set, List.getElem_set]
    split
    · rename_i hki
      cases hki
      rw [if_neg (by omega)]
      rw [e'] at hp; exact hp
    · split
      · rename_i hkj
        cases hkj
        rw [e'] at hp; exact hp
      · exact hp
  · intro x hx
    rcases mem_set_cases e hx with rfl | ⟨j, hj, f⟩
    · exact ⟨hr.1, hr.2.1, Nat.le_trans hr.2.2 hw.size⟩
    · have := h.rng x (List.mem_of_getElem? f)
      exact ⟨this.1, this.2.1, Nat.le_trans this.2.2 hw.size⟩
  · intro x hx
    rcases mem_set_cases e hx with rfl | ⟨j, hj, f⟩
    · exact ok
    · exact h.ok x (List.mem_of_getElem? f)
  · intro x hx
    rcases mem_set_cases e hx with rfl | ⟨j, hj, f⟩
    · exact hP
    · have hx := List.mem_of_getElem? f
      exact h.ok x hx W W' (h.rng x hx).2.2 (hw.stays (h.rng x hx).2.2 ((h.apart e f hj).symm)) (h.holds x hx)
end
section
variable {w w' : World} {lo hi g : Nat}
theorem OwnAt.stay {bs : List Blk} (h : OwnAt w g bs) (hb : w'.heap[g]? = w.heap[g]?) (hz : w.heap.size ≤ w'.heap.size) : OwnAt w' g bs := by
  refine ⟨Nat.lt_of_lt_of_le h.lt hz, fun k hk => ?_, fun o => ?_⟩
  · obtain ⟨h1, h2, h3⟩ := h.at_ k hk
    exact ⟨(World.cell?_of_block (w := w) (a := ⟨g, _, none⟩) hb).trans h1, (World.cell?_of_block (w := w) (a := ⟨g, _, none⟩) hb).trans h2, (World.cell?_of_block (w := w) (a := ⟨g, _, none⟩) hb).trans h3⟩
  · exact (World.frozen?_of_block (w := w) (a := ⟨g, o, none⟩) hb).trans (h.free o)
theorem OwnAtI.stay {zs : List Int} (h : OwnAtI w g zs) (hb : w'.heap[g]? = w.heap[g]?) (hz : w.heap.size ≤ w'.heap.size) : OwnAtI w' g zs :=
  ⟨Nat.lt_of_lt_of_le h.lt hz, fun k hk => (World.cell?_of_block (w := w) (a := ⟨g, _, none⟩) hb).trans (h.at_ k hk), fun o => (World.frozen?_of_block (w := w) (a := ⟨g, o, none⟩) hb).trans (h.free o)⟩
/-- Blocks in memory of their own. -/
def iBlks (lo hi : Nat) (s : Value) (bs : List Blk) : Item := ⟨lo, hi, fun W => ResR W lo hi s bs⟩
theorem iBlks_ok (lo hi : Nat) (s : Value) (bs : List Blk) : (iBlks lo hi s bs).Ok := fun W W' _ hs h => by
  rcases h with h | ⟨g, cap, rfl, h1, h2, ho⟩
  · exact .inl h
  · exact .inr ⟨g, cap, rfl, h1, h2, ho.stay (hs.2 g h1 h2) hs.1⟩
/-- Integers in memory of their own. -/
def iInts (lo hi : Nat) (s : Value) (zs : List Int) : Item := ⟨lo, hi, fun W => ResI W lo hi s zs⟩
theorem iInts_ok (lo hi : Nat) (s : Value) (zs : List Int) : (iInts lo hi s zs).Ok := fun W W' _ hs h => by
  rcases h with h | ⟨g, cap, rfl, h1, h2, ho⟩
  · exact .inl h
  · exact .inr ⟨g, cap, rfl, h1, h2, ho.stay (hs.2 g h1 h2) hs.1⟩
/-- Rows in memory of their own. -/
def ResH (W : World) (lo hi : Nat) (u : Value) (n : Nat) (F : Nat → List Int) : Prop :=
  (n = 0 ∧ ∃ a c, u = .slice a 0 c) ∨ ∃ G cap gs caps, u = .slice (some ⟨G, 0, none⟩) n cap ∧ lo ≤ G ∧ G < hi ∧ (∀ k, k < n → gs k < hi) ∧ SSR W lo G gs caps n F
theorem ResSS.resH {lo n : Nat} {u : Value} {F : Nat → List Int} (h : ResSS w lo u n F) : ResH w lo w.heap.size u n F := by
  rcases h with h | ⟨G, cap, gs, caps, rfl, hG, hS⟩
  · exact .inl h
  · exact .inr ⟨G, cap, gs, caps, rfl, hG, hS.lt, fun k hk => (hS.row k hk).lt, hS⟩
theorem ResH.slice {n : Nat} {u : Value} {F : Nat → List Int} (h : ResH w lo hi u n F) : ∃ a c, u = .slice a n c := by
  rcases h with ⟨rfl, a, c, rfl⟩ | ⟨G, cap, gs, caps, rfl, _⟩ <;> exact ⟨_, _, rfl⟩
theorem ResH.sb {n : Nat} {u : Value} {F : Nat → List Int} (h : ResH w lo hi u n F) (hn : n ≤ 1100000) (hF : ∀ k, k < n → (F k).length ≤ 1100000) : SSB w u n F := by
  rcases h with h | ⟨G, cap, gs, caps, rfl, hG, _, _, hS⟩
  · exact ⟨hn, .inl h⟩
  · exact hS.sb hn hF
def iRows (lo hi : Nat) (u : Value) (n : Nat) (F : Nat → List Int) : Item := ⟨lo, hi, fun W => ResH W lo hi u n F⟩
theorem iRows_ok (lo hi : Nat) (u : Value) (n : Nat) (F : Nat → List Int) : (iRows lo hi u n F).Ok := fun W W' hh hs h => by
  rcases h with h | ⟨G, cap, gs, caps, rfl, h1, h2, h3, hS⟩
  · exact .inl h
  · refine .inr ⟨G, cap, gs, caps, rfl, h1, h2, h3, fun k hk => ?_, fun k hk => (hS.row k hk).stay (hs.2 _ (hS.low k hk) (h3 k hk)) hs.1, hS.ne, hS.inc, hS.low, Nat.lt_of_lt_of_le hS.lt hs.1⟩
    exact (World.cell?_of_block (w := W) (a := ⟨G, k, none⟩) (hs.2 G h1 h2)).trans (hS.cell k hk)
/-- A variable that holds a system. -/
def iVar (X : Nat) (v : Int) (s : Value) : Item := ⟨X, X + 1, fun W => VarB W X v s⟩
theorem iVar_ok (X : Nat) (v : Int) (s : Value) : (iVar X v s).Ok := fun W W' _ hs h => by
  have hb := hs.2 X (Nat.le_refl _) (Nat.lt_succ_self _)
  exact ⟨Nat.lt_of_lt_of_le h.lt hs.1, (World.cell?_of_block (w := W) (a := ⟨X, 0, none⟩) hb).trans h.c0, (World.cell?_of_block (w := W) (a := ⟨X, 1, none⟩) hb).trans h.c1⟩
/-- A variable that holds a block. -/
structure VarA (W : World) (X : Nat) (x : Blk) : Prop where
  lt : X < W.heap.size
  c0 : W.cell? ⟨X, 0, none⟩ = some (.int .i64 x.a)
  c1 : W.cell? ⟨X, 1, none⟩ = some (.int .i64 x.b)
  c2 : W.cell? ⟨X, 2, none⟩ = some (.int .i64 x.c)
theorem VarA.new (W : World) (x : Blk) (T : TypeId) : VarA (W.alloc (.cells #[.int .i64 x.a, .int .i64 x.b, .int .i64 x.c] T)) W.heap.size x := ⟨by simp, by simp, by simp, by simp⟩
def iArr (X : Nat) (x : Blk) : Item := ⟨X, X + 1, fun W => VarA W X x⟩
theorem iArr_ok (X : Nat) (x : Blk) : (iArr X x).Ok := fun W W' _ hs h => by
  have hb := hs.2 X (Nat.le_refl _) (Nat.lt_succ_self _)
  exact ⟨Nat.lt_of_lt_of_le h.lt hs.1, (World.cell?_of_block (w := W) (a := ⟨X, 0, none⟩) hb).trans h.c0, (World.cell?_of_block (w := W) (a := ⟨X, 1, none⟩) hb).trans h.c1, (World.cell?_of_block (w := W) (a := ⟨X, 2, none⟩) hb).trans h.c2⟩
end
section
variable {w W W' : World} {L : List Item} {lo hi : Nat}
theorem Mem.var (h : Mem w L W) (k : Nat) {X : Nat} {v : Int} {s : Value} (e : L[k]? = some (iVar X v s)) : VarB W X v s := h.at k e
theorem Mem.arr (h : Mem w L W) (k : Nat) {X : Nat} {x : Blk} (e : L[k]? = some (iArr X x)) : VarA W X x := h.at k e
theorem Mem.blks (h : Mem w L W) (k : Nat) {s : Value} {bs : List Blk} (e : L[k]? = some (iBlks lo hi s bs)) : ResR W lo hi s bs := h.at k e
theorem Mem.ints (h : Mem w L W) (k : Nat) {s : Value} {zs : List Int} (e : L[k]? = some (iInts lo hi s zs)) : ResI W lo hi s zs := h.at k e
theorem Mem.rows (h : Mem w L W) (k : Nat) {u : Value} {n : Nat} {F : Nat → List Int} (e : L[k]? = some (iRows lo hi u n F)) : ResH W lo hi u n F := h.at k e
theorem Mem.pushVar (h : Mem w L W) (v : Int) (s : Value) (T : TypeId) : Mem w (iVar W.heap.size v s :: L) (W.alloc (.cells #[.int .i64 v, s] T)) :=
  h.push (gb_alloc1 W _) (iVar W.heap.size v s) (Nat.le_refl _) (Nat.le_succ _) (by simp [iVar]) (iVar_ok _ _ _) (VarB.new W v s T)
theorem Mem.pushArr (h : Mem w L W) (x : Blk) (T : TypeId) : Mem w (iArr W.heap.size x :: L) (W.alloc (.cells #[.int .i64 x.a, .int .i64 x.b, .int .i64 x.c] T)) :=
  h.push (gb_alloc1 W _) (iArr W.heap.size x) (Nat.le_refl _) (Nat.le_succ _) (by simp [iArr]) (iArr_ok _ _) (VarA.new W x T)
theorem Mem.pushB (h : Mem w L W) (hb : Below W.heap.size W W') {s : Value} {bs : List Blk} (hr : ResR W' W.heap.size W'.heap.size s bs) : Mem w (iBlks W.heap.size W'.heap.size s bs :: L) W' :=
  h.push (gb_below hb) (iBlks W.heap.size W'.heap.size s bs) (Nat.le_refl _) hb.size (Nat.le_refl _) (iBlks_ok _ _ _ _) hr
theorem Mem.pushI (h : Mem w L W) (hb : Below W.heap.size W W') {s : Value} {zs : List Int} (hr : ResI W' W.heap.size W'.heap.size s zs) : Mem w (iInts W.heap.size W'.heap.size s zs :: L) W' :=
  h.push (gb_below hb) (iInts W.heap.size W'.heap.size s zs) (Nat.le_refl _) hb.size (Nat.le_refl _) (iInts_ok _ _ _ _) hr
theorem Mem.pushH (h : Mem w L W) (hb : Below W.heap.size W W') {u : Value} {n : Nat} {F : Nat → List Int} (hr : ResH W' W.heap.size W'.heap.size u n F) : Mem w (iRows W.heap.size W'.heap.size u n F :: L) W' :=
  h.push (gb_below hb) (iRows W.heap.size W'.heap.size u n F) (Nat.le_refl _) hb.size (Nat.le_refl _) (iRows_ok _ _ _ _ _) hr
theorem Mem.markB (h : Mem w L W) (k : Nat) {s : Value} {bs : List Blk} (e : L[k]? = some (iBlks lo hi s bs)) (hw : ∃ row, W.grownBy W' row ∧ ∀ r, row = some r → lo ≤ r ∧ r < hi) {bs' : List Blk} (hP : ResR W' lo hi s bs') : Mem w (L.set k (iBlks lo hi s bs')) W' := by
  obtain ⟨row, hg, hr⟩ := hw
  exact h.mark k e (OnlyIn.of_grown hg hr) (iBlks_ok lo hi s bs') hP
theorem Mem.markI (h : Mem w L W) (k : Nat) {s : Value} {zs : List Int} (e : L[k]? = some (iInts lo hi s zs)) (hw : ∃ row, W.grownBy W' row ∧ ∀ r, row = some r → lo ≤ r ∧ r < hi) {zs' : List Int} (hP : ResI W' lo hi s zs') : Mem w (L.set k (iInts lo hi s zs')) W' := by
  obtain ⟨row, hg, hr⟩ := hw
  exact h.mark k e (OnlyIn.of_grown hg hr) (iInts_ok lo hi s zs') hP
theorem Mem.markH (h : Mem w L W) (k : Nat) {u : Value} {n : Nat} {F : Nat → List Int} (e : L[k]? = some (iRows lo hi u n F)) (hw : OnlyIn lo hi W W') {F' : Nat → List Int} (hP : ResH W' lo hi u n F') : Mem w (L.set k (iRows lo hi u n F')) W' :=
  h.mark k e hw (iRows_ok lo hi u n F') hP
theorem OwnAtI.res {g cap : Nat} {zs : List Int} (h : OwnAtI w g zs) {lo : Nat} (hl : lo ≤ g) : ResI w lo w.heap.size (.slice (some ⟨g, 0, none⟩) zs.length cap) zs := .inr ⟨g, cap, rfl, hl, h.lt, h⟩
theorem toInt64S_own (s : Value) (zs : List Int) (w : World) (h : IB w s zs) :
    Calls Try.prog 38 #[s] w (fun e w' => ∃ t, e = .returned t ∧ (∃ g cap, t = .slice (some ⟨g, 0, none⟩) zs.length cap) ∧ Below w.heap.size w w' ∧ ResI w' w.heap.size w'.heap.size t zs) :=
  (toInt64S_any s zs w h).mono fun _ _ ⟨he, hb, ho⟩ => ⟨_, he, ⟨_, _, rfl⟩, hb, ho.res (Nat.le_refl _)⟩
end
end Go.Proofs.Ytahgialnhomefaa


/- Marking and holding rows of integers. Rows of rows of integers: equality, marks, and that they are still there. Helpers on difference families. spec.l02Family. spec.l02Family's walk. spec.IsDifferenceFamily. impl.differencesOf. The pairs of a list of blocks, as a map. -/
import Derived.Test.YtlhiokcdjnmfmaaJ4
import Derived.Deep.RegionWith
namespace Go.Proofs.Ytlhiokcdjnmfmaa
open Go.RowKit Go.Maps
/-- The row at the head of block g holds just these integers and may be written. -/
structure OwnAtI (w : World) (g : Nat) (zs : List Int) : Prop where
  lt : g < w.heap.size
  at_ : Ints w g 0 zs
  free : ∀ o, w.frozen? ⟨g, o, none⟩ = false
theorem OwnAtI.kept {w w' : World} {g : Nat} {zs : List Int} {row : Option Nat} (h : OwnAtI w g zs) (hg : w.grownBy w' row) (hne : some g ≠ row) : OwnAtI w' g zs := by
  have hb := hg.block g h.lt hne
  exact ⟨Nat.lt_of_lt_of_le h.lt hg.size, fun k hk => (World.cell?_of_block (w := w) (a := ⟨g, _, none⟩) hb).trans (h.at_ k hk), fun o => (World.frozen?_of_block (w := w) (a := ⟨g, o, none⟩) hb).trans (h.free o)⟩
theorem Ints.set {w : World} {g : Nat} {l : List Int} (h : Ints w g 0 l) {i : Nat} (hi : i < l.length) (x : Int) : Ints (w.setCell ⟨g, i, none⟩ (.int .i64 x)) g 0 (l.set i x) := by
  intro k hk
  rw [List.length_set] at hk
  have hk' := h k hk
  have hi' := h i hi
  rw [Nat.zero_add] at hk' hi' ⊢
  by_cases e : k = i
  · subst e
    rw [World.cell?_setCell_same' _ _ _ (by rw [hi']; rfl)]
    simp [hk]
  · rw [World.cell?_setCell_other _ _ _ _ (by simp <;> omega), hk', List.getElem?_set_ne (Ne.symm e)]
def markI (k : Int) (n : Nat) : List Int := (List.range n).map fun (t : Nat) => k + (t : Int)
theorem markI_length (k : Int) (n : Nat) : (markI k n).length = n := by simp [markI]
theorem markI_next {k : Int} {i : Nat} {zs : List Int} (h : i < zs.length) : (markI k i ++ zs.drop i).set i (k + i) = markI k (i + 1) ++ zs.drop (i + 1) := by
  rw [List.drop_eq_getElem_cons h, List.set_append_right _ _ (by rw [markI_length]; omega), markI_length, Nat.sub_self, List.set_cons_zero]
  simp [markI, List.range_succ]
theorem markI_at {k : Int} {n j : Nat} (h : j < n) : (markI k n)[j]?.getD 0 = k + j := by
  simp [markI, h]
set_option maxRecDepth 100000 in
theorem markInt64S_nil (a : Option Addr) (c : Nat) (k : Int) (w : World) : Calls Try.prog 22 #[.slice a 0 c, .int .i64 k] w (RS (.int .i64 k) w) := by
  go_enter Try.func22, Try.ntmps22
  go_wp2
  refine wp_loop_rounds 1 ?_
  rw [rounds_succ]
  go_wp2
  go_ret
  exact RS_of rfl
set_option maxRecDepth 100000 in
theorem heldInt64S_nil (a : Option Addr) (c : Nat) (k : Int) (w : World) : Calls Try.prog 23 #[.slice a 0 c, .int .i64 k] w (RS (.int .i64 k) w) := by
  go_enter Try.func23, Try.ntmps23
  go_wp2
  refine wp_loop_rounds 1 ?_
  rw [rounds_succ]
  go_wp2
  go_ret
  exact RS_of rfl
set_option maxRecDepth 100000 in
theorem markInt64S_any (g cap : Nat) (zs : List Int) (k : Int) (w : World) (h : OwnAtI w g zs) (hl : zs.length ≤ 1100000) (h0 : 0 ≤ k) (h1 : k ≤ 9000000) :
    Calls Try.prog 22 #[.slice (some ⟨g, 0, none⟩) zs.length cap, .int .i64 k] w (fun e w' => e = .returned (.int .i64 (k + zs.length)) ∧ w.grownBy w' (some g) ∧ OwnAtI w' g (markI k zs.length)) := by
  have H := Lib.hid h
  clear h
  go_enter Try.func22, Try.ntmps22
  go_wp2
  go_loopw [1, 5] (fun t i wr => ∃ j : Nat, j ≤ zs.length ∧ i = .int .i64 j ∧ t = .int .i64 (k + j) ∧ w.grownBy wr (some g) ∧ OwnAtI wr g (markI k j ++ zs.drop j)) (fun _ i _ => zs.length - (intOf i).toNat)
  case atStart => exact ⟨0, Nat.zero_le _, rfl, by simp, only_refl _ _, by simpa [markI] using H.out⟩
  case round =>
    obtain ⟨j, hj, rfl, rfl, hg, ho⟩ := hrel
    by_cases hjl : j < zs.length
    · have hlj : j < (markI k j ++ zs.drop j).length := by simp [markI_length]; omega
      have c1 := ho.at_ j hlj
      rw [Nat.zero_add] at c1
      have f1 := ho.free
      have hs := Ints.set ho.at_ hlj (k + j)
      rw [markI_next hjl] at hs
      have HS := Lib.hid hs
      have hlt := ho.lt
      clear hs ho
      have g0 : (0 : Int) ≤ (j : Int) := by omega
      have g1 : (j : Int) < (zs.length : Int) := by omega
      obtain ⟨m, hm⟩ : ∃ m, m = k + (j : Int) := ⟨_, rfl⟩
      rw [← hm] at HS ⊢
      have m0 : 0 ≤ m := by omega
      have m1 : m ≤ 90000000 := by omega
      have HM := Lib.hid hm
      clear hm
      go_wp2
      go_roundw
      case rel => exact ⟨j + 1, by omega, by go_num, int_eq (by rw [HM.out]; omega), only_setCell hg rfl _, ⟨by simpa [World.setCell] using hlt, HS.out, fun o => by rw [World.frozen?_setCell]; exact f1 o⟩⟩
      case measure => simp [intOf]; omega
    · go_wp2
      go_ret
      have e : j = zs.length := by omega
      subst e
      rw [List.drop_length, List.append_nil] at ho
      exact ⟨rfl, hg, ho⟩
set_option maxRecDepth 100000 in
theorem heldInt64S_any (g cap n : Nat) (k : Int) (w : World) (h : Ints w g 0 (markI k n)) (hl : n ≤ 1100000) (h0 : 0 ≤ k) (h1 : k ≤ 9000000) :
    Calls Try.prog 23 #[.slice (some ⟨g, 0, none⟩) n cap, .int .i64 k] w (RS (.int .i64 (k + n)) w) := by
  have H := Lib.hid h
  clear h
  go_enter Try.func23, Try.ntmps23
  go_wp2
  go_loop [1, 5] (fun t i => ∃ j : Nat, j ≤ n ∧ i = .int .i64 j ∧ t = .int .i64 (k + j)) (fun _ i => n - (intOf i).toNat)
  case atStart => exact ⟨0, Nat.zero_le _, rfl, by simp⟩
  case round =>
    obtain ⟨j, hj, rfl, rfl⟩ := hrel
    by_cases hjl : j < n
    · have hc := H.out j (by rw [markI_length]; exact hjl)
      rw [markI_at hjl, Nat.zero_add] at hc
      obtain ⟨m, hm⟩ : ∃ m, m = k + (j : Int) := ⟨_, rfl⟩
      rw [← hm] at hc ⊢
      have m0 : 0 ≤ m := by omega
      have m1 : m ≤ 90000000 := by omega
      have HM := Lib.hid hm
      clear hm
      have g0 : (0 : Int) ≤ (j : Int) := by omega
      have g1 : (j : Int) < (n : Int) := by omega
      have n1 : (m != m) = false := by simp
      go_wp2
      go_round
      case rel => exact ⟨j + 1, by omega, by go_num, int_eq (by rw [HM.out]; omega)⟩
      case measure => simp [intOf]; omega
    · go_wp2
      go_ret
      have e : j = n := by omega
      subst e
      exact RS_of rfl
/-- A result that is a list of integers: empty anywhere, or memory of its own between lo and hi. -/
def ResI (w : World) (lo hi : Nat) (s : Value) (zs : List Int) : Prop := (zs = [] ∧ ∃ a c, s = .slice a 0 c) ∨ ∃ g cap, s = .slice (some ⟨g, 0, none⟩) zs.length cap ∧ lo ≤ g ∧ g < hi ∧ OwnAtI w g zs
theorem OwnJ.res {w : World} {base : Nat} {v : Value} {zs : List Int} (h : OwnJ w base v zs) (hl : zs.length ≤ 1100000) : ResI w base w.heap.size v zs := by
  have hib := h.ib hl
  obtain ⟨hl, h | ⟨g, cap, cur, rfl, hb, hcur, hn, hc, hsz, hx⟩⟩ := h
  · obtain ⟨rfl, h0⟩ := h
    exact .inl ⟨List.length_eq_zero_iff.1 h0, _, _, rfl⟩
  · have hg : g < w.heap.size := (Array.getElem?_eq_some_iff.1 hcur).1
    rcases hib.2 with ⟨a, c, e1, rfl⟩ | ⟨b, off, cap', e1, _, hI⟩
    · exact .inl ⟨rfl, _, _, rfl⟩
    · simp at e1
      obtain ⟨⟨rfl, rfl⟩, _⟩ := e1
      exact .inr ⟨g, cap, rfl, hb, hg, hg, hI, fun o => by simp [World.frozen?, hcur]⟩
theorem ResI.ib {w : World} {lo hi : Nat} {s : Value} {zs : List Int} (h : ResI w lo hi s zs) (hl : zs.length ≤ 1100000) : IB w s zs := by
  rcases h with ⟨rfl, a, c, rfl⟩ | ⟨g, cap, rfl, _, _, ho⟩
  · exact ⟨hl, .inl ⟨a, c, rfl, rfl⟩⟩
  · exact ⟨hl, .inr ⟨g, 0, cap, rfl, ho.lt, ho.at_⟩⟩
theorem ResI.kept {w w' : World} {lo hi : Nat} {s : Value} {zs : List Int} {row : Option Nat} (h : ResI w lo hi s zs) (hg : w.grownBy w' row) (hr : ∀ r, row = some r → r < lo ∨ hi ≤ r) : ResI w' lo hi s zs := by
  rcases h with h | ⟨g, cap, rfl, h1, h2, ho⟩
  · exact .inl h
  · exact .inr ⟨g, cap, rfl, h1, h2, ho.kept hg (fun e => by have := hr g e.symm; omega)⟩
theorem ResI.below {w w' : World} {lo hi : Nat} {s : Value} {zs : List Int} (h : ResI w lo hi s zs) {B : Nat} (hb : Below B w w') (hB : w.heap.size ≤ B) : ResI w' lo hi s zs :=
  h.kept (only_of_below (hb.mono hB) none) (by simp)
theorem markJ (lo hi : Nat) (s : Value) (zs : List Int) (k : Int) (w : World) (h : ResI w lo hi s zs) (hl : zs.length ≤ 1100000) (h0 : 0 ≤ k) (h1 : k ≤ 9000000) :
    Calls Try.prog 22 #[s, .int .i64 k] w (fun e w' => e = .returned (.int .i64 (k + zs.length)) ∧ (∃ row, w.grownBy w' row ∧ ∀ r, row = some r → lo ≤ r ∧ r < hi) ∧ ResI w' lo hi s (markI k zs.length)) := by
  rcases h with ⟨rfl, a, c, rfl⟩ | ⟨g, cap, rfl, h3, h4, ho⟩
  · refine (markInt64S_nil a c k w).mono ?_
    rintro e w' ⟨rfl, rfl⟩
    exact ⟨by simp, ⟨none, only_refl _ _, by simp⟩, .inl ⟨rfl, a, c, rfl⟩⟩
  · refine (markInt64S_any g cap zs k w ho hl h0 h1).mono ?_
    rintro e w' ⟨rfl, hg, ho'⟩
    exact ⟨rfl, ⟨some g, hg, fun r hr => by cases hr; exact ⟨h3, h4⟩⟩, .inr ⟨g, cap, by rw [markI_length], h3, h4, ho'⟩⟩
theorem heldJ (lo hi : Nat) (s : Value) (n : Nat) (k : Int) (w : World) (h : ResI w lo hi s (markI k n)) (hl : n ≤ 1100000) (h0 : 0 ≤ k) (h1 : k ≤ 9000000) :
    Calls Try.prog 23 #[s, .int .i64 k] w (RS (.int .i64 (k + n)) w) := by
  rcases h with ⟨hn, a, c, rfl⟩ | ⟨g, cap, rfl, h3, h4, ho⟩
  · have : n = 0 := by have := congrArg List.length hn; simpa [markI_length] using this
    subst this
    simpa using heldInt64S_nil a c k w
  · rw [markI_length]
    exact heldInt64S_any g cap n k w ho.at_ hl h0 h1
end Go.Proofs.Ytlhiokcdjnmfmaa

namespace Go.Proofs.Ytlhiokcdjnmfmaa
open Go.RowKit Go.Maps
/-- The value is a slice of just these n rows. -/
def SSB (w : World) (s : Value) (n : Nat) (F : Nat → List Int) : Prop :=
  n ≤ 1100000 ∧ ((n = 0 ∧ ∃ a c, s = .slice a 0 c) ∨ ∃ b off cap, s = .slice (some ⟨b, off, none⟩) n cap ∧ b < w.heap.size ∧ ∀ k, k < n → ∃ a c, w.cell? ⟨b, off + k, none⟩ = some (.slice a (F k).length c) ∧ IB w (.slice a (F k).length c) (F k))
theorem SSB.below {w w' : World} {s : Value} {n : Nat} {F : Nat → List Int} (h : SSB w s n F) {B : Nat} (hb : Below B w w') (hB : w.heap.size ≤ B) : SSB w' s n F := by
  obtain ⟨h1, h2⟩ := h
  refine ⟨h1, ?_⟩
  rcases h2 with h2 | ⟨b, off, cap, rfl, hl, hr⟩
  · exact .inl h2
  · refine .inr ⟨b, off, cap, rfl, by have := hb.size; omega, fun k hk => ?_⟩
    obtain ⟨a, c, hc, hi⟩ := hr k hk
    exact ⟨a, c, (hb.cell (by simp; omega)).trans hc, hi.below hb hB⟩
theorem SSB.slice {w : World} {s : Value} {n : Nat} {F : Nat → List Int} (h : SSB w s n F) : ∃ a c, s = .slice a n c := by
  rcases h.2 with ⟨rfl, a, c, rfl⟩ | ⟨b, off, cap, rfl, _⟩ <;> exact ⟨_, _, rfl⟩
set_option maxRecDepth 100000 in
theorem eqInt64SS_same (s t : Value) (n : Nat) (F : Nat → List Int) (w : World) (h : SSB w s n F) (k : SSB w t n F) : Calls Try.prog 28 #[s, t] w (RV (.bool true) w) := by
  have hn := h.1
  by_cases h0 : n = 0
  · obtain ⟨a, c, rfl⟩ := h.slice
    obtain ⟨a', c', rfl⟩ := k.slice
    subst h0
    clear h k hn
    go_enter Try.func28, Try.ntmps28
    go_wp2
    refine wp_loop_rounds 1 ?_
    rw [rounds_succ]
    go_wp2
    go_ret
    exact RV_of rfl (Below.refl _ _)
  · rcases h.2 with ⟨e, _⟩ | ⟨b, off, cap, rfl, hb, hB⟩
    · exact absurd e h0
    · rcases k.2 with ⟨e, _⟩ | ⟨b', off', cap', rfl, hb', hB'⟩
      · exact absurd e h0
      · have HB := Lib.hid hB
        have HB' := Lib.hid hB'
        clear hB hB' h k h0
        have hne : (((n : Nat) : Int) != (n : Nat)) = false := by simp
        go_enter Try.func28, Try.ntmps28
        go_wp2
        go_loopw [5] (fun i wr => ∃ k : Nat, k ≤ n ∧ i = .int .i64 k ∧ Below w.heap.size w wr) (fun i _ => n - (intOf i).toNat)
        case atStart => exact ⟨0, Nat.zero_le _, rfl, Below.refl _ _⟩
        case round =>
          obtain ⟨k, hk, rfl, hBw⟩ := hrel
          by_cases hkl : k < n
          · obtain ⟨a1, c1, q1, i1⟩ := HB.out k hkl
            obtain ⟨a2, c2, q2, i2⟩ := HB'.out k hkl
            have q1 := (hBw.cell (p := ⟨b, off + k, none⟩) hb).trans q1
            have q2 := (hBw.cell (p := ⟨b', off' + k, none⟩) hb').trans q2
            have I1 := Lib.hid (i1.below hBw (Nat.le_refl _))
            have I2 := Lib.hid (i2.below hBw (Nat.le_refl _))
            clear i1 i2
            have g0 : (0 : Int) ≤ (k : Int) := by omega
            have g1 : (k : Int) < (n : Int) := by omega
            go_wp2_with fail
            go_region_with (go_at_call 19; refine (eqInt64S_same _ _ (F k) _ (I1.out.below ((Below.refl _ _).drew) (Nat.le_refl _)) (I2.out.below ((Below.refl _ _).drew) (Nat.le_refl _))).mono ?_; rintro e w1 ⟨rfl, hb1⟩)
            all_goals
              go_wp2_with fail
              go_roundw
              case rel => exact ⟨k + 1, by omega, by go_num, (hBw.drew).trans (hb1.mono (by have := hBw.size; simp; omega))⟩
              case measure => simp [intOf]; omega
          · go_wp2
            go_ret
            exact RV_of rfl hBw
/-- Rows of its own: the head at block G, the k-th row at block gs k. -/
structure SSR (w : World) (lo G : Nat) (gs caps : Nat → Nat) (n : Nat) (F : Nat → List Int) : Prop where
  cell : ∀ k, k < n → w.cell? ⟨G, k, none⟩ = some (.slice (some ⟨gs k, 0, none⟩) (F k).length (caps k))
  row : ∀ k, k < n → OwnAtI w (gs k) (F k)
  ne : ∀ k, k < n → gs k ≠ G
  inc : ∀ j k, j < k → k < n → gs j < gs k
  low : ∀ k, k < n → lo ≤ gs k
  lt : G < w.heap.size
theorem SSR.kept {w w' : World} {lo G : Nat} {gs caps : Nat → Nat} {n : Nat} {F : Nat → List Int} (h : SSR w lo G gs caps n F) {row : Option Nat} (hg : w.grownBy w' row) (hG : some G ≠ row) (hr : ∀ k, k < n → some (gs k) ≠ row) : SSR w' lo G gs caps n F :=
  ⟨fun k hk => hg.cell (h.cell k hk) (by simpa using hG), fun k hk => (h.row k hk).kept hg (hr k hk), h.ne, h.inc, h.low, Nat.lt_of_lt_of_le h.lt hg.size⟩
theorem SSR.below {w w' : World} {lo G : Nat} {gs caps : Nat → Nat} {n : Nat} {F : Nat → List Int} (h : SSR w lo G gs caps n F) {B : Nat} (hb : Below B w w') (hB : w.heap.size ≤ B) : SSR w' lo G gs caps n F :=
  h.kept (only_of_below (hb.mono hB) none) (by simp) (by simp)
theorem SSR.sb {w : World} {lo G cap : Nat} {gs caps : Nat → Nat} {n : Nat} {F : Nat → List Int} (h : SSR w lo G gs caps n F) (hn : n ≤ 1100000) (hF : ∀ k, k < n → (F k).length ≤ 1100000) : SSB w (.slice (some ⟨G, 0, none⟩) n cap) n F :=
  ⟨hn, .inr ⟨G, 0, cap, rfl, h.lt, fun k hk => ⟨_, _, by rw [Nat.zero_add]; exact h.cell k hk, ⟨hF k hk, .inr ⟨gs k, 0, caps k, rfl, (h.row k hk).lt, (h.row k hk).at_⟩⟩⟩⟩⟩
/-- How many integers the first k rows hold. -/
def tot (F : Nat → List Int) : Nat → Nat
  | 0 => 0
  | k + 1 => tot F k + (F k).length
theorem tot_le (F : Nat → List Int) {j n : Nat} (h : j ≤ n) : tot F j ≤ tot F n := by
  induction h with
  | refl => exact Nat.le_refl _
  | step _ ih => exact Nat.le_trans ih (by simp [tot])
/-- The rows after marking. -/
def markSS (k0 : Int) (F : Nat → List Int) (j : Nat) : List Int := markI (k0 + tot F j) (F j).length
theorem SSR.mark1 {w w' : World} {lo G : Nat} {gs caps : Nat → Nat} {n : Nat} {F : Nat → List Int} (h : SSR w lo G gs caps n F) {j : Nat} (hj : j < n) (L : List Int) (hL : L.length = (F j).length) (hg : w.grownBy w' (some (gs j))) (ho : OwnAtI w' (gs j) L) :
    SSR w' lo G gs caps n (fun k => if k = j then L else F k) := by
  refine ⟨fun k hk => ?_, fun k hk => ?_, h.ne, h.inc, h.low, Nat.lt_of_lt_of_le h.lt hg.size⟩
  · have hc := hg.cell (h.cell k hk) (by simpa using Ne.symm (h.ne j hj))
    split
    · subst k
      rw [hL]; exact hc
    · exact hc
  · split
    · subst k; exact ho
    · refine (h.row k hk).kept hg (fun e => ?_)
      have e : gs k = gs j := by simpa using e
      rcases Nat.lt_trichotomy k j with hlt | rfl | hlt
      · have := h.inc k j hlt hj; omega
      · contradiction
      · have := h.inc j k hlt hk; omega
def partSS (k0 : Int) (F : Nat → List Int) (j : Nat) : Nat → List Int := fun k => if k < j then markSS k0 F k else F k
theorem partSS_len (k0 : Int) (F : Nat → List Int) (j k : Nat) : (partSS k0 F j k).length = (F k).length := by
  unfold partSS markSS
  split
  · rw [markI_length]
  · rfl
theorem partSS_succ (k0 : Int) (F : Nat → List Int) (j : Nat) : (fun k => if k = j then markSS k0 F j else partSS k0 F j k) = partSS k0 F (j + 1) := by
  funext k
  unfold partSS
  by_cases h : k = j
  · subst h; simp
  · rw [if_neg h]
    by_cases h2 : k < j
    · rw [if_pos h2, if_pos (by omega)]
    · rw [if_neg h2, if_neg (by omega)]
theorem SSR.congr {w : World} {lo G : Nat} {gs caps : Nat → Nat} {n : Nat} {F F' : Nat → List Int} (h : SSR w lo G gs caps n F) (e : ∀ k, k < n → F k = F' k) : SSR w lo G gs caps n F' :=
  ⟨fun k hk => by rw [← e k hk]; exact h.cell k hk, fun k hk => by rw [← e k hk]; exact h.row k hk, h.ne, h.inc, h.low, h.lt⟩
set_option maxRecDepth 100000 in
theorem markInt64SS_any (lo G cap : Nat) (gs caps : Nat → Nat) (n : Nat) (F : Nat → List Int) (k0 : Int) (w : World) (h : SSR w lo G gs caps n F) (hl : n ≤ 1100000) (hlo : lo ≤ w.heap.size) (hT : tot F n ≤ 1100000) (h0 : 0 ≤ k0) (h1 : k0 ≤ 5000000) :
    Calls Try.prog 29 #[.slice (some ⟨G, 0, none⟩) n cap, .int .i64 k0] w (fun e w' => e = .returned (.int .i64 (k0 + tot F n)) ∧ Below lo w w' ∧ SSR w' lo G gs caps n (markSS k0 F)) := by
  have H := Lib.hid h
  clear h
  go_enter Try.func29, Try.ntmps29
  go_wp2
  go_loopw [1, 5] (fun t i wr => ∃ j : Nat, j ≤ n ∧ i = .int .i64 j ∧ t = .int .i64 (k0 + tot F j) ∧ Below lo w wr ∧ SSR wr lo G gs caps n (partSS k0 F j)) (fun _ i _ => n - (intOf i).toNat)
  case atStart => exact ⟨0, Nat.zero_le _, rfl, by simp [tot], Below.refl _ _, H.out.congr (fun k _ => by simp [partSS])⟩
  case round =>
    obtain ⟨j, hj, rfl, rfl, hB, hS⟩ := hrel
    have hSz := hB.size
    by_cases hjl : j < n
    · have c1 := hS.cell j hjl
      have hrow := hS.row j hjl
      have hlow := hS.low j hjl
      have hlen := partSS_len k0 F j j
      have hFj : partSS k0 F j j = F j := by simp [partSS]
      rw [hFj] at c1 hrow
      have htj : tot F (j + 1) ≤ tot F n := tot_le F hjl
      have htj' : tot F (j + 1) = tot F j + (F j).length := rfl
      have HS := Lib.hid hS
      have HM := Lib.hid (markInt64S_any (gs j) (caps j) (F j) (k0 + tot F j) wr hrow (by omega) (by omega) (by omega))
      clear hlen hFj hrow hS
      have g0 : (0 : Int) ≤ (j : Int) := by omega
      have g1 : (j : Int) < (n : Int) := by omega
      go_wp2_with (go_at_call 22; refine HM.out.mono ?_; rintro e w1 ⟨rfl, hg1, ho1⟩)
      go_roundw
      case rel => exact ⟨j + 1, by omega, by go_num, int_eq (by rw [htj']; omega), hB.grown hg1 (by omega) (fun r e => by simp at e; omega), by
        have := HS.out.mark1 hjl (markSS k0 F j) (by unfold markSS; rw [markI_length, partSS_len]) hg1 ho1
        rw [partSS_succ] at this
        exact this⟩
      case measure => simp [intOf]; omega
    · go_wp2
      go_ret
      have e : j = n := by omega
      subst e
      exact ⟨rfl, hB, hS.congr (fun k hk => by simp [partSS, hk])⟩
set_option maxRecDepth 100000 in
theorem heldInt64SS_any (lo G cap : Nat) (gs caps : Nat → Nat) (n : Nat) (F : Nat → List Int) (k0 : Int) (w : World) (h : SSR w lo G gs caps n (markSS k0 F)) (hl : n ≤ 1100000) (hT : tot F n ≤ 1100000) (h0 : 0 ≤ k0) (h1 : k0 ≤ 5000000) :
    Calls Try.prog 37 #[.slice (some ⟨G, 0, none⟩) n cap, .int .i64 k0] w (RS (.int .i64 (k0 + tot F n)) w) := by
  have H := Lib.hid h
  clear h
  go_enter Try.func37, Try.ntmps37
  go_wp2
  go_loop [1, 5] (fun t i => ∃ j : Nat, j ≤ n ∧ i = .int .i64 j ∧ t = .int .i64 (k0 + tot F j)) (fun _ i => n - (intOf i).toNat)
  case atStart => exact ⟨0, Nat.zero_le _, rfl, by simp [tot]⟩
  case round =>
    obtain ⟨j, hj, rfl, rfl⟩ := hrel
    by_cases hjl : j < n
    · have c1 := H.out.cell j hjl
      have hrow := (H.out.row j hjl).at_
      have htj : tot F (j + 1) ≤ tot F n := tot_le F hjl
      have htj' : tot F (j + 1) = tot F j + (F j).length := rfl
      have hmm : (markSS k0 F j).length = (F j).length := by unfold markSS; rw [markI_length]
      rw [hmm] at c1
      have HM := Lib.hid (heldInt64S_any (gs j) (caps j) (F j).length (k0 + tot F j) w hrow (by omega) (by omega) (by omega))
      clear hmm hrow
      obtain ⟨m, hm⟩ : ∃ m, m = k0 + (tot F j : Int) + ((F j).length : Int) := ⟨_, rfl⟩
      rw [← hm] at HM
      have hm0 : 0 ≤ m := by omega
      have HME := Lib.hid hm
      clear hm
      have g0 : (0 : Int) ≤ (j : Int) := by omega
      have g1 : (j : Int) < (n : Int) := by omega
      go_wp2_with (go_at_call 23; refine HM.out.mono ?_; rintro e w1 ⟨rfl, rfl⟩)
      go_round
      case rel => exact ⟨j + 1, by omega, by go_num, int_eq (by rw [htj', HME.out]; omega)⟩
      case measure => simp [intOf]; omega
    · go_wp2
      go_ret
      have e : j = n := by omega
      subst e
      exact RS_of rfl
end Go.Proofs.Ytlhiokcdjnmfmaa

namespace Go.Proofs.Ytlhiokcdjnmfmaa
open Go.RowKit Go.Maps
def famF (v : Int) (n : Nat) (F : Nat → List Int) : Bool × Int := if dfV v = true then (famB v n F, 0) else (false, 2)
def okP1 (v : Int) (k : Nat) (F : Nat → List Int) : Bool := triB v (F k) && (decide (k = 0) || decide (cmpL (F (k - 1)) (F k) < 0))
theorem okP_succ (v : Int) (k : Nat) (F : Nat → List Int) : okP v (k + 1) F = (okP v k F && okP1 v k F) := by
  unfold okP okP1
  simp [List.range_succ, List.all_append]
theorem okP_false {v : Int} {k n : Nat} {F : Nat → List Int} (hk : k < n) (h : okP1 v k F = false) : okP v n F = false := by
  unfold okP
  rw [List.all_eq_false]
  exact ⟨k, List.mem_range.2 hk, by unfold okP1 at h; simp only [h]; decide⟩
theorem okP_tri {v : Int} {k n : Nat} {F : Nat → List Int} (hk : k < n) (h : okP v n F = true) : triB v (F k) = true := by
  unfold okP at h
  have := List.all_eq_true.1 h k (List.mem_range.2 hk)
  simp only [Bool.and_eq_true] at this
  exact this.1
theorem tri_len {v : Int} {t : List Int} (h : triB v t = true) : t.length = 3 := by
  obtain ⟨a, b, c, rfl, _⟩ := triB_iff.1 h
  rfl
theorem SSB.rows {w : World} {a : Option Addr} {c n : Nat} {F : Nat → List Int} (h : SSB w (.slice a n c) n F) : ∀ k, k < n → ∃ b off a' c', a = some ⟨b, off, none⟩ ∧ b < w.heap.size ∧ w.cell? ⟨b, off + k, none⟩ = some (.slice a' (F k).length c') ∧ IB w (.slice a' (F k).length c') (F k) := fun k hk => by
  rcases h.2 with ⟨h0, _⟩ | ⟨b, off, cap, e, hlt, hr⟩
  · omega
  · simp at e
    obtain ⟨rfl, rfl⟩ := e
    obtain ⟨a', c', hc, hi⟩ := hr k hk
    exact ⟨b, off, a', c', rfl, hlt, hc, hi⟩
theorem IB.three {w : World} {a : Option Addr} {n c : Nat} {t : List Int} (h : IB w (.slice a n c) t) (h3 : t.length = 3) : ∃ b off, a = some ⟨b, off, none⟩ ∧ n = 3 ∧ b < w.heap.size ∧ Ints w b off t := by
  rcases h.2 with ⟨_, _, _, rfl⟩ | ⟨b, off, cap, e, hlt, hr⟩
  · simp at h3
  · simp at e
    obtain ⟨rfl, rfl, rfl⟩ := e
    exact ⟨b, off, rfl, h3, hlt, hr⟩
theorem diffs_ne {v : Int} (hv : dfV v = true) : diffs v ≠ [] ∧ (diffs v).length ≤ 7 := by
  simp only [dfV, Bool.or_eq_true, decide_eq_true_eq] at hv
  rcases hv with (rfl | rfl) | rfl <;> decide
end Go.Proofs.Ytlhiokcdjnmfmaa

namespace Go.Proofs.Ytlhiokcdjnmfmaa
open Go.RowKit Go.Maps
def lin1 (F : Nat → List Int) (k : Nat) : Bool := decide (k = 0) || decide (at3 (F (k - 1)) 0 < at3 (F k) 0)
theorem okD_tri {v : Int} {n : Nat} {F : Nat → List Int} (h : okD v n F = true) : ∀ k, k < n → triB v (F k) = true ∧ lin1 F k = true := fun k hk => by
  simp only [okD, Bool.and_eq_true] at h
  have hq : (triB v (F k) && lin1 F k) = true := List.all_eq_true.1 h.1 k (List.mem_range.2 hk)
  exact Bool.and_eq_true_iff.1 hq
theorem okD_nd {v : Int} {n : Nat} {F : Nat → List Int} (h : okD v n F = true) : (baseD v ++ catF n F).Nodup := by
  simp only [okD, Bool.and_eq_true, decide_eq_true_eq] at h
  exact h.2
theorem okD_of {v : Int} {n : Nat} {F : Nat → List Int} (h : ∀ k, k < n → triB v (F k) = true ∧ lin1 F k = true) (hn : (baseD v ++ catF n F).Nodup) : okD v n F = true := by
  simp only [okD, Bool.and_eq_true, decide_eq_true_eq]
  refine ⟨List.all_eq_true.2 fun k hk => ?_, hn⟩
  exact (Bool.and_eq_true_iff.2 (h k (List.mem_range.1 hk)) : (triB v (F k) && lin1 F k) = true)
theorem okD_zero (v : Int) (F : Nat → List Int) : okD v 0 F = true := okD_of (fun k hk => absurd hk (Nat.not_lt_zero k)) (by simp [catF, baseD]; split <;> simp)
theorem okD_next {v : Int} {k : Nat} {F : Nat → List Int} (h : okD v k F = true) (ht : triB v (F k) = true) (hl : lin1 F k = true) (hn : (baseD v ++ catF k F ++ F k).Nodup) : okD v (k + 1) F = true :=
  okD_of (fun j hj => by
    rcases Nat.lt_or_ge j k with h1 | h1
    · exact okD_tri h j h1
    · obtain rfl : j = k := by omega
      exact ⟨ht, hl⟩) (by rw [catF_succ, ← List.append_assoc]; exact hn)
theorem famB_false1 {v : Int} {n k : Nat} {F : Nat → List Int} (hk : k < n) (h : ¬ (triB v (F k) = true ∧ lin1 F k = true)) : famB v n F = false := by
  rw [famB, show okD v n F = false by
    rcases he : okD v n F with _ | _
    · rfl
    · exact absurd (okD_tri he k hk) h]
  rfl
theorem cat_pre (F : Nat → List Int) {k n : Nat} (h : k ≤ n) : ∃ R, catF n F = catF k F ++ R := by
  induction h with
  | refl => exact ⟨[], by simp⟩
  | step _ ih =>
    obtain ⟨R, hR⟩ := ih
    exact ⟨R ++ F _, by rw [catF_succ, hR, List.append_assoc]⟩
theorem famB_false2 {v : Int} {n k m : Nat} {F : Nat → List Int} (hk : k < n) (hm : m < (F k).length) (h : (F k)[m] ∈ baseD v ++ catF k F ++ (F k).take m) : famB v n F = false := by
  rw [famB, show okD v n F = false by
    rcases he : okD v n F with _ | _
    · rfl
    · exfalso
      have hn := okD_nd he
      obtain ⟨R, hR⟩ := cat_pre F hk
      rw [hR, catF_succ, ← List.append_assoc, ← List.append_assoc] at hn
      have hn := (List.nodup_append.1 hn).1
      rw [← List.take_append_drop m (F k), ← List.append_assoc, List.nodup_append] at hn
      refine hn.2.2 _ h _ ?_ rfl
      rw [List.drop_eq_getElem_cons hm]
      exact List.mem_cons_self]
  rfl
theorem l02Bit_any (b : Bool) (w : World) : Calls Try.prog 131 #[.bool b] w (RS (.int .i64 (if b = true then 1 else 0)) w) := by
  cases b
  all_goals
    go_enter Try.func131, Try.ntmps131
    go_wp2
    go_ret
    exact RS_of rfl
theorem RQ.quiet {P : Program} {f : FuncId} {args : Array Value} {w : World} {n : Nat} {v : Value} (h : Calls P f args (w.drewN n) (RQ v (w.drewN n))) :
    Calls P f args (w.drewN n) fun e w'' => e = .returned v ∧ ∃ m, w'' = w.drewN m :=
  h.mono fun _ _ ⟨he, m, hm⟩ => ⟨he, n + m, by rw [hm, World.drewN_drewN]⟩
/-- All of a list's numbers are small: base, the triples before, the first m of this one. -/
theorem small_all {v : Int} (hv : dfV v = true) {k m : Nat} {F : Nat → List Int} (hok : okD v k F = true) (ht : triB v (F k) = true) : ∀ d ∈ baseD v ++ catF k F ++ (F k).take m, 1 ≤ d ∧ d ≤ 7 := fun d hd => by
  have h7 := (dfV_half hv).2.2.2.2
  simp only [List.mem_append] at hd
  rcases hd with (hd | hd) | hd
  · unfold baseD at hd
    split at hd
    · simp at hd; omega
    · simp at hd
  · have := cat_bound (fun j hj => (okD_tri hok j hj).1) hd
    omega
  · have hd := List.mem_of_mem_take hd
    obtain ⟨a, b, c, e, h1, h2, h3, h4, _⟩ := triB_iff.1 ht
    rw [e] at hd
    simp only [List.mem_cons, List.not_mem_nil, or_false] at hd
    omega
theorem wrap_pow {t : Int} (h1 : 1 ≤ t) (h7 : t ≤ 7) : IntKind.i64.wrap (2 ^ t.toNat) = ((2 ^ t.toNat : Nat) : Int) ∧ IntKind.u64.wrap t = t := by
  have : t = 1 ∨ t = 2 ∨ t = 3 ∨ t = 4 ∨ t = 5 ∨ t = 6 ∨ t = 7 := by omega
  rcases this with rfl | rfl | rfl | rfl | rfl | rfl | rfl <;> decide
end Go.Proofs.Ytlhiokcdjnmfmaa

namespace Go.Proofs.Ytlhiokcdjnmfmaa
open Go.RowKit Go.Maps
theorem len3s {t : List Int} (h : t.length = 3) : ∃ a b c, t = [a, b, c] := by
  match t, h with
  | [a, b, c], _ => exact ⟨a, b, c, rfl⟩
set_option maxRecDepth 100000 in
set_option maxHeartbeats 8000000 in
theorem l02Fam_b (v : Int) (a : Option Addr) (n c : Nat) (F : Nat → List Int) (w : World) (hv : dfV v = true) (h : SSB w (.slice a n c) n F) (b : Bool) (h15 : (v == 15) = b) (hb32 : (msk (baseD v) : Int) = if b = true then 32 else 0) (hlen : (v - 1).tdiv 2 - (if b = true then 1 else 0) = ((diffs v).length : Int)) :
    Calls Try.prog 78 #[.int .i64 v, .slice a n c] w (RV (.bool (famB v n F)) w) := by
  have hn := h.1
  have HSS := Lib.hid h
  have HROW := Lib.hid h.rows
  have hd7 := (diffs_ne hv).2
  obtain ⟨D, hD⟩ : ∃ D, D = (diffs v).length := ⟨_, rfl⟩
  have HE := Lib.hid (show okD v n F = true → famB v n F = decide (3 * n = D) from fun e => by rw [famB, e, hD, Bool.true_and])
  obtain ⟨hq, v7, v15, q3, q7⟩ := dfV_half hv
  rw [← hD] at hlen hd7
  obtain ⟨q, hqq⟩ : ∃ q, q = (v - 1).tdiv 2 := ⟨_, rfl⟩
  rw [← hqq] at hlen hq
  rw [← hq] at q3 q7
  have hw1 : IntKind.i64.wrap (v - 1) = v - 1 := IntWalk.i64_in _ (by omega)
  have HV := Lib.hid hv
  have HM0 := Lib.hid hb32
  clear h hD hq hv hb32
  have HBIT := Lib.hid (l02Bit_any b)
  cases b
  all_goals
    simp only [if_true, Bool.false_eq_true, if_false] at hlen HM0 HBIT
    go_enter Try.func78, Try.ntmps78
    obtain ⟨W0, rfl⟩ : ∃ W0, W0 = w := ⟨_, rfl⟩
    go_wp2_with fail
    go_loopw [5, 6, 7] (fun u m i wr => ∃ k : Nat, k ≤ n ∧ i = .int .i64 k ∧ u = .int .i64 (msk (baseD v ++ catF k F) : Int) ∧ m = .int .i64 ((3 * k : Nat) : Int) ∧ Below W0.heap.size W0 wr ∧ okD v k F = true) (fun _ _ i _ => n - (intOf i).toNat)
    case atStart => exact ⟨0, Nat.zero_le _, rfl, by rw [show catF 0 F = [] from rfl, List.append_nil, HM0.out], rfl, Below.refl _ _, okD_zero v F⟩
    case round =>
      obtain ⟨k, hk, rfl, rfl, rfl, hB, hok⟩ := hrel
      have HB := Lib.hid hB
      have HOK := Lib.hid hok
      have hz := hB.size
      obtain ⟨U, hU⟩ : ∃ U : Int, U = (msk (baseD v ++ catF k F) : Int) := ⟨_, rfl⟩
      rw [← hU]
      have HU := Lib.hid hU
      clear hB hok hU
      by_cases hkl : k < n
      · obtain ⟨b, off, a', c', rfl, hlt, hc, hi⟩ := HROW.out k hkl
        have q1 := (HB.out.cell (p := ⟨b, off + k, none⟩) hlt).trans hc
        have HI := Lib.hid (hi.below HB.out (Nat.le_refl _))
        have HT := Lib.hid (fun m => l02Triple_any v _ (F k) (wr.drewN m) HV.out (HI.out.below (below_drewN (Below.refl _ _) m) (Nat.le_refl _)))
        clear hc hi
        by_cases ht : triB v (F k) = true
        · rw [ht] at HT
          have h3 := tri_len ht
          have HTR := Lib.hid ht
          obtain ⟨b', off', rfl, e3, hlt', hr'⟩ := HI.out.three h3
          rw [h3] at q1 HT
          obtain ⟨x, y, z, hF⟩ := len3s h3
          have p0 : wr.cell? ⟨b', off', none⟩ = some (.int .i64 x) := by
            have := hr' 0 (by omega)
            simpa [hF] using this
          have p1 : wr.cell? ⟨b', off' + 1, none⟩ = some (.int .i64 y) := by
            have := hr' 1 (by omega)
            simpa [hF] using this
          have p2 : wr.cell? ⟨b', off' + 2, none⟩ = some (.int .i64 z) := by
            have := hr' 2 (by omega)
            simpa [hF] using this
          have HX := Lib.hid (show at3 (F k) 0 = x by rw [hF]; rfl)
          have HF := Lib.hid hF
          clear hr' HI e3 ht hF
          have hbd := small_all HV.out HOK.out HTR.out (m := 3)
          have HSM := Lib.hid hbd
          clear hbd
          by_cases hk0 : k = 0
          · have HL := Lib.hid (show lin1 F k = true by simp [lin1, hk0])
            have d0 : decide (0 < k) = false := by simp; omega
            clear hk0
            go_wp2_with fail
            go_quiet ((go_at_call 130; exact RQ.quiet (HT.out _)))
            obtain ⟨W1, hW1⟩ : ∃ W1, W1 = wr.drewN nq := ⟨_, rfl⟩
            have HB1 := Lib.hid (show Below W0.heap.size W0 W1 by rw [hW1]; exact below_drewN HB.out _)
            have hQ1 : W1.cell? ⟨b, off + k, none⟩ = some (.slice (some ⟨b', off', none⟩) 3 c') := by rw [hW1]; exact q1
            have HRW := Lib.hid (show ∀ j, j < 3 → W1.cell? ⟨b', off' + j, none⟩ = some (.int .i64 (at3 (F k) j)) from fun j hj => by
              rw [hW1, HF.out]
              match j, hj with
              | 0, _ => exact p0
              | 1, _ => exact p1
              | 2, _ => exact p2)
            have hz1 := HB1.out.size
            rw [← hW1]
            clear hW1 q1 p0 p1 p2 HT
            go_wp2_with fail
            go_loopw [5, 6, 8] (fun u ct i w2 => ∃ j : Nat, j ≤ 3 ∧ i = .int .i64 j ∧ u = .int .i64 (msk (baseD v ++ catF k F ++ (F k).take j) : Int) ∧ ct = .int .i64 ((3 * k + j : Nat) : Int) ∧ (∃ n, w2 = W1.drewN n) ∧ (baseD v ++ catF k F ++ (F k).take j).Nodup) (fun _ _ i _ => 3 - (intOf i).toNat)
            case atStart => exact ⟨0, Nat.zero_le _, rfl, by rw [List.take_zero, List.append_nil, HU.out], rfl, ⟨0, rfl⟩, by rw [List.take_zero, List.append_nil]; exact okD_nd HOK.out⟩
            case round =>
              obtain ⟨j, hj, rfl, rfl, rfl, ⟨n2, rfl⟩, hnd⟩ := hrel
              have HND := Lib.hid hnd
              clear hnd
              have h3 := tri_len HTR.out
              by_cases hjl : j < 3
              · obtain ⟨d, hd⟩ : ∃ d, d = at3 (F k) j := ⟨_, rfl⟩
                have hq := HRW.out j hjl
                rw [← hd] at hq
                have hdj : (F k)[j]'(by omega) = d := by rw [hd, at3]; simp [h3, hjl]
                have hmem : d ∈ F k := by rw [← hdj]; exact List.getElem_mem _
                have hb := HSM.out d (by rw [List.take_of_length_le (by omega)]; exact List.mem_append_right _ hmem)
                have hbi := bit_in (small_all HV.out HOK.out HTR.out (m := j)) hb.1 hb.2
                have hwp := wrap_pow hb.1 hb.2
                obtain ⟨P, hP⟩ : ∃ P : Nat, P = 2 ^ d.toNat := ⟨_, rfl⟩
                obtain ⟨L, hL⟩ : ∃ L, L = baseD v ++ catF k F ++ (F k).take j := ⟨_, rfl⟩
                have hLs : baseD v ++ catF k F ++ (F k).take (j + 1) = L ++ [d] := by rw [hL, List.take_succ_eq_append_getElem (by omega), hdj, ← List.append_assoc]
                have HLS := Lib.hid hLs
                have HLN := Lib.hid (show L.Nodup by rw [hL]; exact HND.out)
                rw [← hL, ← hP] at hbi
                have HFB := Lib.hid (show d ∈ L → famB v n F = false from fun e => famB_false2 (k := k) (m := j) hkl (by omega) (by rw [hdj, ← hL]; exact e))
                rw [← hL]
                obtain ⟨U2, hU2⟩ : ∃ U2 : Int, U2 = (msk L : Int) := ⟨_, rfl⟩
                rw [← hU2] at hbi ⊢
                have HU2 := Lib.hid hU2
                clear hL hU2 hLs hmem hdj hd
                by_cases hin : d ∈ L
                · have hbt : (bits .and .i64 U2 (P : Int) != 0) = true := by rw [hbi.1]; simpa using hin
                  have HS := Lib.hid (HFB.out hin)
                  rw [← hP] at hwp
                  clear hbi hin hP
                  go_wp2_with fail
                  go_ret
                  rw [HS.out]
                  exact RV_of rfl (below_drewN HB1.out _)
                · have hbt : (bits .and .i64 U2 (P : Int) != 0) = false := by rw [hbi.1]; simpa using hin
                  have hbo := hbi.2
                  have HNN := Lib.hid (show (L ++ [d]).Nodup by
                    rw [List.nodup_append]
                    exact ⟨HLN.out, by simp, by intro x hx y hy e; simp at hy; exact hin (by rw [← hy, ← e]; exact hx)⟩)
                  rw [← hP] at hwp
                  clear hbi hin hP
                  go_wp2_with fail
                  go_roundw
                  case rel => exact ⟨j + 1, by omega, by go_num, by rw [HLS.out, ← hbo], by go_num, ⟨_, rfl⟩, by rw [HLS.out]; exact HNN.out⟩
                  case measure => simp [intOf]; omega
              · have e : j = 3 := by omega
                subst e
                go_wp2_with fail
                go_roundw
                case rel =>
                  have e4 : baseD v ++ catF k F ++ (F k).take 3 = baseD v ++ catF (k + 1) F := by rw [List.take_of_length_le (by omega), catF_succ k F, List.append_assoc]
                  exact ⟨k + 1, by omega, by go_num, by rw [← e4], by go_num, below_drewN HB1.out _, okD_next HOK.out HTR.out HL.out (by have := HND.out; rwa [List.take_of_length_le (by omega)] at this)⟩
                case measure => simp [intOf]; omega
          · obtain ⟨m, rfl⟩ : ∃ m, k = m + 1 := ⟨k - 1, by omega⟩
            have htm := (okD_tri HOK.out m (by omega)).1
            have hm3 := tri_len htm
            obtain ⟨b0, off0, a0, c0, e0, hlt0, hc0, hi0⟩ := HROW.out m (by omega)
            simp at e0
            obtain ⟨rfl, rfl⟩ := e0
            obtain ⟨b1, off1, rfl, e31, hlt1, hr1⟩ := hi0.three hm3
            rw [hm3] at hc0
            have q2 := (HB.out.cell (p := ⟨b, off + m, none⟩) hlt).trans hc0
            have r0 : wr.cell? ⟨b1, off1, none⟩ = some (.int .i64 (at3 (F m) 0)) := by
              have := (HB.out.cell (p := ⟨b1, off1 + 0, none⟩) hlt1).trans (hr1 0 (by omega))
              simpa [at3, hm3] using this
            obtain ⟨x0, hx0⟩ : ∃ x0, x0 = at3 (F m) 0 := ⟨_, rfl⟩
            rw [← hx0] at r0
            have HX0 := Lib.hid hx0
            clear hr1 hi0 e31 hc0 hm3 htm hx0
            by_cases hlt2 : x0 < x
            · have dd : decide (x ≤ x0) = false := by simp; omega
              have HL := Lib.hid (show lin1 F (m + 1) = true by simp [lin1]; rw [← HX0.out, HX.out]; exact hlt2)
              clear hlt2
              go_wp2_with fail
              go_quiet ((go_at_call 130; exact RQ.quiet (HT.out _)))
              obtain ⟨W1, hW1⟩ : ∃ W1, W1 = wr.drewN nq := ⟨_, rfl⟩
              have HB1 := Lib.hid (show Below W0.heap.size W0 W1 by rw [hW1]; exact below_drewN HB.out _)
              have hQ1 : W1.cell? ⟨b, off + (m + 1), none⟩ = some (.slice (some ⟨b', off', none⟩) 3 c') := by rw [hW1]; exact q1
              have HRW := Lib.hid (show ∀ j, j < 3 → W1.cell? ⟨b', off' + j, none⟩ = some (.int .i64 (at3 (F (m + 1)) j)) from fun j hj => by
                rw [hW1, HF.out]
                match j, hj with
                | 0, _ => exact p0
                | 1, _ => exact p1
                | 2, _ => exact p2)
              have hz1 := HB1.out.size
              rw [← hW1]
              clear hW1 q1 p0 p1 p2 HT q2 r0
              go_wp2_with fail
              go_loopw [5, 6, 8] (fun u ct i w2 => ∃ j : Nat, j ≤ 3 ∧ i = .int .i64 j ∧ u = .int .i64 (msk (baseD v ++ catF (m + 1) F ++ (F (m + 1)).take j) : Int) ∧ ct = .int .i64 ((3 * (m + 1) + j : Nat) : Int) ∧ (∃ n, w2 = W1.drewN n) ∧ (baseD v ++ catF (m + 1) F ++ (F (m + 1)).take j).Nodup) (fun _ _ i _ => 3 - (intOf i).toNat)
              case atStart => exact ⟨0, Nat.zero_le _, rfl, by rw [List.take_zero, List.append_nil, HU.out], rfl, ⟨0, rfl⟩, by rw [List.take_zero, List.append_nil]; exact okD_nd HOK.out⟩
              case round =>
                obtain ⟨j, hj, rfl, rfl, rfl, ⟨n2, rfl⟩, hnd⟩ := hrel
                have HND := Lib.hid hnd
                clear hnd
                have h3 := tri_len HTR.out
                by_cases hjl : j < 3
                · obtain ⟨d, hd⟩ : ∃ d, d = at3 (F (m + 1)) j := ⟨_, rfl⟩
                  have hq := HRW.out j hjl
                  rw [← hd] at hq
                  have hdj : (F (m + 1))[j]'(by omega) = d := by rw [hd, at3]; simp [h3, hjl]
                  have hmem : d ∈ F (m + 1) := by rw [← hdj]; exact List.getElem_mem _
                  have hb := HSM.out d (by rw [List.take_of_length_le (by omega)]; exact List.mem_append_right _ hmem)
                  have hbi := bit_in (small_all HV.out HOK.out HTR.out (m := j)) hb.1 hb.2
                  have hwp := wrap_pow hb.1 hb.2
                  obtain ⟨P, hP⟩ : ∃ P : Nat, P = 2 ^ d.toNat := ⟨_, rfl⟩
                  obtain ⟨L, hL⟩ : ∃ L, L = baseD v ++ catF (m + 1) F ++ (F (m + 1)).take j := ⟨_, rfl⟩
                  have hLs : baseD v ++ catF (m + 1) F ++ (F (m + 1)).take (j + 1) = L ++ [d] := by rw [hL, List.take_succ_eq_append_getElem (by omega), hdj, ← List.append_assoc]
                  have HLS := Lib.hid hLs
                  have HLN := Lib.hid (show L.Nodup by rw [hL]; exact HND.out)
                  rw [← hL, ← hP] at hbi
                  have HFB := Lib.hid (show d ∈ L → famB v n F = false from fun e => famB_false2 (k := (m + 1)) (m := j) hkl (by omega) (by rw [hdj, ← hL]; exact e))
                  rw [← hL]
                  obtain ⟨U2, hU2⟩ : ∃ U2 : Int, U2 = (msk L : Int) := ⟨_, rfl⟩
                  rw [← hU2] at hbi ⊢
                  have HU2 := Lib.hid hU2
                  clear hL hU2 hLs hmem hdj hd
                  by_cases hin : d ∈ L
                  · have hbt : (bits .and .i64 U2 (P : Int) != 0) = true := by rw [hbi.1]; simpa using hin
                    have HS := Lib.hid (HFB.out hin)
                    rw [← hP] at hwp
                    clear hbi hin hP
                    go_wp2_with fail
                    go_ret
                    rw [HS.out]
                    exact RV_of rfl (below_drewN HB1.out _)
                  · have hbt : (bits .and .i64 U2 (P : Int) != 0) = false := by rw [hbi.1]; simpa using hin
                    have hbo := hbi.2
                    have HNN := Lib.hid (show (L ++ [d]).Nodup by
                      rw [List.nodup_append]
                      exact ⟨HLN.out, by simp, by intro x hx y hy e; simp at hy; exact hin (by rw [← hy, ← e]; exact hx)⟩)
                    rw [← hP] at hwp
                    clear hbi hin hP
                    go_wp2_with fail
                    go_roundw
                    case rel => exact ⟨j + 1, by omega, by go_num, by rw [HLS.out, ← hbo], by go_num, ⟨_, rfl⟩, by rw [HLS.out]; exact HNN.out⟩
                    case measure => simp [intOf]; omega
                · have e : j = 3 := by omega
                  subst e
                  go_wp2_with fail
                  go_roundw
                  case rel =>
                    have e4 : baseD v ++ catF (m + 1) F ++ (F (m + 1)).take 3 = baseD v ++ catF ((m + 1) + 1) F := by rw [List.take_of_length_le (by omega), catF_succ (m + 1) F, List.append_assoc]
                    exact ⟨(m + 1) + 1, by omega, by go_num, by rw [← e4], by go_num, below_drewN HB1.out _, okD_next HOK.out HTR.out HL.out (by have := HND.out; rwa [List.take_of_length_le (by omega)] at this)⟩
                  case measure => simp [intOf]; omega
            · have dd : decide (x ≤ x0) = true := by simp; omega
              have HS := Lib.hid (famB_false1 (F := F) (v := v) hkl (fun e => by
                have h2 := e.2
                simp [lin1] at h2
                rw [← HX0.out, HX.out] at h2
                omega))
              clear hlt2
              go_wp2_with fail
              go_quiet ((go_at_call 130; exact RQ.quiet (HT.out _)))
              go_wp2
              go_ret
              rw [HS.out]
              exact RV_of rfl (below_drewN HB.out _)
        · have ht : triB v (F k) = false := by simpa using ht
          have HS := Lib.hid (famB_false1 (F := F) (v := v) hkl (fun e => by rw [ht] at e; simp at e))
          rw [ht] at HT
          clear ht HI
          go_wp2_with fail
          go_quiet ((go_at_call 130; exact RQ.quiet (HT.out _)))
          go_wp2
          go_ret
          rw [HS.out]
          exact RV_of rfl (below_drewN HB.out _)
      · have e : k = n := by omega
        subst e
        clear hkl hk
        have HF := Lib.hid (HE.out HOK.out)
        go_wp2_with fail
        refine (HBIT.out _).mono ?_
        rintro e w2 ⟨rfl, rfl⟩
        go_wp2
        go_ret
        rw [HF.out]
        refine RV_of (bool_eq ?_) HB.out
        rw [Bool.eq_iff_iff]
        simp
        omega
end Go.Proofs.Ytlhiokcdjnmfmaa

namespace Go.Proofs.Ytlhiokcdjnmfmaa
open Go.RowKit Go.Maps
theorem l02Fam_any (v : Int) (s : Value) (n : Nat) (F : Nat → List Int) (w : World) (hv : dfV v = true) (h : SSB w s n F) :
    Calls Try.prog 78 #[.int .i64 v, s] w (RV (.bool (famB v n F)) w) := by
  obtain ⟨a, c, rfl⟩ := h.slice
  have hv' := hv
  simp only [dfV, Bool.or_eq_true, decide_eq_true_eq] at hv'
  rcases hv' with (rfl | rfl) | rfl
  · exact l02Fam_b 7 a n c F w hv h false (by decide) (by decide) (by decide)
  · exact l02Fam_b 13 a n c F w hv h false (by decide) (by decide) (by decide)
  · exact l02Fam_b 15 a n c F w hv h true (by decide) (by decide) (by decide)
set_option maxRecDepth 100000 in
set_option maxHeartbeats 2000000 in
theorem specIsDF_any (v : Int) (s : Value) (n : Nat) (F : Nat → List Int) (w : World) (h : SSB w s n F) :
    Calls Try.prog 31 #[.int .i64 v, s] w (RV (.tuple #[.bool (famF v n F).1, .int .i64 (famF v n F).2]) w) := by
  have HN := Lib.hid fun W => numsDF_any v W
  unfold famF
  by_cases hv : dfV v = true
  · rw [if_pos hv]
    have HF := Lib.hid (l02Fam_any v s n F w hv h)
    rw [hv] at HN
    clear h hv
    go_enter Try.func31, Try.ntmps31
    go_wp2_with fail
    refine (HN.out _).mono ?_
    rintro e w1 ⟨rfl, rfl⟩
    go_wp2_with fail
    refine HF.out.mono ?_
    rintro e w2 ⟨rfl, hb⟩
    go_wp2
    exact bodyPost_ret (v := .tuple #[.bool _, .int .i64 0]) (by simp [results, Try.results31, go_sem, *]) rfl (RV_of rfl hb)
  · rw [if_neg hv]
    rw [show dfV v = false by simpa using hv] at HN
    clear h hv
    go_enter Try.func31, Try.ntmps31
    go_wp2_with fail
    refine (HN.out _).mono ?_
    rintro e w1 ⟨rfl, rfl⟩
    go_wp2
    exact bodyPost_ret (v := .tuple #[.bool false, .int .i64 2]) (by simp [results, Try.results31, go_sem, *]) rfl (RV_of rfl (Below.refl _ _))
end Go.Proofs.Ytlhiokcdjnmfmaa

namespace Go.Proofs.Ytlhiokcdjnmfmaa
open Go.RowKit Go.Maps
set_option maxRecDepth 100000 in
set_option maxHeartbeats 2000000 in
theorem differencesOf_any (v : Int) (w : World) (hv : dfV v = true) : Calls Try.prog 85 #[.int .i64 v] w (fun e w' => ∃ u, e = .returned u ∧ OwnJ w' w.heap.size u (diffs v) ∧ Below w.heap.size w w') := by
  obtain ⟨hq, v7, v15, q3, q7⟩ := dfV_half hv
  obtain ⟨q, hqq⟩ : ∃ q, q = (v - 1) / 2 := ⟨_, rfl⟩
  rw [← hqq] at hq q3 q7
  have HQ := Lib.hid (show diffs v = diffsK v q.toNat by rw [hqq]; rfl)
  have hw1 : IntKind.i64.wrap (v - 1) = v - 1 := IntWalk.i64_in _ (by omega)
  clear hqq hv
  go_enter Try.func85, Try.ntmps85
  go_wp2_with fail
  go_loopw [3, 4] (fun o i wr => ∃ k : Nat, (k : Int) ≤ q ∧ i = .int .i64 ((k : Int) + 1) ∧ Below w.heap.size w wr ∧ OwnJ wr w.heap.size o (diffsK v k) ∧ ∃ a n c, o = .slice a n c) (fun _ i _ => (q + 1 - intOf i).toNat)
  case atStart => exact ⟨0, by omega, rfl, Below.refl _ _, OwnJ.nil _ _, _, _, _, rfl⟩
  case round =>
    obtain ⟨k, hk, rfl, hB, hO, hform⟩ := hrel
    have hz := hB.size
    obtain ⟨a3, n3, c3, rfl⟩ := hform
    have HO := Lib.hid hO
    have HB := Lib.hid hB
    clear hO hB
    by_cases hkl : (k : Int) < q
    · have hS := diffsK_succ v k
      have hl := diffsK_len v k
      have hk7 : k ≤ 7 := by omega
      by_cases hc : v = 15 ∧ k = 4
      · obtain ⟨e1, e2⟩ := hc
        subst e2
        rw [show (decide (v ≠ 15) || decide (((4 : Nat) : Int) + 1 ≠ 5)) = false by simp [e1], if_neg (by decide), List.append_nil] at hS
        have HS := Lib.hid hS
        have hvv : (v != 15) = false := by simp [e1]
        clear hS
        go_wp2
        go_roundw
        case rel => exact ⟨4 + 1, by omega, by go_num, HB.out, by rw [HS.out]; exact HO.out, _, _, _, rfl⟩
        case measure => simp [intOf]; omega
      · rw [show (decide (v ≠ 15) || decide ((k : Int) + 1 ≠ 5)) = true by simp; omega, if_pos rfl] at hS
        have HS := Lib.hid hS
        clear hS
        by_cases e1 : v = 15
        · have hvv : (v != 15) = false := by simp [e1]
          have hkk : (((k : Int) + 1) != 5) = true := by simp; omega
          clear e1 hc
          go_wp2_with (at_builtin; refine wpList_append_int rfl _ _ rfl w.heap.size _ (diffsK v k) rfl (HO.out.below ((Below.refl _ _).alloc (Nat.le_refl _) _) (Nat.le_refl _)) _ _ ((k : Int) + 1) rfl (by simp [go_sem]) (by omega) (by simp; omega) ?_; intro g' cap' w4 hO4 hg4)
          have hrow := HO.out.row
          have hgo : wr.grownBy w4 (Value.slice a3 n3 c3).ownBlock := ⟨hg4.os, hg4.tape, hg4.output, by have := hg4.size; simp at this; omega, fun i hi hne => by
            rw [hg4.block i (by simp; omega) hne, Below.heap_alloc _ _ _ hi]⟩
          clear hg4
          go_roundw
          case rel => exact ⟨k + 1, by omega, by go_num, HB.out.grown hgo hz (fun j e => hrow j e), by rw [HS.out]; exact hO4, _, _, _, rfl⟩
          case measure => simp [intOf]; omega
        · have hvv : (v != 15) = true := by simp [e1]
          clear e1 hc
          go_wp2_with (at_builtin; refine wpList_append_int rfl _ _ rfl w.heap.size _ (diffsK v k) rfl (HO.out.below ((Below.refl _ _).alloc (Nat.le_refl _) _) (Nat.le_refl _)) _ _ ((k : Int) + 1) rfl (by simp [go_sem]) (by omega) (by simp; omega) ?_; intro g' cap' w4 hO4 hg4)
          have hrow := HO.out.row
          have hgo : wr.grownBy w4 (Value.slice a3 n3 c3).ownBlock := ⟨hg4.os, hg4.tape, hg4.output, by have := hg4.size; simp at this; omega, fun i hi hne => by
            rw [hg4.block i (by simp; omega) hne, Below.heap_alloc _ _ _ hi]⟩
          clear hg4
          go_roundw
          case rel => exact ⟨k + 1, by omega, by go_num, HB.out.grown hgo hz (fun j e => hrow j e), by rw [HS.out]; exact hO4, _, _, _, rfl⟩
          case measure => simp [intOf]; omega
    · go_wp2
      go_ret
      have e : k = q.toNat := by omega
      subst e
      rw [HQ.out]
      exact ⟨_, rfl, HO.out, HB.out⟩
end Go.Proofs.Ytlhiokcdjnmfmaa

namespace Go.Proofs.Ytlhiokcdjnmfmaa
open Go.RowKit Go.Maps
end Go.Proofs.Ytlhiokcdjnmfmaa


/- BlocksAt: the program and the model answer alike. Marking and holding rows of integers. Rows of rows of integers: equality, marks, and that they are still there. Rows of rows of integers that a call makes by append; the squares of few points. impl.PutBlock answers as the plain function putF. The model's test whether a block can be put in. -/
import Derived.Test.YtikegdidffjoeaaJ5
import Derived.Deep.RegionWith
import Derived.Deep.RegionHeld3
namespace Go.Proofs.Ytikegdidffjoeaa
open Go.RowKit Go.Maps
/-- The indices of the blocks through p, and the code. -/
def atF (v : Int) (bs : List Blk) (p : Int) : List Int × Int := if isSysImpl v bs then (if inP v p then (idxI p bs bs.length, 0) else ([], 2)) else ([], 1)
def RJ (r : List Int × Int) (w : World) (e : Ending) (w' : World) : Prop := ∃ u, e = .returned (.tuple #[u, .int .i64 r.2]) ∧ OwnJ w' w.heap.size u r.1 ∧ Below w.heap.size w w'
theorem OwnJ.nil (w : World) (base : Nat) : OwnJ w base (.slice none 0 0) [] := ⟨rfl, .inl ⟨rfl, rfl⟩⟩
theorem idxs_eq (p : Int) (bs : List Blk) : idxs (upTo p bs bs.length) = (idxI p bs bs.length).map (Value.int .i64) := by
  unfold idxs idxI
  rw [List.map_map]
  rfl
theorem ints1 {w : World} {b : Nat} {x : Int} (h0 : w.cell? ⟨b, 0, none⟩ = some (.int .i64 x)) : Ints w b 0 [x] := by
  intro k hk
  match k, hk with
  | 0, _ => simpa using h0
end Go.Proofs.Ytikegdidffjoeaa

namespace Go.Proofs.Ytikegdidffjoeaa
open Go.RowKit Go.Maps
/-- The row at the head of block g holds just these integers and may be written. -/
structure OwnAtI (w : World) (g : Nat) (zs : List Int) : Prop where
  lt : g < w.heap.size
  at_ : Ints w g 0 zs
  free : ∀ o, w.frozen? ⟨g, o, none⟩ = false
theorem OwnAtI.kept {w w' : World} {g : Nat} {zs : List Int} {row : Option Nat} (h : OwnAtI w g zs) (hg : w.grownBy w' row) (hne : some g ≠ row) : OwnAtI w' g zs := by
  have hb := hg.block g h.lt hne
  exact ⟨Nat.lt_of_lt_of_le h.lt hg.size, fun k hk => (World.cell?_of_block (w := w) (a := ⟨g, _, none⟩) hb).trans (h.at_ k hk), fun o => (World.frozen?_of_block (w := w) (a := ⟨g, o, none⟩) hb).trans (h.free o)⟩
theorem Ints.set {w : World} {g : Nat} {l : List Int} (h : Ints w g 0 l) {i : Nat} (hi : i < l.length) (x : Int) : Ints (w.setCell ⟨g, i, none⟩ (.int .i64 x)) g 0 (l.set i x) := by
  intro k hk
  rw [List.length_set] at hk
  have hk' := h k hk
  have hi' := h i hi
  rw [Nat.zero_add] at hk' hi' ⊢
  by_cases e : k = i
  · subst e
    rw [World.cell?_setCell_same' _ _ _ (by rw [hi']; rfl)]
    simp [hk]
  · rw [World.cell?_setCell_other _ _ _ _ (by simp <;> omega), hk', List.getElem?_set_ne (Ne.symm e)]
def markI (k : Int) (n : Nat) : List Int := (List.range n).map fun (t : Nat) => k + (t : Int)
theorem markI_length (k : Int) (n : Nat) : (markI k n).length = n := by simp [markI]
theorem markI_next {k : Int} {i : Nat} {zs : List Int} (h : i < zs.length) : (markI k i ++ zs.drop i).set i (k + i) = markI k (i + 1) ++ zs.drop (i + 1) := by
  rw [List.drop_eq_getElem_cons h, List.set_append_right _ _ (by rw [markI_length]; omega), markI_length, Nat.sub_self, List.set_cons_zero]
  simp [markI, List.range_succ]
theorem markI_at {k : Int} {n j : Nat} (h : j < n) : (markI k n)[j]?.getD 0 = k + j := by
  simp [markI, h]
set_option maxRecDepth 100000 in
theorem markInt64S_nil (a : Option Addr) (c : Nat) (k : Int) (w : World) : Calls Try.prog 42 #[.slice a 0 c, .int .i64 k] w (RS (.int .i64 k) w) := by
  go_enter Try.func42, Try.ntmps42
  go_wp2
  refine wp_loop_rounds 1 ?_
  rw [rounds_succ]
  go_wp2
  go_ret
  exact RS_of rfl
set_option maxRecDepth 100000 in
theorem heldInt64S_nil (a : Option Addr) (c : Nat) (k : Int) (w : World) : Calls Try.prog 43 #[.slice a 0 c, .int .i64 k] w (RS (.int .i64 k) w) := by
  go_enter Try.func43, Try.ntmps43
  go_wp2
  refine wp_loop_rounds 1 ?_
  rw [rounds_succ]
  go_wp2
  go_ret
  exact RS_of rfl
set_option maxRecDepth 100000 in
theorem markInt64S_any (g cap : Nat) (zs : List Int) (k : Int) (w : World) (h : OwnAtI w g zs) (hl : zs.length ≤ 1100000) (h0 : 0 ≤ k) (h1 : k ≤ 9000000) :
    Calls Try.prog 42 #[.slice (some ⟨g, 0, none⟩) zs.length cap, .int .i64 k] w (fun e w' => e = .returned (.int .i64 (k + zs.length)) ∧ w.grownBy w' (some g) ∧ OwnAtI w' g (markI k zs.length)) := by
  have H := Lib.hid h
  clear h
  go_enter Try.func42, Try.ntmps42
  go_wp2
  go_loopw [1, 5] (fun t i wr => ∃ j : Nat, j ≤ zs.length ∧ i = .int .i64 j ∧ t = .int .i64 (k + j) ∧ w.grownBy wr (some g) ∧ OwnAtI wr g (markI k j ++ zs.drop j)) (fun _ i _ => zs.length - (intOf i).toNat)
  case atStart => exact ⟨0, Nat.zero_le _, rfl, by simp, only_refl _ _, by simpa [markI] using H.out⟩
  case round =>
    obtain ⟨j, hj, rfl, rfl, hg, ho⟩ := hrel
    by_cases hjl : j < zs.length
    · have hlj : j < (markI k j ++ zs.drop j).length := by simp [markI_length]; omega
      have c1 := ho.at_ j hlj
      rw [Nat.zero_add] at c1
      have f1 := ho.free
      have hs := Ints.set ho.at_ hlj (k + j)
      rw [markI_next hjl] at hs
      have HS := Lib.hid hs
      have hlt := ho.lt
      clear hs ho
      have g0 : (0 : Int) ≤ (j : Int) := by omega
      have g1 : (j : Int) < (zs.length : Int) := by omega
      obtain ⟨m, hm⟩ : ∃ m, m = k + (j : Int) := ⟨_, rfl⟩
      rw [← hm] at HS ⊢
      have m0 : 0 ≤ m := by omega
      have m1 : m ≤ 90000000 := by omega
      have HM := Lib.hid hm
      clear hm
      go_wp2
      go_roundw
      case rel => exact ⟨j + 1, by omega, by go_num, int_eq (by rw [HM.out]; omega), only_setCell hg rfl _, ⟨by simpa [World.setCell] using hlt, HS.out, fun o => by rw [World.frozen?_setCell]; exact f1 o⟩⟩
      case measure => simp [intOf]; omega
    · go_wp2
      go_ret
      have e : j = zs.length := by omega
      subst e
      rw [List.drop_length, List.append_nil] at ho
      exact ⟨rfl, hg, ho⟩
set_option maxRecDepth 100000 in
theorem heldInt64S_any (g cap n : Nat) (k : Int) (w : World) (h : Ints w g 0 (markI k n)) (hl : n ≤ 1100000) (h0 : 0 ≤ k) (h1 : k ≤ 9000000) :
    Calls Try.prog 43 #[.slice (some ⟨g, 0, none⟩) n cap, .int .i64 k] w (RS (.int .i64 (k + n)) w) := by
  have H := Lib.hid h
  clear h
  go_enter Try.func43, Try.ntmps43
  go_wp2
  go_loop [1, 5] (fun t i => ∃ j : Nat, j ≤ n ∧ i = .int .i64 j ∧ t = .int .i64 (k + j)) (fun _ i => n - (intOf i).toNat)
  case atStart => exact ⟨0, Nat.zero_le _, rfl, by simp⟩
  case round =>
    obtain ⟨j, hj, rfl, rfl⟩ := hrel
    by_cases hjl : j < n
    · have hc := H.out j (by rw [markI_length]; exact hjl)
      rw [markI_at hjl, Nat.zero_add] at hc
      obtain ⟨m, hm⟩ : ∃ m, m = k + (j : Int) := ⟨_, rfl⟩
      rw [← hm] at hc ⊢
      have m0 : 0 ≤ m := by omega
      have m1 : m ≤ 90000000 := by omega
      have HM := Lib.hid hm
      clear hm
      have g0 : (0 : Int) ≤ (j : Int) := by omega
      have g1 : (j : Int) < (n : Int) := by omega
      have n1 : (m != m) = false := by simp
      go_wp2
      go_round
      case rel => exact ⟨j + 1, by omega, by go_num, int_eq (by rw [HM.out]; omega)⟩
      case measure => simp [intOf]; omega
    · go_wp2
      go_ret
      have e : j = n := by omega
      subst e
      exact RS_of rfl
/-- A result that is a list of integers: empty anywhere, or memory of its own between lo and hi. -/
def ResI (w : World) (lo hi : Nat) (s : Value) (zs : List Int) : Prop := (zs = [] ∧ ∃ a c, s = .slice a 0 c) ∨ ∃ g cap, s = .slice (some ⟨g, 0, none⟩) zs.length cap ∧ lo ≤ g ∧ g < hi ∧ OwnAtI w g zs
theorem OwnJ.res {w : World} {base : Nat} {v : Value} {zs : List Int} (h : OwnJ w base v zs) (hl : zs.length ≤ 1100000) : ResI w base w.heap.size v zs := by
  have hib := h.ib hl
  obtain ⟨hl, h | ⟨g, cap, cur, rfl, hb, hcur, hn, hc, hsz, hx⟩⟩ := h
  · obtain ⟨rfl, h0⟩ := h
    exact .inl ⟨List.length_eq_zero_iff.1 h0, _, _, rfl⟩
  · have hg : g < w.heap.size := (Array.getElem?_eq_some_iff.1 hcur).1
    rcases hib.2 with ⟨a, c, e1, rfl⟩ | ⟨b, off, cap', e1, _, hI⟩
    · exact .inl ⟨rfl, _, _, rfl⟩
    · simp at e1
      obtain ⟨⟨rfl, rfl⟩, _⟩ := e1
      exact .inr ⟨g, cap, rfl, hb, hg, hg, hI, fun o => by simp [World.frozen?, hcur]⟩
theorem ResI.ib {w : World} {lo hi : Nat} {s : Value} {zs : List Int} (h : ResI w lo hi s zs) (hl : zs.length ≤ 1100000) : IB w s zs := by
  rcases h with ⟨rfl, a, c, rfl⟩ | ⟨g, cap, rfl, _, _, ho⟩
  · exact ⟨hl, .inl ⟨a, c, rfl, rfl⟩⟩
  · exact ⟨hl, .inr ⟨g, 0, cap, rfl, ho.lt, ho.at_⟩⟩
theorem ResI.kept {w w' : World} {lo hi : Nat} {s : Value} {zs : List Int} {row : Option Nat} (h : ResI w lo hi s zs) (hg : w.grownBy w' row) (hr : ∀ r, row = some r → r < lo ∨ hi ≤ r) : ResI w' lo hi s zs := by
  rcases h with h | ⟨g, cap, rfl, h1, h2, ho⟩
  · exact .inl h
  · exact .inr ⟨g, cap, rfl, h1, h2, ho.kept hg (fun e => by have := hr g e.symm; omega)⟩
theorem ResI.below {w w' : World} {lo hi : Nat} {s : Value} {zs : List Int} (h : ResI w lo hi s zs) {B : Nat} (hb : Below B w w') (hB : w.heap.size ≤ B) : ResI w' lo hi s zs :=
  h.kept (only_of_below (hb.mono hB) none) (by simp)
theorem markJ (lo hi : Nat) (s : Value) (zs : List Int) (k : Int) (w : World) (h : ResI w lo hi s zs) (hl : zs.length ≤ 1100000) (h0 : 0 ≤ k) (h1 : k ≤ 9000000) :
    Calls Try.prog 42 #[s, .int .i64 k] w (fun e w' => e = .returned (.int .i64 (k + zs.length)) ∧ (∃ row, w.grownBy w' row ∧ ∀ r, row = some r → lo ≤ r ∧ r < hi) ∧ ResI w' lo hi s (markI k zs.length)) := by
  rcases h with ⟨rfl, a, c, rfl⟩ | ⟨g, cap, rfl, h3, h4, ho⟩
  · refine (markInt64S_nil a c k w).mono ?_
    rintro e w' ⟨rfl, rfl⟩
    exact ⟨by simp, ⟨none, only_refl _ _, by simp⟩, .inl ⟨rfl, a, c, rfl⟩⟩
  · refine (markInt64S_any g cap zs k w ho hl h0 h1).mono ?_
    rintro e w' ⟨rfl, hg, ho'⟩
    exact ⟨rfl, ⟨some g, hg, fun r hr => by cases hr; exact ⟨h3, h4⟩⟩, .inr ⟨g, cap, by rw [markI_length], h3, h4, ho'⟩⟩
theorem heldJ (lo hi : Nat) (s : Value) (n : Nat) (k : Int) (w : World) (h : ResI w lo hi s (markI k n)) (hl : n ≤ 1100000) (h0 : 0 ≤ k) (h1 : k ≤ 9000000) :
    Calls Try.prog 43 #[s, .int .i64 k] w (RS (.int .i64 (k + n)) w) := by
  rcases h with ⟨hn, a, c, rfl⟩ | ⟨g, cap, rfl, h3, h4, ho⟩
  · have : n = 0 := by have := congrArg List.length hn; simpa [markI_length] using this
    subst this
    simpa using heldInt64S_nil a c k w
  · rw [markI_length]
    exact heldInt64S_any g cap n k w ho.at_ hl h0 h1
end Go.Proofs.Ytikegdidffjoeaa

namespace Go.Proofs.Ytikegdidffjoeaa
open Go.RowKit Go.Maps
/-- The value is a slice of just these n rows. -/
def SSB (w : World) (s : Value) (n : Nat) (F : Nat → List Int) : Prop :=
  n ≤ 1100000 ∧ ((n = 0 ∧ ∃ a c, s = .slice a 0 c) ∨ ∃ b off cap, s = .slice (some ⟨b, off, none⟩) n cap ∧ b < w.heap.size ∧ ∀ k, k < n → ∃ a c, w.cell? ⟨b, off + k, none⟩ = some (.slice a (F k).length c) ∧ IB w (.slice a (F k).length c) (F k))
theorem SSB.below {w w' : World} {s : Value} {n : Nat} {F : Nat → List Int} (h : SSB w s n F) {B : Nat} (hb : Below B w w') (hB : w.heap.size ≤ B) : SSB w' s n F := by
  obtain ⟨h1, h2⟩ := h
  refine ⟨h1, ?_⟩
  rcases h2 with h2 | ⟨b, off, cap, rfl, hl, hr⟩
  · exact .inl h2
  · refine .inr ⟨b, off, cap, rfl, by have := hb.size; omega, fun k hk => ?_⟩
    obtain ⟨a, c, hc, hi⟩ := hr k hk
    exact ⟨a, c, (hb.cell (by simp; omega)).trans hc, hi.below hb hB⟩
theorem SSB.slice {w : World} {s : Value} {n : Nat} {F : Nat → List Int} (h : SSB w s n F) : ∃ a c, s = .slice a n c := by
  rcases h.2 with ⟨rfl, a, c, rfl⟩ | ⟨b, off, cap, rfl, _⟩ <;> exact ⟨_, _, rfl⟩
set_option maxRecDepth 100000 in
theorem eqInt64SS_same (s t : Value) (n : Nat) (F : Nat → List Int) (w : World) (h : SSB w s n F) (k : SSB w t n F) : Calls Try.prog 58 #[s, t] w (RV (.bool true) w) := by
  have hn := h.1
  by_cases h0 : n = 0
  · obtain ⟨a, c, rfl⟩ := h.slice
    obtain ⟨a', c', rfl⟩ := k.slice
    subst h0
    clear h k hn
    go_enter Try.func58, Try.ntmps58
    go_wp2
    refine wp_loop_rounds 1 ?_
    rw [rounds_succ]
    go_wp2
    go_ret
    exact RV_of rfl (Below.refl _ _)
  · rcases h.2 with ⟨e, _⟩ | ⟨b, off, cap, rfl, hb, hB⟩
    · exact absurd e h0
    · rcases k.2 with ⟨e, _⟩ | ⟨b', off', cap', rfl, hb', hB'⟩
      · exact absurd e h0
      · have HB := Lib.hid hB
        have HB' := Lib.hid hB'
        clear hB hB' h k h0
        have hne : (((n : Nat) : Int) != (n : Nat)) = false := by simp
        go_enter Try.func58, Try.ntmps58
        go_wp2
        go_loopw [5] (fun i wr => ∃ k : Nat, k ≤ n ∧ i = .int .i64 k ∧ Below w.heap.size w wr) (fun i _ => n - (intOf i).toNat)
        case atStart => exact ⟨0, Nat.zero_le _, rfl, Below.refl _ _⟩
        case round =>
          obtain ⟨k, hk, rfl, hBw⟩ := hrel
          by_cases hkl : k < n
          · obtain ⟨a1, c1, q1, i1⟩ := HB.out k hkl
            obtain ⟨a2, c2, q2, i2⟩ := HB'.out k hkl
            have q1 := (hBw.cell (p := ⟨b, off + k, none⟩) hb).trans q1
            have q2 := (hBw.cell (p := ⟨b', off' + k, none⟩) hb').trans q2
            have I1 := Lib.hid (i1.below hBw (Nat.le_refl _))
            have I2 := Lib.hid (i2.below hBw (Nat.le_refl _))
            clear i1 i2
            have g0 : (0 : Int) ≤ (k : Int) := by omega
            have g1 : (k : Int) < (n : Int) := by omega
            go_wp2_with fail
            go_region_with (go_at_call 41; refine (eqInt64S_same _ _ (F k) _ (I1.out.below ((Below.refl _ _).drew) (Nat.le_refl _)) (I2.out.below ((Below.refl _ _).drew) (Nat.le_refl _))).mono ?_; rintro e w1 ⟨rfl, hb1⟩)
            all_goals
              go_wp2_with fail
              go_roundw
              case rel => exact ⟨k + 1, by omega, by go_num, (hBw.drew).trans (hb1.mono (by have := hBw.size; simp; omega))⟩
              case measure => simp [intOf]; omega
          · go_wp2
            go_ret
            exact RV_of rfl hBw
/-- Rows of its own: the head at block G, the k-th row at block gs k. -/
structure SSR (w : World) (lo G : Nat) (gs caps : Nat → Nat) (n : Nat) (F : Nat → List Int) : Prop where
  cell : ∀ k, k < n → w.cell? ⟨G, k, none⟩ = some (.slice (some ⟨gs k, 0, none⟩) (F k).length (caps k))
  row : ∀ k, k < n → OwnAtI w (gs k) (F k)
  ne : ∀ k, k < n → gs k ≠ G
  inc : ∀ j k, j < k → k < n → gs j < gs k
  low : ∀ k, k < n → lo ≤ gs k
  lt : G < w.heap.size
theorem SSR.kept {w w' : World} {lo G : Nat} {gs caps : Nat → Nat} {n : Nat} {F : Nat → List Int} (h : SSR w lo G gs caps n F) {row : Option Nat} (hg : w.grownBy w' row) (hG : some G ≠ row) (hr : ∀ k, k < n → some (gs k) ≠ row) : SSR w' lo G gs caps n F :=
  ⟨fun k hk => hg.cell (h.cell k hk) (by simpa using hG), fun k hk => (h.row k hk).kept hg (hr k hk), h.ne, h.inc, h.low, Nat.lt_of_lt_of_le h.lt hg.size⟩
theorem SSR.below {w w' : World} {lo G : Nat} {gs caps : Nat → Nat} {n : Nat} {F : Nat → List Int} (h : SSR w lo G gs caps n F) {B : Nat} (hb : Below B w w') (hB : w.heap.size ≤ B) : SSR w' lo G gs caps n F :=
  h.kept (only_of_below (hb.mono hB) none) (by simp) (by simp)
theorem SSR.sb {w : World} {lo G cap : Nat} {gs caps : Nat → Nat} {n : Nat} {F : Nat → List Int} (h : SSR w lo G gs caps n F) (hn : n ≤ 1100000) (hF : ∀ k, k < n → (F k).length ≤ 1100000) : SSB w (.slice (some ⟨G, 0, none⟩) n cap) n F :=
  ⟨hn, .inr ⟨G, 0, cap, rfl, h.lt, fun k hk => ⟨_, _, by rw [Nat.zero_add]; exact h.cell k hk, ⟨hF k hk, .inr ⟨gs k, 0, caps k, rfl, (h.row k hk).lt, (h.row k hk).at_⟩⟩⟩⟩⟩
/-- How many integers the first k rows hold. -/
def tot (F : Nat → List Int) : Nat → Nat
  | 0 => 0
  | k + 1 => tot F k + (F k).length
theorem tot_le (F : Nat → List Int) {j n : Nat} (h : j ≤ n) : tot F j ≤ tot F n := by
  induction h with
  | refl => exact Nat.le_refl _
  | step _ ih => exact Nat.le_trans ih (by simp [tot])
/-- The rows after marking. -/
def markSS (k0 : Int) (F : Nat → List Int) (j : Nat) : List Int := markI (k0 + tot F j) (F j).length
theorem SSR.mark1 {w w' : World} {lo G : Nat} {gs caps : Nat → Nat} {n : Nat} {F : Nat → List Int} (h : SSR w lo G gs caps n F) {j : Nat} (hj : j < n) (L : List Int) (hL : L.length = (F j).length) (hg : w.grownBy w' (some (gs j))) (ho : OwnAtI w' (gs j) L) :
    SSR w' lo G gs caps n (fun k => if k = j then L else F k) := by
  refine ⟨fun k hk => ?_, fun k hk => ?_, h.ne, h.inc, h.low, Nat.lt_of_lt_of_le h.lt hg.size⟩
  · have hc := hg.cell (h.cell k hk) (by simpa using Ne.symm (h.ne j hj))
    split
    · subst k
      rw [hL]; exact hc
    · exact hc
  · split
    · subst k; exact ho
    · refine (h.row k hk).kept hg (fun e => ?_)
      have e : gs k = gs j := by simpa using e
      rcases Nat.lt_trichotomy k j with hlt | rfl | hlt
      · have := h.inc k j hlt hj; omega
      · contradiction
      · have := h.inc j k hlt hk; omega
def partSS (k0 : Int) (F : Nat → List Int) (j : Nat) : Nat → List Int := fun k => if k < j then markSS k0 F k else F k
theorem partSS_len (k0 : Int) (F : Nat → List Int) (j k : Nat) : (partSS k0 F j k).length = (F k).length := by
  unfold partSS markSS
  split
  · rw [markI_length]
  · rfl
theorem partSS_succ (k0 : Int) (F : Nat → List Int) (j : Nat) : (fun k => if k = j then markSS k0 F j else partSS k0 F j k) = partSS k0 F (j + 1) := by
  funext k
  unfold partSS
  by_cases h : k = j
  · subst h; simp
  · rw [if_neg h]
    by_cases h2 : k < j
    · rw [if_pos h2, if_pos (by omega)]
    · rw [if_neg h2, if_neg (by omega)]
theorem SSR.congr {w : World} {lo G : Nat} {gs caps : Nat → Nat} {n : Nat} {F F' : Nat → List Int} (h : SSR w lo G gs caps n F) (e : ∀ k, k < n → F k = F' k) : SSR w lo G gs caps n F' :=
  ⟨fun k hk => by rw [← e k hk]; exact h.cell k hk, fun k hk => by rw [← e k hk]; exact h.row k hk, h.ne, h.inc, h.low, h.lt⟩
set_option maxRecDepth 100000 in
theorem markInt64SS_any (lo G cap : Nat) (gs caps : Nat → Nat) (n : Nat) (F : Nat → List Int) (k0 : Int) (w : World) (h : SSR w lo G gs caps n F) (hl : n ≤ 1100000) (hlo : lo ≤ w.heap.size) (hT : tot F n ≤ 1100000) (h0 : 0 ≤ k0) (h1 : k0 ≤ 5000000) :
    Calls Try.prog 61 #[.slice (some ⟨G, 0, none⟩) n cap, .int .i64 k0] w (fun e w' => e = .returned (.int .i64 (k0 + tot F n)) ∧ Below lo w w' ∧ SSR w' lo G gs caps n (markSS k0 F)) := by
  have H := Lib.hid h
  clear h
  go_enter Try.func61, Try.ntmps61
  go_wp2
  go_loopw [1, 5] (fun t i wr => ∃ j : Nat, j ≤ n ∧ i = .int .i64 j ∧ t = .int .i64 (k0 + tot F j) ∧ Below lo w wr ∧ SSR wr lo G gs caps n (partSS k0 F j)) (fun _ i _ => n - (intOf i).toNat)
  case atStart => exact ⟨0, Nat.zero_le _, rfl, by simp [tot], Below.refl _ _, H.out.congr (fun k _ => by simp [partSS])⟩
  case round =>
    obtain ⟨j, hj, rfl, rfl, hB, hS⟩ := hrel
    have hSz := hB.size
    by_cases hjl : j < n
    · have c1 := hS.cell j hjl
      have hrow := hS.row j hjl
      have hlow := hS.low j hjl
      have hlen := partSS_len k0 F j j
      have hFj : partSS k0 F j j = F j := by simp [partSS]
      rw [hFj] at c1 hrow
      have htj : tot F (j + 1) ≤ tot F n := tot_le F hjl
      have htj' : tot F (j + 1) = tot F j + (F j).length := rfl
      have HS := Lib.hid hS
      have HM := Lib.hid (markInt64S_any (gs j) (caps j) (F j) (k0 + tot F j) wr hrow (by omega) (by omega) (by omega))
      clear hlen hFj hrow hS
      have g0 : (0 : Int) ≤ (j : Int) := by omega
      have g1 : (j : Int) < (n : Int) := by omega
      go_wp2_with (go_at_call 42; refine HM.out.mono ?_; rintro e w1 ⟨rfl, hg1, ho1⟩)
      go_roundw
      case rel => exact ⟨j + 1, by omega, by go_num, int_eq (by rw [htj']; omega), hB.grown hg1 (by omega) (fun r e => by simp at e; omega), by
        have := HS.out.mark1 hjl (markSS k0 F j) (by unfold markSS; rw [markI_length, partSS_len]) hg1 ho1
        rw [partSS_succ] at this
        exact this⟩
      case measure => simp [intOf]; omega
    · go_wp2
      go_ret
      have e : j = n := by omega
      subst e
      exact ⟨rfl, hB, hS.congr (fun k hk => by simp [partSS, hk])⟩
set_option maxRecDepth 100000 in
theorem heldInt64SS_any (lo G cap : Nat) (gs caps : Nat → Nat) (n : Nat) (F : Nat → List Int) (k0 : Int) (w : World) (h : SSR w lo G gs caps n (markSS k0 F)) (hl : n ≤ 1100000) (hT : tot F n ≤ 1100000) (h0 : 0 ≤ k0) (h1 : k0 ≤ 5000000) :
    Calls Try.prog 70 #[.slice (some ⟨G, 0, none⟩) n cap, .int .i64 k0] w (RS (.int .i64 (k0 + tot F n)) w) := by
  have H := Lib.hid h
  clear h
  go_enter Try.func70, Try.ntmps70
  go_wp2
  go_loop [1, 5] (fun t i => ∃ j : Nat, j ≤ n ∧ i = .int .i64 j ∧ t = .int .i64 (k0 + tot F j)) (fun _ i => n - (intOf i).toNat)
  case atStart => exact ⟨0, Nat.zero_le _, rfl, by simp [tot]⟩
  case round =>
    obtain ⟨j, hj, rfl, rfl⟩ := hrel
    by_cases hjl : j < n
    · have c1 := H.out.cell j hjl
      have hrow := (H.out.row j hjl).at_
      have htj : tot F (j + 1) ≤ tot F n := tot_le F hjl
      have htj' : tot F (j + 1) = tot F j + (F j).length := rfl
      have hmm : (markSS k0 F j).length = (F j).length := by unfold markSS; rw [markI_length]
      rw [hmm] at c1
      have HM := Lib.hid (heldInt64S_any (gs j) (caps j) (F j).length (k0 + tot F j) w hrow (by omega) (by omega) (by omega))
      clear hmm hrow
      obtain ⟨m, hm⟩ : ∃ m, m = k0 + (tot F j : Int) + ((F j).length : Int) := ⟨_, rfl⟩
      rw [← hm] at HM
      have hm0 : 0 ≤ m := by omega
      have HME := Lib.hid hm
      clear hm
      have g0 : (0 : Int) ≤ (j : Int) := by omega
      have g1 : (j : Int) < (n : Int) := by omega
      go_wp2_with (go_at_call 43; refine HM.out.mono ?_; rintro e w1 ⟨rfl, rfl⟩)
      go_round
      case rel => exact ⟨j + 1, by omega, by go_num, int_eq (by rw [htj', HME.out]; omega)⟩
      case measure => simp [intOf]; omega
    · go_wp2
      go_ret
      have e : j = n := by omega
      subst e
      exact RS_of rfl
end Go.Proofs.Ytikegdidffjoeaa

namespace Go.Proofs.Ytikegdidffjoeaa
open Go.RowKit Go.Maps
theorem infoRow : (Try.prog.info? 42).map (fun i => (i.zero, i.size, i.bytes)) = some (some (.slice none 0 0), 1, 24) := by kernel_rfl
def rowV (gs caps : Nat → Nat) (F : Nat → List Int) (k : Nat) : Value := .slice (some ⟨gs k, 0, none⟩) (F k).length (caps k)
/-- The value owns a slice of n rows, each in a block of its own. -/
structure AccS (w : World) (base : Nat) (u : Value) (n : Nat) (gs caps : Nat → Nat) (F : Nat → List Int) : Prop where
  own : w.ownsRow base 42 1 u n ((List.range n).map (rowV gs caps F))
  row : ∀ k, k < n → OwnAtI w (gs k) (F k)
  ne : ∀ k, k < n → u.ownBlock ≠ some (gs k)
  inc : ∀ j k, j < k → k < n → gs j < gs k
  low : ∀ k, k < n → base ≤ gs k
theorem ownsRow_lt {w : World} {base : Nat} {e : TypeId} {size n : Nat} {u : Value} {xs : List Value} (h : w.ownsRow base e size u n xs) : ∀ r, u.ownBlock = some r → base ≤ r ∧ r < w.heap.size := fun r hr => by
  rcases h.2 with ⟨rfl, _⟩ | ⟨g, cap, cur, rfl, hb, hcur, _⟩
  · simp [Value.ownBlock] at hr
  · obtain rfl : g = r := by simpa [Value.ownBlock] using hr
    exact ⟨hb, (Array.getElem?_eq_some_iff.1 hcur).1⟩
theorem ownsRow_kept {w w' : World} {base : Nat} {e : TypeId} {size n : Nat} {u : Value} {xs : List Value} {row : Option Nat} (h : w.ownsRow base e size u n xs) (hg : w.grownBy w' row) (hr : row = none ∨ u.ownBlock ≠ row) : w'.ownsRow base e size u n xs := by
  obtain ⟨hl, h | ⟨g, cap, cur, rfl, hb, hcur, hrest⟩⟩ := h
  · exact ⟨hl, .inl h⟩
  · exact ⟨hl, .inr ⟨g, cap, cur, rfl, hb, (hg.block g (Array.getElem?_eq_some_iff.1 hcur).1 (fun e => by
      rcases hr with rfl | hr
      · cases e
      · exact hr (by rw [← e]; rfl))).trans hcur, hrest⟩⟩
section
variable {w w' : World} {base : Nat} {u : Value} {n : Nat} {gs caps : Nat → Nat} {F : Nat → List Int}
theorem AccS.kept (h : AccS w base u n gs caps F) {row : Option Nat} (hg : w.grownBy w' row) (hu : row = none ∨ u.ownBlock ≠ row) (hr : ∀ k, k < n → some (gs k) ≠ row) : AccS w' base u n gs caps F :=
  ⟨ownsRow_kept h.own hg hu, fun k hk => (h.row k hk).kept hg (hr k hk), h.ne, h.inc, h.low⟩
theorem AccS.below (h : AccS w base u n gs caps F) {B : Nat} (hb : Below B w w') (hB : w.heap.size ≤ B) : AccS w' base u n gs caps F :=
  h.kept (only_of_below (hb.mono hB) none) (.inl rfl) (by simp)
theorem AccS.nil (w : World) (base : Nat) (gs caps : Nat → Nat) (F : Nat → List Int) : AccS w base (.slice none 0 0) 0 gs caps F :=
  ⟨⟨rfl, .inl ⟨rfl, rfl⟩⟩, fun k hk => by omega, fun k hk => by omega, fun j k _ hk => by omega, fun k hk => by omega⟩
theorem AccS.ssr (h : AccS w base u n gs caps F) (hn : 0 < n) : ∃ G cap, u = .slice (some ⟨G, 0, none⟩) n cap ∧ base ≤ G ∧ SSR w base G gs caps n F := by
  obtain ⟨⟨hl, h1⟩, h2, h3, h4, h5⟩ := h
  rcases h1 with ⟨_, h0⟩ | ⟨g, cap, cur, rfl, hb, hcur, hn', hc, hsz, hx⟩
  · omega
  · refine ⟨g, cap, rfl, hb, ⟨fun k hk => ?_, h2, fun k hk e => h3 k hk (by rw [e]; rfl), h4, h5, (Array.getElem?_eq_some_iff.1 hcur).1⟩⟩
    have e : ((List.range n).map (rowV gs caps F))[k]? = some (rowV gs caps F k) := by simp [hk]
    rw [← hx, List.getElem?_take_of_lt (by omega)] at e
    simp [World.cell?, hcur]
    simpa [rowV] using e
end
theorem map_congr' {α β : Type} {f g : α → β} {l : List α} (h : ∀ x ∈ l, f x = g x) : l.map f = l.map g := List.map_congr_left h
theorem wpList_append_row {w : World} {ops : Array Oper} {rest : List Oper} {o : Oper} {a : Act} {Q : Exit → Act → World → Prop} (hgd : o.guard = none) (s x : Operand)
    (ho : o.op = .call { callee := .builtin .append, args := #[s, x], argTypes := #[58, 58] })
    (base : Nat) (v : Value) (n : Nat) (gs caps : Nat → Nat) (F : Nat → List Int) (hs : a.eval s = v) (hown : AccS w base v n gs caps F) (b0 c : Nat) (hx : a.eval x = .slice (some ⟨b0, 0, none⟩) 1 c) (g cg : Nat)
    (c1 : w.cell? ⟨b0, 0, none⟩ = some (.slice (some ⟨g, 0, none⟩) (F n).length cg)) (hrow : OwnAtI w g (F n)) (hgt : ∀ k, k < n → gs k < g) (hng : v.ownBlock ≠ some g) (hbg : base ≤ g) (hl : n ≤ 1100000) (hbase : base ≤ w.heap.size)
    (h : ∀ (G cap : Nat) (w' : World) (gs' caps' : Nat → Nat), AccS w' base (.slice (some ⟨G, 0, none⟩) (n + 1) cap) (n + 1) gs' caps' F → w.grownBy w' v.ownBlock → wpList Try.prog ops Q rest (a.put o.dst (.slice (some ⟨G, 0, none⟩) (n + 1) cap)) w') : wpList Try.prog ops Q (o :: rest) a w := by
  obtain ⟨i0, hi, hz0, hz1, hz2⟩ := info_parts infoRow
  refine wpList_append_own_at w hgd s x 58 ho base 42 i0 _ 1 24 Try.underlying58 hi hz0 hz1 hz2 rfl (by decide) v n _ hs hown.own ⟨b0, 0, none⟩ 1 c [.slice (some ⟨g, 0, none⟩) (F n).length cg] hx rfl ?_ ?_ (by unfold maxLen; omega) (by omega) hbase ?_
  · intro j u hj
    rw [addr_at, Nat.zero_add]
    match j, hj with
    | 0, hj => simp at hj; rw [← hj]; exact c1
    | j + 1, hj => simp at hj
  · intro u hu
    simp at hu
    rw [hu]
    rfl
  · intro v' w' hown' hg _ hob
    obtain ⟨G, cap, rfl⟩ := row_some hown'
    have hGg : G ≠ g := by
      rintro rfl
      rcases hob with e | e
      · exact hng (by rw [← e]; rfl)
      · simp [Value.ownBlock] at e
        have := hrow.lt
        omega
    refine h G cap w' (fun k => if k = n then g else gs k) (fun k => if k = n then cg else caps k) ⟨?_, fun k hk => ?_, fun k hk => ?_, fun j k hjk hk => ?_, fun k hk => ?_⟩ hg
    · rw [List.range_succ, List.map_append, List.map_singleton]
      have e1 : (List.range n).map (rowV (fun k => if k = n then g else gs k) (fun k => if k = n then cg else caps k) F) = (List.range n).map (rowV gs caps F) := map_congr' fun k hk => by
        have : k ≠ n := by have := List.mem_range.1 hk; omega
        simp [rowV, this]
      rw [e1]
      simpa [rowV] using hown'
    · split
      · subst k; exact hrow.kept hg (fun e => hng e.symm)
      · exact (hown.row k (by omega)).kept hg (fun e => hown.ne k (by omega) e.symm)
    · split
      · simpa [Value.ownBlock] using hGg
      · intro e
        have e' : G = gs k := by simpa [Value.ownBlock] using e
        rcases hob with e2 | e2
        · exact hown.ne k (by omega) (by rw [← e2, e])
        · simp [Value.ownBlock] at e2
          have := (hown.row k (by omega)).lt
          omega
    · rw [if_neg (by omega)]
      split
      · exact hgt j (by omega)
      · exact hown.inc j k hjk (by omega)
    · split
      · exact hbg
      · exact hown.low k (by omega)
/-- A slice of rows and a code. -/
def RSS (n : Nat) (F : Nat → List Int) (κ : Int) (w : World) (e : Ending) (w' : World) : Prop :=
  ∃ u G cap gs caps, e = .returned (.tuple #[u, .int .i64 κ]) ∧ Below w.heap.size w w' ∧ u = .slice (some ⟨G, 0, none⟩) n cap ∧ w.heap.size ≤ G ∧ SSR w' w.heap.size G gs caps n F
def hf (n s : Int) : Int := if (s % n) % 2 = 0 then (s % n) / 2 else if n % 2 = 0 then (s % n + n - 1) / 2 else (s % n + n) / 2
def rowP (n k : Nat) (j : Nat) : List Int := (List.range j).map fun (y : Nat) => hf n ((k : Int) + (y : Int))
def rowF (n k : Nat) : List Int := rowP n k n
theorem rowP_len (n k j : Nat) : (rowP n k j).length = j := by simp [rowP]
theorem rowP_succ (n k j : Nat) : rowP n k (j + 1) = rowP n k j ++ [hf n ((k : Int) + (j : Int))] := by simp [rowP, List.range_succ]
theorem rowP_next (n k j : Nat) (h : j < n) : (rowP n k j ++ List.replicate (n - j) 0).set j (hf n ((k : Int) + (j : Int))) = rowP n k (j + 1) ++ List.replicate (n - (j + 1)) 0 := by
  rw [rowP_succ, show n - j = (n - (j + 1)) + 1 by omega, List.replicate_succ, List.set_append_right _ _ (by rw [rowP_len]; omega), rowP_len, Nat.sub_self, List.set_cons_zero, List.append_assoc]
  rfl
theorem made_ints (w : World) (n : Nat) (T : TypeId) : OwnAtI (w.alloc (.cells (madeCells #[.int .i64 0] n) T)) w.heap.size (List.replicate n 0) := by
  refine ⟨by simp, fun k hk => ?_, fun o => by simp⟩
  rw [List.length_replicate] at hk
  rw [World.cell?_alloc_at _ _ _ _ rfl]
  simp [madeCells, hk, Nat.mod_one]
end Go.Proofs.Ytikegdidffjoeaa

namespace Go.Proofs.Ytikegdidffjoeaa
open Go.RowKit Go.Maps
def putF (v : Int) (bs : List Blk) (x : Blk) : Int × List Blk × Int :=
  if isSysImpl v bs then (if goodB v x then (if freeB (bs.flatMap pairsL) x then (v, sortB (bs ++ [x]), 0) else (0, [], 5)) else (0, [], 2)) else (0, [], 1)
theorem putF_len (v : Int) (bs : List Blk) (x : Blk) : (putF v bs x).2.1.length ≤ bs.length + 1 := by
  unfold putF
  repeat' split
  all_goals simp [sortB_length]
/-- The boxes of a system and a block that came in, and of the result. -/
structure Box3 (w' : World) (b : Nat) (v : Int) (s : Value) (x : Blk) : Prop where
  x0 : w'.cell? ⟨b, 0, none⟩ = some (.int .i64 v)
  x1 : w'.cell? ⟨b, 1, none⟩ = some s
  y0 : w'.cell? ⟨b + 1, 0, none⟩ = some (.int .i64 x.a)
  y1 : w'.cell? ⟨b + 1, 1, none⟩ = some (.int .i64 x.b)
  y2 : w'.cell? ⟨b + 1, 2, none⟩ = some (.int .i64 x.c)
  d0 : w'.cell? ⟨b + 1 + 1, 0, none⟩ = some (.int .i64 0)
  d1 : w'.cell? ⟨b + 1 + 1, 1, none⟩ = some (.slice none 0 0)
  f0 : w'.frozen? ⟨b + 1 + 1, 0, none⟩ = false
  f1 : w'.frozen? ⟨b + 1 + 1, 1, none⟩ = false
def w3b (w : World) (v : Int) (s : Value) (x : Blk) : World := ((w.alloc (.cells #[.int .i64 v, s] 26)).alloc (.cells #[.int .i64 x.a, .int .i64 x.b, .int .i64 x.c] 50)).alloc (.cells #[.int .i64 0, .slice none 0 0] 26)
theorem Box3.new (w : World) (v : Int) (s : Value) (x : Blk) : Box3 (w3b w v s x) w.heap.size v s x := by
  unfold w3b
  constructor <;> simp [go_sem]
theorem w3b_size (w : World) (v : Int) (s : Value) (x : Blk) : (w3b w v s x).heap.size = w.heap.size + 1 + 1 + 1 := by simp [w3b]
theorem w3b_below (w : World) (v : Int) (s : Value) (x : Blk) : Below w.heap.size w (w3b w v s x) := (((Below.refl _ _).alloc (Nat.le_refl _) _).alloc (by simp) _).alloc (by simp; omega) _
theorem Box3.kept {w w' : World} {b : Nat} {v : Int} {s : Value} {x : Blk} {row : Option Nat} (h : Box3 w b v s x) (hg : w.grownBy w' row) (hr : ∀ r, row = some r → b + 1 + 1 < r) : Box3 w' b v s x := by
  have n : ∀ q, q ≤ b + 1 + 1 → some q ≠ row := fun q hq e => by have := hr q e.symm; omega
  have hb := hg.block (b + 1 + 1) (World.block_lt_of_cell? w ⟨b + 1 + 1, 0, none⟩ h.d0) (n _ (by omega))
  exact ⟨hg.cell h.x0 (n _ (by show b ≤ _; omega)), hg.cell h.x1 (n _ (by show b ≤ _; omega)), hg.cell h.y0 (n _ (by show b + 1 ≤ _; omega)), hg.cell h.y1 (n _ (by show b + 1 ≤ _; omega)), hg.cell h.y2 (n _ (by show b + 1 ≤ _; omega)), hg.cell h.d0 (n _ (by show b + 1 + 1 ≤ _; omega)), hg.cell h.d1 (n _ (by show b + 1 + 1 ≤ _; omega)),
    (World.frozen?_of_block (a := ⟨b + 1 + 1, 0, none⟩) hb).trans h.f0, (World.frozen?_of_block (a := ⟨b + 1 + 1, 1, none⟩) hb).trans h.f1⟩
theorem Box3.below {w w' : World} {b : Nat} {v : Int} {s : Value} {x : Blk} (h : Box3 w b v s x) (hb : Below w.heap.size w w') : Box3 w' b v s x := h.kept (gb_below hb) (by simp)
theorem sx_one' (W : World) (x : Blk) (T : TypeId) : SX (W.alloc (.cells #[.int .i64 x.a, .int .i64 x.b, .int .i64 x.c] T)) (.slice (some ⟨W.heap.size, 0, none⟩) 1 1) [x] :=
  .inr ⟨W.heap.size, 0, 1, rfl, by simp, fun k hk => by
    have : k = 0 := by simp at hk; omega
    subst this
    simp⟩
set_option maxRecDepth 100000 in
set_option maxHeartbeats 1000000 in
theorem PutBlock_any (v : Int) (s : Value) (bs : List Blk) (x : Blk) (w : World) (h : SB w s bs) (hwx : WFB x) :
    Calls Try.prog 46 #[.agg #[.int .i64 v, s], bv x] w (RSys (putF v bs x) w) := by
  have hs := h.slice
  have HI := Lib.hid fun W (hb : Below w.heap.size w W) => IsSystem_any v s bs W (h.below hb (Nat.le_refl _))
  have HB := Lib.hid fun W => isBlock_any v x W
  have HSB := Lib.hid h
  have hlen := h.2.1
  have HX := Lib.hid hwx
  clear h hwx
  obtain ⟨a0, c0, rfl⟩ := hs
  have hbx := Box3.new w v (.slice a0 bs.length c0) x
  have hz0 := w3b_size w v (.slice a0 bs.length c0) x
  have hb0 := w3b_below w v (.slice a0 bs.length c0) x
  have HW3 := Lib.hid (show w3b w v (.slice a0 bs.length c0) x = ((w.alloc (.cells #[.int .i64 v, (.slice a0 bs.length c0)] 26)).alloc (.cells #[.int .i64 x.a, .int .i64 x.b, .int .i64 x.c] 50)).alloc (.cells #[.int .i64 0, .slice none 0 0] 26) from rfl)
  obtain ⟨w0, hw0⟩ : ∃ w0, w0 = w3b w v (.slice a0 bs.length c0) x := ⟨_, rfl⟩
  rw [← hw0] at hbx hz0 hb0 HW3
  have HBX := Lib.hid hbx
  have HZ0 := Lib.hid hz0
  have HB0 := Lib.hid hb0
  have HI0 := HI.out w0 hb0
  clear hw0 hbx hz0 hb0 HI
  obtain ⟨xa, xb, xc⟩ := x
  unfold bv at HB ⊢
  dsimp only at HB HW3 ⊢
  have hend : ∀ (c : Int) (W : World), Below w.heap.size w W → putF v bs ⟨xa, xb, xc⟩ = (0, [], c) → RSys (putF v bs ⟨xa, xb, xc⟩) w (.returned (.tuple #[.agg #[.int .i64 0, .slice none 0 0], .int .i64 c])) ((W.setCell ⟨w.heap.size + 1 + 1, 0, none⟩ (.int .i64 0)).setCell ⟨w.heap.size + 1 + 1, 1, none⟩ (.slice none 0 0)) := fun c W hW e => by
    rw [e]
    exact ⟨_, rfl, .inl ⟨rfl, _, _, rfl⟩, below_set2 hW (by omega) _ _⟩
  have HEND := Lib.hid hend
  clear hend
  cases hi : isSysImpl v bs with
  | false =>
    have HV := Lib.hid (show putF v bs ⟨xa, xb, xc⟩ = (0, [], 1) by simp [putF, hi])
    rw [hi] at HI0
    have HI1 := Lib.hid HI0
    clear hi HI0 HSB HB
    go_enter Try.func46, Try.ntmps46
    go_wp2_with fail
    rw [← HW3.out]
    refine HI1.out.mono ?_
    rintro e w1 ⟨rfl, hb1⟩
    obtain ⟨x0, x1, y0, y1, y2, d0, d1, f0, f1⟩ := HBX.out.below hb1
    have hB1 := HB0.out.trans (hb1.mono (by have := HZ0.out; omega))
    clear hb1
    go_wp2
    exact bodyPost_ret (v := .tuple #[.agg #[.int .i64 0, .slice none 0 0], .int .i64 1]) (by simp [results, Try.results46, go_sem, *]) rfl (HEND.out 1 _ hB1 HV.out)
  | true =>
    rw [hi] at HI0
    have HI1 := Lib.hid HI0
    clear HI0
    obtain ⟨hv3, hv15, hb35⟩ := sys_size hi
    have HP := Lib.hid fun W (hb : Below w.heap.size w W) => pairsIn_any _ bs W (HSB.out.below hb (Nat.le_refl _)) (by omega)
    cases hg : goodB v ⟨xa, xb, xc⟩ with
    | false =>
      have HV := Lib.hid (show putF v bs ⟨xa, xb, xc⟩ = (0, [], 2) by simp [putF, hi, hg])
      rw [hg] at HB
      clear hi hg HSB HP
      go_enter Try.func46, Try.ntmps46
      go_wp2_with fail
      rw [← HW3.out]
      refine HI1.out.mono ?_
      rintro e w1 ⟨rfl, hb1⟩
      have hbx1 := HBX.out.below hb1
      obtain ⟨x0, x1, y0, y1, y2, _, _, _, _⟩ := id hbx1
      dsimp only at y0 y1 y2
      have HBX1 := Lib.hid hbx1
      have HB1 := Lib.hid (HB0.out.trans (hb1.mono (by have := HZ0.out; omega)))
      clear hb1 hbx1
      go_wp2_with fail
      refine (HB.out _).mono ?_
      rintro e w2 ⟨rfl, hb2⟩
      clear x0 x1 y0 y1 y2
      obtain ⟨x0, x1, y0, y1, y2, d0, d1, f0, f1⟩ := HBX1.out.below hb2
      have hB2 := HB1.out.trans (hb2.mono HB1.out.size)
      clear hb2
      go_wp2
      exact bodyPost_ret (v := .tuple #[.agg #[.int .i64 0, .slice none 0 0], .int .i64 2]) (by simp [results, Try.results46, go_sem, *]) rfl (HEND.out 2 _ hB2 HV.out)
    | true =>
      rw [hg] at HB
      obtain ⟨β, hβ⟩ : ∃ β, β = freeB (bs.flatMap pairsL) ⟨xa, xb, xc⟩ := ⟨_, rfl⟩
      have HVV := Lib.hid (show putF v bs ⟨xa, xb, xc⟩ = if β then (v, sortB (bs ++ [⟨xa, xb, xc⟩]), 0) else (0, [], 5) by simp [putF, hi, hg, hβ])
      have HFR := Lib.hid fun (mb n : Nat) W (hS : BoolSet W Try.prog 139 4 mb n ((bs.flatMap pairsL).map pv)) => isBlockFree_any mb n (bs.flatMap pairsL) ⟨xa, xb, xc⟩ HX.out W hS
      rw [← hβ] at HFR
      unfold bv at HFR
      dsimp only at HFR
      clear hi hg hβ
      go_enter Try.func46, Try.ntmps46
      go_wp2_with fail
      rw [← HW3.out]
      refine HI1.out.mono ?_
      rintro e w1 ⟨rfl, hb1⟩
      have hbx1 := HBX.out.below hb1
      obtain ⟨x0, x1, y0, y1, y2, _, _, _, _⟩ := id hbx1
      dsimp only at y0 y1 y2
      have HBX1 := Lib.hid hbx1
      have HB1 := Lib.hid (HB0.out.trans (hb1.mono (by have := HZ0.out; omega)))
      clear hb1 hbx1
      go_wp2_with fail
      refine (HB.out _).mono ?_
      rintro e w2 ⟨rfl, hb2⟩
      have hbx2 := HBX1.out.below hb2
      clear x0 x1 y0 y1 y2
      obtain ⟨x0, x1, y0, y1, y2, d0, d1, f0, f1⟩ := id hbx2
      dsimp only at y0 y1 y2
      have HBX2 := Lib.hid hbx2
      have HB2 := Lib.hid (HB1.out.trans (hb2.mono HB1.out.size))
      have hlt : w.heap.size + 1 + 1 < w2.heap.size := World.block_lt_of_cell? w2 ⟨w.heap.size + 1 + 1, 0, none⟩ d0
      have hz2 := HB2.out.size
      clear hb2 hbx2 d0 d1 f0 f1
      go_wp2
      go_region_held3 (fun w' => w'.cell? ⟨w.heap.size, 0, none⟩ = some (.int .i64 v) ∧ w'.cell? ⟨w.heap.size, 1, none⟩ = some (.slice a0 bs.length c0) ∧ w'.cell? ⟨w.heap.size + 1, 0, none⟩ = some (.int .i64 xa) ∧ w'.cell? ⟨w.heap.size + 1, 1, none⟩ = some (.int .i64 xb) ∧ w'.cell? ⟨w.heap.size + 1, 2, none⟩ = some (.int .i64 xc))
        (first | exact ⟨E0, E1, E2, E3, E4⟩ | exact ⟨F0, F1, F2, F3, F4⟩ | go_keep)
        (first
          | (go_at_call 113; refine (HP.out _ HB2.out.drew).mono ?_; rintro e w5 ⟨rfl, hS5, hb5⟩; have hB5 : Below w2.heap.size w2 w5 := ((Below.refl _ _).drew).trans (hb5.mono (by simp)); obtain ⟨E0, E1, E2, E3, E4, _, _, _, _⟩ := HBX2.out.below hB5; have HS5 := Lib.hid hS5)
          | (go_at_call 112; refine (HFR.out _ (3 * bs.length) _ ?_).mono ?_; (first | exact HS5.out | exact HS5.out.below ((Below.refl _ _).drew) HS5.out.lt); rintro e w6 ⟨rfl, hb6⟩; have hB6 : Below w5.heap.size w5 w6 := (by first | exact hb6 | exact ((Below.refl _ _).drew).trans (hb6.mono (by simp))); obtain ⟨F0, F1, F2, F3, F4, d0, d1, f0, f1⟩ := (HBX2.out.below hB5).below hB6))
      have hbx6 := (HBX2.out.below hB5).below hB6
      have hB06 := (HB2.out.trans (hB5.mono hz2)).trans (hB6.mono (by have := hB5.size; omega))
      have hlt6 : w.heap.size + 1 + 1 < w6.heap.size := by have := hB5.size; have := hB6.size; omega
      have HBX6 := Lib.hid hbx6
      have HB6 := Lib.hid hB06
      clear x0 x1 y0 y1 y2 E0 E1 E2 E3 E4 F0 F1 F2 F3 F4 d0 d1 f0 f1 hB5 hB6 hb5 hb6 HS5 hS5 hbx6 hB06 HBX2 HB2 HFR HP HB hz2 hlt
      cases β with
      | false =>
        have HV := HVV.out
        rw [if_neg (by decide)] at HV
        have HV1 := Lib.hid HV
        clear HV
        obtain ⟨x0, x1, y0, y1, y2, d0, d1, f0, f1⟩ := HBX6.out
        go_wp2
        exact bodyPost_ret (v := .tuple #[.agg #[.int .i64 0, .slice none 0 0], .int .i64 5]) (by simp [results, Try.results46, go_sem, *]) rfl (HEND.out 5 _ HB6.out HV1.out)
      | true =>
        have HV := HVV.out
        rw [if_pos rfl] at HV
        obtain ⟨L, hL⟩ : ∃ L, L = bs ++ [(⟨xa, xb, xc⟩ : Blk)] := ⟨_, rfl⟩
        have hLl : L.length ≤ 1100000 := by rw [hL, List.length_append, List.length_singleton]; omega
        have HC := Lib.hid fun (H : Nat) (t : Value) W (h0 : W.cell? ⟨H, 0, none⟩ = some (.slice a0 bs.length c0)) (h1 : W.cell? ⟨H, 1, none⟩ = some t) (hs : SX W (.slice a0 bs.length c0) bs) (ht : SX W t [⟨xa, xb, xc⟩]) => concat2_any H _ t bs [⟨xa, xb, xc⟩] W h0 h1 hs ht (by omega) (by simp)
        rw [← hL] at HC HV
        have HV1 := Lib.hid HV
        have HSX6 := Lib.hid (HSB.out.below HB6.out (Nat.le_refl _)).sx
        obtain ⟨x0, x1, y0, y1, y2, _, _, _, _⟩ := HBX6.out
        dsimp only at y0 y1 y2
        clear HV hL HVV HEND
        go_wp2
        go_region_held3 (fun w' => w'.cell? ⟨w.heap.size, 0, none⟩ = some (.int .i64 v) ∧ w'.cell? ⟨w.heap.size, 1, none⟩ = some (.slice a0 bs.length c0) ∧ w'.cell? ⟨w.heap.size + 1, 0, none⟩ = some (.int .i64 xa) ∧ w'.cell? ⟨w.heap.size + 1, 1, none⟩ = some (.int .i64 xb) ∧ w'.cell? ⟨w.heap.size + 1, 2, none⟩ = some (.int .i64 xc))
          (first | exact ⟨E0, E1, E2, E3, E4⟩ | exact ⟨F0, F1, F2, F3, F4⟩ | exact ⟨G0, G1, G2, G3, G4⟩ | go_keep)
          (first
            | (go_at_call 114; refine (HC.out (w6.heap.size + 1) (.slice (some ⟨w6.heap.size, 0, none⟩) 1 1) _ (by simp [go_sem]) (by simp [go_sem]) (HSX6.out.below (((Below.refl _ _).alloc (Nat.le_refl _) _).alloc (by simp) _).drew (Nat.le_refl _)) (((sx_one' w6 ⟨xa, xb, xc⟩ 50).below (((Below.refl _ _).alloc (Nat.le_refl _) _).drew) (Nat.le_refl _)))).mono ?_; rintro e w7 ⟨u, rfl, ho7, hb7⟩; obtain ⟨a7, c7, hu⟩ := ho7.form; subst hu; have hB7 : Below w6.heap.size w6 w7 := ((((Below.refl _ _).alloc (Nat.le_refl _) _).alloc (by simp) _).drew).trans (hb7.mono (by simp; omega)); have BX7 := HBX6.out.below hB7; obtain ⟨E0, E1, E2, E3, E4, _, _, _, _⟩ := id BX7; have HO7 := Lib.hid (show OwnR w7 w6.heap.size (.slice a7 L.length c7) L from ownsRow_base ho7 (by simp; omega)); have HR7 := Lib.hid HO7.out.row; have hz7 := hB7.size)
            | (go_at_call 99; refine (systemFrom_any v w6.heap.size _ L _ ?_ hLl ?_).mono ?_; (first | exact HO7.out | exact HO7.out.below ((Below.refl _ _).drew) (Nat.le_refl _)); (first | exact hz7 | (simp; omega)); rintro e w8 ⟨rfl, ho8, hg8⟩; have hg8' : w7.grownBy w8 (Value.slice a7 L.length c7).ownBlock := (by first | exact hg8 | exact gb_drewL hg8); obtain ⟨F0, F1, F2, F3, F4, d0, d1, f0, f1⟩ := BX7.kept hg8' (fun r e => by have := HR7.out r e; omega); have gset := gb_set2 w8 (w.heap.size + 1 + 1) (.int .i64 v) (.slice a7 L.length c7); have G0 := gset.cell F0 (by simp; omega); have G1 := gset.cell F1 (by simp; omega); have G2 := gset.cell F2 (by simp); have G3 := gset.cell F3 (by simp); have G4 := gset.cell F4 (by simp)))
        have hB8 : Below w.heap.size w w8 := (HB6.out.trans (hB7.mono (by omega))).grown hg8' (by omega) (fun j e => by have := HR7.out j e; omega)
        have hres := ho8.res
        have hfin := (hres.kept (gb_set2 w8 (w.heap.size + 1 + 1) (.int .i64 v) (.slice a7 L.length c7)) (fun r e => by cases e; exact .inl (by omega))).wide (lo' := w.heap.size) (by omega) (gb_set2 w8 (w.heap.size + 1 + 1) (.int .i64 v) (.slice a7 L.length c7)).size
        go_wp2
        exact bodyPost_ret (v := .tuple #[.agg #[.int .i64 v, .slice a7 L.length c7], .int .i64 0]) (by simp [results, Try.results46, go_sem, *]) rfl (by rw [HV1.out]; exact ⟨_, rfl, hfin, below_set2 hB8 (by omega) _ _⟩)
end Go.Proofs.Ytikegdidffjoeaa

namespace Go.Proofs.Ytikegdidffjoeaa
open Go.RowKit Go.Maps
def okB (bs : List Blk) (x : Blk) : Bool := bs.all fun y => decide (commonN y x ≤ 1)
theorem okB_free {v : Int} {bs : List Blk} {x : Blk} (hb : ∀ y ∈ bs, goodB v y = true) (hx : goodB v x = true) : freeB (bs.flatMap pairsL) x = okB bs x := by
  rw [Bool.eq_iff_iff, freeB_iff]
  unfold okB
  rw [List.all_eq_true]
  constructor
  · intro h y hy
    rw [decide_eq_true_iff, common_pairs (hb y hy) hx]
    intro p hp hq
    exact h p hq (List.mem_flatMap.2 ⟨y, hy, hp⟩)
  · intro h p hp hq
    obtain ⟨y, hy, hpy⟩ := List.mem_flatMap.1 hq
    have := h y hy
    rw [decide_eq_true_iff, common_pairs (hb y hy) hx] at this
    exact this p hpy hp
set_option maxRecDepth 100000 in
theorem l01Free_any (v : Int) (s : Value) (bs : List Blk) (x : Blk) (w : World) (h : SB w s bs) :
    Calls Try.prog 111 #[.agg #[.int .i64 v, s], bv x] w (RV (.bool (okB bs x)) w) := by
  have hs := h.slice
  have H := Lib.hid h
  have hl := h.2.1
  clear h
  obtain ⟨a0, c0, rfl⟩ := hs
  obtain ⟨x1, x2, x3⟩ := x
  dsimp only [bv]
  go_enter Try.func111, Try.ntmps111
  go_wp2
  have hB0 : Below w.heap.size w ((w.alloc (.cells #[.int .i64 v, .slice a0 bs.length c0] 26)).alloc (.cells #[.int .i64 x1, .int .i64 x2, .int .i64 x3] 50)) := ((Below.refl _ _).alloc (Nat.le_refl _) _).alloc (by simp) _
  have p1 : ((w.alloc (.cells #[.int .i64 v, .slice a0 bs.length c0] 26)).alloc (.cells #[.int .i64 x1, .int .i64 x2, .int .i64 x3] 50)).cell? ⟨w.heap.size, 1, none⟩ = some (.slice a0 bs.length c0) := cell_past (new_at 1 rfl) (by simp)
  have n0 := new_at (w := w.alloc (.cells #[.int .i64 v, .slice a0 bs.length c0] 26)) (cs := #[.int .i64 x1, .int .i64 x2, .int .i64 x3]) (T := 50) 0 rfl
  have n1 := new_at (w := w.alloc (.cells #[.int .i64 v, .slice a0 bs.length c0] 26)) (cs := #[.int .i64 x1, .int .i64 x2, .int .i64 x3]) (T := 50) 1 rfl
  have n2 := new_at (w := w.alloc (.cells #[.int .i64 v, .slice a0 bs.length c0] 26)) (cs := #[.int .i64 x1, .int .i64 x2, .int .i64 x3]) (T := 50) 2 rfl
  rw [World.size_alloc] at n0 n1 n2
  obtain ⟨w2, hw2⟩ : ∃ w2, (w.alloc (.cells #[.int .i64 v, .slice a0 bs.length c0] 26)).alloc (.cells #[.int .i64 x1, .int .i64 x2, .int .i64 x3] 50) = w2 := ⟨_, rfl⟩
  have hz2 : w2.heap.size = w.heap.size + 1 + 1 := by rw [← hw2]; simp
  rw [hw2] at hB0 p1 n0 n1 n2 ⊢
  clear hw2
  go_loopw [5] (fun i wr => ∃ k : Nat, k ≤ bs.length ∧ i = .int .i64 k ∧ Below w2.heap.size w2 wr ∧ Hid ((bs.take k).all (fun y => decide (commonN y ⟨x1, x2, x3⟩ ≤ 1)) = true)) (fun i _ => bs.length - (intOf i).toNat)
  case atStart => exact ⟨0, Nat.zero_le _, rfl, Below.refl _ _, Lib.hid (by simp)⟩
  case round =>
    obtain ⟨k, hk, rfl, hB, HF⟩ := hrel
    have hz := hB.size
    have r1 : wr.cell? ⟨w.heap.size, 1, none⟩ = some (.slice a0 bs.length c0) := (hB.cell (p := ⟨w.heap.size, 1, none⟩) (by show w.heap.size < _; omega)).trans p1
    have m0 := (hB.cell (p := ⟨w.heap.size + 1, 0, none⟩) (by show w.heap.size + 1 < _; omega)).trans n0
    have m1 := (hB.cell (p := ⟨w.heap.size + 1, 1, none⟩) (by show w.heap.size + 1 < _; omega)).trans n1
    have m2 := (hB.cell (p := ⟨w.heap.size + 1, 2, none⟩) (by show w.heap.size + 1 < _; omega)).trans n2
    have hBw := hB0.trans (hB.mono (by omega))
    by_cases hkl : k < bs.length
    · rcases H.out.2.2 with ⟨_, _, _, hnil⟩ | ⟨bb, off, cap, hval, hblt, hbl⟩
      · rw [hnil] at hkl; simp at hkl
      · simp at hval
        obtain ⟨rfl, rfl⟩ := hval
        obtain ⟨y, hy, ey, d1, d2, d3⟩ := blks_at (hbl.below hBw hblt) hkl
        have ey' : bs[k] = y := by
          rw [List.getElem?_eq_getElem hkl] at ey
          simpa using ey
        have E3 := Lib.hid (show bs.take (k + 1) = bs.take k ++ [y] by rw [take_next hkl, ey'])
        have HY := Lib.hid hy
        have hc := l01Common_any y ⟨x1, x2, x3⟩
        have hb0 : 0 ≤ (commonN y ⟨x1, x2, x3⟩ : Int) ∧ (commonN y ⟨x1, x2, x3⟩ : Int) ≤ 9 := by
          refine ⟨by omega, ?_⟩
          have := cntLL_le [(⟨x1, x2, x3⟩ : Blk).a, (⟨x1, x2, x3⟩ : Blk).b, (⟨x1, x2, x3⟩ : Blk).c] [y.a, y.b, y.c]
          rw [cntLL_common] at this
          simpa using this.2
        obtain ⟨n, hn⟩ : ∃ n : Int, n = commonN y ⟨x1, x2, x3⟩ := ⟨_, rfl⟩
        rw [← hn] at hc hb0
        have HN := Lib.hid hn
        obtain ⟨hb0, hb9⟩ := hb0
        clear hn ey ey' hy hbl
        obtain ⟨y1, y2, y3⟩ := y
        have HC := Lib.hid hc
        dsimp only at d1 d2 d3
        have s1 := cell_regrown r1
        have q1 := cell_regrown d1
        have q2 := cell_regrown d2
        have q3 := cell_regrown d3
        have u1 := cell_regrown m0
        have u2 := cell_regrown m1
        have u3 := cell_regrown m2
        clear hc d1 d2 d3
        have g0 : (0 : Int) ≤ (k : Int) := by omega
        have g1 : (k : Int) < (bs.length : Int) := by omega
        go_wp2
        refine wp_region_quiet_below (by kernel_rfl) (by kernel_rfl) ?_
        repeat (go_big_quiet_step (exact Calls.regrown_of (HC.out _)))
        refine wpQuiet_nil ?_
        intro _ hw'
        obtain ⟨⟨dq, osq⟩, hw''⟩ := hw'
        subst hw''
        go_wp2
        · have h1 : 1 < n := by assumption
          go_ret
          refine RV_of (bool_eq ?_) (hBw.trans ((below_regrown _ dq osq).mono hBw.size))
          symm
          rw [Bool.eq_false_iff]
          intro ht
          have := List.all_eq_true.1 ht _ HY.out
          have h2 := HN.out
          simp at this
          omega
        · have h1 : n ≤ 1 := by assumption
          go_roundw
          case rel => exact ⟨k + 1, by omega, by go_num, hB.trans ((below_regrown _ dq osq).mono hB.size), Lib.hid (by rw [E3.out, List.all_append, HF.out]; have := HN.out; simp; omega)⟩
          case measure => simp [intOf]; omega
    · go_wp2
      go_ret
      have e : k = bs.length := by omega
      subst e
      have := HF.out
      rw [List.take_length] at this
      exact RV_of (bool_eq this.symm) hBw
end Go.Proofs.Ytikegdidffjoeaa


/- Rows of rows of integers: equality, marks, and that they are still there. slices.Concat of rows of integers. Rows of rows of integers that a call makes by append; the squares of few points. The common point of two blocks: the program's and the model's. The model's common point of two blocks. The model's other points of a block. The model's order of lists of integers. The model's test whether two lists are the same, and its number of a block. A list of rows as a list of headers: what l03Put writes. The laws' marks in systems. -/
import Derived.Test.YtiomdfhhejdoiaaJ4
import Derived.Deep.RegionWith
import Derived.Deep.RegionHeld3
import Derived.BigQuiet
namespace Go.Proofs.Ytiomdfhhejdoiaa
open Go.RowKit Go.Maps
/-- The value is a slice of just these n rows. -/
def SSB (w : World) (s : Value) (n : Nat) (F : Nat → List Int) : Prop :=
  n ≤ 1100000 ∧ ((n = 0 ∧ ∃ a c, s = .slice a 0 c) ∨ ∃ b off cap, s = .slice (some ⟨b, off, none⟩) n cap ∧ b < w.heap.size ∧ ∀ k, k < n → ∃ a c, w.cell? ⟨b, off + k, none⟩ = some (.slice a (F k).length c) ∧ IB w (.slice a (F k).length c) (F k))
theorem SSB.below {w w' : World} {s : Value} {n : Nat} {F : Nat → List Int} (h : SSB w s n F) {B : Nat} (hb : Below B w w') (hB : w.heap.size ≤ B) : SSB w' s n F := by
  obtain ⟨h1, h2⟩ := h
  refine ⟨h1, ?_⟩
  rcases h2 with h2 | ⟨b, off, cap, rfl, hl, hr⟩
  · exact .inl h2
  · refine .inr ⟨b, off, cap, rfl, by have := hb.size; omega, fun k hk => ?_⟩
    obtain ⟨a, c, hc, hi⟩ := hr k hk
    exact ⟨a, c, (hb.cell (by simp; omega)).trans hc, hi.below hb hB⟩
theorem SSB.slice {w : World} {s : Value} {n : Nat} {F : Nat → List Int} (h : SSB w s n F) : ∃ a c, s = .slice a n c := by
  rcases h.2 with ⟨rfl, a, c, rfl⟩ | ⟨b, off, cap, rfl, _⟩ <;> exact ⟨_, _, rfl⟩
set_option maxRecDepth 100000 in
theorem eqInt64SS_same (s t : Value) (n : Nat) (F : Nat → List Int) (w : World) (h : SSB w s n F) (k : SSB w t n F) : Calls Try.prog 30 #[s, t] w (RV (.bool true) w) := by
  have hn := h.1
  by_cases h0 : n = 0
  · obtain ⟨a, c, rfl⟩ := h.slice
    obtain ⟨a', c', rfl⟩ := k.slice
    subst h0
    clear h k hn
    go_enter Try.func30, Try.ntmps30
    go_wp2
    refine wp_loop_rounds 1 ?_
    rw [rounds_succ]
    go_wp2
    go_ret
    exact RV_of rfl (Below.refl _ _)
  · rcases h.2 with ⟨e, _⟩ | ⟨b, off, cap, rfl, hb, hB⟩
    · exact absurd e h0
    · rcases k.2 with ⟨e, _⟩ | ⟨b', off', cap', rfl, hb', hB'⟩
      · exact absurd e h0
      · have HB := Lib.hid hB
        have HB' := Lib.hid hB'
        clear hB hB' h k h0
        have hne : (((n : Nat) : Int) != (n : Nat)) = false := by simp
        go_enter Try.func30, Try.ntmps30
        go_wp2
        go_loopw [5] (fun i wr => ∃ k : Nat, k ≤ n ∧ i = .int .i64 k ∧ Below w.heap.size w wr) (fun i _ => n - (intOf i).toNat)
        case atStart => exact ⟨0, Nat.zero_le _, rfl, Below.refl _ _⟩
        case round =>
          obtain ⟨k, hk, rfl, hBw⟩ := hrel
          by_cases hkl : k < n
          · obtain ⟨a1, c1, q1, i1⟩ := HB.out k hkl
            obtain ⟨a2, c2, q2, i2⟩ := HB'.out k hkl
            have q1 := (hBw.cell (p := ⟨b, off + k, none⟩) hb).trans q1
            have q2 := (hBw.cell (p := ⟨b', off' + k, none⟩) hb').trans q2
            have I1 := Lib.hid (i1.below hBw (Nat.le_refl _))
            have I2 := Lib.hid (i2.below hBw (Nat.le_refl _))
            clear i1 i2
            have g0 : (0 : Int) ≤ (k : Int) := by omega
            have g1 : (k : Int) < (n : Int) := by omega
            go_wp2_with fail
            go_region_with (go_at_call 16; refine (eqInt64S_same _ _ (F k) _ (I1.out.below ((Below.refl _ _).drew) (Nat.le_refl _)) (I2.out.below ((Below.refl _ _).drew) (Nat.le_refl _))).mono ?_; rintro e w1 ⟨rfl, hb1⟩)
            all_goals
              go_wp2_with fail
              go_roundw
              case rel => exact ⟨k + 1, by omega, by go_num, (hBw.drew).trans (hb1.mono (by have := hBw.size; simp; omega))⟩
              case measure => simp [intOf]; omega
          · go_wp2
            go_ret
            exact RV_of rfl hBw
/-- Rows of its own: the head at block G, the k-th row at block gs k. -/
structure SSR (w : World) (lo G : Nat) (gs caps : Nat → Nat) (n : Nat) (F : Nat → List Int) : Prop where
  cell : ∀ k, k < n → w.cell? ⟨G, k, none⟩ = some (.slice (some ⟨gs k, 0, none⟩) (F k).length (caps k))
  row : ∀ k, k < n → OwnAtI w (gs k) (F k)
  ne : ∀ k, k < n → gs k ≠ G
  inc : ∀ j k, j < k → k < n → gs j ≠ gs k
  low : ∀ k, k < n → lo ≤ gs k
  lt : G < w.heap.size
theorem SSR.kept {w w' : World} {lo G : Nat} {gs caps : Nat → Nat} {n : Nat} {F : Nat → List Int} (h : SSR w lo G gs caps n F) {row : Option Nat} (hg : w.grownBy w' row) (hG : some G ≠ row) (hr : ∀ k, k < n → some (gs k) ≠ row) : SSR w' lo G gs caps n F :=
  ⟨fun k hk => hg.cell (h.cell k hk) (by simpa using hG), fun k hk => (h.row k hk).kept hg (hr k hk), h.ne, h.inc, h.low, Nat.lt_of_lt_of_le h.lt hg.size⟩
theorem SSR.below {w w' : World} {lo G : Nat} {gs caps : Nat → Nat} {n : Nat} {F : Nat → List Int} (h : SSR w lo G gs caps n F) {B : Nat} (hb : Below B w w') (hB : w.heap.size ≤ B) : SSR w' lo G gs caps n F :=
  h.kept (only_of_below (hb.mono hB) none) (by simp) (by simp)
theorem SSR.sb {w : World} {lo G cap : Nat} {gs caps : Nat → Nat} {n : Nat} {F : Nat → List Int} (h : SSR w lo G gs caps n F) (hn : n ≤ 1100000) (hF : ∀ k, k < n → (F k).length ≤ 1100000) : SSB w (.slice (some ⟨G, 0, none⟩) n cap) n F :=
  ⟨hn, .inr ⟨G, 0, cap, rfl, h.lt, fun k hk => ⟨_, _, by rw [Nat.zero_add]; exact h.cell k hk, ⟨hF k hk, .inr ⟨gs k, 0, caps k, rfl, (h.row k hk).lt, (h.row k hk).at_⟩⟩⟩⟩⟩
/-- How many integers the first k rows hold. -/
def tot (F : Nat → List Int) : Nat → Nat
  | 0 => 0
  | k + 1 => tot F k + (F k).length
theorem tot_le (F : Nat → List Int) {j n : Nat} (h : j ≤ n) : tot F j ≤ tot F n := by
  induction h with
  | refl => exact Nat.le_refl _
  | step _ ih => exact Nat.le_trans ih (by simp [tot])
/-- The rows after marking. -/
def markSS (k0 : Int) (F : Nat → List Int) (j : Nat) : List Int := markI (k0 + tot F j) (F j).length
theorem SSR.mark1 {w w' : World} {lo G : Nat} {gs caps : Nat → Nat} {n : Nat} {F : Nat → List Int} (h : SSR w lo G gs caps n F) {j : Nat} (hj : j < n) (L : List Int) (hL : L.length = (F j).length) (hg : w.grownBy w' (some (gs j))) (ho : OwnAtI w' (gs j) L) :
    SSR w' lo G gs caps n (fun k => if k = j then L else F k) := by
  refine ⟨fun k hk => ?_, fun k hk => ?_, h.ne, h.inc, h.low, Nat.lt_of_lt_of_le h.lt hg.size⟩
  · have hc := hg.cell (h.cell k hk) (by simpa using Ne.symm (h.ne j hj))
    split
    · subst k
      rw [hL]; exact hc
    · exact hc
  · split
    · subst k; exact ho
    · refine (h.row k hk).kept hg (fun e => ?_)
      have e : gs k = gs j := by simpa using e
      rcases Nat.lt_trichotomy k j with hlt | rfl | hlt
      · have := h.inc k j hlt hj; omega
      · contradiction
      · have := h.inc j k hlt hk; omega
def partSS (k0 : Int) (F : Nat → List Int) (j : Nat) : Nat → List Int := fun k => if k < j then markSS k0 F k else F k
theorem partSS_len (k0 : Int) (F : Nat → List Int) (j k : Nat) : (partSS k0 F j k).length = (F k).length := by
  unfold partSS markSS
  split
  · rw [markI_length]
  · rfl
theorem partSS_succ (k0 : Int) (F : Nat → List Int) (j : Nat) : (fun k => if k = j then markSS k0 F j else partSS k0 F j k) = partSS k0 F (j + 1) := by
  funext k
  unfold partSS
  by_cases h : k = j
  · subst h; simp
  · rw [if_neg h]
    by_cases h2 : k < j
    · rw [if_pos h2, if_pos (by omega)]
    · rw [if_neg h2, if_neg (by omega)]
theorem SSR.congr {w : World} {lo G : Nat} {gs caps : Nat → Nat} {n : Nat} {F F' : Nat → List Int} (h : SSR w lo G gs caps n F) (e : ∀ k, k < n → F k = F' k) : SSR w lo G gs caps n F' :=
  ⟨fun k hk => by rw [← e k hk]; exact h.cell k hk, fun k hk => by rw [← e k hk]; exact h.row k hk, h.ne, h.inc, h.low, h.lt⟩
set_option maxRecDepth 100000 in
theorem markInt64SS_any (lo G cap : Nat) (gs caps : Nat → Nat) (n : Nat) (F : Nat → List Int) (k0 : Int) (w : World) (h : SSR w lo G gs caps n F) (hl : n ≤ 1100000) (hlo : lo ≤ w.heap.size) (hT : tot F n ≤ 1100000) (h0 : 0 ≤ k0) (h1 : k0 ≤ 5000000) :
    Calls Try.prog 31 #[.slice (some ⟨G, 0, none⟩) n cap, .int .i64 k0] w (fun e w' => e = .returned (.int .i64 (k0 + tot F n)) ∧ Below lo w w' ∧ SSR w' lo G gs caps n (markSS k0 F)) := by
  have H := Lib.hid h
  clear h
  go_enter Try.func31, Try.ntmps31
  go_wp2
  go_loopw [1, 5] (fun t i wr => ∃ j : Nat, j ≤ n ∧ i = .int .i64 j ∧ t = .int .i64 (k0 + tot F j) ∧ Below lo w wr ∧ SSR wr lo G gs caps n (partSS k0 F j)) (fun _ i _ => n - (intOf i).toNat)
  case atStart => exact ⟨0, Nat.zero_le _, rfl, by simp [tot], Below.refl _ _, H.out.congr (fun k _ => by simp [partSS])⟩
  case round =>
    obtain ⟨j, hj, rfl, rfl, hB, hS⟩ := hrel
    have hSz := hB.size
    by_cases hjl : j < n
    · have c1 := hS.cell j hjl
      have hrow := hS.row j hjl
      have hlow := hS.low j hjl
      have hlen := partSS_len k0 F j j
      have hFj : partSS k0 F j j = F j := by simp [partSS]
      rw [hFj] at c1 hrow
      have htj : tot F (j + 1) ≤ tot F n := tot_le F hjl
      have htj' : tot F (j + 1) = tot F j + (F j).length := rfl
      have HS := Lib.hid hS
      have HM := Lib.hid (markInt64S_any (gs j) (caps j) (F j) (k0 + tot F j) wr hrow (by omega) (by omega) (by omega))
      clear hlen hFj hrow hS
      have g0 : (0 : Int) ≤ (j : Int) := by omega
      have g1 : (j : Int) < (n : Int) := by omega
      go_wp2_with (go_at_call 19; refine HM.out.mono ?_; rintro e w1 ⟨rfl, hg1, ho1⟩)
      go_roundw
      case rel => exact ⟨j + 1, by omega, by go_num, int_eq (by rw [htj']; omega), hB.grown hg1 (by omega) (fun r e => by simp at e; omega), by
        have := HS.out.mark1 hjl (markSS k0 F j) (by unfold markSS; rw [markI_length, partSS_len]) hg1 ho1
        rw [partSS_succ] at this
        exact this⟩
      case measure => simp [intOf]; omega
    · go_wp2
      go_ret
      have e : j = n := by omega
      subst e
      exact ⟨rfl, hB, hS.congr (fun k hk => by simp [partSS, hk])⟩
set_option maxRecDepth 100000 in
theorem heldInt64SS_any (lo G cap : Nat) (gs caps : Nat → Nat) (n : Nat) (F : Nat → List Int) (k0 : Int) (w : World) (h : SSR w lo G gs caps n (markSS k0 F)) (hl : n ≤ 1100000) (hT : tot F n ≤ 1100000) (h0 : 0 ≤ k0) (h1 : k0 ≤ 5000000) :
    Calls Try.prog 32 #[.slice (some ⟨G, 0, none⟩) n cap, .int .i64 k0] w (RS (.int .i64 (k0 + tot F n)) w) := by
  have H := Lib.hid h
  clear h
  go_enter Try.func32, Try.ntmps32
  go_wp2
  go_loop [1, 5] (fun t i => ∃ j : Nat, j ≤ n ∧ i = .int .i64 j ∧ t = .int .i64 (k0 + tot F j)) (fun _ i => n - (intOf i).toNat)
  case atStart => exact ⟨0, Nat.zero_le _, rfl, by simp [tot]⟩
  case round =>
    obtain ⟨j, hj, rfl, rfl⟩ := hrel
    by_cases hjl : j < n
    · have c1 := H.out.cell j hjl
      have hrow := (H.out.row j hjl).at_
      have htj : tot F (j + 1) ≤ tot F n := tot_le F hjl
      have htj' : tot F (j + 1) = tot F j + (F j).length := rfl
      have hmm : (markSS k0 F j).length = (F j).length := by unfold markSS; rw [markI_length]
      rw [hmm] at c1
      have HM := Lib.hid (heldInt64S_any (gs j) (caps j) (F j).length (k0 + tot F j) w hrow (by omega) (by omega) (by omega))
      clear hmm hrow
      obtain ⟨m, hm⟩ : ∃ m, m = k0 + (tot F j : Int) + ((F j).length : Int) := ⟨_, rfl⟩
      rw [← hm] at HM
      have hm0 : 0 ≤ m := by omega
      have HME := Lib.hid hm
      clear hm
      have g0 : (0 : Int) ≤ (j : Int) := by omega
      have g1 : (j : Int) < (n : Int) := by omega
      go_wp2_with (go_at_call 20; refine HM.out.mono ?_; rintro e w1 ⟨rfl, rfl⟩)
      go_round
      case rel => exact ⟨j + 1, by omega, by go_num, int_eq (by rw [htj', HME.out]; omega)⟩
      case measure => simp [intOf]; omega
    · go_wp2
      go_ret
      have e : j = n := by omega
      subst e
      exact RS_of rfl
end Go.Proofs.Ytiomdfhhejdoiaa

namespace Go.Proofs.Ytiomdfhhejdoiaa
open Go.RowKit Go.Maps Go.Shelf
theorem growS_any (n : Nat) (hn : n ≤ 4000000) (w : World) : Calls Try.prog 136 #[.slice none 0 0, .int .i64 (n : Int)] w (fun e w' => ∃ u, e = .returned u ∧ OwnJ w' w.heap.size u [] ∧ Below w.heap.size w w') := by
  by_cases h0 : n = 0
  · subst h0
    refine Calls.mono (Any8.slices_Grow_room Try.growI none 0 0 0 w (by omega) (by omega) (by omega) (by omega)) ?_
    rintro e w' ⟨rfl, rfl⟩
    exact ⟨_, rfl, OwnJ.nil _ _, Below.refl _ _⟩
  · obtain ⟨i0, hi, hz0, hz1, hz2⟩ := info_parts infoInt64
    refine Calls.mono (Any8.slices_Grow_grow Try.growI i0 _ hi hz0 (by rw [hz1]; omega) none 0 0 n [] w (by omega) (by omega) (by rw [hz2]; omega) (by omega) (by simp) (fun _ => rfl) (by simp)) ?_
    rintro e w' ⟨rfl, rfl⟩
    have hge := grownCap_ge w (0 + n) 0 (Try.growI_ren.t 25)
    have hle := grownCap_le_maxLen w (0 + n) 0 (Try.growI_ren.t 25) (by unfold maxLen; omega)
    refine ⟨_, rfl, World.ownsRow_made w.drew _ _ (Nat.le_refl _) hle ?_, (Below.refl _ _).drew.alloc (Nat.le_refl _) _⟩
    obtain ⟨cap, hcap⟩ : ∃ cap, cap = grownCap w (0 + n) 0 (Try.growI_ren.t 25) := ⟨_, rfl⟩
    rw [← hcap] at hge ⊢
    simp only [Array.size_append, List.size_toArray, List.length_nil, size_zeroCells, Value.cells]
    show 0 + (0 + n - 0) * 1 + (cap - (0 + n)) * 1 = cap * 1
    omega
theorem catF_tot (F : Nat → List Int) : ∀ n, (catF n F).length = tot F n
  | 0 => rfl
  | n + 1 => by rw [catF_succ, List.length_append, catF_tot F n, tot]
theorem wpList_append_intsN {w : World} {ops : Array Oper} {rest : List Oper} {o : Oper} {a : Act} {Q : Exit → Act → World → Prop} (hgd : o.guard = none) (s x : Operand)
    (ho : o.op = .call { callee := .builtin .append, args := #[s, x], argTypes := #[26, 26] })
    (base : Nat) (v : Value) (zs : List Int) (hs : a.eval s = v) (hown : OwnJ w base v zs) (b0 off m c : Nat) (ys : List Int) (hm : m = ys.length) (hm0 : 0 < m) (hx : a.eval x = .slice (some ⟨b0, off, none⟩) m c)
    (c1 : Ints w b0 off ys) (hl : zs.length + m ≤ 3300000) (hbase : base ≤ w.heap.size)
    (h : ∀ (g cap : Nat) (w' : World), OwnJ w' base (.slice (some ⟨g, 0, none⟩) (zs.length + m) cap) (zs ++ ys) → w.grownBy w' v.ownBlock → wpList Try.prog ops Q rest (a.put o.dst (.slice (some ⟨g, 0, none⟩) (zs.length + m) cap)) w') : wpList Try.prog ops Q (o :: rest) a w := by
  obtain ⟨i0, hi, hz0, hz1, hz2⟩ := info_parts infoInt64
  refine wpList_append_own w hgd s x 26 ho base 2 i0 _ 1 8 Try.underlying26 hi hz0 hz1 hz2 rfl (by decide) v zs.length (zs.map (Value.int .i64)) hs hown ⟨b0, off, none⟩ m c (ys.map (Value.int .i64)) hx (by rw [List.length_map]; omega) ?_ ?_ (by unfold maxLen; omega) (by omega) hbase ?_
  · intro j u hj
    rw [addr_at]
    rw [List.getElem?_map] at hj
    have hjl : j < ys.length := by
      rcases Nat.lt_or_ge j ys.length with h1 | h1
      · exact h1
      · rw [List.getElem?_eq_none h1] at hj; cases hj
    have := c1 j hjl
    rw [List.getElem?_eq_getElem hjl] at hj this
    simp at hj
    rw [← hj]
    simpa using this
  · intro u hu
    obtain ⟨y, _, rfl⟩ := List.mem_map.1 hu
    rfl
  · intro v' w' hown' hg _
    obtain ⟨k, rfl⟩ : ∃ k, m = k + 1 := ⟨m - 1, by omega⟩
    obtain ⟨g, cap, rfl⟩ := row_some (k := zs.length + k) hown'
    refine h g cap w' ?_ hg
    unfold OwnJ
    rw [List.length_append, ← hm, List.map_append]
    exact hown'
set_option maxRecDepth 100000 in
set_option maxHeartbeats 2000000 in
theorem concatS_any (s : Value) (n : Nat) (F : Nat → List Int) (w : World) (h : SSB w s n F) (h3 : ∀ k, k < n → 0 < (F k).length) (ht : tot F n ≤ 1100000) :
    Calls Try.prog 110 #[s] w (fun e w' => ∃ u, e = .returned u ∧ OwnJ w' w.heap.size u (catF n F) ∧ Below w.heap.size w w') := by
  have hn := h.1
  have hs : ∃ a c, s = .slice a n c := by
    rcases h.2 with ⟨rfl, a, c, rfl⟩ | ⟨b, off, cap, rfl, _⟩ <;> exact ⟨_, _, rfl⟩
  have HSS := Lib.hid h
  have H3 := Lib.hid h3
  have HG := Lib.hid (growS_any (tot F n) (by omega) w)
  have HTL := Lib.hid fun k (hk : k ≤ n) => Nat.le_trans (tot_le F hk) ht
  clear h h3
  obtain ⟨a, c, rfl⟩ := hs
  have HROW := Lib.hid (show ∀ k, k < n → ∃ b off cap b' off' c', a = some ⟨b, off, none⟩ ∧ c = cap ∧ b < w.heap.size ∧ b' < w.heap.size ∧ 0 < (F k).length ∧ w.cell? ⟨b, off + k, none⟩ = some (.slice (some ⟨b', off', none⟩) (F k).length c') ∧ Ints w b' off' (F k) from fun k hk => by
    rcases HSS.out.2 with ⟨h0, _⟩ | ⟨b, off, cap, e, hlt, hr⟩
    · omega
    · simp at e
      obtain ⟨rfl, rfl⟩ := e
      obtain ⟨a', c', hc, hi⟩ := hr k hk
      have h0 := H3.out k hk
      rcases hi.2 with ⟨_, _, _, hnil⟩ | ⟨b', off', cap', e', hlt', hr'⟩
      · rw [hnil] at h0; simp at h0
      · simp at e'
        obtain ⟨rfl, rfl⟩ := e'
        exact ⟨b, off, c, b', off', c', rfl, rfl, hlt, hlt', h0, hc, hr'⟩)
  go_enter Try.func110, Try.ntmps110
  go_wp2_with fail
  go_loopw [3, 11] (fun z i wr => ∃ k : Nat, k ≤ n ∧ i = .int .i64 k ∧ z = .int .i64 ((tot F k : Nat) : Int) ∧ wr = w) (fun _ i _ => n - (intOf i).toNat)
  case atStart => exact ⟨0, Nat.zero_le _, rfl, rfl, rfl⟩
  case round =>
    obtain ⟨k, hk, rfl, rfl, rfl⟩ := hrel
    by_cases hkl : k < n
    · obtain ⟨b, off, cap, b', off', c', rfl, rfl, hlt, hlt', h0, q0, q1⟩ := HROW.out k hkl
      have ht1 := HTL.out (k + 1) hkl
      have ets : tot F (k + 1) = tot F k + (F k).length := rfl
      have HTS := Lib.hid ets
      rw [ets] at ht1
      obtain ⟨T, hT⟩ : ∃ T, T = tot F k := ⟨_, rfl⟩
      obtain ⟨m, hm⟩ : ∃ m, m = (F k).length := ⟨_, rfl⟩
      rw [← hT, ← hm] at ht1 HTS
      rw [← hm] at q0
      rw [← hT]
      clear q1 ets hT hm h0
      go_wp2
      go_roundw
      case rel => refine ⟨k + 1, by omega, by go_num, ?_, ?_⟩ <;> first | trivial | rfl | (rw [HTS.out]; go_num) | go_num | omega | (congr 1; omega)
      case measure => simp [intOf]; omega
    · have e : k = n := by omega
      subst e
      clear hkl hk
      obtain ⟨W0, rfl⟩ : ∃ W0, W0 = wr := ⟨_, rfl⟩
      go_wp2_with fail
      refine HG.out.mono ?_
      rintro e w1 ⟨u1, rfl, ho1, hb1⟩
      have hf1 : ∃ a c, u1 = .slice a 0 c := by
        rcases ho1.2 with ⟨rfl, _⟩ | ⟨g, cap, cur, rfl, _⟩ <;> exact ⟨_, _, rfl⟩
      have HO1 := Lib.hid ho1
      have HB1 := Lib.hid hb1
      clear ho1 hb1
      go_wp2_with fail
      go_loopw [6, 27] (fun o i w2 => ∃ j : Nat, j ≤ k ∧ i = .int .i64 j ∧ Below W0.heap.size W0 w2 ∧ OwnJ w2 W0.heap.size o (catF j F) ∧ ∃ a n c, o = .slice a n c) (fun _ i _ => k - (intOf i).toNat)
      case atStart =>
        obtain ⟨a1, c1, rfl⟩ := hf1
        exact ⟨0, Nat.zero_le _, rfl, HB1.out, HO1.out, _, _, _, rfl⟩
      case round =>
        obtain ⟨j, hj, rfl, hB2, hO, hform⟩ := hrel
        have hz2 := hB2.size
        by_cases hjl : j < k
        · obtain ⟨b, off, cap, b', off', c', rfl, rfl, hlt, hlt', h0, q0, q1⟩ := HROW.out j hjl
          have r0 := (hB2.cell (p := ⟨b, off + j, none⟩) hlt).trans q0
          have HQ := Lib.hid (q1.below hB2 hlt')
          have HCL := Lib.hid (catF_succ j F)
          have hle : (catF j F).length + (F j).length ≤ 3300000 := by
            have h1 := HTL.out (j + 1) hjl
            have h2 : tot F (j + 1) = tot F j + (F j).length := rfl
            rw [catF_tot]
            omega
          obtain ⟨m, hm⟩ : ∃ m, m = (F j).length := ⟨_, rfl⟩
          rw [← hm] at r0 hle h0
          have HM := Lib.hid hm
          obtain ⟨a3, n3, c3, rfl⟩ := hform
          have HO := Lib.hid hO
          have HB := Lib.hid hB2
          clear q0 q1 hO hB2 hm
          go_wp2_with (at_builtin; refine wpList_append_intsN rfl _ _ rfl W0.heap.size _ (catF j F) rfl HO.out b' off' m _ (F j) HM.out h0 rfl HQ.out hle hz2 ?_; intro g' cap' w4 hO4 hg4)
          have hrow := HO.out.row
          go_roundw
          case rel => exact ⟨j + 1, by omega, by go_num, HB.out.grown hg4 hz2 (fun j e => hrow j e), by rw [HCL.out]; exact hO4, _, _, _, rfl⟩
          case measure => simp [intOf]; omega
        · have e : j = k := by omega
          subst e
          obtain ⟨a3, n3, c3, rfl⟩ := hform
          go_wp2
          go_ret
          exact ⟨_, rfl, hO, hB2⟩
end Go.Proofs.Ytiomdfhhejdoiaa

namespace Go.Proofs.Ytiomdfhhejdoiaa
open Go.RowKit Go.Maps
theorem infoRow : (Try.prog.info? 26).map (fun i => (i.zero, i.size, i.bytes)) = some (some (.slice none 0 0), 1, 24) := by kernel_rfl
def rowV (gs caps : Nat → Nat) (F : Nat → List Int) (k : Nat) : Value := .slice (some ⟨gs k, 0, none⟩) (F k).length (caps k)
/-- The value owns a slice of n rows, each in a block of its own. -/
structure AccS (w : World) (base : Nat) (u : Value) (n : Nat) (gs caps : Nat → Nat) (F : Nat → List Int) : Prop where
  own : w.ownsRow base 26 1 u n ((List.range n).map (rowV gs caps F))
  row : ∀ k, k < n → OwnAtI w (gs k) (F k)
  ne : ∀ k, k < n → u.ownBlock ≠ some (gs k)
  inc : ∀ j k, j < k → k < n → gs j ≠ gs k
  low : ∀ k, k < n → base ≤ gs k
theorem ownsRow_lt {w : World} {base : Nat} {e : TypeId} {size n : Nat} {u : Value} {xs : List Value} (h : w.ownsRow base e size u n xs) : ∀ r, u.ownBlock = some r → base ≤ r ∧ r < w.heap.size := fun r hr => by
  rcases h.2 with ⟨rfl, _⟩ | ⟨g, cap, cur, rfl, hb, hcur, _⟩
  · simp [Value.ownBlock] at hr
  · obtain rfl : g = r := by simpa [Value.ownBlock] using hr
    exact ⟨hb, (Array.getElem?_eq_some_iff.1 hcur).1⟩
theorem ownsRow_kept {w w' : World} {base : Nat} {e : TypeId} {size n : Nat} {u : Value} {xs : List Value} {row : Option Nat} (h : w.ownsRow base e size u n xs) (hg : w.grownBy w' row) (hr : row = none ∨ u.ownBlock ≠ row) : w'.ownsRow base e size u n xs := by
  obtain ⟨hl, h | ⟨g, cap, cur, rfl, hb, hcur, hrest⟩⟩ := h
  · exact ⟨hl, .inl h⟩
  · exact ⟨hl, .inr ⟨g, cap, cur, rfl, hb, (hg.block g (Array.getElem?_eq_some_iff.1 hcur).1 (fun e => by
      rcases hr with rfl | hr
      · cases e
      · exact hr (by rw [← e]; rfl))).trans hcur, hrest⟩⟩
section
variable {w w' : World} {base : Nat} {u : Value} {n : Nat} {gs caps : Nat → Nat} {F : Nat → List Int}
theorem AccS.kept (h : AccS w base u n gs caps F) {row : Option Nat} (hg : w.grownBy w' row) (hu : row = none ∨ u.ownBlock ≠ row) (hr : ∀ k, k < n → some (gs k) ≠ row) : AccS w' base u n gs caps F :=
  ⟨ownsRow_kept h.own hg hu, fun k hk => (h.row k hk).kept hg (hr k hk), h.ne, h.inc, h.low⟩
theorem AccS.below (h : AccS w base u n gs caps F) {B : Nat} (hb : Below B w w') (hB : w.heap.size ≤ B) : AccS w' base u n gs caps F :=
  h.kept (only_of_below (hb.mono hB) none) (.inl rfl) (by simp)
theorem AccS.nil (w : World) (base : Nat) (gs caps : Nat → Nat) (F : Nat → List Int) : AccS w base (.slice none 0 0) 0 gs caps F :=
  ⟨⟨rfl, .inl ⟨rfl, rfl⟩⟩, fun k hk => by omega, fun k hk => by omega, fun j k _ hk => by omega, fun k hk => by omega⟩
theorem AccS.ssr (h : AccS w base u n gs caps F) (hn : 0 < n) : ∃ G cap, u = .slice (some ⟨G, 0, none⟩) n cap ∧ base ≤ G ∧ SSR w base G gs caps n F := by
  obtain ⟨⟨hl, h1⟩, h2, h3, h4, h5⟩ := h
  rcases h1 with ⟨_, h0⟩ | ⟨g, cap, cur, rfl, hb, hcur, hn', hc, hsz, hx⟩
  · omega
  · refine ⟨g, cap, rfl, hb, ⟨fun k hk => ?_, h2, fun k hk e => h3 k hk (by rw [e]; rfl), h4, h5, (Array.getElem?_eq_some_iff.1 hcur).1⟩⟩
    have e : ((List.range n).map (rowV gs caps F))[k]? = some (rowV gs caps F k) := by simp [hk]
    rw [← hx, List.getElem?_take_of_lt (by omega)] at e
    simp [World.cell?, hcur]
    simpa [rowV] using e
end
theorem map_congr' {α β : Type} {f g : α → β} {l : List α} (h : ∀ x ∈ l, f x = g x) : l.map f = l.map g := List.map_congr_left h
theorem wpList_append_row {w : World} {ops : Array Oper} {rest : List Oper} {o : Oper} {a : Act} {Q : Exit → Act → World → Prop} (hgd : o.guard = none) (s x : Operand)
    (ho : o.op = .call { callee := .builtin .append, args := #[s, x], argTypes := #[44, 44] })
    (base : Nat) (v : Value) (n : Nat) (gs caps : Nat → Nat) (F : Nat → List Int) (hs : a.eval s = v) (hown : AccS w base v n gs caps F) (b0 c : Nat) (hx : a.eval x = .slice (some ⟨b0, 0, none⟩) 1 c) (g cg : Nat)
    (c1 : w.cell? ⟨b0, 0, none⟩ = some (.slice (some ⟨g, 0, none⟩) (F n).length cg)) (hrow : OwnAtI w g (F n)) (hgt : ∀ k, k < n → gs k < g) (hng : v.ownBlock ≠ some g) (hbg : base ≤ g) (hl : n ≤ 1100000) (hbase : base ≤ w.heap.size)
    (h : ∀ (G cap : Nat) (w' : World) (gs' caps' : Nat → Nat), AccS w' base (.slice (some ⟨G, 0, none⟩) (n + 1) cap) (n + 1) gs' caps' F → w.grownBy w' v.ownBlock → wpList Try.prog ops Q rest (a.put o.dst (.slice (some ⟨G, 0, none⟩) (n + 1) cap)) w') : wpList Try.prog ops Q (o :: rest) a w := by
  obtain ⟨i0, hi, hz0, hz1, hz2⟩ := info_parts infoRow
  refine wpList_append_own_at w hgd s x 44 ho base 26 i0 _ 1 24 Try.underlying44 hi hz0 hz1 hz2 rfl (by decide) v n _ hs hown.own ⟨b0, 0, none⟩ 1 c [.slice (some ⟨g, 0, none⟩) (F n).length cg] hx rfl ?_ ?_ (by unfold maxLen; omega) (by omega) hbase ?_
  · intro j u hj
    rw [addr_at, Nat.zero_add]
    match j, hj with
    | 0, hj => simp at hj; rw [← hj]; exact c1
    | j + 1, hj => simp at hj
  · intro u hu
    simp at hu
    rw [hu]
    rfl
  · intro v' w' hown' hg _ hob
    obtain ⟨G, cap, rfl⟩ := row_some hown'
    have hGg : G ≠ g := by
      rintro rfl
      rcases hob with e | e
      · exact hng (by rw [← e]; rfl)
      · simp [Value.ownBlock] at e
        have := hrow.lt
        omega
    refine h G cap w' (fun k => if k = n then g else gs k) (fun k => if k = n then cg else caps k) ⟨?_, fun k hk => ?_, fun k hk => ?_, fun j k hjk hk => ?_, fun k hk => ?_⟩ hg
    · rw [List.range_succ, List.map_append, List.map_singleton]
      have e1 : (List.range n).map (rowV (fun k => if k = n then g else gs k) (fun k => if k = n then cg else caps k) F) = (List.range n).map (rowV gs caps F) := map_congr' fun k hk => by
        have : k ≠ n := by have := List.mem_range.1 hk; omega
        simp [rowV, this]
      rw [e1]
      simpa [rowV] using hown'
    · split
      · subst k; exact hrow.kept hg (fun e => hng e.symm)
      · exact (hown.row k (by omega)).kept hg (fun e => hown.ne k (by omega) e.symm)
    · split
      · simpa [Value.ownBlock] using hGg
      · intro e
        have e' : G = gs k := by simpa [Value.ownBlock] using e
        rcases hob with e2 | e2
        · exact hown.ne k (by omega) (by rw [← e2, e])
        · simp [Value.ownBlock] at e2
          have := (hown.row k (by omega)).lt
          omega
    · rw [if_neg (by omega)]
      split
      · exact Nat.ne_of_lt (hgt j (by omega))
      · exact hown.inc j k hjk (by omega)
    · split
      · exact hbg
      · exact hown.low k (by omega)
/-- A slice of rows and a code. -/
def RSS (n : Nat) (F : Nat → List Int) (κ : Int) (w : World) (e : Ending) (w' : World) : Prop :=
  ∃ u G cap gs caps, e = .returned (.tuple #[u, .int .i64 κ]) ∧ Below w.heap.size w w' ∧ u = .slice (some ⟨G, 0, none⟩) n cap ∧ w.heap.size ≤ G ∧ SSR w' w.heap.size G gs caps n F
def hf (n s : Int) : Int := if (s % n) % 2 = 0 then (s % n) / 2 else if n % 2 = 0 then (s % n + n - 1) / 2 else (s % n + n) / 2
def rowP (n k : Nat) (j : Nat) : List Int := (List.range j).map fun (y : Nat) => hf n ((k : Int) + (y : Int))
def rowF (n k : Nat) : List Int := rowP n k n
theorem rowP_len (n k j : Nat) : (rowP n k j).length = j := by simp [rowP]
theorem rowP_succ (n k j : Nat) : rowP n k (j + 1) = rowP n k j ++ [hf n ((k : Int) + (j : Int))] := by simp [rowP, List.range_succ]
theorem rowP_next (n k j : Nat) (h : j < n) : (rowP n k j ++ List.replicate (n - j) 0).set j (hf n ((k : Int) + (j : Int))) = rowP n k (j + 1) ++ List.replicate (n - (j + 1)) 0 := by
  rw [rowP_succ, show n - j = (n - (j + 1)) + 1 by omega, List.replicate_succ, List.set_append_right _ _ (by rw [rowP_len]; omega), rowP_len, Nat.sub_self, List.set_cons_zero, List.append_assoc]
  rfl
theorem made_ints (w : World) (n : Nat) (T : TypeId) : OwnAtI (w.alloc (.cells (madeCells #[.int .i64 0] n) T)) w.heap.size (List.replicate n 0) := by
  refine ⟨by simp, fun k hk => ?_, fun o => by simp⟩
  rw [List.length_replicate] at hk
  rw [World.cell?_alloc_at _ _ _ _ rfl]
  simp [madeCells, hk, Nat.mod_one]
end Go.Proofs.Ytiomdfhhejdoiaa

namespace Go.Proofs.Ytiomdfhhejdoiaa
open Go.RowKit Go.Maps
/-- The first point of b that is in c. -/
def comP (b c : Blk) : Option Int := if hasB c b.a then some b.a else if hasB c b.b then some b.b else if hasB c b.c then some b.c else none
theorem inL_has (p : Int) (x : Blk) : inL p [x.a, x.b, x.c] = hasB x p := by
  rw [Bool.eq_iff_iff]
  simp [inL, hasB]
  omega
set_option maxRecDepth 100000 in
theorem commonPoint_any (x y : Blk) (w : World) : Calls Try.prog 108 #[bv x, bv y] w (RV (.tuple #[.int .i64 ((comP x y).getD 0), .bool (comP x y).isSome]) w) := by
  have HC := Lib.hid fun (p : Int) (B cap : Nat) (W : World) (h0 : W.cell? ⟨B, 0, none⟩ = some (.int .i64 y.a)) (h1 : W.cell? ⟨B, 1, none⟩ = some (.int .i64 y.b)) (h2 : W.cell? ⟨B, 2, none⟩ = some (.int .i64 y.c)) => Contains_any B 0 cap [y.a, y.b, y.c] p W (ints3 h0 h1 h2) (by simp)
  simp only [inL_has] at HC
  obtain ⟨β0, h0⟩ : ∃ β, β = hasB y x.a := ⟨_, rfl⟩
  obtain ⟨β1, h1⟩ : ∃ β, β = hasB y x.b := ⟨_, rfl⟩
  obtain ⟨β2, h2⟩ : ∃ β, β = hasB y x.c := ⟨_, rfl⟩
  have HCM := Lib.hid (show comP x y = if β0 then some x.a else if β1 then some x.b else if β2 then some x.c else none by unfold comP; rw [h0, h1, h2])
  have HA := Lib.hid fun (B cap : Nat) W j0 j1 j2 => HC.out x.a B cap W j0 j1 j2
  have HB := Lib.hid fun (B cap : Nat) W j0 j1 j2 => HC.out x.b B cap W j0 j1 j2
  have HD := Lib.hid fun (B cap : Nat) W j0 j1 j2 => HC.out x.c B cap W j0 j1 j2
  rw [← h0] at HA
  rw [← h1] at HB
  rw [← h2] at HD
  clear HC h0 h1 h2
  obtain ⟨xa, xb, xc⟩ := x
  obtain ⟨ya, yb, yc⟩ := y
  unfold bv
  dsimp only at HA HB HD HCM ⊢
  have ix0 : ∀ w, (Instr.index 68 (.agg #[.int .i64 xa, .int .i64 xb, .int .i64 xc]) (.int .i64 0)).run Try.prog w = .ok (.int .i64 xa) w := fun _ => by kernel_rfl
  have ix1 : ∀ w, (Instr.index 68 (.agg #[.int .i64 xa, .int .i64 xb, .int .i64 xc]) (.int .i64 1)).run Try.prog w = .ok (.int .i64 xb) w := fun _ => by kernel_rfl
  have ix2 : ∀ w, (Instr.index 68 (.agg #[.int .i64 xa, .int .i64 xb, .int .i64 xc]) (.int .i64 2)).run Try.prog w = .ok (.int .i64 xc) w := fun _ => by kernel_rfl
  cases β0 with
  | true =>
    have HV := Lib.hid (show comP ⟨xa, xb, xc⟩ ⟨ya, yb, yc⟩ = some xa by rw [HCM.out]; rfl)
    go_enter Try.func108, Try.ntmps108
    go_wp2
    refine wp_loop_rounds 1 ?_
    rw [rounds_succ]
    go_wp2_with (go_at_call 109; refine (HA.out _ _ _ (by simp [go_sem]) (by simp [go_sem]) (by simp [go_sem])).mono ?_; rintro e w0 ⟨rfl, rfl⟩)
    go_ret2
    exact ⟨by rw [HV.out]; rfl, ((Below.refl _ _).alloc (Nat.le_refl _) _).alloc (by simp) _⟩
  | false =>
    cases β1 with
    | true =>
      have HV := Lib.hid (show comP ⟨xa, xb, xc⟩ ⟨ya, yb, yc⟩ = some xb by rw [HCM.out]; rfl)
      go_enter Try.func108, Try.ntmps108
      go_wp2
      refine wp_loop_rounds 2 ?_
      rw [rounds_succ]
      go_wp2_with (go_at_call 109; refine (HA.out _ _ _ (by simp [go_sem]) (by simp [go_sem]) (by simp [go_sem])).mono ?_; rintro e w0 ⟨rfl, rfl⟩)
      rw [rounds_succ]
      go_wp2_with (go_at_call 109; refine (HB.out _ _ _ (by simp [go_sem]) (by simp [go_sem]) (by simp [go_sem])).mono ?_; rintro e w1 ⟨rfl, rfl⟩)
      go_ret2
      exact ⟨by rw [HV.out]; rfl, ((Below.refl _ _).alloc (Nat.le_refl _) _).alloc (by simp) _⟩
    | false =>
      cases β2 with
      | true =>
        have HV := Lib.hid (show comP ⟨xa, xb, xc⟩ ⟨ya, yb, yc⟩ = some xc by rw [HCM.out]; rfl)
        go_enter Try.func108, Try.ntmps108
        go_wp2
        refine wp_loop_rounds 3 ?_
        rw [rounds_succ]
        go_wp2_with (go_at_call 109; refine (HA.out _ _ _ (by simp [go_sem]) (by simp [go_sem]) (by simp [go_sem])).mono ?_; rintro e w0 ⟨rfl, rfl⟩)
        rw [rounds_succ]
        go_wp2_with (go_at_call 109; refine (HB.out _ _ _ (by simp [go_sem]) (by simp [go_sem]) (by simp [go_sem])).mono ?_; rintro e w1 ⟨rfl, rfl⟩)
        rw [rounds_succ]
        go_wp2_with (go_at_call 109; refine (HD.out _ _ _ (by simp [go_sem]) (by simp [go_sem]) (by simp [go_sem])).mono ?_; rintro e w2 ⟨rfl, rfl⟩)
        go_ret2
        exact ⟨by rw [HV.out]; rfl, ((Below.refl _ _).alloc (Nat.le_refl _) _).alloc (by simp) _⟩
      | false =>
        have HV := Lib.hid (show comP ⟨xa, xb, xc⟩ ⟨ya, yb, yc⟩ = none by rw [HCM.out]; rfl)
        go_enter Try.func108, Try.ntmps108
        go_wp2
        refine wp_loop_rounds 4 ?_
        rw [rounds_succ]
        go_wp2_with (go_at_call 109; refine (HA.out _ _ _ (by simp [go_sem]) (by simp [go_sem]) (by simp [go_sem])).mono ?_; rintro e w0 ⟨rfl, rfl⟩)
        rw [rounds_succ]
        go_wp2_with (go_at_call 109; refine (HB.out _ _ _ (by simp [go_sem]) (by simp [go_sem]) (by simp [go_sem])).mono ?_; rintro e w1 ⟨rfl, rfl⟩)
        rw [rounds_succ]
        go_wp2_with (go_at_call 109; refine (HD.out _ _ _ (by simp [go_sem]) (by simp [go_sem]) (by simp [go_sem])).mono ?_; rintro e w2 ⟨rfl, rfl⟩)
        rw [rounds_succ]
        go_wp2
        go_ret2
        exact ⟨by rw [HV.out]; rfl, ((Below.refl _ _).alloc (Nat.le_refl _) _).alloc (by simp) _⟩
end Go.Proofs.Ytiomdfhhejdoiaa

namespace Go.Proofs.Ytiomdfhhejdoiaa
open Go.RowKit Go.Maps
/-- TwoX blocks that came in, in their boxes. -/
structure TwoX (w' : World) (b : Nat) (x y : Blk) : Prop where
  x0 : w'.cell? ⟨b, 0, none⟩ = some (.int .i64 x.a)
  x1 : w'.cell? ⟨b, 1, none⟩ = some (.int .i64 x.b)
  x2 : w'.cell? ⟨b, 2, none⟩ = some (.int .i64 x.c)
  y0 : w'.cell? ⟨b + 1, 0, none⟩ = some (.int .i64 y.a)
  y1 : w'.cell? ⟨b + 1, 1, none⟩ = some (.int .i64 y.b)
  y2 : w'.cell? ⟨b + 1, 2, none⟩ = some (.int .i64 y.c)
theorem TwoX.below {w w' : World} {b B : Nat} {x y : Blk} (h : TwoX w b x y) (hb : Below B w w') (hB : b + 1 < B) : TwoX w' b x y :=
  ⟨(hb.cell (p := ⟨b, 0, none⟩) (by show b < B; omega)).trans h.x0, (hb.cell (p := ⟨b, 1, none⟩) (by show b < B; omega)).trans h.x1, (hb.cell (p := ⟨b, 2, none⟩) (by show b < B; omega)).trans h.x2, (hb.cell (p := ⟨b + 1, 0, none⟩) hB).trans h.y0, (hb.cell (p := ⟨b + 1, 1, none⟩) hB).trans h.y1, (hb.cell (p := ⟨b + 1, 2, none⟩) hB).trans h.y2⟩
def meetK (x y : Blk) : Nat → Bool
  | 0 => true
  | 1 => !hasB y x.a
  | 2 => !hasB y x.a && !hasB y x.b
  | _ => !hasB y x.a && !hasB y x.b && !hasB y x.c
def comI (x y : Blk) : Int := (comP x y).getD (-1)
set_option maxRecDepth 100000 in
theorem l03Meet_any (x y : Blk) (w : World) : Calls Try.prog 103 #[bv x, bv y] w (RV (.int .i64 (comI x y)) w) := by
  have HW := Lib.hid fun p W => l01With_any y p W
  obtain ⟨xa, xb, xc⟩ := x
  obtain ⟨ya, yb, yc⟩ := y
  unfold bv at HW ⊢
  dsimp only at HW ⊢
  go_enter Try.func103, Try.ntmps103
  go_wp2
  go_loopw [5] (fun t wr => ∃ k : Nat, k ≤ 3 ∧ t = .int .i64 k ∧ Below w.heap.size w wr ∧ w.heap.size + 1 < wr.heap.size ∧ TwoX wr w.heap.size ⟨xa, xb, xc⟩ ⟨ya, yb, yc⟩ ∧ Hid (meetK ⟨xa, xb, xc⟩ ⟨ya, yb, yc⟩ k = true)) (fun t _ => 3 - (intOf t).toNat)
  case atStart => exact ⟨0, Nat.zero_le _, rfl, ((Below.refl _ _).alloc (Nat.le_refl _) _).alloc (by simp) _, by simp, by constructor <;> simp [go_sem], Lib.hid rfl⟩
  case round =>
    obtain ⟨k, hk, rfl, hB, hlt, hT, HK⟩ := hrel
    have hz := hB.size
    have HT := Lib.hid hT
    obtain ⟨c0, c1, c2, c3, c4, c5⟩ := hT
    dsimp only at c0 c1 c2 c3 c4 c5
    have hk3 : k = 0 ∨ k = 1 ∨ k = 2 ∨ k = 3 := by omega
    rcases hk3 with rfl | rfl | rfl | rfl
    · have hw1 := fun W => HW.out xa W
      cases hβ : hasB ⟨ya, yb, yc⟩ xa with
      | true =>
        rw [hβ] at hw1
        have HW1 := Lib.hid hw1
        have HB1 := Lib.hid hβ
        clear hw1 hβ
        go_wp2
        go_region_held3 (fun w' => w'.cell? ⟨w.heap.size, 0, none⟩ = some (.int .i64 xa) ∧ w'.cell? ⟨w.heap.size, 1, none⟩ = some (.int .i64 xb) ∧ w'.cell? ⟨w.heap.size, 2, none⟩ = some (.int .i64 xc) ∧ w'.cell? ⟨w.heap.size + 1, 0, none⟩ = some (.int .i64 ya) ∧ w'.cell? ⟨w.heap.size + 1, 1, none⟩ = some (.int .i64 yb) ∧ w'.cell? ⟨w.heap.size + 1, 2, none⟩ = some (.int .i64 yc))
          (first | exact ⟨d0, d1, d2, d3, d4, d5⟩ | go_keep)
          (first | (go_at_call 74; refine (HW1.out _).mono ?_; rintro e w4 ⟨rfl, hb4⟩; have hB4 : Below wr.heap.size wr w4 := (by first | exact hb4 | exact ((Below.refl _ _).drew).trans (hb4.mono (by simp))); have hT4 := HT.out.below hB4 hlt; obtain ⟨d0, d1, d2, d3, d4, d5⟩ := id hT4; dsimp only at d0 d1 d2 d3 d4 d5))
        all_goals
          go_wp2
          go_ret
          exact RV_of (int_eq (by have h1 := HK.out; have h2 := HB1.out; unfold meetK at h1; unfold comI comP; simp_all)) (hB.trans (hB4.mono hz))
      | false =>
        rw [hβ] at hw1
        have HW1 := Lib.hid hw1
        have HB1 := Lib.hid hβ
        clear hw1 hβ
        go_wp2
        go_region_held3 (fun w' => w'.cell? ⟨w.heap.size, 0, none⟩ = some (.int .i64 xa) ∧ w'.cell? ⟨w.heap.size, 1, none⟩ = some (.int .i64 xb) ∧ w'.cell? ⟨w.heap.size, 2, none⟩ = some (.int .i64 xc) ∧ w'.cell? ⟨w.heap.size + 1, 0, none⟩ = some (.int .i64 ya) ∧ w'.cell? ⟨w.heap.size + 1, 1, none⟩ = some (.int .i64 yb) ∧ w'.cell? ⟨w.heap.size + 1, 2, none⟩ = some (.int .i64 yc))
          (first | exact ⟨d0, d1, d2, d3, d4, d5⟩ | go_keep)
          (first | (go_at_call 74; refine (HW1.out _).mono ?_; rintro e w4 ⟨rfl, hb4⟩; have hB4 : Below wr.heap.size wr w4 := (by first | exact hb4 | exact ((Below.refl _ _).drew).trans (hb4.mono (by simp))); have hT4 := HT.out.below hB4 hlt; obtain ⟨d0, d1, d2, d3, d4, d5⟩ := id hT4; dsimp only at d0 d1 d2 d3 d4 d5))
        all_goals
          have hz4 := hB4.size
          go_wp2
          go_roundw
          case rel => exact ⟨1, by omega, by go_num, hB.trans (hB4.mono hz), by omega, hT4, Lib.hid (by have h1 := HK.out; have h2 := HB1.out; unfold meetK at h1 ⊢; simp_all)⟩
          case measure => simp [intOf]
    · have hw1 := fun W => HW.out xb W
      cases hβ : hasB ⟨ya, yb, yc⟩ xb with
      | true =>
        rw [hβ] at hw1
        have HW1 := Lib.hid hw1
        have HB1 := Lib.hid hβ
        clear hw1 hβ
        go_wp2
        go_region_held3 (fun w' => w'.cell? ⟨w.heap.size, 0, none⟩ = some (.int .i64 xa) ∧ w'.cell? ⟨w.heap.size, 1, none⟩ = some (.int .i64 xb) ∧ w'.cell? ⟨w.heap.size, 2, none⟩ = some (.int .i64 xc) ∧ w'.cell? ⟨w.heap.size + 1, 0, none⟩ = some (.int .i64 ya) ∧ w'.cell? ⟨w.heap.size + 1, 1, none⟩ = some (.int .i64 yb) ∧ w'.cell? ⟨w.heap.size + 1, 2, none⟩ = some (.int .i64 yc))
          (first | exact ⟨d0, d1, d2, d3, d4, d5⟩ | go_keep)
          (first | (go_at_call 74; refine (HW1.out _).mono ?_; rintro e w4 ⟨rfl, hb4⟩; have hB4 : Below wr.heap.size wr w4 := (by first | exact hb4 | exact ((Below.refl _ _).drew).trans (hb4.mono (by simp))); have hT4 := HT.out.below hB4 hlt; obtain ⟨d0, d1, d2, d3, d4, d5⟩ := id hT4; dsimp only at d0 d1 d2 d3 d4 d5))
        all_goals
          go_wp2
          go_ret
          exact RV_of (int_eq (by have h1 := HK.out; have h2 := HB1.out; unfold meetK at h1; unfold comI comP; simp_all)) (hB.trans (hB4.mono hz))
      | false =>
        rw [hβ] at hw1
        have HW1 := Lib.hid hw1
        have HB1 := Lib.hid hβ
        clear hw1 hβ
        go_wp2
        go_region_held3 (fun w' => w'.cell? ⟨w.heap.size, 0, none⟩ = some (.int .i64 xa) ∧ w'.cell? ⟨w.heap.size, 1, none⟩ = some (.int .i64 xb) ∧ w'.cell? ⟨w.heap.size, 2, none⟩ = some (.int .i64 xc) ∧ w'.cell? ⟨w.heap.size + 1, 0, none⟩ = some (.int .i64 ya) ∧ w'.cell? ⟨w.heap.size + 1, 1, none⟩ = some (.int .i64 yb) ∧ w'.cell? ⟨w.heap.size + 1, 2, none⟩ = some (.int .i64 yc))
          (first | exact ⟨d0, d1, d2, d3, d4, d5⟩ | go_keep)
          (first | (go_at_call 74; refine (HW1.out _).mono ?_; rintro e w4 ⟨rfl, hb4⟩; have hB4 : Below wr.heap.size wr w4 := (by first | exact hb4 | exact ((Below.refl _ _).drew).trans (hb4.mono (by simp))); have hT4 := HT.out.below hB4 hlt; obtain ⟨d0, d1, d2, d3, d4, d5⟩ := id hT4; dsimp only at d0 d1 d2 d3 d4 d5))
        all_goals
          have hz4 := hB4.size
          go_wp2
          go_roundw
          case rel => exact ⟨2, by omega, by go_num, hB.trans (hB4.mono hz), by omega, hT4, Lib.hid (by have h1 := HK.out; have h2 := HB1.out; unfold meetK at h1 ⊢; simp_all)⟩
          case measure => simp [intOf]
    · have hw1 := fun W => HW.out xc W
      cases hβ : hasB ⟨ya, yb, yc⟩ xc with
      | true =>
        rw [hβ] at hw1
        have HW1 := Lib.hid hw1
        have HB1 := Lib.hid hβ
        clear hw1 hβ
        go_wp2
        go_region_held3 (fun w' => w'.cell? ⟨w.heap.size, 0, none⟩ = some (.int .i64 xa) ∧ w'.cell? ⟨w.heap.size, 1, none⟩ = some (.int .i64 xb) ∧ w'.cell? ⟨w.heap.size, 2, none⟩ = some (.int .i64 xc) ∧ w'.cell? ⟨w.heap.size + 1, 0, none⟩ = some (.int .i64 ya) ∧ w'.cell? ⟨w.heap.size + 1, 1, none⟩ = some (.int .i64 yb) ∧ w'.cell? ⟨w.heap.size + 1, 2, none⟩ = some (.int .i64 yc))
          (first | exact ⟨d0, d1, d2, d3, d4, d5⟩ | go_keep)
          (first | (go_at_call 74; refine (HW1.out _).mono ?_; rintro e w4 ⟨rfl, hb4⟩; have hB4 : Below wr.heap.size wr w4 := (by first | exact hb4 | exact ((Below.refl _ _).drew).trans (hb4.mono (by simp))); have hT4 := HT.out.below hB4 hlt; obtain ⟨d0, d1, d2, d3, d4, d5⟩ := id hT4; dsimp only at d0 d1 d2 d3 d4 d5))
        all_goals
          go_wp2
          go_ret
          exact RV_of (int_eq (by have h1 := HK.out; have h2 := HB1.out; unfold meetK at h1; unfold comI comP; simp_all)) (hB.trans (hB4.mono hz))
      | false =>
        rw [hβ] at hw1
        have HW1 := Lib.hid hw1
        have HB1 := Lib.hid hβ
        clear hw1 hβ
        go_wp2
        go_region_held3 (fun w' => w'.cell? ⟨w.heap.size, 0, none⟩ = some (.int .i64 xa) ∧ w'.cell? ⟨w.heap.size, 1, none⟩ = some (.int .i64 xb) ∧ w'.cell? ⟨w.heap.size, 2, none⟩ = some (.int .i64 xc) ∧ w'.cell? ⟨w.heap.size + 1, 0, none⟩ = some (.int .i64 ya) ∧ w'.cell? ⟨w.heap.size + 1, 1, none⟩ = some (.int .i64 yb) ∧ w'.cell? ⟨w.heap.size + 1, 2, none⟩ = some (.int .i64 yc))
          (first | exact ⟨d0, d1, d2, d3, d4, d5⟩ | go_keep)
          (first | (go_at_call 74; refine (HW1.out _).mono ?_; rintro e w4 ⟨rfl, hb4⟩; have hB4 : Below wr.heap.size wr w4 := (by first | exact hb4 | exact ((Below.refl _ _).drew).trans (hb4.mono (by simp))); have hT4 := HT.out.below hB4 hlt; obtain ⟨d0, d1, d2, d3, d4, d5⟩ := id hT4; dsimp only at d0 d1 d2 d3 d4 d5))
        all_goals
          have hz4 := hB4.size
          go_wp2
          go_roundw
          case rel => exact ⟨3, by omega, by go_num, hB.trans (hB4.mono hz), by omega, hT4, Lib.hid (by have h1 := HK.out; have h2 := HB1.out; unfold meetK at h1 ⊢; simp_all)⟩
          case measure => simp [intOf]
    · go_wp2
      go_ret
      exact RV_of (int_eq (by have h1 := HK.out; unfold meetK at h1; unfold comI comP; simp_all)) hB
end Go.Proofs.Ytiomdfhhejdoiaa

namespace Go.Proofs.Ytiomdfhhejdoiaa
open Go.RowKit Go.Maps
def othersP (x : Blk) (a : Int) : Int × Int := if a = x.a then (x.b, x.c) else if a = x.b then (x.a, x.c) else (x.a, x.b)
set_option maxRecDepth 100000 in
theorem l03Others_any (x : Blk) (a : Int) (w : World) : Calls Try.prog 104 #[bv x, .int .i64 a] w (RV (.tuple #[.int .i64 (othersP x a).1, .int .i64 (othersP x a).2]) w) := by
  obtain ⟨xa, xb, xc⟩ := x
  unfold bv
  dsimp only
  by_cases ha : a = xa
  · have q1 : (a == xa) = true := by simpa using ha
    have q2 : decide (a = xa) = true := by simpa using ha
    have HV := Lib.hid (show othersP ⟨xa, xb, xc⟩ a = (xb, xc) by simp [othersP, ha])
    clear ha
    go_enter Try.func104, Try.ntmps104
    go_wp2
    go_quiet (fail)
    go_wp2
    go_ret2
    exact ⟨by rw [HV.out]; rfl, below_drewN ((Below.refl _ _).alloc (Nat.le_refl _) _) _⟩
  · have q1 : (a == xa) = false := by simpa using ha
    have q2 : decide (a = xa) = false := by simpa using ha
    by_cases hb : a = xb
    · have q3 : (a == xb) = true := by simpa using hb
      have q4 : decide (a = xb) = true := by simpa using hb
      have HV := Lib.hid (show othersP ⟨xa, xb, xc⟩ a = (xa, xc) by simp only [othersP]; rw [if_neg ha, if_pos hb])
      clear ha hb
      go_enter Try.func104, Try.ntmps104
      go_wp2
      go_quiet (fail)
      go_wp2
      go_ret2
      exact ⟨by rw [HV.out]; rfl, below_drewN ((Below.refl _ _).alloc (Nat.le_refl _) _) _⟩
    · have q3 : (a == xb) = false := by simpa using hb
      have q4 : decide (a = xb) = false := by simpa using hb
      have HV := Lib.hid (show othersP ⟨xa, xb, xc⟩ a = (xa, xb) by simp only [othersP]; rw [if_neg ha, if_neg hb])
      clear ha hb
      go_enter Try.func104, Try.ntmps104
      go_wp2
      go_quiet (fail)
      go_wp2
      go_ret2
      exact ⟨by rw [HV.out]; rfl, below_drewN ((Below.refl _ _).alloc (Nat.le_refl _) _) _⟩
end Go.Proofs.Ytiomdfhhejdoiaa

namespace Go.Proofs.Ytiomdfhhejdoiaa
open Go.RowKit Go.Maps
/-- Lexicographic, a shorter list first. -/
def lexL : List Int → List Int → Bool
  | [], [] => false
  | [], _ :: _ => true
  | _ :: _, [] => false
  | a :: r, b :: t => if a = b then lexL r t else decide (a < b)
theorem lexL_end (ps qs : List Int) (h : ps = [] ∨ qs = []) : lexL ps qs = decide (ps.length < qs.length) := by
  cases ps <;> cases qs <;> simp_all [lexL]
/-- Returns a value and draws alone. -/
def RD (v : Value) (w : World) (e : Ending) (w' : World) : Prop := e = .returned v ∧ ∃ n, w' = w.drewN n
theorem drewN_add (w : World) (a b : Nat) : (w.drewN a).drewN b = w.drewN (a + b) := by simp [World.drewN, Nat.add_assoc]
theorem RD_of {v u : Value} {w w' : World} {n : Nat} (h : u = v) (hw : w' = w.drewN n) : RD v w (.returned u) w' := ⟨by rw [h], n, hw⟩
theorem RD.rv {P : Program} {f : FuncId} {args : Array Value} {w : World} {v : Value} (h : Calls P f args w (RD v w)) : Calls P f args w (RV v w) :=
  h.mono fun _ _ ⟨he, n, hn⟩ => ⟨he, by rw [hn]; exact below_drewN (Below.refl _ _) _⟩
theorem RD.quiet2 {P : Program} {f : FuncId} {args : Array Value} {w : World} {a n : Nat} {v : Value} (h : Calls P f args (w.drewN (a + n)) (RD v (w.drewN (a + n)))) :
    Calls P f args (w.drewN (a + n)) fun e w'' => e = .returned v ∧ ∃ m, w'' = w.drewN (a + m) :=
  h.mono fun _ _ ⟨he, m, hm⟩ => ⟨he, n + m, by rw [hm, drewN_add, Nat.add_assoc]⟩
theorem RD.quiet {P : Program} {f : FuncId} {args : Array Value} {w : World} {n : Nat} {v : Value} (h : Calls P f args (w.drewN n) (RD v (w.drewN n))) :
    Calls P f args (w.drewN n) fun e w'' => e = .returned v ∧ ∃ m, w'' = w.drewN m :=
  h.mono fun _ _ ⟨he, m, hm⟩ => ⟨he, n + m, by rw [hm, drewN_add]⟩
set_option maxRecDepth 100000 in
theorem l03LessD_any (s t : Value) (ps qs : List Int) (w : World) (h : IB w s ps) (k : IB w t qs) : Calls Try.prog 121 #[s, t] w (RD (.bool (lexL ps qs)) w) := by
  have hs : ∃ a c, s = .slice a ps.length c := by rcases h.2 with ⟨a, c, rfl, rfl⟩ | ⟨b, off, cap, rfl, _⟩ <;> exact ⟨_, _, rfl⟩
  have ht : ∃ a c, t = .slice a qs.length c := by rcases k.2 with ⟨a, c, rfl, rfl⟩ | ⟨b, off, cap, rfl, _⟩ <;> exact ⟨_, _, rfl⟩
  have H := Lib.hid h
  have K := Lib.hid k
  have hl := h.1
  have kl := k.1
  clear h k
  obtain ⟨a0, c0, rfl⟩ := hs
  obtain ⟨a1, c1, rfl⟩ := ht
  go_enter Try.func121, Try.ntmps121
  go_wp2
  go_loopw [5] (fun i wr => ∃ k : Nat, k ≤ ps.length ∧ k ≤ qs.length ∧ i = .int .i64 k ∧ (∃ n, wr = w.drewN n) ∧ Hid (lexL ps qs = lexL (ps.drop k) (qs.drop k))) (fun i _ => ps.length - (intOf i).toNat)
  case atStart => exact ⟨0, Nat.zero_le _, Nat.zero_le _, rfl, ⟨0, rfl⟩, Lib.hid (by simp)⟩
  case round =>
    obtain ⟨k, hk1, hk2, rfl, ⟨n, rfl⟩, HE⟩ := hrel
    by_cases h1 : k < ps.length
    · have i1 : decide ((k : Int) < (ps.length : Int)) = true := by simpa using h1
      by_cases h2 : k < qs.length
      · have i2 : decide ((k : Int) < (qs.length : Int)) = true := by simpa using h2
        rcases H.out.2 with ⟨_, _, _, hnil⟩ | ⟨b, off, cap, hv, hlt, hI⟩
        · exfalso; rw [hnil] at h1; simp at h1
        rcases K.out.2 with ⟨_, _, _, hnil⟩ | ⟨b', off', cap', hv', hlt', hI'⟩
        · exfalso; rw [hnil] at h2; simp at h2
        simp at hv hv'
        obtain ⟨rfl, rfl⟩ := hv
        obtain ⟨rfl, rfl⟩ := hv'
        have d0 := hI k h1
        have d1 := hI' k h2
        have e0 : ps.drop k = (ps[k]?.getD 0) :: ps.drop (k + 1) := by rw [List.drop_eq_getElem_cons h1]; simp [h1]
        have e1 : qs.drop k = (qs[k]?.getD 0) :: qs.drop (k + 1) := by rw [List.drop_eq_getElem_cons h2]; simp [h2]
        obtain ⟨x, hx⟩ : ∃ x, x = ps[k]?.getD 0 := ⟨_, rfl⟩
        obtain ⟨y, hy⟩ : ∃ y, y = qs[k]?.getD 0 := ⟨_, rfl⟩
        rw [← hx] at d0 e0
        rw [← hy] at d1 e1
        have he := HE.out
        rw [e0, e1, lexL] at he
        have g0 : (0 : Int) ≤ (k : Int) := by omega
        have g1 : (k : Int) < (ps.length : Int) := by omega
        have g2 : (k : Int) < (qs.length : Int) := by omega
        clear hx hy e0 e1 hI hI' HE
        by_cases e : x = y
        · have q1 : (x != y) = false := by simpa using e
          have q2 : decide (x = y) = true := by simpa using e
          have HN := Lib.hid (show lexL ps qs = lexL (ps.drop (k + 1)) (qs.drop (k + 1)) by rw [he, if_pos e])
          clear he e
          go_wp2
          go_quiet (fail)
          go_wp2
          go_roundw
          case rel => exact ⟨k + 1, by omega, by omega, by go_num, ⟨_, rfl⟩, HN⟩
          case measure => simp [intOf]; omega
        · have q1 : (x != y) = true := by simpa using e
          have q2 : decide (x = y) = false := by simpa using e
          have HN := Lib.hid (show lexL ps qs = decide (x < y) by rw [he, if_neg e])
          clear he e
          go_wp2
          go_quiet (fail)
          go_wp2
          go_quiet (fail)
          go_wp2
          go_ret
          exact RD_of (bool_eq (by rw [HN.out])) (by simp only [drewN_add]; rfl)
      · have i2 : decide ((k : Int) < (qs.length : Int)) = false := by simpa using h2
        have HN := Lib.hid (show lexL ps qs = decide (ps.length < qs.length) by
          rw [HE.out, lexL_end _ _ (.inr (List.drop_eq_nil_of_le (by omega)))]
          rw [decide_eq_decide, List.length_drop, List.length_drop]
          omega)
        go_wp2
        go_ret
        exact RD_of (bool_eq (by rw [HN.out, decide_eq_decide] <;> omega)) rfl
    · have i1 : decide ((k : Int) < (ps.length : Int)) = false := by simpa using h1
      have HN := Lib.hid (show lexL ps qs = decide (ps.length < qs.length) by
        rw [HE.out, lexL_end _ _ (.inl (List.drop_eq_nil_of_le (by omega)))]
        rw [decide_eq_decide, List.length_drop, List.length_drop]
        omega)
      go_wp2
      go_ret
      exact RD_of (bool_eq (by rw [HN.out, decide_eq_decide] <;> omega)) rfl
theorem l03Less_any (s t : Value) (ps qs : List Int) (w : World) (h : IB w s ps) (k : IB w t qs) : Calls Try.prog 121 #[s, t] w (RV (.bool (lexL ps qs)) w) := RD.rv (l03LessD_any s t ps qs w h k)
end Go.Proofs.Ytiomdfhhejdoiaa

namespace Go.Proofs.Ytiomdfhhejdoiaa
open Go.RowKit Go.Maps
theorem lexL_irr : ∀ ps : List Int, lexL ps ps = false
  | [] => rfl
  | a :: r => by rw [lexL, if_pos rfl]; exact lexL_irr r
theorem lexL_eq : ∀ ps qs : List Int, lexL ps qs = false → lexL qs ps = false → ps = qs
  | [], [], _, _ => rfl
  | [], _ :: _, h, _ => by simp [lexL] at h
  | _ :: _, [], _, h => by simp [lexL] at h
  | a :: r, b :: t, h, k => by
    rw [lexL] at h k
    by_cases e : a = b
    · subst e
      rw [if_pos rfl] at h k
      rw [lexL_eq r t h k]
    · rw [if_neg e] at h
      rw [if_neg (fun q => e q.symm)] at k
      simp at h k
      omega
theorem lexL_trans : ∀ {ps qs rs : List Int}, lexL ps qs = true → lexL qs rs = true → lexL ps rs = true
  | [], [], _, h, _ => by simp [lexL] at h
  | [], _ :: _, [], _, h => by simp [lexL] at h
  | [], _ :: _, _ :: _, _, _ => by simp [lexL]
  | _ :: _, [], _, h, _ => by simp [lexL] at h
  | _ :: _, _ :: _, [], _, h => by simp [lexL] at h
  | a :: r, b :: t, c :: u, h, k => by
    rw [lexL] at h k ⊢
    by_cases e : a = b
    · subst e
      rw [if_pos rfl] at h
      by_cases e2 : a = c
      · subst e2
        rw [if_pos rfl] at k ⊢
        exact lexL_trans h k
      · rw [if_neg e2] at k ⊢
        exact k
    · rw [if_neg e] at h
      by_cases e2 : b = c
      · subst e2
        rw [if_neg e]
        exact h
      · rw [if_neg e2] at k
        simp at h k
        rw [if_neg (by omega)]
        simp
        omega
set_option maxRecDepth 100000 in
theorem l03SameD_any (s t : Value) (ps qs : List Int) (w : World) (h : IB w s ps) (k : IB w t qs) : Calls Try.prog 95 #[s, t] w (RD (.bool (decide (ps = qs))) w) := by
  have H1 := Lib.hid (l03LessD_any s t ps qs w h k)
  have H2 := Lib.hid fun W (hb : Below w.heap.size w W) => l03LessD_any t s qs ps W (k.below hb (Nat.le_refl _)) (h.below hb (Nat.le_refl _))
  clear h k
  cases e1 : lexL ps qs with
  | true =>
    have HV := Lib.hid (show decide (ps = qs) = false by
      rw [decide_eq_false_iff_not]
      rintro rfl
      rw [lexL_irr] at e1
      cases e1)
    rw [e1] at H1
    clear e1 H2
    go_enter Try.func95, Try.ntmps95
    go_wp2_with (go_at_call 121; refine H1.out.mono ?_; rintro e w1 ⟨rfl, n1, rfl⟩)
    go_ret
    exact RD_of (bool_eq (by rw [HV.out])) rfl
  | false =>
    obtain ⟨β, hβ⟩ : ∃ β, β = lexL qs ps := ⟨_, rfl⟩
    have HV := Lib.hid (show decide (ps = qs) = !β by
      cases h2 : lexL qs ps with
      | false => rw [hβ, h2]; simpa using lexL_eq ps qs e1 h2
      | true =>
        rw [hβ, h2]
        rw [Bool.not_true, decide_eq_false_iff_not]
        rintro rfl
        rw [lexL_irr] at h2
        cases h2)
    rw [e1] at H1
    rw [← hβ] at H2
    clear e1 hβ
    go_enter Try.func95, Try.ntmps95
    go_wp2_with fail
    refine H1.out.mono ?_
    rintro e w1 ⟨rfl, n1, rfl⟩
    go_wp2_with fail
    refine (H2.out _ (below_drewN (Below.refl _ _) _)).mono ?_
    rintro e w2 ⟨rfl, n2, rfl⟩
    go_wp2
    go_ret
    refine ⟨congrArg Ending.returned (bool_eq (by rw [HV.out])), ?_⟩
    exact ⟨_, rfl⟩
theorem l03Same_any (s t : Value) (ps qs : List Int) (w : World) (h : IB w s ps) (k : IB w t qs) : Calls Try.prog 95 #[s, t] w (RV (.bool (decide (ps = qs))) w) := RD.rv (l03SameD_any s t ps qs w h k)
end Go.Proofs.Ytiomdfhhejdoiaa

namespace Go.Proofs.Ytiomdfhhejdoiaa
open Go.RowKit Go.Maps
/-- Where the outline puts a row: behind the rows that it is not before, from the end on. -/
def putAt (L : List (List Int)) (r : List Int) : Nat → Nat
  | 0 => 0
  | k + 1 => if lexL r (L[k]?.getD []) then putAt L r k else k + 1
theorem putAt_le (L : List (List Int)) (r : List Int) : ∀ k, putAt L r k ≤ k
  | 0 => Nat.le_refl _
  | k + 1 => by
    have := putAt_le L r k
    unfold putAt
    split <;> omega
def putHas (L : List (List Int)) (r : List Int) : Bool := decide (0 < putAt L r L.length) && decide (L[putAt L r L.length - 1]?.getD [] = r)
/-- The outline's list with one more row. -/
def putL (L : List (List Int)) (r : List Int) : List (List Int) := if putHas L r then L else L.take (putAt L r L.length) ++ r :: L.drop (putAt L r L.length)
def insV {α : Type} (s : List α) (j : Nat) (y : α) : List α := s.take j ++ y :: s.drop j
theorem insV_len {α : Type} (s : List α) (j : Nat) (y : α) : (insV s j y).length = s.length + 1 := by
  unfold insV
  simp
  omega
theorem insV_end {α : Type} (s : List α) (y : α) : insV s s.length y = s ++ [y] := by simp [insV]
theorem insV_set {α : Type} (s : List α) (j : Nat) (y x : α) (h : j ≤ s.length) : (insV s j y).set j x = insV s j x := by
  have e : (s.take j).length = j := by rw [List.length_take]; omega
  unfold insV
  rw [List.set_append_right _ _ (by omega), e, Nat.sub_self, List.set_cons_zero]
theorem insV_get {α : Type} (s : List α) (j : Nat) (y : α) (h : j < s.length) : (insV s (j + 1) y)[j]? = s[j]? := by
  unfold insV
  rw [List.getElem?_append_left (by rw [List.length_take]; omega), List.getElem?_take_of_lt (by omega)]
theorem insV_shift {α : Type} (s : List α) (j : Nat) (y z : α) (h : j < s.length) (hz : s[j]? = some z) : (insV s (j + 1) y).set (j + 1) z = insV s j z := by
  rw [insV_set s (j + 1) y _ (by omega)]
  rw [List.getElem?_eq_getElem h] at hz
  injection hz with hz
  unfold insV
  rw [List.take_add_one, List.getElem?_eq_getElem h, List.append_assoc]
  conv => rhs; rw [List.drop_eq_getElem_cons h]
  simp [hz]
/-- A list of the call's own of row headers. -/
def RowsV (w : World) (base : Nat) (u : Value) (hs : List Value) : Prop := w.ownsRow base 26 1 u hs.length hs
theorem RowsV.kept {w w' : World} {base : Nat} {u : Value} {hs : List Value} (h : RowsV w base u hs) {row : Option Nat} (hg : w.grownBy w' row) (hr : row = none ∨ u.ownBlock ≠ row) : RowsV w' base u hs := ownsRow_kept h hg hr
theorem RowsV.below {w w' : World} {base : Nat} {u : Value} {hs : List Value} (h : RowsV w base u hs) {B : Nat} (hb : Below B w w') (hB : w.heap.size ≤ B) : RowsV w' base u hs :=
  h.kept (only_of_below (hb.mono hB) none) (.inl rfl)
theorem RowsV.setT {w : World} {base g n cap : Nat} {hs : List Value} (h : RowsV w base (.slice (some ⟨g, 0, none⟩) n cap) hs) {i : Nat} {x : Value} :
    RowsV (w.setCell ⟨g, i, none⟩ x) base (.slice (some ⟨g, 0, none⟩) n cap) (hs.set i x) ∧ w.grownBy (w.setCell ⟨g, i, none⟩ x) (some g) := by
  refine ⟨?_, only_setCell (only_refl w (some g)) rfl _⟩
  obtain ⟨_, h | ⟨g', cap', cur, e, hb, hcur, hn, hc, hsz, hx⟩⟩ := h
  · simp at h
  · simp at e
    obtain ⟨rfl, rfl, rfl⟩ := e
    have hl : (hs.set i x).length = hs.length := List.length_set
    unfold RowsV
    rw [hl]
    refine ⟨by simp, .inr ⟨g, cap, cur.setIfInBounds i x, rfl, hb, heap_setCell_same w g i cur _ _ hcur, hn, hc, by simp [hsz], ?_⟩⟩
    rw [Array.toList_setIfInBounds, List.take_set, hx]
theorem RowsV.at_ {w : World} {base g n cap : Nat} {hs : List Value} (h : RowsV w base (.slice (some ⟨g, 0, none⟩) n cap) hs) {i : Nat} {x : Value} (hi : hs[i]? = some x) : w.cell? ⟨g, i, none⟩ = some x ∧ base ≤ g ∧ g < w.heap.size ∧ n = hs.length ∧ w.frozen? ⟨g, i, none⟩ = false := by
  obtain ⟨_, h | ⟨g', cap', cur, e, hb, hcur, hn, hc, hsz, hx⟩⟩ := h
  · simp at h
  · simp at e
    obtain ⟨rfl, rfl, rfl⟩ := e
    have hil : i < hs.length := (List.getElem?_eq_some_iff.1 hi).1
    refine ⟨?_, hb, (Array.getElem?_eq_some_iff.1 hcur).1, rfl, by simp [World.frozen?, hcur]⟩
    rw [← hx, List.getElem?_take_of_lt (by omega)] at hi
    simp [World.cell?, hcur]
    simpa using hi
theorem RowsV.form {w : World} {base : Nat} {u : Value} {hs : List Value} (h : RowsV w base u hs) (h0 : 0 < hs.length) : ∃ g cap, u = .slice (some ⟨g, 0, none⟩) hs.length cap := by
  rcases h.2 with ⟨_, e⟩ | ⟨g, cap, cur, e, _⟩
  · omega
  · exact ⟨g, cap, e⟩
theorem wpList_append_hdr {w : World} {ops : Array Oper} {rest : List Oper} {o : Oper} {a : Act} {Q : Exit → Act → World → Prop} (hgd : o.guard = none) (s x : Operand)
    (ho : o.op = .call { callee := .builtin .append, args := #[s, x], argTypes := #[44, 44] })
    (base : Nat) (v : Value) (hs : List Value) (hsv : a.eval s = v) (hown : RowsV w base v hs) (b0 c : Nat) (hx : a.eval x = .slice (some ⟨b0, 0, none⟩) 1 c) (p : Option Addr) (n0 c0 : Nat)
    (c1 : w.cell? ⟨b0, 0, none⟩ = some (.slice p n0 c0)) (hl : hs.length ≤ 1100000) (hbase : base ≤ w.heap.size)
    (h : ∀ (G cap : Nat) (w' : World), RowsV w' base (.slice (some ⟨G, 0, none⟩) (hs.length + 1) cap) (hs ++ [.slice p n0 c0]) → w.grownBy w' v.ownBlock → (v.ownBlock = some G ∨ G = w.heap.size) → wpList Try.prog ops Q rest (a.put o.dst (.slice (some ⟨G, 0, none⟩) (hs.length + 1) cap)) w') : wpList Try.prog ops Q (o :: rest) a w := by
  obtain ⟨i0, hi, hz0, hz1, hz2⟩ := info_parts infoRow
  refine wpList_append_own_at w hgd s x 44 ho base 26 i0 _ 1 24 Try.underlying44 hi hz0 hz1 hz2 rfl (by decide) v hs.length _ hsv hown ⟨b0, 0, none⟩ 1 c [.slice p n0 c0] hx rfl ?_ ?_ (by unfold maxLen; omega) (by omega) hbase ?_
  · intro j u hj
    rw [addr_at, Nat.zero_add]
    match j, hj with
    | 0, hj => simp at hj; rw [← hj]; exact c1
    | j + 1, hj => simp at hj
  · intro u hu
    simp at hu
    rw [hu]
    rfl
  · intro v' w' hown' hg _ hob
    obtain ⟨G, cap, rfl⟩ := row_some hown'
    refine h G cap w' ?_ hg ?_
    · unfold RowsV
      rw [List.length_append]
      exact hown'
    · rcases hob with e | e
      · exact .inl (by rw [← e]; rfl)
      · exact .inr (by simpa [Value.ownBlock] using e)
end Go.Proofs.Ytiomdfhhejdoiaa

namespace Go.Proofs.Ytiomdfhhejdoiaa
open Go.RowKit Go.Maps
theorem gb_trans {a b c : World} {row : Option Nat} (h : a.grownBy b none) (k : b.grownBy c row) : a.grownBy c row :=
  ⟨k.os.trans h.os, k.tape.trans h.tape, k.output.trans h.output, Nat.le_trans h.size k.size, fun i hi hne => (k.block i (Nat.lt_of_lt_of_le hi h.size) hne).trans (h.block i hi (by simp))⟩
theorem gb_below {a b : World} (h : Below a.heap.size a b) : a.grownBy b none := only_of_below h none
theorem ResR.slice {w : World} {lo hi : Nat} {s : Value} {bs : List Blk} (h : ResR w lo hi s bs) : ∃ a c, s = .slice a bs.length c := by
  rcases h with ⟨rfl, a, c, rfl⟩ | ⟨g, cap, rfl, _⟩ <;> exact ⟨_, _, rfl⟩
set_option maxRecDepth 100000 in
theorem markSystem_any (lo hi : Nat) (v : Int) (s : Value) (bs : List Blk) (k : Int) (w : World) (h : ResR w lo hi s bs) (hl : bs.length ≤ 1100000) (h0 : 0 ≤ k) (h1 : k ≤ 9000000) :
    Calls Try.prog 18 #[.agg #[.int .i64 v, s], .int .i64 k] w (fun e w' => e = .returned (.int .i64 (k + 3 * bs.length)) ∧ (∃ row, w.grownBy w' row ∧ ∀ r, row = some r → lo ≤ r ∧ r < hi) ∧ ResR w' lo hi s (markL k bs.length)) := by
  have hc := markR lo hi s bs k (w.alloc (.cells #[.int .i64 v, s] 31)) (h.below ((Below.refl _ _).alloc (Nat.le_refl _) _) (Nat.le_refl _)) hl h0 h1
  have hs := h.slice
  have HC := Lib.hid hc
  clear hc h
  obtain ⟨a, c, rfl⟩ := hs
  go_enter Try.func18, Try.ntmps18
  go_wp2_with (go_at_call 50; refine HC.out.mono ?_; rintro e w1 ⟨rfl, hg, hr⟩)
  go_ret
  obtain ⟨row, hg, hrow⟩ := hg
  exact ⟨rfl, ⟨row, gb_trans (World.grownBy_alloc _ _ none) hg, hrow⟩, hr⟩
set_option maxRecDepth 100000 in
theorem heldSystem_any (lo hi : Nat) (v : Int) (s : Value) (n : Nat) (k : Int) (w : World) (h : ResR w lo hi s (markL k n)) (hl : n ≤ 1100000) (h0 : 0 ≤ k) (h1 : k ≤ 9000000) :
    Calls Try.prog 25 #[.agg #[.int .i64 v, s], .int .i64 k] w (RV (.int .i64 (k + 3 * n)) w) := by
  have hc := heldR lo hi s n k (w.alloc (.cells #[.int .i64 v, s] 31)) (h.below ((Below.refl _ _).alloc (Nat.le_refl _) _) (Nat.le_refl _)) hl h0 h1
  have hs := h.slice
  obtain ⟨m, hm⟩ : ∃ m, m = k + 3 * (n : Int) := ⟨_, rfl⟩
  rw [← hm] at hc ⊢
  have m0 : 0 ≤ m := by omega
  have HC := Lib.hid hc
  clear hc h hm
  obtain ⟨a, c, rfl⟩ := hs
  go_enter Try.func25, Try.ntmps25
  go_wp2_with (go_at_call 61; refine HC.out.mono ?_; rintro e w1 ⟨rfl, rfl⟩)
  go_ret
  exact RV_of rfl ((Below.refl _ _).alloc (Nat.le_refl _) _)
end Go.Proofs.Ytiomdfhhejdoiaa

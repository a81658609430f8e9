
/- Rows of rows of integers: equality, marks, and that they are still there. Rows of rows of integers that a call makes by append; the squares of few points. The common point of two blocks: the program's and the model's. The model's common point of two blocks. The model's other points of a block. The model's order of lists of integers. The model's test whether two lists are the same, and its number of a block. A list of rows as a list of headers: what l03Put writes. What the outline's lists of rows hold: ascending, each row once. -/
import Derived.Test.YtoicdfdfajfopaaJ5
import Derived.Deep.RegionWith
import Derived.Deep.RegionHeld3
import Derived.BigQuiet
namespace Go.Proofs.Ytoicdfdfajfopaa
open Go.RowKit Go.Maps
/-- The value is a slice of just these n rows. -/
def SSB (w : World) (s : Value) (n : Nat) (F : Nat → List Int) : Prop :=
  n ≤ 1100000 ∧ ((n = 0 ∧ ∃ a c, s = .slice a 0 c) ∨ ∃ b off cap, s = .slice (some ⟨b, off, none⟩) n cap ∧ b < w.heap.size ∧ ∀ k, k < n → ∃ a c, w.cell? ⟨b, off + k, none⟩ = some (.slice a (F k).length c) ∧ IB w (.slice a (F k).length c) (F k))
theorem SSB.below {w w' : World} {s : Value} {n : Nat} {F : Nat → List Int} (h : SSB w s n F) {B : Nat} (hb : Below B w w') (hB : w.heap.size ≤ B) : SSB w' s n F := by
  obtain ⟨h1, h2⟩ := h
  refine ⟨h1, ?_⟩
  rcases h2 with h2 | ⟨b, off, cap, rfl, hl, hr⟩
  · exact .inl h2
  · refine .inr ⟨b, off, cap, rfl, by have := hb.size; omega, fun k hk => ?_⟩
    obtain ⟨a, c, hc, hi⟩ := hr k hk
    exact ⟨a, c, (hb.cell (by simp; omega)).trans hc, hi.below hb hB⟩
theorem SSB.slice {w : World} {s : Value} {n : Nat} {F : Nat → List Int} (h : SSB w s n F) : ∃ a c, s = .slice a n c := by
  rcases h.2 with ⟨rfl, a, c, rfl⟩ | ⟨b, off, cap, rfl, _⟩ <;> exact ⟨_, _, rfl⟩
set_option maxRecDepth 100000 in
theorem eqInt64SS_same (s t : Value) (n : Nat) (F : Nat → List Int) (w : World) (h : SSB w s n F) (k : SSB w t n F) : Calls Try.prog 33 #[s, t] w (RV (.bool true) w) := by
  have hn := h.1
  by_cases h0 : n = 0
  · obtain ⟨a, c, rfl⟩ := h.slice
    obtain ⟨a', c', rfl⟩ := k.slice
    subst h0
    clear h k hn
    go_enter Try.func33, Try.ntmps33
    go_wp2
    refine wp_loop_rounds 1 ?_
    rw [rounds_succ]
    go_wp2
    go_ret
    exact RV_of rfl (Below.refl _ _)
  · rcases h.2 with ⟨e, _⟩ | ⟨b, off, cap, rfl, hb, hB⟩
    · exact absurd e h0
    · rcases k.2 with ⟨e, _⟩ | ⟨b', off', cap', rfl, hb', hB'⟩
      · exact absurd e h0
      · have HB := Lib.hid hB
        have HB' := Lib.hid hB'
        clear hB hB' h k h0
        have hne : (((n : Nat) : Int) != (n : Nat)) = false := by simp
        go_enter Try.func33, Try.ntmps33
        go_wp2
        go_loopw [5] (fun i wr => ∃ k : Nat, k ≤ n ∧ i = .int .i64 k ∧ Below w.heap.size w wr) (fun i _ => n - (intOf i).toNat)
        case atStart => exact ⟨0, Nat.zero_le _, rfl, Below.refl _ _⟩
        case round =>
          obtain ⟨k, hk, rfl, hBw⟩ := hrel
          by_cases hkl : k < n
          · obtain ⟨a1, c1, q1, i1⟩ := HB.out k hkl
            obtain ⟨a2, c2, q2, i2⟩ := HB'.out k hkl
            have q1 := (hBw.cell (p := ⟨b, off + k, none⟩) hb).trans q1
            have q2 := (hBw.cell (p := ⟨b', off' + k, none⟩) hb').trans q2
            have I1 := Lib.hid (i1.below hBw (Nat.le_refl _))
            have I2 := Lib.hid (i2.below hBw (Nat.le_refl _))
            clear i1 i2
            have g0 : (0 : Int) ≤ (k : Int) := by omega
            have g1 : (k : Int) < (n : Int) := by omega
            go_wp2_with fail
            go_region_with (go_at_call 21; refine (eqInt64S_same _ _ (F k) _ (I1.out.below ((Below.refl _ _).drew) (Nat.le_refl _)) (I2.out.below ((Below.refl _ _).drew) (Nat.le_refl _))).mono ?_; rintro e w1 ⟨rfl, hb1⟩)
            all_goals
              go_wp2_with fail
              go_roundw
              case rel => exact ⟨k + 1, by omega, by go_num, (hBw.drew).trans (hb1.mono (by have := hBw.size; simp; omega))⟩
              case measure => simp [intOf]; omega
          · go_wp2
            go_ret
            exact RV_of rfl hBw
/-- Rows of its own: the head at block G, the k-th row at block gs k. -/
structure SSR (w : World) (lo G : Nat) (gs caps : Nat → Nat) (n : Nat) (F : Nat → List Int) : Prop where
  cell : ∀ k, k < n → w.cell? ⟨G, k, none⟩ = some (.slice (some ⟨gs k, 0, none⟩) (F k).length (caps k))
  row : ∀ k, k < n → OwnAtI w (gs k) (F k)
  ne : ∀ k, k < n → gs k ≠ G
  inc : ∀ j k, j < k → k < n → gs j ≠ gs k
  low : ∀ k, k < n → lo ≤ gs k
  lt : G < w.heap.size
theorem SSR.kept {w w' : World} {lo G : Nat} {gs caps : Nat → Nat} {n : Nat} {F : Nat → List Int} (h : SSR w lo G gs caps n F) {row : Option Nat} (hg : w.grownBy w' row) (hG : some G ≠ row) (hr : ∀ k, k < n → some (gs k) ≠ row) : SSR w' lo G gs caps n F :=
  ⟨fun k hk => hg.cell (h.cell k hk) (by simpa using hG), fun k hk => (h.row k hk).kept hg (hr k hk), h.ne, h.inc, h.low, Nat.lt_of_lt_of_le h.lt hg.size⟩
theorem SSR.below {w w' : World} {lo G : Nat} {gs caps : Nat → Nat} {n : Nat} {F : Nat → List Int} (h : SSR w lo G gs caps n F) {B : Nat} (hb : Below B w w') (hB : w.heap.size ≤ B) : SSR w' lo G gs caps n F :=
  h.kept (only_of_below (hb.mono hB) none) (by simp) (by simp)
theorem SSR.sb {w : World} {lo G cap : Nat} {gs caps : Nat → Nat} {n : Nat} {F : Nat → List Int} (h : SSR w lo G gs caps n F) (hn : n ≤ 1100000) (hF : ∀ k, k < n → (F k).length ≤ 1100000) : SSB w (.slice (some ⟨G, 0, none⟩) n cap) n F :=
  ⟨hn, .inr ⟨G, 0, cap, rfl, h.lt, fun k hk => ⟨_, _, by rw [Nat.zero_add]; exact h.cell k hk, ⟨hF k hk, .inr ⟨gs k, 0, caps k, rfl, (h.row k hk).lt, (h.row k hk).at_⟩⟩⟩⟩⟩
/-- How many integers the first k rows hold. -/
def tot (F : Nat → List Int) : Nat → Nat
  | 0 => 0
  | k + 1 => tot F k + (F k).length
theorem tot_le (F : Nat → List Int) {j n : Nat} (h : j ≤ n) : tot F j ≤ tot F n := by
  induction h with
  | refl => exact Nat.le_refl _
  | step _ ih => exact Nat.le_trans ih (by simp [tot])
/-- The rows after marking. -/
def markSS (k0 : Int) (F : Nat → List Int) (j : Nat) : List Int := markI (k0 + tot F j) (F j).length
theorem SSR.mark1 {w w' : World} {lo G : Nat} {gs caps : Nat → Nat} {n : Nat} {F : Nat → List Int} (h : SSR w lo G gs caps n F) {j : Nat} (hj : j < n) (L : List Int) (hL : L.length = (F j).length) (hg : w.grownBy w' (some (gs j))) (ho : OwnAtI w' (gs j) L) :
    SSR w' lo G gs caps n (fun k => if k = j then L else F k) := by
  refine ⟨fun k hk => ?_, fun k hk => ?_, h.ne, h.inc, h.low, Nat.lt_of_lt_of_le h.lt hg.size⟩
  · have hc := hg.cell (h.cell k hk) (by simpa using Ne.symm (h.ne j hj))
    split
    · subst k
      rw [hL]; exact hc
    · exact hc
  · split
    · subst k; exact ho
    · refine (h.row k hk).kept hg (fun e => ?_)
      have e : gs k = gs j := by simpa using e
      rcases Nat.lt_trichotomy k j with hlt | rfl | hlt
      · have := h.inc k j hlt hj; omega
      · contradiction
      · have := h.inc j k hlt hk; omega
def partSS (k0 : Int) (F : Nat → List Int) (j : Nat) : Nat → List Int := fun k => if k < j then markSS k0 F k else F k
theorem partSS_len (k0 : Int) (F : Nat → List Int) (j k : Nat) : (partSS k0 F j k).length = (F k).length := by
  unfold partSS markSS
  split
  · rw [markI_length]
  · rfl
theorem partSS_succ (k0 : Int) (F : Nat → List Int) (j : Nat) : (fun k => if k = j then markSS k0 F j else partSS k0 F j k) = partSS k0 F (j + 1) := by
  funext k
  unfold partSS
  by_cases h : k = j
  · subst h; simp
  · rw [if_neg h]
    by_cases h2 : k < j
    · rw [if_pos h2, if_pos (by omega)]
    · rw [if_neg h2, if_neg (by omega)]
theorem SSR.congr {w : World} {lo G : Nat} {gs caps : Nat → Nat} {n : Nat} {F F' : Nat → List Int} (h : SSR w lo G gs caps n F) (e : ∀ k, k < n → F k = F' k) : SSR w lo G gs caps n F' :=
  ⟨fun k hk => by rw [← e k hk]; exact h.cell k hk, fun k hk => by rw [← e k hk]; exact h.row k hk, h.ne, h.inc, h.low, h.lt⟩
set_option maxRecDepth 100000 in
theorem markInt64SS_any (lo G cap : Nat) (gs caps : Nat → Nat) (n : Nat) (F : Nat → List Int) (k0 : Int) (w : World) (h : SSR w lo G gs caps n F) (hl : n ≤ 1100000) (hlo : lo ≤ w.heap.size) (hT : tot F n ≤ 1100000) (h0 : 0 ≤ k0) (h1 : k0 ≤ 5000000) :
    Calls Try.prog 34 #[.slice (some ⟨G, 0, none⟩) n cap, .int .i64 k0] w (fun e w' => e = .returned (.int .i64 (k0 + tot F n)) ∧ Below lo w w' ∧ SSR w' lo G gs caps n (markSS k0 F)) := by
  have H := Lib.hid h
  clear h
  go_enter Try.func34, Try.ntmps34
  go_wp2
  go_loopw [1, 5] (fun t i wr => ∃ j : Nat, j ≤ n ∧ i = .int .i64 j ∧ t = .int .i64 (k0 + tot F j) ∧ Below lo w wr ∧ SSR wr lo G gs caps n (partSS k0 F j)) (fun _ i _ => n - (intOf i).toNat)
  case atStart => exact ⟨0, Nat.zero_le _, rfl, by simp [tot], Below.refl _ _, H.out.congr (fun k _ => by simp [partSS])⟩
  case round =>
    obtain ⟨j, hj, rfl, rfl, hB, hS⟩ := hrel
    have hSz := hB.size
    by_cases hjl : j < n
    · have c1 := hS.cell j hjl
      have hrow := hS.row j hjl
      have hlow := hS.low j hjl
      have hlen := partSS_len k0 F j j
      have hFj : partSS k0 F j j = F j := by simp [partSS]
      rw [hFj] at c1 hrow
      have htj : tot F (j + 1) ≤ tot F n := tot_le F hjl
      have htj' : tot F (j + 1) = tot F j + (F j).length := rfl
      have HS := Lib.hid hS
      have HM := Lib.hid (markInt64S_any (gs j) (caps j) (F j) (k0 + tot F j) wr hrow (by omega) (by omega) (by omega))
      clear hlen hFj hrow hS
      have g0 : (0 : Int) ≤ (j : Int) := by omega
      have g1 : (j : Int) < (n : Int) := by omega
      go_wp2_with (go_at_call 25; refine HM.out.mono ?_; rintro e w1 ⟨rfl, hg1, ho1⟩)
      go_roundw
      case rel => exact ⟨j + 1, by omega, by go_num, int_eq (by rw [htj']; omega), hB.grown hg1 (by omega) (fun r e => by simp at e; omega), by
        have := HS.out.mark1 hjl (markSS k0 F j) (by unfold markSS; rw [markI_length, partSS_len]) hg1 ho1
        rw [partSS_succ] at this
        exact this⟩
      case measure => simp [intOf]; omega
    · go_wp2
      go_ret
      have e : j = n := by omega
      subst e
      exact ⟨rfl, hB, hS.congr (fun k hk => by simp [partSS, hk])⟩
set_option maxRecDepth 100000 in
theorem heldInt64SS_any (lo G cap : Nat) (gs caps : Nat → Nat) (n : Nat) (F : Nat → List Int) (k0 : Int) (w : World) (h : SSR w lo G gs caps n (markSS k0 F)) (hl : n ≤ 1100000) (hT : tot F n ≤ 1100000) (h0 : 0 ≤ k0) (h1 : k0 ≤ 5000000) :
    Calls Try.prog 35 #[.slice (some ⟨G, 0, none⟩) n cap, .int .i64 k0] w (RS (.int .i64 (k0 + tot F n)) w) := by
  have H := Lib.hid h
  clear h
  go_enter Try.func35, Try.ntmps35
  go_wp2
  go_loop [1, 5] (fun t i => ∃ j : Nat, j ≤ n ∧ i = .int .i64 j ∧ t = .int .i64 (k0 + tot F j)) (fun _ i => n - (intOf i).toNat)
  case atStart => exact ⟨0, Nat.zero_le _, rfl, by simp [tot]⟩
  case round =>
    obtain ⟨j, hj, rfl, rfl⟩ := hrel
    by_cases hjl : j < n
    · have c1 := H.out.cell j hjl
      have hrow := (H.out.row j hjl).at_
      have htj : tot F (j + 1) ≤ tot F n := tot_le F hjl
      have htj' : tot F (j + 1) = tot F j + (F j).length := rfl
      have hmm : (markSS k0 F j).length = (F j).length := by unfold markSS; rw [markI_length]
      rw [hmm] at c1
      have HM := Lib.hid (heldInt64S_any (gs j) (caps j) (F j).length (k0 + tot F j) w hrow (by omega) (by omega) (by omega))
      clear hmm hrow
      obtain ⟨m, hm⟩ : ∃ m, m = k0 + (tot F j : Int) + ((F j).length : Int) := ⟨_, rfl⟩
      rw [← hm] at HM
      have hm0 : 0 ≤ m := by omega
      have HME := Lib.hid hm
      clear hm
      have g0 : (0 : Int) ≤ (j : Int) := by omega
      have g1 : (j : Int) < (n : Int) := by omega
      go_wp2_with (go_at_call 26; refine HM.out.mono ?_; rintro e w1 ⟨rfl, rfl⟩)
      go_round
      case rel => exact ⟨j + 1, by omega, by go_num, int_eq (by rw [htj', HME.out]; omega)⟩
      case measure => simp [intOf]; omega
    · go_wp2
      go_ret
      have e : j = n := by omega
      subst e
      exact RS_of rfl
end Go.Proofs.Ytoicdfdfajfopaa

namespace Go.Proofs.Ytoicdfdfajfopaa
open Go.RowKit Go.Maps
theorem infoRow : (Try.prog.info? 25).map (fun i => (i.zero, i.size, i.bytes)) = some (some (.slice none 0 0), 1, 24) := by kernel_rfl
def rowV (gs caps : Nat → Nat) (F : Nat → List Int) (k : Nat) : Value := .slice (some ⟨gs k, 0, none⟩) (F k).length (caps k)
/-- The value owns a slice of n rows, each in a block of its own. -/
structure AccS (w : World) (base : Nat) (u : Value) (n : Nat) (gs caps : Nat → Nat) (F : Nat → List Int) : Prop where
  own : w.ownsRow base 25 1 u n ((List.range n).map (rowV gs caps F))
  row : ∀ k, k < n → OwnAtI w (gs k) (F k)
  ne : ∀ k, k < n → u.ownBlock ≠ some (gs k)
  inc : ∀ j k, j < k → k < n → gs j ≠ gs k
  low : ∀ k, k < n → base ≤ gs k
theorem ownsRow_lt {w : World} {base : Nat} {e : TypeId} {size n : Nat} {u : Value} {xs : List Value} (h : w.ownsRow base e size u n xs) : ∀ r, u.ownBlock = some r → base ≤ r ∧ r < w.heap.size := fun r hr => by
  rcases h.2 with ⟨rfl, _⟩ | ⟨g, cap, cur, rfl, hb, hcur, _⟩
  · simp [Value.ownBlock] at hr
  · obtain rfl : g = r := by simpa [Value.ownBlock] using hr
    exact ⟨hb, (Array.getElem?_eq_some_iff.1 hcur).1⟩
theorem ownsRow_kept {w w' : World} {base : Nat} {e : TypeId} {size n : Nat} {u : Value} {xs : List Value} {row : Option Nat} (h : w.ownsRow base e size u n xs) (hg : w.grownBy w' row) (hr : row = none ∨ u.ownBlock ≠ row) : w'.ownsRow base e size u n xs := by
  obtain ⟨hl, h | ⟨g, cap, cur, rfl, hb, hcur, hrest⟩⟩ := h
  · exact ⟨hl, .inl h⟩
  · exact ⟨hl, .inr ⟨g, cap, cur, rfl, hb, (hg.block g (Array.getElem?_eq_some_iff.1 hcur).1 (fun e => by
      rcases hr with rfl | hr
      · cases e
      · exact hr (by rw [← e]; rfl))).trans hcur, hrest⟩⟩
section
variable {w w' : World} {base : Nat} {u : Value} {n : Nat} {gs caps : Nat → Nat} {F : Nat → List Int}
theorem AccS.kept (h : AccS w base u n gs caps F) {row : Option Nat} (hg : w.grownBy w' row) (hu : row = none ∨ u.ownBlock ≠ row) (hr : ∀ k, k < n → some (gs k) ≠ row) : AccS w' base u n gs caps F :=
  ⟨ownsRow_kept h.own hg hu, fun k hk => (h.row k hk).kept hg (hr k hk), h.ne, h.inc, h.low⟩
theorem AccS.below (h : AccS w base u n gs caps F) {B : Nat} (hb : Below B w w') (hB : w.heap.size ≤ B) : AccS w' base u n gs caps F :=
  h.kept (only_of_below (hb.mono hB) none) (.inl rfl) (by simp)
theorem AccS.nil (w : World) (base : Nat) (gs caps : Nat → Nat) (F : Nat → List Int) : AccS w base (.slice none 0 0) 0 gs caps F :=
  ⟨⟨rfl, .inl ⟨rfl, rfl⟩⟩, fun k hk => by omega, fun k hk => by omega, fun j k _ hk => by omega, fun k hk => by omega⟩
theorem AccS.ssr (h : AccS w base u n gs caps F) (hn : 0 < n) : ∃ G cap, u = .slice (some ⟨G, 0, none⟩) n cap ∧ base ≤ G ∧ SSR w base G gs caps n F := by
  obtain ⟨⟨hl, h1⟩, h2, h3, h4, h5⟩ := h
  rcases h1 with ⟨_, h0⟩ | ⟨g, cap, cur, rfl, hb, hcur, hn', hc, hsz, hx⟩
  · omega
  · refine ⟨g, cap, rfl, hb, ⟨fun k hk => ?_, h2, fun k hk e => h3 k hk (by rw [e]; rfl), h4, h5, (Array.getElem?_eq_some_iff.1 hcur).1⟩⟩
    have e : ((List.range n).map (rowV gs caps F))[k]? = some (rowV gs caps F k) := by simp [hk]
    rw [← hx, List.getElem?_take_of_lt (by omega)] at e
    simp [World.cell?, hcur]
    simpa [rowV] using e
end
theorem map_congr' {α β : Type} {f g : α → β} {l : List α} (h : ∀ x ∈ l, f x = g x) : l.map f = l.map g := List.map_congr_left h
theorem wpList_append_row {w : World} {ops : Array Oper} {rest : List Oper} {o : Oper} {a : Act} {Q : Exit → Act → World → Prop} (hgd : o.guard = none) (s x : Operand)
    (ho : o.op = .call { callee := .builtin .append, args := #[s, x], argTypes := #[46, 46] })
    (base : Nat) (v : Value) (n : Nat) (gs caps : Nat → Nat) (F : Nat → List Int) (hs : a.eval s = v) (hown : AccS w base v n gs caps F) (b0 c : Nat) (hx : a.eval x = .slice (some ⟨b0, 0, none⟩) 1 c) (g cg : Nat)
    (c1 : w.cell? ⟨b0, 0, none⟩ = some (.slice (some ⟨g, 0, none⟩) (F n).length cg)) (hrow : OwnAtI w g (F n)) (hgt : ∀ k, k < n → gs k < g) (hng : v.ownBlock ≠ some g) (hbg : base ≤ g) (hl : n ≤ 1100000) (hbase : base ≤ w.heap.size)
    (h : ∀ (G cap : Nat) (w' : World) (gs' caps' : Nat → Nat), AccS w' base (.slice (some ⟨G, 0, none⟩) (n + 1) cap) (n + 1) gs' caps' F → w.grownBy w' v.ownBlock → wpList Try.prog ops Q rest (a.put o.dst (.slice (some ⟨G, 0, none⟩) (n + 1) cap)) w') : wpList Try.prog ops Q (o :: rest) a w := by
  obtain ⟨i0, hi, hz0, hz1, hz2⟩ := info_parts infoRow
  refine wpList_append_own_at w hgd s x 46 ho base 25 i0 _ 1 24 Try.underlying46 hi hz0 hz1 hz2 rfl (by decide) v n _ hs hown.own ⟨b0, 0, none⟩ 1 c [.slice (some ⟨g, 0, none⟩) (F n).length cg] hx rfl ?_ ?_ (by unfold maxLen; omega) (by omega) hbase ?_
  · intro j u hj
    rw [addr_at, Nat.zero_add]
    match j, hj with
    | 0, hj => simp at hj; rw [← hj]; exact c1
    | j + 1, hj => simp at hj
  · intro u hu
    simp at hu
    rw [hu]
    rfl
  · intro v' w' hown' hg _ hob
    obtain ⟨G, cap, rfl⟩ := row_some hown'
    have hGg : G ≠ g := by
      rintro rfl
      rcases hob with e | e
      · exact hng (by rw [← e]; rfl)
      · simp [Value.ownBlock] at e
        have := hrow.lt
        omega
    refine h G cap w' (fun k => if k = n then g else gs k) (fun k => if k = n then cg else caps k) ⟨?_, fun k hk => ?_, fun k hk => ?_, fun j k hjk hk => ?_, fun k hk => ?_⟩ hg
    · rw [List.range_succ, List.map_append, List.map_singleton]
      have e1 : (List.range n).map (rowV (fun k => if k = n then g else gs k) (fun k => if k = n then cg else caps k) F) = (List.range n).map (rowV gs caps F) := map_congr' fun k hk => by
        have : k ≠ n := by have := List.mem_range.1 hk; omega
        simp [rowV, this]
      rw [e1]
      simpa [rowV] using hown'
    · split
      · subst k; exact hrow.kept hg (fun e => hng e.symm)
      · exact (hown.row k (by omega)).kept hg (fun e => hown.ne k (by omega) e.symm)
    · split
      · simpa [Value.ownBlock] using hGg
      · intro e
        have e' : G = gs k := by simpa [Value.ownBlock] using e
        rcases hob with e2 | e2
        · exact hown.ne k (by omega) (by rw [← e2, e])
        · simp [Value.ownBlock] at e2
          have := (hown.row k (by omega)).lt
          omega
    · rw [if_neg (by omega)]
      split
      · exact Nat.ne_of_lt (hgt j (by omega))
      · exact hown.inc j k hjk (by omega)
    · split
      · exact hbg
      · exact hown.low k (by omega)
/-- A slice of rows and a code. -/
def RSS (n : Nat) (F : Nat → List Int) (κ : Int) (w : World) (e : Ending) (w' : World) : Prop :=
  ∃ u G cap gs caps, e = .returned (.tuple #[u, .int .i64 κ]) ∧ Below w.heap.size w w' ∧ u = .slice (some ⟨G, 0, none⟩) n cap ∧ w.heap.size ≤ G ∧ SSR w' w.heap.size G gs caps n F
def hf (n s : Int) : Int := if (s % n) % 2 = 0 then (s % n) / 2 else if n % 2 = 0 then (s % n + n - 1) / 2 else (s % n + n) / 2
def rowP (n k : Nat) (j : Nat) : List Int := (List.range j).map fun (y : Nat) => hf n ((k : Int) + (y : Int))
def rowF (n k : Nat) : List Int := rowP n k n
theorem rowP_len (n k j : Nat) : (rowP n k j).length = j := by simp [rowP]
theorem rowP_succ (n k j : Nat) : rowP n k (j + 1) = rowP n k j ++ [hf n ((k : Int) + (j : Int))] := by simp [rowP, List.range_succ]
theorem rowP_next (n k j : Nat) (h : j < n) : (rowP n k j ++ List.replicate (n - j) 0).set j (hf n ((k : Int) + (j : Int))) = rowP n k (j + 1) ++ List.replicate (n - (j + 1)) 0 := by
  rw [rowP_succ, show n - j = (n - (j + 1)) + 1 by omega, List.replicate_succ, List.set_append_right _ _ (by rw [rowP_len]; omega), rowP_len, Nat.sub_self, List.set_cons_zero, List.append_assoc]
  rfl
theorem made_ints (w : World) (n : Nat) (T : TypeId) : OwnAtI (w.alloc (.cells (madeCells #[.int .i64 0] n) T)) w.heap.size (List.replicate n 0) := by
  refine ⟨by simp, fun k hk => ?_, fun o => by simp⟩
  rw [List.length_replicate] at hk
  rw [World.cell?_alloc_at _ _ _ _ rfl]
  simp [madeCells, hk, Nat.mod_one]
end Go.Proofs.Ytoicdfdfajfopaa

namespace Go.Proofs.Ytoicdfdfajfopaa
open Go.RowKit Go.Maps
/-- The first point of b that is in c. -/
def comP (b c : Blk) : Option Int := if hasB c b.a then some b.a else if hasB c b.b then some b.b else if hasB c b.c then some b.c else none
theorem inL_has (p : Int) (x : Blk) : inL p [x.a, x.b, x.c] = hasB x p := by
  rw [Bool.eq_iff_iff]
  simp [inL, hasB]
  omega
end Go.Proofs.Ytoicdfdfajfopaa

namespace Go.Proofs.Ytoicdfdfajfopaa
open Go.RowKit Go.Maps
/-- TwoX blocks that came in, in their boxes. -/
structure TwoX (w' : World) (b : Nat) (x y : Blk) : Prop where
  x0 : w'.cell? ⟨b, 0, none⟩ = some (.int .i64 x.a)
  x1 : w'.cell? ⟨b, 1, none⟩ = some (.int .i64 x.b)
  x2 : w'.cell? ⟨b, 2, none⟩ = some (.int .i64 x.c)
  y0 : w'.cell? ⟨b + 1, 0, none⟩ = some (.int .i64 y.a)
  y1 : w'.cell? ⟨b + 1, 1, none⟩ = some (.int .i64 y.b)
  y2 : w'.cell? ⟨b + 1, 2, none⟩ = some (.int .i64 y.c)
theorem TwoX.below {w w' : World} {b B : Nat} {x y : Blk} (h : TwoX w b x y) (hb : Below B w w') (hB : b + 1 < B) : TwoX w' b x y :=
  ⟨(hb.cell (p := ⟨b, 0, none⟩) (by show b < B; omega)).trans h.x0, (hb.cell (p := ⟨b, 1, none⟩) (by show b < B; omega)).trans h.x1, (hb.cell (p := ⟨b, 2, none⟩) (by show b < B; omega)).trans h.x2, (hb.cell (p := ⟨b + 1, 0, none⟩) hB).trans h.y0, (hb.cell (p := ⟨b + 1, 1, none⟩) hB).trans h.y1, (hb.cell (p := ⟨b + 1, 2, none⟩) hB).trans h.y2⟩
def meetK (x y : Blk) : Nat → Bool
  | 0 => true
  | 1 => !hasB y x.a
  | 2 => !hasB y x.a && !hasB y x.b
  | _ => !hasB y x.a && !hasB y x.b && !hasB y x.c
def comI (x y : Blk) : Int := (comP x y).getD (-1)
end Go.Proofs.Ytoicdfdfajfopaa

namespace Go.Proofs.Ytoicdfdfajfopaa
open Go.RowKit Go.Maps
def othersP (x : Blk) (a : Int) : Int × Int := if a = x.a then (x.b, x.c) else if a = x.b then (x.a, x.c) else (x.a, x.b)
end Go.Proofs.Ytoicdfdfajfopaa

namespace Go.Proofs.Ytoicdfdfajfopaa
open Go.RowKit Go.Maps
/-- Lexicographic, a shorter list first. -/
def lexL : List Int → List Int → Bool
  | [], [] => false
  | [], _ :: _ => true
  | _ :: _, [] => false
  | a :: r, b :: t => if a = b then lexL r t else decide (a < b)
theorem lexL_end (ps qs : List Int) (h : ps = [] ∨ qs = []) : lexL ps qs = decide (ps.length < qs.length) := by
  cases ps <;> cases qs <;> simp_all [lexL]
/-- Returns a value and draws alone. -/
def RD (v : Value) (w : World) (e : Ending) (w' : World) : Prop := e = .returned v ∧ ∃ n, w' = w.drewN n
theorem drewN_add (w : World) (a b : Nat) : (w.drewN a).drewN b = w.drewN (a + b) := by simp [World.drewN, Nat.add_assoc]
theorem RD_of {v u : Value} {w w' : World} {n : Nat} (h : u = v) (hw : w' = w.drewN n) : RD v w (.returned u) w' := ⟨by rw [h], n, hw⟩
theorem RD.rv {P : Program} {f : FuncId} {args : Array Value} {w : World} {v : Value} (h : Calls P f args w (RD v w)) : Calls P f args w (RV v w) :=
  h.mono fun _ _ ⟨he, n, hn⟩ => ⟨he, by rw [hn]; exact below_drewN (Below.refl _ _) _⟩
theorem RD.quiet2 {P : Program} {f : FuncId} {args : Array Value} {w : World} {a n : Nat} {v : Value} (h : Calls P f args (w.drewN (a + n)) (RD v (w.drewN (a + n)))) :
    Calls P f args (w.drewN (a + n)) fun e w'' => e = .returned v ∧ ∃ m, w'' = w.drewN (a + m) :=
  h.mono fun _ _ ⟨he, m, hm⟩ => ⟨he, n + m, by rw [hm, drewN_add, Nat.add_assoc]⟩
theorem RD.quiet {P : Program} {f : FuncId} {args : Array Value} {w : World} {n : Nat} {v : Value} (h : Calls P f args (w.drewN n) (RD v (w.drewN n))) :
    Calls P f args (w.drewN n) fun e w'' => e = .returned v ∧ ∃ m, w'' = w.drewN m :=
  h.mono fun _ _ ⟨he, m, hm⟩ => ⟨he, n + m, by rw [hm, drewN_add]⟩
end Go.Proofs.Ytoicdfdfajfopaa

namespace Go.Proofs.Ytoicdfdfajfopaa
open Go.RowKit Go.Maps
theorem lexL_irr : ∀ ps : List Int, lexL ps ps = false
  | [] => rfl
  | a :: r => by rw [lexL, if_pos rfl]; exact lexL_irr r
theorem lexL_eq : ∀ ps qs : List Int, lexL ps qs = false → lexL qs ps = false → ps = qs
  | [], [], _, _ => rfl
  | [], _ :: _, h, _ => by simp [lexL] at h
  | _ :: _, [], _, h => by simp [lexL] at h
  | a :: r, b :: t, h, k => by
    rw [lexL] at h k
    by_cases e : a = b
    · subst e
      rw [if_pos rfl] at h k
      rw [lexL_eq r t h k]
    · rw [if_neg e] at h
      rw [if_neg (fun q => e q.symm)] at k
      simp at h k
      omega
theorem lexL_trans : ∀ {ps qs rs : List Int}, lexL ps qs = true → lexL qs rs = true → lexL ps rs = true
  | [], [], _, h, _ => by simp [lexL] at h
  | [], _ :: _, [], _, h => by simp [lexL] at h
  | [], _ :: _, _ :: _, _, _ => by simp [lexL]
  | _ :: _, [], _, h, _ => by simp [lexL] at h
  | _ :: _, _ :: _, [], _, h => by simp [lexL] at h
  | a :: r, b :: t, c :: u, h, k => by
    rw [lexL] at h k ⊢
    by_cases e : a = b
    · subst e
      rw [if_pos rfl] at h
      by_cases e2 : a = c
      · subst e2
        rw [if_pos rfl] at k ⊢
        exact lexL_trans h k
      · rw [if_neg e2] at k ⊢
        exact k
    · rw [if_neg e] at h
      by_cases e2 : b = c
      · subst e2
        rw [if_neg e]
        exact h
      · rw [if_neg e2] at k
        simp at h k
        rw [if_neg (by omega)]
        simp
        omega
end Go.Proofs.Ytoicdfdfajfopaa

namespace Go.Proofs.Ytoicdfdfajfopaa
open Go.RowKit Go.Maps
/-- Where the outline puts a row: behind the rows that it is not before, from the end on. -/
def putAt (L : List (List Int)) (r : List Int) : Nat → Nat
  | 0 => 0
  | k + 1 => if lexL r (L[k]?.getD []) then putAt L r k else k + 1
theorem putAt_le (L : List (List Int)) (r : List Int) : ∀ k, putAt L r k ≤ k
  | 0 => Nat.le_refl _
  | k + 1 => by
    have := putAt_le L r k
    unfold putAt
    split <;> omega
def putHas (L : List (List Int)) (r : List Int) : Bool := decide (0 < putAt L r L.length) && decide (L[putAt L r L.length - 1]?.getD [] = r)
/-- The outline's list with one more row. -/
def putL (L : List (List Int)) (r : List Int) : List (List Int) := if putHas L r then L else L.take (putAt L r L.length) ++ r :: L.drop (putAt L r L.length)
def insV {α : Type} (s : List α) (j : Nat) (y : α) : List α := s.take j ++ y :: s.drop j
theorem insV_len {α : Type} (s : List α) (j : Nat) (y : α) : (insV s j y).length = s.length + 1 := by
  unfold insV
  simp
  omega
theorem insV_end {α : Type} (s : List α) (y : α) : insV s s.length y = s ++ [y] := by simp [insV]
theorem insV_set {α : Type} (s : List α) (j : Nat) (y x : α) (h : j ≤ s.length) : (insV s j y).set j x = insV s j x := by
  have e : (s.take j).length = j := by rw [List.length_take]; omega
  unfold insV
  rw [List.set_append_right _ _ (by omega), e, Nat.sub_self, List.set_cons_zero]
theorem insV_get {α : Type} (s : List α) (j : Nat) (y : α) (h : j < s.length) : (insV s (j + 1) y)[j]? = s[j]? := by
  unfold insV
  rw [List.getElem?_append_left (by rw [List.length_take]; omega), List.getElem?_take_of_lt (by omega)]
theorem insV_shift {α : Type} (s : List α) (j : Nat) (y z : α) (h : j < s.length) (hz : s[j]? = some z) : (insV s (j + 1) y).set (j + 1) z = insV s j z := by
  rw [insV_set s (j + 1) y _ (by omega)]
  rw [List.getElem?_eq_getElem h] at hz
  injection hz with hz
  unfold insV
  rw [List.take_add_one, List.getElem?_eq_getElem h, List.append_assoc]
  conv => rhs; rw [List.drop_eq_getElem_cons h]
  simp [hz]
/-- A list of the call's own of row headers. -/
def RowsV (w : World) (base : Nat) (u : Value) (hs : List Value) : Prop := w.ownsRow base 25 1 u hs.length hs
theorem RowsV.kept {w w' : World} {base : Nat} {u : Value} {hs : List Value} (h : RowsV w base u hs) {row : Option Nat} (hg : w.grownBy w' row) (hr : row = none ∨ u.ownBlock ≠ row) : RowsV w' base u hs := ownsRow_kept h hg hr
theorem RowsV.below {w w' : World} {base : Nat} {u : Value} {hs : List Value} (h : RowsV w base u hs) {B : Nat} (hb : Below B w w') (hB : w.heap.size ≤ B) : RowsV w' base u hs :=
  h.kept (only_of_below (hb.mono hB) none) (.inl rfl)
theorem RowsV.setT {w : World} {base g n cap : Nat} {hs : List Value} (h : RowsV w base (.slice (some ⟨g, 0, none⟩) n cap) hs) {i : Nat} {x : Value} :
    RowsV (w.setCell ⟨g, i, none⟩ x) base (.slice (some ⟨g, 0, none⟩) n cap) (hs.set i x) ∧ w.grownBy (w.setCell ⟨g, i, none⟩ x) (some g) := by
  refine ⟨?_, only_setCell (only_refl w (some g)) rfl _⟩
  obtain ⟨_, h | ⟨g', cap', cur, e, hb, hcur, hn, hc, hsz, hx⟩⟩ := h
  · simp at h
  · simp at e
    obtain ⟨rfl, rfl, rfl⟩ := e
    have hl : (hs.set i x).length = hs.length := List.length_set
    unfold RowsV
    rw [hl]
    refine ⟨by simp, .inr ⟨g, cap, cur.setIfInBounds i x, rfl, hb, heap_setCell_same w g i cur _ _ hcur, hn, hc, by simp [hsz], ?_⟩⟩
    rw [Array.toList_setIfInBounds, List.take_set, hx]
theorem RowsV.at_ {w : World} {base g n cap : Nat} {hs : List Value} (h : RowsV w base (.slice (some ⟨g, 0, none⟩) n cap) hs) {i : Nat} {x : Value} (hi : hs[i]? = some x) : w.cell? ⟨g, i, none⟩ = some x ∧ base ≤ g ∧ g < w.heap.size ∧ n = hs.length ∧ w.frozen? ⟨g, i, none⟩ = false := by
  obtain ⟨_, h | ⟨g', cap', cur, e, hb, hcur, hn, hc, hsz, hx⟩⟩ := h
  · simp at h
  · simp at e
    obtain ⟨rfl, rfl, rfl⟩ := e
    have hil : i < hs.length := (List.getElem?_eq_some_iff.1 hi).1
    refine ⟨?_, hb, (Array.getElem?_eq_some_iff.1 hcur).1, rfl, by simp [World.frozen?, hcur]⟩
    rw [← hx, List.getElem?_take_of_lt (by omega)] at hi
    simp [World.cell?, hcur]
    simpa using hi
theorem RowsV.form {w : World} {base : Nat} {u : Value} {hs : List Value} (h : RowsV w base u hs) (h0 : 0 < hs.length) : ∃ g cap, u = .slice (some ⟨g, 0, none⟩) hs.length cap := by
  rcases h.2 with ⟨_, e⟩ | ⟨g, cap, cur, e, _⟩
  · omega
  · exact ⟨g, cap, e⟩
theorem wpList_append_hdr {w : World} {ops : Array Oper} {rest : List Oper} {o : Oper} {a : Act} {Q : Exit → Act → World → Prop} (hgd : o.guard = none) (s x : Operand)
    (ho : o.op = .call { callee := .builtin .append, args := #[s, x], argTypes := #[46, 46] })
    (base : Nat) (v : Value) (hs : List Value) (hsv : a.eval s = v) (hown : RowsV w base v hs) (b0 c : Nat) (hx : a.eval x = .slice (some ⟨b0, 0, none⟩) 1 c) (p : Option Addr) (n0 c0 : Nat)
    (c1 : w.cell? ⟨b0, 0, none⟩ = some (.slice p n0 c0)) (hl : hs.length ≤ 1100000) (hbase : base ≤ w.heap.size)
    (h : ∀ (G cap : Nat) (w' : World), RowsV w' base (.slice (some ⟨G, 0, none⟩) (hs.length + 1) cap) (hs ++ [.slice p n0 c0]) → w.grownBy w' v.ownBlock → (v.ownBlock = some G ∨ G = w.heap.size) → wpList Try.prog ops Q rest (a.put o.dst (.slice (some ⟨G, 0, none⟩) (hs.length + 1) cap)) w') : wpList Try.prog ops Q (o :: rest) a w := by
  obtain ⟨i0, hi, hz0, hz1, hz2⟩ := info_parts infoRow
  refine wpList_append_own_at w hgd s x 46 ho base 25 i0 _ 1 24 Try.underlying46 hi hz0 hz1 hz2 rfl (by decide) v hs.length _ hsv hown ⟨b0, 0, none⟩ 1 c [.slice p n0 c0] hx rfl ?_ ?_ (by unfold maxLen; omega) (by omega) hbase ?_
  · intro j u hj
    rw [addr_at, Nat.zero_add]
    match j, hj with
    | 0, hj => simp at hj; rw [← hj]; exact c1
    | j + 1, hj => simp at hj
  · intro u hu
    simp at hu
    rw [hu]
    rfl
  · intro v' w' hown' hg _ hob
    obtain ⟨G, cap, rfl⟩ := row_some hown'
    refine h G cap w' ?_ hg ?_
    · unfold RowsV
      rw [List.length_append]
      exact hown'
    · rcases hob with e | e
      · exact .inl (by rw [← e]; rfl)
      · exact .inr (by simpa [Value.ownBlock] using e)
end Go.Proofs.Ytoicdfdfajfopaa

namespace Go.Proofs.Ytoicdfdfajfopaa
/-- Ascending, each row once. -/
def AscR (L : List (List Int)) : Prop := L.Pairwise fun a b => lexL a b = true
theorem lexL_asym {p q : List Int} (h : lexL p q = true) : lexL q p = false := by
  cases e : lexL q p with
  | false => rfl
  | true =>
    have := lexL_trans h e
    rw [lexL_irr] at this
    cases this
theorem lexL_of_ne {p q : List Int} (h : lexL q p = false) (hne : p ≠ q) : lexL p q = true := by
  cases e : lexL p q with
  | true => rfl
  | false => exact absurd (lexL_eq p q e h) hne
theorem AscR.nodup {L : List (List Int)} (h : AscR L) : L.Nodup := List.Pairwise.imp (fun {a b} h e => by
  subst e
  rw [lexL_irr] at h
  cases h) h
theorem AscR.ext {L M : List (List Int)} (hL : AscR L) (hM : AscR M) (h : ∀ x, x ∈ L ↔ x ∈ M) : L = M := by
  have hp : L.Perm M := (List.perm_ext_iff_of_nodup hL.nodup hM.nodup).2 h
  exact hp.eq_of_pairwise (fun a b _ _ h1 h2 => by
    have := lexL_asym h1
    rw [h2] at this
    cases this) hL hM
theorem putAt_hi (L : List (List Int)) (r : List Int) : ∀ k i, putAt L r k ≤ i → i < k → lexL r (L[i]?.getD []) = true
  | 0, i, _, h => absurd h (Nat.not_lt_zero i)
  | k + 1, i, h1, h2 => by
    unfold putAt at h1
    by_cases hx : lexL r (L[k]?.getD []) = true
    · rw [if_pos hx] at h1
      by_cases e : i = k
      · rw [e]; exact hx
      · exact putAt_hi L r k i h1 (by omega)
    · rw [if_neg hx] at h1
      omega
theorem putAt_lo (L : List (List Int)) (r : List Int) : ∀ k j, putAt L r k = j + 1 → lexL r (L[j]?.getD []) = false
  | 0, j, h => by simp [putAt] at h
  | k + 1, j, h => by
    unfold putAt at h
    by_cases hx : lexL r (L[k]?.getD []) = true
    · rw [if_pos hx] at h
      exact putAt_lo L r k j h
    · rw [if_neg hx] at h
      obtain rfl : k = j := by omega
      simpa using hx
theorem take_before {L : List (List Int)} {r : List Int} (hL : AscR L) (hn : putHas L r = false) : ∀ x ∈ L.take (putAt L r L.length), lexL x r = true := by
  intro x hx
  have hle := putAt_le L r L.length
  obtain ⟨i, hi, rfl⟩ := List.mem_iff_getElem.1 hx
  rw [List.length_take] at hi
  obtain ⟨j, hj⟩ : ∃ j, putAt L r L.length = j + 1 := ⟨putAt L r L.length - 1, by omega⟩
  have hjl : j < L.length := by omega
  have hlo := putAt_lo L r _ j hj
  rw [List.getElem?_eq_getElem hjl, Option.getD_some] at hlo
  have hne : L[j] ≠ r := by
    intro e
    rw [putHas, hj] at hn
    simp [List.getElem?_eq_getElem hjl, e] at hn
  have hlast := lexL_of_ne hlo hne
  rw [List.getElem_take]
  by_cases e : i = j
  · subst e
    exact hlast
  · have hp := (List.pairwise_iff_getElem.1 hL) i j (by omega) hjl (by omega)
    exact lexL_trans hp hlast
theorem drop_behind {L : List (List Int)} {r : List Int} : ∀ x ∈ L.drop (putAt L r L.length), lexL r x = true := by
  intro x hx
  obtain ⟨i, hi, rfl⟩ := List.mem_iff_getElem.1 hx
  rw [List.length_drop] at hi
  rw [List.getElem_drop]
  have := putAt_hi L r L.length (putAt L r L.length + i) (by omega) (by omega)
  rw [List.getElem?_eq_getElem (by omega), Option.getD_some] at this
  exact this
theorem putL_asc {L : List (List Int)} (hL : AscR L) (r : List Int) : AscR (putL L r) := by
  unfold putL
  cases hn : putHas L r with
  | true => simpa using hL
  | false =>
    rw [if_neg (by decide)]
    have h1 := take_before hL hn
    have h2 := drop_behind (L := L) (r := r)
    refine List.pairwise_append.2 ⟨hL.sublist (List.take_sublist _ _), List.pairwise_cons.2 ⟨fun x hx => h2 x hx, hL.sublist (List.drop_sublist _ _)⟩, ?_⟩
    intro x hx y hy
    rcases List.mem_cons.1 hy with rfl | hy
    · exact h1 x hx
    · exact lexL_trans (h1 x hx) (h2 y hy)
theorem putL_mem {L : List (List Int)} {r x : List Int} : x ∈ putL L r ↔ x = r ∨ x ∈ L := by
  unfold putL
  cases hn : putHas L r with
  | true =>
    rw [if_pos rfl]
    refine ⟨.inr, fun h => h.elim (fun e => ?_) id⟩
    subst e
    simp only [putHas, Bool.and_eq_true, decide_eq_true_eq] at hn
    have hle := putAt_le L x L.length
    have := hn.2
    rw [List.getElem?_eq_getElem (by omega), Option.getD_some] at this
    rw [← this]
    exact List.getElem_mem _
  | false =>
    rw [if_neg (by decide), List.mem_append, List.mem_cons]
    have : x ∈ L ↔ x ∈ L.take (putAt L r L.length) ∨ x ∈ L.drop (putAt L r L.length) := by
      conv => lhs; rw [← List.take_append_drop (putAt L r L.length) L]
      rw [List.mem_append]
    rw [this]
    constructor
    · rintro (h | h | h)
      · exact .inr (.inl h)
      · exact .inl h
      · exact .inr (.inr h)
    · rintro (h | h | h)
      · exact .inr (.inl h)
      · exact .inl h
      · exact .inr (.inr h)
theorem putL_len (L : List (List Int)) (r : List Int) : (putL L r).length ≤ L.length + 1 := by
  have := putAt_le L r L.length
  unfold putL
  split
  · omega
  · simp
    omega
/-- The outline's list of the rows of a list. -/
def setR (Rs : List (List Int)) : List (List Int) := Rs.foldl putL []
theorem setR_snoc (Rs : List (List Int)) (r : List Int) : setR (Rs ++ [r]) = putL (setR Rs) r := by simp [setR]
theorem foldl_put {Rs : List (List Int)} : ∀ {L : List (List Int)}, AscR L → AscR (Rs.foldl putL L) ∧ (∀ x, x ∈ Rs.foldl putL L ↔ x ∈ Rs ∨ x ∈ L) ∧ (Rs.foldl putL L).length ≤ L.length + Rs.length := by
  induction Rs with
  | nil => exact fun hL => ⟨hL, fun x => by simp, by simp⟩
  | cons r Rs ih =>
    intro L hL
    obtain ⟨h1, h2, h3⟩ := ih (putL_asc hL r)
    refine ⟨h1, fun x => ?_, ?_⟩
    · rw [List.foldl_cons, h2 x, putL_mem, List.mem_cons]
      constructor
      · rintro (h | h | h)
        · exact .inl (.inr h)
        · exact .inl (.inl h)
        · exact .inr h
      · rintro ((h | h) | h)
        · exact .inr (.inl h)
        · exact .inl h
        · exact .inr (.inr h)
    · have := putL_len L r
      rw [List.foldl_cons, List.length_cons]
      omega
theorem setR_asc (Rs : List (List Int)) : AscR (setR Rs) := (foldl_put (Rs := Rs) (L := []) List.Pairwise.nil).1
theorem setR_mem {Rs : List (List Int)} {x : List Int} : x ∈ setR Rs ↔ x ∈ Rs := by
  have := (foldl_put (Rs := Rs) (L := []) List.Pairwise.nil).2.1 x
  simpa [setR] using this
theorem setR_len (Rs : List (List Int)) : (setR Rs).length ≤ Rs.length := by
  have := (foldl_put (Rs := Rs) (L := []) List.Pairwise.nil).2.2
  simpa [setR] using this
theorem setR_of {Rs L : List (List Int)} (hL : AscR L) (h : ∀ x, x ∈ L ↔ x ∈ Rs) : setR Rs = L := (setR_asc Rs).ext hL fun x => by rw [setR_mem, h]
end Go.Proofs.Ytoicdfdfajfopaa

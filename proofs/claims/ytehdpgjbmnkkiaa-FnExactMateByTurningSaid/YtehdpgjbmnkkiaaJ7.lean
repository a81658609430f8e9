
/- Rows of rows of integers: equality, marks, and that they are still there. Rows of rows of integers that a call makes by append; the squares of few points. impl.RenumberSystem answers as the plain function renF. The numbers from 0 on: plain. blockNumbers. The pairs of a list of blocks, as a map. The program's PairsLeft. The program's turned systems. -/
import Derived.Test.YtehdpgjbmnkkiaaJ6
import Derived.Deep.RegionWith
import Derived.Deep.RegionHeld3
namespace Go.Proofs.Ytehdpgjbmnkkiaa
open Go.RowKit Go.Maps
/-- The value is a slice of just these n rows. -/
def SSB (w : World) (s : Value) (n : Nat) (F : Nat → List Int) : Prop :=
  n ≤ 1100000 ∧ ((n = 0 ∧ ∃ a c, s = .slice a 0 c) ∨ ∃ b off cap, s = .slice (some ⟨b, off, none⟩) n cap ∧ b < w.heap.size ∧ ∀ k, k < n → ∃ a c, w.cell? ⟨b, off + k, none⟩ = some (.slice a (F k).length c) ∧ IB w (.slice a (F k).length c) (F k))
theorem SSB.below {w w' : World} {s : Value} {n : Nat} {F : Nat → List Int} (h : SSB w s n F) {B : Nat} (hb : Below B w w') (hB : w.heap.size ≤ B) : SSB w' s n F := by
  obtain ⟨h1, h2⟩ := h
  refine ⟨h1, ?_⟩
  rcases h2 with h2 | ⟨b, off, cap, rfl, hl, hr⟩
  · exact .inl h2
  · refine .inr ⟨b, off, cap, rfl, by have := hb.size; omega, fun k hk => ?_⟩
    obtain ⟨a, c, hc, hi⟩ := hr k hk
    exact ⟨a, c, (hb.cell (by simp; omega)).trans hc, hi.below hb hB⟩
theorem SSB.slice {w : World} {s : Value} {n : Nat} {F : Nat → List Int} (h : SSB w s n F) : ∃ a c, s = .slice a n c := by
  rcases h.2 with ⟨rfl, a, c, rfl⟩ | ⟨b, off, cap, rfl, _⟩ <;> exact ⟨_, _, rfl⟩
set_option maxRecDepth 100000 in
theorem eqInt64SS_same (s t : Value) (n : Nat) (F : Nat → List Int) (w : World) (h : SSB w s n F) (k : SSB w t n F) : Calls Try.prog 15 #[s, t] w (RV (.bool true) w) := by
  have hn := h.1
  by_cases h0 : n = 0
  · obtain ⟨a, c, rfl⟩ := h.slice
    obtain ⟨a', c', rfl⟩ := k.slice
    subst h0
    clear h k hn
    go_enter Try.func15, Try.ntmps15
    go_wp2
    refine wp_loop_rounds 1 ?_
    rw [rounds_succ]
    go_wp2
    go_ret
    exact RV_of rfl (Below.refl _ _)
  · rcases h.2 with ⟨e, _⟩ | ⟨b, off, cap, rfl, hb, hB⟩
    · exact absurd e h0
    · rcases k.2 with ⟨e, _⟩ | ⟨b', off', cap', rfl, hb', hB'⟩
      · exact absurd e h0
      · have HB := Lib.hid hB
        have HB' := Lib.hid hB'
        clear hB hB' h k h0
        have hne : (((n : Nat) : Int) != (n : Nat)) = false := by simp
        go_enter Try.func15, Try.ntmps15
        go_wp2
        go_loopw [5] (fun i wr => ∃ k : Nat, k ≤ n ∧ i = .int .i64 k ∧ Below w.heap.size w wr) (fun i _ => n - (intOf i).toNat)
        case atStart => exact ⟨0, Nat.zero_le _, rfl, Below.refl _ _⟩
        case round =>
          obtain ⟨k, hk, rfl, hBw⟩ := hrel
          by_cases hkl : k < n
          · obtain ⟨a1, c1, q1, i1⟩ := HB.out k hkl
            obtain ⟨a2, c2, q2, i2⟩ := HB'.out k hkl
            have q1 := (hBw.cell (p := ⟨b, off + k, none⟩) hb).trans q1
            have q2 := (hBw.cell (p := ⟨b', off' + k, none⟩) hb').trans q2
            have I1 := Lib.hid (i1.below hBw (Nat.le_refl _))
            have I2 := Lib.hid (i2.below hBw (Nat.le_refl _))
            clear i1 i2
            have g0 : (0 : Int) ≤ (k : Int) := by omega
            have g1 : (k : Int) < (n : Int) := by omega
            go_wp2_with fail
            go_region_with (go_at_call 24; refine (eqInt64S_same _ _ (F k) _ (I1.out.below ((Below.refl _ _).drew) (Nat.le_refl _)) (I2.out.below ((Below.refl _ _).drew) (Nat.le_refl _))).mono ?_; rintro e w1 ⟨rfl, hb1⟩)
            all_goals
              go_wp2_with fail
              go_roundw
              case rel => exact ⟨k + 1, by omega, by go_num, (hBw.drew).trans (hb1.mono (by have := hBw.size; simp; omega))⟩
              case measure => simp [intOf]; omega
          · go_wp2
            go_ret
            exact RV_of rfl hBw
/-- Rows of its own: the head at block G, the k-th row at block gs k. -/
structure SSR (w : World) (lo G : Nat) (gs caps : Nat → Nat) (n : Nat) (F : Nat → List Int) : Prop where
  cell : ∀ k, k < n → w.cell? ⟨G, k, none⟩ = some (.slice (some ⟨gs k, 0, none⟩) (F k).length (caps k))
  row : ∀ k, k < n → OwnAtI w (gs k) (F k)
  ne : ∀ k, k < n → gs k ≠ G
  inc : ∀ j k, j < k → k < n → gs j ≠ gs k
  low : ∀ k, k < n → lo ≤ gs k
  lt : G < w.heap.size
theorem SSR.kept {w w' : World} {lo G : Nat} {gs caps : Nat → Nat} {n : Nat} {F : Nat → List Int} (h : SSR w lo G gs caps n F) {row : Option Nat} (hg : w.grownBy w' row) (hG : some G ≠ row) (hr : ∀ k, k < n → some (gs k) ≠ row) : SSR w' lo G gs caps n F :=
  ⟨fun k hk => hg.cell (h.cell k hk) (by simpa using hG), fun k hk => (h.row k hk).kept hg (hr k hk), h.ne, h.inc, h.low, Nat.lt_of_lt_of_le h.lt hg.size⟩
theorem SSR.below {w w' : World} {lo G : Nat} {gs caps : Nat → Nat} {n : Nat} {F : Nat → List Int} (h : SSR w lo G gs caps n F) {B : Nat} (hb : Below B w w') (hB : w.heap.size ≤ B) : SSR w' lo G gs caps n F :=
  h.kept (only_of_below (hb.mono hB) none) (by simp) (by simp)
theorem SSR.sb {w : World} {lo G cap : Nat} {gs caps : Nat → Nat} {n : Nat} {F : Nat → List Int} (h : SSR w lo G gs caps n F) (hn : n ≤ 1100000) (hF : ∀ k, k < n → (F k).length ≤ 1100000) : SSB w (.slice (some ⟨G, 0, none⟩) n cap) n F :=
  ⟨hn, .inr ⟨G, 0, cap, rfl, h.lt, fun k hk => ⟨_, _, by rw [Nat.zero_add]; exact h.cell k hk, ⟨hF k hk, .inr ⟨gs k, 0, caps k, rfl, (h.row k hk).lt, (h.row k hk).at_⟩⟩⟩⟩⟩
/-- How many integers the first k rows hold. -/
def tot (F : Nat → List Int) : Nat → Nat
  | 0 => 0
  | k + 1 => tot F k + (F k).length
theorem tot_le (F : Nat → List Int) {j n : Nat} (h : j ≤ n) : tot F j ≤ tot F n := by
  induction h with
  | refl => exact Nat.le_refl _
  | step _ ih => exact Nat.le_trans ih (by simp [tot])
/-- The rows after marking. -/
def markSS (k0 : Int) (F : Nat → List Int) (j : Nat) : List Int := markI (k0 + tot F j) (F j).length
theorem SSR.mark1 {w w' : World} {lo G : Nat} {gs caps : Nat → Nat} {n : Nat} {F : Nat → List Int} (h : SSR w lo G gs caps n F) {j : Nat} (hj : j < n) (L : List Int) (hL : L.length = (F j).length) (hg : w.grownBy w' (some (gs j))) (ho : OwnAtI w' (gs j) L) :
    SSR w' lo G gs caps n (fun k => if k = j then L else F k) := by
  refine ⟨fun k hk => ?_, fun k hk => ?_, h.ne, h.inc, h.low, Nat.lt_of_lt_of_le h.lt hg.size⟩
  · have hc := hg.cell (h.cell k hk) (by simpa using Ne.symm (h.ne j hj))
    split
    · subst k
      rw [hL]; exact hc
    · exact hc
  · split
    · subst k; exact ho
    · refine (h.row k hk).kept hg (fun e => ?_)
      have e : gs k = gs j := by simpa using e
      rcases Nat.lt_trichotomy k j with hlt | rfl | hlt
      · have := h.inc k j hlt hj; omega
      · contradiction
      · have := h.inc j k hlt hk; omega
def partSS (k0 : Int) (F : Nat → List Int) (j : Nat) : Nat → List Int := fun k => if k < j then markSS k0 F k else F k
theorem partSS_len (k0 : Int) (F : Nat → List Int) (j k : Nat) : (partSS k0 F j k).length = (F k).length := by
  unfold partSS markSS
  split
  · rw [markI_length]
  · rfl
theorem partSS_succ (k0 : Int) (F : Nat → List Int) (j : Nat) : (fun k => if k = j then markSS k0 F j else partSS k0 F j k) = partSS k0 F (j + 1) := by
  funext k
  unfold partSS
  by_cases h : k = j
  · subst h; simp
  · rw [if_neg h]
    by_cases h2 : k < j
    · rw [if_pos h2, if_pos (by omega)]
    · rw [if_neg h2, if_neg (by omega)]
theorem SSR.congr {w : World} {lo G : Nat} {gs caps : Nat → Nat} {n : Nat} {F F' : Nat → List Int} (h : SSR w lo G gs caps n F) (e : ∀ k, k < n → F k = F' k) : SSR w lo G gs caps n F' :=
  ⟨fun k hk => by rw [← e k hk]; exact h.cell k hk, fun k hk => by rw [← e k hk]; exact h.row k hk, h.ne, h.inc, h.low, h.lt⟩
set_option maxRecDepth 100000 in
theorem markInt64SS_any (lo G cap : Nat) (gs caps : Nat → Nat) (n : Nat) (F : Nat → List Int) (k0 : Int) (w : World) (h : SSR w lo G gs caps n F) (hl : n ≤ 1100000) (hlo : lo ≤ w.heap.size) (hT : tot F n ≤ 1100000) (h0 : 0 ≤ k0) (h1 : k0 ≤ 5000000) :
    Calls Try.prog 18 #[.slice (some ⟨G, 0, none⟩) n cap, .int .i64 k0] w (fun e w' => e = .returned (.int .i64 (k0 + tot F n)) ∧ Below lo w w' ∧ SSR w' lo G gs caps n (markSS k0 F)) := by
  have H := Lib.hid h
  clear h
  go_enter Try.func18, Try.ntmps18
  go_wp2
  go_loopw [1, 5] (fun t i wr => ∃ j : Nat, j ≤ n ∧ i = .int .i64 j ∧ t = .int .i64 (k0 + tot F j) ∧ Below lo w wr ∧ SSR wr lo G gs caps n (partSS k0 F j)) (fun _ i _ => n - (intOf i).toNat)
  case atStart => exact ⟨0, Nat.zero_le _, rfl, by simp [tot], Below.refl _ _, H.out.congr (fun k _ => by simp [partSS])⟩
  case round =>
    obtain ⟨j, hj, rfl, rfl, hB, hS⟩ := hrel
    have hSz := hB.size
    by_cases hjl : j < n
    · have c1 := hS.cell j hjl
      have hrow := hS.row j hjl
      have hlow := hS.low j hjl
      have hlen := partSS_len k0 F j j
      have hFj : partSS k0 F j j = F j := by simp [partSS]
      rw [hFj] at c1 hrow
      have htj : tot F (j + 1) ≤ tot F n := tot_le F hjl
      have htj' : tot F (j + 1) = tot F j + (F j).length := rfl
      have HS := Lib.hid hS
      have HM := Lib.hid (markInt64S_any (gs j) (caps j) (F j) (k0 + tot F j) wr hrow (by omega) (by omega) (by omega))
      clear hlen hFj hrow hS
      have g0 : (0 : Int) ≤ (j : Int) := by omega
      have g1 : (j : Int) < (n : Int) := by omega
      go_wp2_with (go_at_call 25; refine HM.out.mono ?_; rintro e w1 ⟨rfl, hg1, ho1⟩)
      go_roundw
      case rel => exact ⟨j + 1, by omega, by go_num, int_eq (by rw [htj']; omega), hB.grown hg1 (by omega) (fun r e => by simp at e; omega), by
        have := HS.out.mark1 hjl (markSS k0 F j) (by unfold markSS; rw [markI_length, partSS_len]) hg1 ho1
        rw [partSS_succ] at this
        exact this⟩
      case measure => simp [intOf]; omega
    · go_wp2
      go_ret
      have e : j = n := by omega
      subst e
      exact ⟨rfl, hB, hS.congr (fun k hk => by simp [partSS, hk])⟩
set_option maxRecDepth 100000 in
theorem heldInt64SS_any (lo G cap : Nat) (gs caps : Nat → Nat) (n : Nat) (F : Nat → List Int) (k0 : Int) (w : World) (h : SSR w lo G gs caps n (markSS k0 F)) (hl : n ≤ 1100000) (hT : tot F n ≤ 1100000) (h0 : 0 ≤ k0) (h1 : k0 ≤ 5000000) :
    Calls Try.prog 19 #[.slice (some ⟨G, 0, none⟩) n cap, .int .i64 k0] w (RS (.int .i64 (k0 + tot F n)) w) := by
  have H := Lib.hid h
  clear h
  go_enter Try.func19, Try.ntmps19
  go_wp2
  go_loop [1, 5] (fun t i => ∃ j : Nat, j ≤ n ∧ i = .int .i64 j ∧ t = .int .i64 (k0 + tot F j)) (fun _ i => n - (intOf i).toNat)
  case atStart => exact ⟨0, Nat.zero_le _, rfl, by simp [tot]⟩
  case round =>
    obtain ⟨j, hj, rfl, rfl⟩ := hrel
    by_cases hjl : j < n
    · have c1 := H.out.cell j hjl
      have hrow := (H.out.row j hjl).at_
      have htj : tot F (j + 1) ≤ tot F n := tot_le F hjl
      have htj' : tot F (j + 1) = tot F j + (F j).length := rfl
      have hmm : (markSS k0 F j).length = (F j).length := by unfold markSS; rw [markI_length]
      rw [hmm] at c1
      have HM := Lib.hid (heldInt64S_any (gs j) (caps j) (F j).length (k0 + tot F j) w hrow (by omega) (by omega) (by omega))
      clear hmm hrow
      obtain ⟨m, hm⟩ : ∃ m, m = k0 + (tot F j : Int) + ((F j).length : Int) := ⟨_, rfl⟩
      rw [← hm] at HM
      have hm0 : 0 ≤ m := by omega
      have HME := Lib.hid hm
      clear hm
      have g0 : (0 : Int) ≤ (j : Int) := by omega
      have g1 : (j : Int) < (n : Int) := by omega
      go_wp2_with (go_at_call 26; refine HM.out.mono ?_; rintro e w1 ⟨rfl, rfl⟩)
      go_round
      case rel => exact ⟨j + 1, by omega, by go_num, int_eq (by rw [htj', HME.out]; omega)⟩
      case measure => simp [intOf]; omega
    · go_wp2
      go_ret
      have e : j = n := by omega
      subst e
      exact RS_of rfl
end Go.Proofs.Ytehdpgjbmnkkiaa

namespace Go.Proofs.Ytehdpgjbmnkkiaa
open Go.RowKit Go.Maps
theorem infoRow : (Try.prog.info? 40).map (fun i => (i.zero, i.size, i.bytes)) = some (some (.slice none 0 0), 1, 24) := by kernel_rfl
def rowV (gs caps : Nat → Nat) (F : Nat → List Int) (k : Nat) : Value := .slice (some ⟨gs k, 0, none⟩) (F k).length (caps k)
/-- The value owns a slice of n rows, each in a block of its own. -/
structure AccS (w : World) (base : Nat) (u : Value) (n : Nat) (gs caps : Nat → Nat) (F : Nat → List Int) : Prop where
  own : w.ownsRow base 40 1 u n ((List.range n).map (rowV gs caps F))
  row : ∀ k, k < n → OwnAtI w (gs k) (F k)
  ne : ∀ k, k < n → u.ownBlock ≠ some (gs k)
  inc : ∀ j k, j < k → k < n → gs j ≠ gs k
  low : ∀ k, k < n → base ≤ gs k
theorem ownsRow_lt {w : World} {base : Nat} {e : TypeId} {size n : Nat} {u : Value} {xs : List Value} (h : w.ownsRow base e size u n xs) : ∀ r, u.ownBlock = some r → base ≤ r ∧ r < w.heap.size := fun r hr => by
  rcases h.2 with ⟨rfl, _⟩ | ⟨g, cap, cur, rfl, hb, hcur, _⟩
  · simp [Value.ownBlock] at hr
  · obtain rfl : g = r := by simpa [Value.ownBlock] using hr
    exact ⟨hb, (Array.getElem?_eq_some_iff.1 hcur).1⟩
theorem ownsRow_kept {w w' : World} {base : Nat} {e : TypeId} {size n : Nat} {u : Value} {xs : List Value} {row : Option Nat} (h : w.ownsRow base e size u n xs) (hg : w.grownBy w' row) (hr : row = none ∨ u.ownBlock ≠ row) : w'.ownsRow base e size u n xs := by
  obtain ⟨hl, h | ⟨g, cap, cur, rfl, hb, hcur, hrest⟩⟩ := h
  · exact ⟨hl, .inl h⟩
  · exact ⟨hl, .inr ⟨g, cap, cur, rfl, hb, (hg.block g (Array.getElem?_eq_some_iff.1 hcur).1 (fun e => by
      rcases hr with rfl | hr
      · cases e
      · exact hr (by rw [← e]; rfl))).trans hcur, hrest⟩⟩
section
variable {w w' : World} {base : Nat} {u : Value} {n : Nat} {gs caps : Nat → Nat} {F : Nat → List Int}
theorem AccS.kept (h : AccS w base u n gs caps F) {row : Option Nat} (hg : w.grownBy w' row) (hu : row = none ∨ u.ownBlock ≠ row) (hr : ∀ k, k < n → some (gs k) ≠ row) : AccS w' base u n gs caps F :=
  ⟨ownsRow_kept h.own hg hu, fun k hk => (h.row k hk).kept hg (hr k hk), h.ne, h.inc, h.low⟩
theorem AccS.below (h : AccS w base u n gs caps F) {B : Nat} (hb : Below B w w') (hB : w.heap.size ≤ B) : AccS w' base u n gs caps F :=
  h.kept (only_of_below (hb.mono hB) none) (.inl rfl) (by simp)
theorem AccS.nil (w : World) (base : Nat) (gs caps : Nat → Nat) (F : Nat → List Int) : AccS w base (.slice none 0 0) 0 gs caps F :=
  ⟨⟨rfl, .inl ⟨rfl, rfl⟩⟩, fun k hk => by omega, fun k hk => by omega, fun j k _ hk => by omega, fun k hk => by omega⟩
theorem AccS.ssr (h : AccS w base u n gs caps F) (hn : 0 < n) : ∃ G cap, u = .slice (some ⟨G, 0, none⟩) n cap ∧ base ≤ G ∧ SSR w base G gs caps n F := by
  obtain ⟨⟨hl, h1⟩, h2, h3, h4, h5⟩ := h
  rcases h1 with ⟨_, h0⟩ | ⟨g, cap, cur, rfl, hb, hcur, hn', hc, hsz, hx⟩
  · omega
  · refine ⟨g, cap, rfl, hb, ⟨fun k hk => ?_, h2, fun k hk e => h3 k hk (by rw [e]; rfl), h4, h5, (Array.getElem?_eq_some_iff.1 hcur).1⟩⟩
    have e : ((List.range n).map (rowV gs caps F))[k]? = some (rowV gs caps F k) := by simp [hk]
    rw [← hx, List.getElem?_take_of_lt (by omega)] at e
    simp [World.cell?, hcur]
    simpa [rowV] using e
end
theorem map_congr' {α β : Type} {f g : α → β} {l : List α} (h : ∀ x ∈ l, f x = g x) : l.map f = l.map g := List.map_congr_left h
theorem wpList_append_row {w : World} {ops : Array Oper} {rest : List Oper} {o : Oper} {a : Act} {Q : Exit → Act → World → Prop} (hgd : o.guard = none) (s x : Operand)
    (ho : o.op = .call { callee := .builtin .append, args := #[s, x], argTypes := #[26, 26] })
    (base : Nat) (v : Value) (n : Nat) (gs caps : Nat → Nat) (F : Nat → List Int) (hs : a.eval s = v) (hown : AccS w base v n gs caps F) (b0 c : Nat) (hx : a.eval x = .slice (some ⟨b0, 0, none⟩) 1 c) (g cg : Nat)
    (c1 : w.cell? ⟨b0, 0, none⟩ = some (.slice (some ⟨g, 0, none⟩) (F n).length cg)) (hrow : OwnAtI w g (F n)) (hgt : ∀ k, k < n → gs k < g) (hng : v.ownBlock ≠ some g) (hbg : base ≤ g) (hl : n ≤ 1100000) (hbase : base ≤ w.heap.size)
    (h : ∀ (G cap : Nat) (w' : World) (gs' caps' : Nat → Nat), AccS w' base (.slice (some ⟨G, 0, none⟩) (n + 1) cap) (n + 1) gs' caps' F → w.grownBy w' v.ownBlock → wpList Try.prog ops Q rest (a.put o.dst (.slice (some ⟨G, 0, none⟩) (n + 1) cap)) w') : wpList Try.prog ops Q (o :: rest) a w := by
  obtain ⟨i0, hi, hz0, hz1, hz2⟩ := info_parts infoRow
  refine wpList_append_own_at w hgd s x 26 ho base 40 i0 _ 1 24 Try.underlying26 hi hz0 hz1 hz2 rfl (by decide) v n _ hs hown.own ⟨b0, 0, none⟩ 1 c [.slice (some ⟨g, 0, none⟩) (F n).length cg] hx rfl ?_ ?_ (by unfold maxLen; omega) (by omega) hbase ?_
  · intro j u hj
    rw [addr_at, Nat.zero_add]
    match j, hj with
    | 0, hj => simp at hj; rw [← hj]; exact c1
    | j + 1, hj => simp at hj
  · intro u hu
    simp at hu
    rw [hu]
    rfl
  · intro v' w' hown' hg _ hob
    obtain ⟨G, cap, rfl⟩ := row_some hown'
    have hGg : G ≠ g := by
      rintro rfl
      rcases hob with e | e
      · exact hng (by rw [← e]; rfl)
      · simp [Value.ownBlock] at e
        have := hrow.lt
        omega
    refine h G cap w' (fun k => if k = n then g else gs k) (fun k => if k = n then cg else caps k) ⟨?_, fun k hk => ?_, fun k hk => ?_, fun j k hjk hk => ?_, fun k hk => ?_⟩ hg
    · rw [List.range_succ, List.map_append, List.map_singleton]
      have e1 : (List.range n).map (rowV (fun k => if k = n then g else gs k) (fun k => if k = n then cg else caps k) F) = (List.range n).map (rowV gs caps F) := map_congr' fun k hk => by
        have : k ≠ n := by have := List.mem_range.1 hk; omega
        simp [rowV, this]
      rw [e1]
      simpa [rowV] using hown'
    · split
      · subst k; exact hrow.kept hg (fun e => hng e.symm)
      · exact (hown.row k (by omega)).kept hg (fun e => hown.ne k (by omega) e.symm)
    · split
      · simpa [Value.ownBlock] using hGg
      · intro e
        have e' : G = gs k := by simpa [Value.ownBlock] using e
        rcases hob with e2 | e2
        · exact hown.ne k (by omega) (by rw [← e2, e])
        · simp [Value.ownBlock] at e2
          have := (hown.row k (by omega)).lt
          omega
    · rw [if_neg (by omega)]
      split
      · exact Nat.ne_of_lt (hgt j (by omega))
      · exact hown.inc j k hjk (by omega)
    · split
      · exact hbg
      · exact hown.low k (by omega)
/-- A slice of rows and a code. -/
def RSS (n : Nat) (F : Nat → List Int) (κ : Int) (w : World) (e : Ending) (w' : World) : Prop :=
  ∃ u G cap gs caps, e = .returned (.tuple #[u, .int .i64 κ]) ∧ Below w.heap.size w w' ∧ u = .slice (some ⟨G, 0, none⟩) n cap ∧ w.heap.size ≤ G ∧ SSR w' w.heap.size G gs caps n F
def hf (n s : Int) : Int := if (s % n) % 2 = 0 then (s % n) / 2 else if n % 2 = 0 then (s % n + n - 1) / 2 else (s % n + n) / 2
def rowP (n k : Nat) (j : Nat) : List Int := (List.range j).map fun (y : Nat) => hf n ((k : Int) + (y : Int))
def rowF (n k : Nat) : List Int := rowP n k n
theorem rowP_len (n k j : Nat) : (rowP n k j).length = j := by simp [rowP]
theorem rowP_succ (n k j : Nat) : rowP n k (j + 1) = rowP n k j ++ [hf n ((k : Int) + (j : Int))] := by simp [rowP, List.range_succ]
theorem rowP_next (n k j : Nat) (h : j < n) : (rowP n k j ++ List.replicate (n - j) 0).set j (hf n ((k : Int) + (j : Int))) = rowP n k (j + 1) ++ List.replicate (n - (j + 1)) 0 := by
  rw [rowP_succ, show n - j = (n - (j + 1)) + 1 by omega, List.replicate_succ, List.set_append_right _ _ (by rw [rowP_len]; omega), rowP_len, Nat.sub_self, List.set_cons_zero, List.append_assoc]
  rfl
theorem made_ints (w : World) (n : Nat) (T : TypeId) : OwnAtI (w.alloc (.cells (madeCells #[.int .i64 0] n) T)) w.heap.size (List.replicate n 0) := by
  refine ⟨by simp, fun k hk => ?_, fun o => by simp⟩
  rw [List.length_replicate] at hk
  rw [World.cell?_alloc_at _ _ _ _ rfl]
  simp [madeCells, hk, Nat.mod_one]
end Go.Proofs.Ytehdpgjbmnkkiaa

namespace Go.Proofs.Ytehdpgjbmnkkiaa
open Go.RowKit Go.Maps
theorem sx_one (W : World) (x : Blk) (T : TypeId) : SX (W.alloc (.cells #[.int .i64 x.a, .int .i64 x.b, .int .i64 x.c] T)) (.slice (some ⟨W.heap.size, 0, none⟩) 1 1) [x] :=
  .inr ⟨W.heap.size, 0, 1, rfl, by simp, fun k hk => by
    have : k = 0 := by simp at hk; omega
    subst this
    simp⟩
set_option maxRecDepth 100000 in
set_option maxHeartbeats 1000000 in
theorem RenumberSystem_any (v : Int) (s : Value) (bs : List Blk) (t : Value) (p : List Int) (w : World) (h : SB w s bs) (ht : IB w t p) (hwf : ∀ z ∈ p, WF z) :
    Calls Try.prog 106 #[.agg #[.int .i64 v, s], t] w (RSys (renF v bs p) w) := by
  have hs := h.slice
  have HI := Lib.hid fun W (hb : Below w.heap.size w W) => IsSystem_any v s bs W (h.below hb (Nat.le_refl _))
  have HR := Lib.hid fun W (hb : Below w.heap.size w W) => isRenumbering_any v t p W (ht.below hb (Nat.le_refl _)) hwf
  have HSB := Lib.hid h
  have hlen := h.2.1
  have hts : ∃ a c, t = .slice a p.length c := by rcases ht.2 with ⟨a, c, rfl, rfl⟩ | ⟨b, off, cap, rfl, _⟩ <;> exact ⟨_, _, rfl⟩
  have HT := Lib.hid ht
  clear h ht hwf
  obtain ⟨a0, c0, rfl⟩ := hs
  obtain ⟨a1, c1, rfl⟩ := hts
  cases hi : isSysImpl v bs with
  | false =>
    have hval : renF v bs p = (0, [], 1) := by simp [renF, hi]
    rw [hval]
    rw [hi] at HI
    clear hval hi HSB HR HT
    go_enter Try.func106, Try.ntmps106
    go_wp2_with (go_at_call 45; refine (HI.out _ (below2 _ _ _ _)).mono ?_; rintro e w1 ⟨rfl, hb1⟩; obtain ⟨_, _, d0, d1, f0, f1, hbw, hlt⟩ := boxes2 hb1)
    exact bodyPost_ret (v := .tuple #[.agg #[.int .i64 0, .slice none 0 0], .int .i64 1]) (by simp [results, Try.results106, go_sem, *]) rfl ⟨_, rfl, .inl ⟨rfl, _, _, rfl⟩, below_set2 hbw (by omega) _ _⟩
  | true =>
    rw [hi] at HI
    obtain ⟨hv3, hv15, hb35⟩ := sys_size hi
    cases hr : isRen v p with
    | false =>
      have hval : renF v bs p = (0, [], 2) := by simp [renF, hi, hr]
      rw [hval]
      rw [hr] at HR
      clear hval hi hr HSB HT
      go_enter Try.func106, Try.ntmps106
      go_wp2_with fail
      refine (HI.out _ (below2 _ _ _ _)).mono ?_
      rintro e w1 ⟨rfl, hb1⟩
      obtain ⟨p0, p1, d0, d1, f0, f1, hbw, hlt⟩ := boxes2 hb1
      clear hb1
      go_wp2_with fail
      refine (HR.out _ hbw).mono ?_
      rintro e w2 ⟨rfl, hb2⟩
      obtain ⟨q0, q1, e0, e1, k0, k1⟩ : Six w2 w.heap.size v (.slice a0 bs.length c0) := keep6 (row := none) ⟨p0, p1, d0, d1, f0, f1⟩ (gb_below hb2) (by simp)
      have hz2 := hb2.size
      go_wp2
      exact bodyPost_ret (v := .tuple #[.agg #[.int .i64 0, .slice none 0 0], .int .i64 2]) (by simp [results, Try.results106, go_sem, *]) rfl ⟨_, rfl, .inl ⟨rfl, _, _, rfl⟩, below_set2 (hbw.trans (hb2.mono (by omega))) (by omega) _ _⟩
    | true =>
      have hval : renF v bs p = (v, sortB (bs.map (renB p)), 0) := by simp [renF, hi, hr]
      rw [hval]
      rw [hr] at HR
      have HG := Lib.hid (sys_good hi)
      have HREN := Lib.hid hr
      have hpl : (p.length : Int) = v := by unfold isRen at hr; simp only [Bool.and_eq_true, decide_eq_true_eq] at hr; exact hr.1
      clear hval hi hr
      go_enter Try.func106, Try.ntmps106
      go_wp2_with fail
      refine (HI.out _ (below2 _ _ _ _)).mono ?_
      rintro e w1 ⟨rfl, hb1⟩
      obtain ⟨p0, p1, d0, d1, f0, f1, hbw, hlt⟩ := boxes2 hb1
      clear hb1
      go_wp2_with fail
      refine (HR.out _ hbw).mono ?_
      rintro e w2 ⟨rfl, hb2⟩
      obtain ⟨q0, q1, e0, e1, k0, k1⟩ : Six w2 w.heap.size v (.slice a0 bs.length c0) := keep6 (row := none) ⟨p0, p1, d0, d1, f0, f1⟩ (gb_below hb2) (by simp)
      have hz2 := hb2.size
      have hbw2 := hbw.trans (hb2.mono (by omega))
      have hlt2 : w.heap.size + 1 < w2.heap.size := by omega
      have hlt3 : w.heap.size < w2.heap.size := by omega
      have HSX := Lib.hid (HSB.out.below hbw2 (Nat.le_refl _)).sx
      have HT2 := Lib.hid (HT.out.below hbw2 (Nat.le_refl _))
      have HSIX := Lib.hid (show Six w2 w.heap.size v (.slice a0 bs.length c0) from ⟨q0, q1, e0, e1, k0, k1⟩)
      have HPL := Lib.hid hpl
      clear p0 p1 d0 d1 f0 f1 hb2 e0 e1 k0 k1 hpl
      go_wp2_with fail
      go_loopw [6, 22] (fun o t wr => ∃ k : Nat, k ≤ bs.length ∧ t = .int .i64 k ∧ Below w2.heap.size w2 wr ∧ OwnR wr w2.heap.size o ((bs.take k).map (renB p)) ∧ ∃ a n c, o = .slice a n c) (fun _ t _ => bs.length - (intOf t).toNat)
      case atStart => exact ⟨0, Nat.zero_le _, rfl, Below.refl _ _, OwnR.nil _ _, _, _, _, rfl⟩
      case round =>
        obtain ⟨k, hk, rfl, hB, hO, a5, n5, c5, rfl⟩ := hrel
        have hz := hB.size
        have hz1 : w.heap.size < wr.heap.size := by omega
        have r0 := (hB.cell (p := ⟨w.heap.size, 0, none⟩) hlt3).trans q0
        have r1 := (hB.cell (p := ⟨w.heap.size, 1, none⟩) hlt3).trans q1
        have HO5 := Lib.hid hO
        clear hO
        by_cases hkl : k < bs.length
        · rcases HSX.out with ⟨_, _, _, hnil⟩ | ⟨b, off, cap, hv, hblt, hbl⟩
          · rw [hnil] at hkl; simp at hkl
          rcases HT2.out.2 with ⟨_, _, _, hnil⟩ | ⟨pb, po, pc, hv2, hplt, hpi⟩
          · exfalso; have := HPL.out; rw [hnil] at this; simp at this; omega
          simp at hv hv2
          obtain ⟨rfl, rfl⟩ := hv
          obtain ⟨rfl, rfl⟩ := hv2
          have hz4 : b < wr.heap.size := by omega
          have hz5 : pb < wr.heap.size := by omega
          obtain ⟨x, hx, ex, x1, x2, x3⟩ := blks_at (hbl.below hB hblt) hkl
          obtain ⟨g1, g2, g3, g4⟩ := goodB_iff.1 (HG.out x hx)
          obtain ⟨xa, xb, xc⟩ := x
          dsimp only at x1 x2 x3 g1 g2 g3 g4
          obtain ⟨na, rfl⟩ : ∃ n : Nat, xa = (n : Int) := ⟨xa.toNat, by omega⟩
          obtain ⟨nb, rfl⟩ : ∃ n : Nat, xb = (n : Int) := ⟨xb.toNat, by omega⟩
          obtain ⟨nc, rfl⟩ : ∃ n : Nat, xc = (n : Int) := ⟨xc.toNat, by omega⟩
          have hpl := HPL.out
          have t1 := (hB.cell (p := ⟨pb, po + na, none⟩) hplt).trans (hpi na (by omega))
          have t2 := (hB.cell (p := ⟨pb, po + nb, none⟩) hplt).trans (hpi nb (by omega))
          have t3 := (hB.cell (p := ⟨pb, po + nc, none⟩) hplt).trans (hpi nc (by omega))
          obtain ⟨ya, hya⟩ : ∃ y, y = p[na]?.getD 0 := ⟨_, rfl⟩
          obtain ⟨yb, hyb⟩ : ∃ y, y = p[nb]?.getD 0 := ⟨_, rfl⟩
          obtain ⟨yc, hyc⟩ : ∃ y, y = p[nc]?.getD 0 := ⟨_, rfl⟩
          rw [← hya] at t1
          rw [← hyb] at t2
          rw [← hyc] at t3
          obtain ⟨r, hr⟩ : ∃ r, r = blk3 ya yb yc := ⟨_, rfl⟩
          have hsucc : (bs.take (k + 1)).map (renB p) = (bs.take k).map (renB p) ++ [r] := by
            have e1 : bs[k] = ⟨(na : Int), (nb : Int), (nc : Int)⟩ := by rw [List.getElem?_eq_getElem hkl] at ex; simpa using ex
            rw [List.take_succ_eq_append_getElem hkl, List.map_append, e1, hr, hya, hyb, hyc]
            simp [renB, at0]
          have HSU := Lib.hid hsucc
          have HBF := Lib.hid fun (B : Nat) (C : Nat) (W : World) (j0 : W.cell? ⟨B, 0, none⟩ = some (.int .i64 ya)) (j1 : W.cell? ⟨B, 1, none⟩ = some (.int .i64 yb)) (j2 : W.cell? ⟨B, 2, none⟩ = some (.int .i64 yc)) => blockFrom_any B 0 C ya yb yc W j0 j1 j2
          rw [← hr] at HBF
          obtain ⟨ra, rb, rc⟩ := r
          unfold bv at HBF
          dsimp only at HBF
          have j1 : (na : Int) < (p.length : Int) := by omega
          have j2 : (nb : Int) < (p.length : Int) := by omega
          have j3 : (nc : Int) < (p.length : Int) := by omega
          have i0 : (0 : Int) ≤ (k : Int) := by omega
          have i1 : (k : Int) < (bs.length : Int) := by omega
          have hl3 : ((bs.take k).map (renB p)).length ≤ 1000 := by simp; omega
          obtain ⟨L, hL⟩ : ∃ L, L = (bs.take k).map (renB p) := ⟨_, rfl⟩
          rw [← hL] at HO5 HSU hl3
          have HLT := Lib.hid (show ∀ r, (Value.slice a5 n5 c5).ownBlock = some r → w2.heap.size ≤ r ∧ r < wr.heap.size from ownsRow_lt HO5.out)
          clear hx ex hbl hpi hsucc hya hyb hyc hr hL hpl
          have m0 : (wr.alloc (.cells #[.int .i64 (na : Int), .int .i64 (nb : Int), .int .i64 (nc : Int)] 93)).cell? ⟨pb, po + na, none⟩ = some (.int .i64 ya) := cell_past t1 hz5
          have m1 : (wr.alloc (.cells #[.int .i64 (na : Int), .int .i64 (nb : Int), .int .i64 (nc : Int)] 93)).cell? ⟨pb, po + nb, none⟩ = some (.int .i64 yb) := cell_past t2 hz5
          have m2 : (wr.alloc (.cells #[.int .i64 (na : Int), .int .i64 (nb : Int), .int .i64 (nc : Int)] 93)).cell? ⟨pb, po + nc, none⟩ = some (.int .i64 yc) := cell_past t3 hz5
          go_wp2
          have n0 : (wr.alloc (.cells #[.int .i64 (na : Int), .int .i64 (nb : Int), .int .i64 (nc : Int)] 93)).cell? ⟨wr.heap.size, 0, none⟩ = some (.int .i64 (na : Int)) := by simp [go_sem]
          have n1 : (wr.alloc (.cells #[.int .i64 (na : Int), .int .i64 (nb : Int), .int .i64 (nc : Int)] 93)).cell? ⟨wr.heap.size, 1, none⟩ = some (.int .i64 (nb : Int)) := by simp [go_sem]
          have n2 : (wr.alloc (.cells #[.int .i64 (na : Int), .int .i64 (nb : Int), .int .i64 (nc : Int)] 93)).cell? ⟨wr.heap.size, 2, none⟩ = some (.int .i64 (nc : Int)) := by simp [go_sem]
          have ho1 := HO5.out.below ((Below.refl _ _).alloc (Nat.le_refl _) (.cells #[.int .i64 (na : Int), .int .i64 (nb : Int), .int .i64 (nc : Int)] 93)) (Nat.le_refl _)
          have hB1 := hB.alloc hz (.cells #[.int .i64 (na : Int), .int .i64 (nb : Int), .int .i64 (nc : Int)] 93)
          have hz6 : (wr.alloc (.cells #[.int .i64 (na : Int), .int .i64 (nb : Int), .int .i64 (nc : Int)] 93)).heap.size = wr.heap.size + 1 := by simp
          obtain ⟨W1, hW1⟩ : ∃ W1, (wr.alloc (.cells #[.int .i64 (na : Int), .int .i64 (nb : Int), .int .i64 (nc : Int)] 93)) = W1 := ⟨_, rfl⟩
          rw [hW1] at m0 m1 m2 n0 n1 n2 ho1 hB1 hz6 ⊢
          have HO1 := Lib.hid ho1
          have HZ6 := Lib.hid hz6
          have hpz : pb < W1.heap.size := by omega
          have hwz : wr.heap.size < W1.heap.size := by omega
          clear hW1 t1 t2 t3 x1 x2 x3 ho1 hz6 r0 r1
          go_region_held3 (fun w' => w'.cell? ⟨pb, po + na, none⟩ = some (.int .i64 ya) ∧ w'.cell? ⟨pb, po + nb, none⟩ = some (.int .i64 yb) ∧ w'.cell? ⟨pb, po + nc, none⟩ = some (.int .i64 yc) ∧ w'.cell? ⟨wr.heap.size, 0, none⟩ = some (.int .i64 (na : Int)) ∧ w'.cell? ⟨wr.heap.size, 1, none⟩ = some (.int .i64 (nb : Int)) ∧ w'.cell? ⟨wr.heap.size, 2, none⟩ = some (.int .i64 (nc : Int)))
            (first | exact ⟨E0, E1, E2, E3, E4, E5⟩ | exact ⟨F0, F1, F2, F3, F4, F5⟩ | go_keep)
            (first
              | (go_at_call 123; refine (HBF.out W1.heap.size 3 _ (by simp [go_sem]) (by simp [go_sem]) (by simp [go_sem])).mono ?_; rintro e w5 ⟨rfl, hb5⟩; have hB5 : Below W1.heap.size W1 w5 := (((Below.refl _ _).alloc (Nat.le_refl _) _).drew).trans (hb5.mono (by simp)); have E0 := (hB5.cell (p := ⟨pb, po + na, none⟩) hpz).trans m0; have E1 := (hB5.cell (p := ⟨pb, po + nb, none⟩) hpz).trans m1; have E2 := (hB5.cell (p := ⟨pb, po + nc, none⟩) hpz).trans m2; have E3 := (hB5.cell (p := ⟨wr.heap.size, 0, none⟩) hwz).trans n0; have E4 := (hB5.cell (p := ⟨wr.heap.size, 1, none⟩) hwz).trans n1; have E5 := (hB5.cell (p := ⟨wr.heap.size, 2, none⟩) hwz).trans n2; have HO6 := Lib.hid (HO1.out.below hB5 (Nat.le_refl _)))
              | (refine step_append_many rfl (.tmp 26) (.tmp 44) rfl w2.heap.size (.slice a5 n5 c5) L (by simp [Act.eval]) (by first | exact HO6.out.below ((Below.refl _ _).alloc (Nat.le_refl _) _) (Nat.le_refl _) | exact HO6.out.below (((Below.refl _ _).alloc (Nat.le_refl _) _).drew) (Nat.le_refl _)) (.slice (some ⟨w5.heap.size, 0, none⟩) 1 1) [⟨ra, rb, rc⟩] (by simp [Act.eval]) (by first | exact sx_one _ ⟨ra, rb, rc⟩ _ | exact (sx_one _ ⟨ra, rb, rc⟩ _).below ((Below.refl _ _).drew) (Nat.le_refl _)) (by simp; omega) (by have := hB5.size; simp; omega) ?_; intro a3 c3 w3 ho3 hg3; have hgw : w5.grownBy w3 (Value.slice a5 n5 c5).ownBlock := gb_trans (World.grownBy_alloc _ _ none) (by first | exact hg3 | exact gb_drewL hg3); have F0 := hgw.cell E0 (fun e => by have := (HLT.out _ e.symm).1; simp at this; omega); have F1 := hgw.cell E1 (fun e => by have := (HLT.out _ e.symm).1; simp at this; omega); have F2 := hgw.cell E2 (fun e => by have := (HLT.out _ e.symm).1; simp at this; omega); have F3 := hgw.cell E3 (fun e => by have := (HLT.out _ e.symm).2; simp at this); have F4 := hgw.cell E4 (fun e => by have := (HLT.out _ e.symm).2; simp at this); have F5 := hgw.cell E5 (fun e => by have := (HLT.out _ e.symm).2; simp at this)))
          have hrow := HO6.out.row
          have hB6 := hB1.trans (hB5.mono (by omega))
          have hz7 := hB5.size
          have hB7 := hB6.grown hgw (by omega) (fun j e => hrow j e)
          go_wp2
          go_roundw
          case rel => exact ⟨k + 1, by omega, by go_num, hB7, by rw [HSU.out]; exact ho3, _, _, _, rfl⟩
          case measure => simp [intOf]; omega
        · have e : k = bs.length := by omega
          subst e
          rw [List.take_length] at HO5
          obtain ⟨L, hL⟩ : ∃ L, L = bs.map (renB p) := ⟨_, rfl⟩
          have hLl : L.length ≤ 1100000 := by rw [hL, List.length_map]; omega
          have HLL := Lib.hid hL
          rw [← hL] at HO5
          have HSF := Lib.hid (systemFrom_any v w2.heap.size (.slice a5 n5 c5) L wr HO5.out hLl hz)
          obtain ⟨e0, e1, k0, k1⟩ := HSIX.out.2.2
          have f0 := (hB.cell (p := ⟨w.heap.size + 1, 0, none⟩) hlt2).trans e0
          have f1 := (hB.cell (p := ⟨w.heap.size + 1, 1, none⟩) hlt2).trans e1
          have f2 := (hB.frozen (p := ⟨w.heap.size + 1, 0, none⟩) hlt2).trans k0
          have f3 := (hB.frozen (p := ⟨w.heap.size + 1, 1, none⟩) hlt2).trans k1
          have hrow := HO5.out.row
          clear e0 e1 k0 k1 hL
          go_wp2_with fail
          refine HSF.out.mono ?_
          rintro e w3 ⟨rfl, ho3, hg3⟩
          have hne : ∀ q, q < w2.heap.size → some q ≠ (Value.slice a5 n5 c5).ownBlock := fun q hq e => by have := hrow q e.symm; omega
          have g0 := hg3.cell f0 (by simpa using hne _ hlt2)
          have g1 := hg3.cell f1 (by simpa using hne _ hlt2)
          have hblk := hg3.block (w.heap.size + 1) (by omega) (hne _ hlt2)
          have g2 : w3.frozen? ⟨w.heap.size + 1, 0, none⟩ = false := (World.frozen?_of_block (a := ⟨w.heap.size + 1, 0, none⟩) hblk).trans f2
          have g3 : w3.frozen? ⟨w.heap.size + 1, 1, none⟩ = false := (World.frozen?_of_block (a := ⟨w.heap.size + 1, 1, none⟩) hblk).trans f3
          have hz9 := hg3.size
          have hB9 : Below w.heap.size w w3 := (hbw2.trans (hB.mono (by omega))).grown hg3 (by omega) (fun j e => by have := hrow j e; omega)
          have hres := ho3.res
          clear f0 f1 f2 f3 hblk ho3 hg3
          go_wp2
          have hfin := (hres.kept (gb_set2 w3 (w.heap.size + 1) (.int .i64 v) (.slice a5 n5 c5)) (fun r e => by cases e; exact .inl (by omega))).wide (lo' := w.heap.size) (by omega) (gb_set2 w3 (w.heap.size + 1) (.int .i64 v) (.slice a5 n5 c5)).size
          rw [HLL.out] at hfin
          exact bodyPost_ret (v := .tuple #[.agg #[.int .i64 v, .slice a5 n5 c5], .int .i64 0]) (by simp [results, Try.results106, go_sem, *]) rfl ⟨_, rfl, hfin, below_set2 hB9 (by omega) _ _⟩
end Go.Proofs.Ytehdpgjbmnkkiaa

namespace Go.Proofs.Ytehdpgjbmnkkiaa
def numL (m : Nat) : List Int := (List.range m).map fun (k : Nat) => (k : Int)
theorem numL_succ (m : Nat) : numL (m + 1) = numL m ++ [(m : Int)] := by simp [numL, List.range_succ]
theorem numL_len (m : Nat) : (numL m).length = m := by simp [numL]
theorem numL_asc (m : Nat) : (numL m).Pairwise (· ≤ ·) := by
  unfold numL
  rw [List.pairwise_map]
  exact List.pairwise_lt_range.imp (by intro a b h; omega)
theorem numL_nodup (m : Nat) : (numL m).Nodup := by
  unfold numL
  rw [List.Nodup, List.pairwise_map]
  exact List.nodup_range.imp fun h e => h (by omega)
end Go.Proofs.Ytehdpgjbmnkkiaa

namespace Go.Proofs.Ytehdpgjbmnkkiaa
open Go.RowKit Go.Maps
theorem OwnJ.slice {w : World} {base : Nat} {u : Value} {zs : List Int} (h : OwnJ w base u zs) : ∃ a c, u = .slice a zs.length c := by
  rcases h.2 with ⟨rfl, h0⟩ | ⟨g, cap, cur, rfl, _⟩
  · exact ⟨none, 0, by rw [h0]⟩
  · exact ⟨_, _, rfl⟩
end Go.Proofs.Ytehdpgjbmnkkiaa

namespace Go.Proofs.Ytehdpgjbmnkkiaa
open Go.RowKit Go.Maps
end Go.Proofs.Ytehdpgjbmnkkiaa

namespace Go.Proofs.Ytehdpgjbmnkkiaa
open Go.RowKit Go.Maps
/-- The pairs (a, b), b among the next n, that P lets through; then those of the rows before a. -/
def rowL (P : Int → Int → Bool) (a : Nat) : Nat → List (Int × Int)
  | 0 => []
  | n + 1 => rowL P a n ++ if P a ((a : Int) + 1 + n) then [((a : Int), (a : Int) + 1 + n)] else []
def leftL (P : Int → Int → Bool) (v : Nat) : Nat → List (Int × Int)
  | 0 => []
  | a + 1 => leftL P v a ++ rowL P a (v - 1 - a)
theorem rowL_len (P : Int → Int → Bool) (a n : Nat) : (rowL P a n).length ≤ n := by
  induction n with
  | zero => simp [rowL]
  | succ n ih =>
    unfold rowL
    rw [List.length_append]
    split <;> simp <;> omega
theorem leftL_len (P : Int → Int → Bool) (v a : Nat) : (leftL P v a).length ≤ a * v := by
  induction a with
  | zero => simp [leftL]
  | succ a ih =>
    unfold leftL
    rw [List.length_append, Nat.succ_mul]
    have := rowL_len P a (v - 1 - a)
    omega
theorem rowL_congr {P Q : Int → Int → Bool} {a : Nat} : ∀ n : Nat, (∀ b : Int, (a : Int) < b → b ≤ a + n → P a b = Q a b) → rowL P a n = rowL Q a n
  | 0, _ => rfl
  | n + 1, h => by
    unfold rowL
    rw [rowL_congr n (fun b h1 h2 => h b h1 (by omega)), h ((a : Int) + 1 + n) (by omega) (by omega)]
theorem leftL_congr {P Q : Int → Int → Bool} {v : Nat} : ∀ a : Nat, a ≤ v → (∀ a' b : Int, 0 ≤ a' → a' < b → b < v → P a' b = Q a' b) → leftL P v a = leftL Q v a
  | 0, _, _ => rfl
  | a + 1, ha, h => by
    unfold leftL
    rw [leftL_congr a (by omega) h, rowL_congr _ (fun b h1 h2 => h a b (by omega) h1 (by omega))]
def fnL (L : List (Int × Int)) (k : Nat) : List Int := let p := L[k]?.getD (0, 0); [p.1, p.2]
theorem fnL_len (L : List (Int × Int)) (k : Nat) : (fnL L k).length = 2 := rfl
theorem fnL_lt {L L' : List (Int × Int)} {k : Nat} (h : k < L.length) : fnL L k = fnL (L ++ L') k := by
  unfold fnL
  rw [List.getElem?_append_left h]
theorem fnL_at (L : List (Int × Int)) (p : Int × Int) : fnL (L ++ [p]) L.length = [p.1, p.2] := by simp [fnL]
theorem AccS.congr {w : World} {base : Nat} {u : Value} {n : Nat} {gs caps : Nat → Nat} {F F' : Nat → List Int} (h : AccS w base u n gs caps F) (e : ∀ k, k < n → F k = F' k) : AccS w base u n gs caps F' := by
  refine ⟨?_, fun k hk => by rw [← e k hk]; exact h.row k hk, h.ne, h.inc, h.low⟩
  have he : (List.range n).map (rowV gs caps F') = (List.range n).map (rowV gs caps F) := map_congr' fun k hk => by
    have := e k (List.mem_range.1 hk)
    simp [rowV, this]
  rw [he]
  exact h.own
theorem AccS.base {w : World} {base base' : Nat} {u : Value} {n : Nat} {gs caps : Nat → Nat} {F : Nat → List Int} (h : AccS w base u n gs caps F) (hb : base' ≤ base) : AccS w base' u n gs caps F :=
  ⟨ownsRow_base h.own hb, h.row, h.ne, h.inc, fun k hk => Nat.le_trans hb (h.low k hk)⟩
theorem wf_pl {n : Int} (h0 : 0 ≤ n) (h1 : n ≤ 1000) : WF n := by
  have : n = wrap64 n := by unfold wrap64; omega
  unfold WF
  rw [this]
  exact wrap64_wf _
def notIn (seen : List (Int × Int)) (a b : Int) : Bool := !decide ((a, b) ∈ seen)
theorem two_own (w : World) (x y : Int) (T : TypeId) : OwnAtI (w.alloc (.cells #[.int .i64 x, .int .i64 y] T)) w.heap.size [x, y] := by
  refine ⟨by simp, fun k hk => ?_, fun o => by simp⟩
  rw [World.cell?_alloc_at _ _ _ _ rfl]
  match k, hk with
  | 0, _ => rfl
  | 1, _ => rfl
end Go.Proofs.Ytehdpgjbmnkkiaa

namespace Go.Proofs.Ytehdpgjbmnkkiaa
open Go.RowKit Go.Maps
set_option maxRecDepth 100000 in
set_option maxHeartbeats 1000000 in
theorem turned_any (n k : Nat) (s : Value) (bs : List Blk) (w : World) (h : SB w s bs) (hi : isSysImpl (n : Int) bs = true) (hk : k < n) :
    Calls Try.prog 65 #[.agg #[.int .i64 (n : Int), s], .int .i64 (k : Int)] w (fun e w' => ∃ u, e = .returned (.agg #[.int .i64 (n : Int), u]) ∧ ResR w' w.heap.size w'.heap.size u (turnS n k bs) ∧ Below w.heap.size w w') := by
  have hn15 : n ≤ 15 := by have := (sys_size hi).2.1; omega
  have hs := h.slice
  have HR := Lib.hid fun (t : Value) W (hb : Below w.heap.size w W) (ht : IB W t (turnU n k n)) (hwf : ∀ z ∈ turnU n k n, WF z) => (turnS_ren (k := k) hi) ▸ RenumberSystem_any (n : Int) s bs t (turnU n k n) W (h.below hb (Nat.le_refl _)) ht hwf
  have HWF := Lib.hid (show ∀ z ∈ turnU n k n, WF z from fun z hz => by
    unfold turnU at hz
    obtain ⟨m, hm, rfl⟩ := List.mem_map.1 hz
    have := Nat.mod_lt (m + k) (show 0 < n by omega)
    exact wf_pl (by omega) (by omega))
  have hln := turnS_len n k bs
  have hbl := h.2.1
  clear h hi
  obtain ⟨a0, c0, rfl⟩ := hs
  go_enter Try.func65, Try.ntmps65
  go_wp2_with fail
  obtain ⟨w2, hw2⟩ : ∃ w2, ((w.alloc (.cells #[.int .i64 n, .slice a0 bs.length c0] 31)).alloc (.cells #[.int .i64 0, .slice none 0 0] 31)) = w2 := ⟨_, rfl⟩
  have six : Six w2 w.heap.size n (.slice a0 bs.length c0) := by rw [← hw2]; exact ⟨by simp [go_sem], by simp [go_sem], by simp [go_sem], by simp [go_sem], by simp [go_sem], by simp [go_sem]⟩
  have hz2 : w2.heap.size = w.heap.size + 1 + 1 := by rw [← hw2]; simp
  have hbw2 : Below w.heap.size w w2 := by rw [← hw2]; exact below2 _ _ _ _
  rw [hw2]
  clear hw2
  obtain ⟨q0, q1, _⟩ := id six
  have HSIX := Lib.hid six
  have hlt3 : w.heap.size < w2.heap.size := by omega
  have hlt4 : w.heap.size + 1 < w2.heap.size := by omega
  clear six
  go_loopw [5, 11] (fun o t wr => ∃ m : Nat, m ≤ n ∧ t = .int .i64 m ∧ Below w2.heap.size w2 wr ∧ OwnJ wr w2.heap.size o (turnU n k m)) (fun _ t _ => n - (intOf t).toNat)
  case atStart => exact ⟨0, Nat.zero_le _, rfl, Below.refl _ _, OwnJ.nil _ _⟩
  case round =>
    obtain ⟨m, hm, rfl, hB, hO⟩ := hrel
    have hz := hB.size
    obtain ⟨a3, c3, rfl⟩ := hO.slice
    have HO := Lib.hid hO
    have hl := turnU_len n k m
    rw [hl] at HO ⊢
    have r0 := (hB.cell (p := ⟨w.heap.size, 0, none⟩) hlt3).trans q0
    have r1 := (hB.cell (p := ⟨w.heap.size, 1, none⟩) hlt3).trans q1
    clear hO
    by_cases hmn : m < n
    · have hmod : wrap64 (Int.tmod ((m : Int) + (k : Int)) (n : Int)) = (((m + k) % n : Nat) : Int) := by
        rw [Int.tmod_eq_emod_of_nonneg (by omega)]
        have := Nat.mod_lt (m + k) (show 0 < n by omega)
        rw [show ((m : Int) + (k : Int)) % (n : Int) = (((m + k) % n : Nat) : Int) by simp]
        unfold wrap64; omega
      have HSU := Lib.hid (turnU_succ n k m)
      have hn0 : (n : Int) ≠ 0 := by omega
      go_wp2_with (at_builtin; refine wpList_append_int rfl _ _ rfl w2.heap.size _ (turnU n k m) rfl (HO.out.below ((Below.refl _ _).alloc (Nat.le_refl _) _) (Nat.le_refl _)) _ _ (((m + k) % n : Nat) : Int) rfl (by simp [go_sem]) (by omega) (by simp; omega) ?_; intro g' cap' w4 hO4 hg4; rw [hl] at hO4 ⊢)
      have hrow := HO.out.row
      have hgo := gb_trans (World.grownBy_alloc _ _ none) hg4
      clear hg4
      go_roundw
      case rel => exact ⟨m + 1, by omega, by go_num, hB.grown hgo hz (fun j e => hrow j e), by rw [HSU.out]; exact hO4⟩
      case measure => simp [intOf]; omega
    · have e : m = n := by omega
      subst e
      have hbw3 := hbw2.trans (hB.mono (by omega))
      obtain ⟨_, _, e0, e1, k0, k1⟩ := HSIX.out
      have f0 := (hB.cell (p := ⟨w.heap.size + 1, 0, none⟩) hlt4).trans e0
      have f1 := (hB.cell (p := ⟨w.heap.size + 1, 1, none⟩) hlt4).trans e1
      have f2 := (hB.frozen (p := ⟨w.heap.size + 1, 0, none⟩) hlt4).trans k0
      have f3 := (hB.frozen (p := ⟨w.heap.size + 1, 1, none⟩) hlt4).trans k1
      have HC := Lib.hid (HR.out _ wr hbw3 (HO.out.ib (by omega)) HWF.out)
      have hzr : w.heap.size + 1 < wr.heap.size := by omega
      clear e0 e1 k0 k1
      go_wp2_with fail
      refine HC.out.mono ?_
      rintro e w3 ⟨u, rfl, hres, hb3⟩
      have g0 := (hb3.cell (p := ⟨w.heap.size + 1, 0, none⟩) hzr).trans f0
      have g1 := (hb3.cell (p := ⟨w.heap.size + 1, 1, none⟩) hzr).trans f1
      have g2 := (hb3.frozen (p := ⟨w.heap.size + 1, 0, none⟩) hzr).trans f2
      have g3 := (hb3.frozen (p := ⟨w.heap.size + 1, 1, none⟩) hzr).trans f3
      have hz3 := hb3.size
      have HB3 := Lib.hid (hbw3.trans (hb3.mono (by omega)))
      have HRES := Lib.hid hres
      obtain ⟨a9, c9, hu⟩ := hres.slice
      obtain ⟨n9, hn9⟩ : ∃ n, n = (turnS m k bs).length := ⟨_, rfl⟩
      rw [← hn9] at hu
      subst hu
      clear hres hb3 HC r0 r1 f0 f1 f2 f3 hn9
      have hz9 : w.heap.size + 1 < w3.heap.size := by omega
      have p0 := cell_past (ob := .cells #[.int .i64 (m : Int), .slice a9 n9 c9] 31) g0 hz9
      have p1 := cell_past (ob := .cells #[.int .i64 (m : Int), .slice a9 n9 c9] 31) g1 hz9
      have p2 := (show (w3.alloc (.cells #[.int .i64 (m : Int), .slice a9 n9 c9] 31)).frozen? ⟨w.heap.size + 1, 0, none⟩ = w3.frozen? ⟨w.heap.size + 1, 0, none⟩ from World.frozen?_alloc_past _ _ _ hz9).trans g2
      have p3 := (show (w3.alloc (.cells #[.int .i64 (m : Int), .slice a9 n9 c9] 31)).frozen? ⟨w.heap.size + 1, 1, none⟩ = w3.frozen? ⟨w.heap.size + 1, 1, none⟩ from World.frozen?_alloc_past _ _ _ hz9).trans g3
      go_wp2
      have hg2 := gb_set2 w3 (w.heap.size + 1) (.int .i64 m) (.slice a9 n9 c9)
      refine bodyPost_ret (v := .agg #[.int .i64 m, .slice a9 n9 c9]) (by simp [results, Try.results65, go_sem, *]) rfl ⟨_, rfl, ?_, (below_set2 HB3.out (by omega) _ _).alloc (Nat.le_trans HB3.out.size hg2.size) _⟩
      exact ((HRES.out.kept hg2 (fun r e => by cases e; exact .inl (by omega))).kept (World.grownBy_alloc _ (.cells #[.int .i64 (m : Int), .slice a9 n9 c9] 31) none) (by simp)).wide (lo' := w.heap.size) (by omega) (Nat.le_trans hg2.size (by simp))
end Go.Proofs.Ytehdpgjbmnkkiaa

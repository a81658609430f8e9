
/- Systems in memory whose capacity holds them. The model's TakeBlock. impl.cycleFrom. The cycles of two points: plain. Two lists that grow beside each other: the points that were seen, and the cycles. impl.cyclesFrom. -/
import Derived.Test.YtiomdfhhejdoiaaJ8
import Derived.Deep.RegionHeld3
import Derived.IntWalk
import Derived.WalkMore
import Derived.ScopeJumps
namespace Go.Proofs.Ytiomdfhhejdoiaa
open Go.RowKit Go.Maps
def SC (w : World) (s : Value) (bs : List Blk) : Prop := SB w s bs ∧ ∀ a n c, s = .slice a n c → n ≤ c
theorem SC.below {w w' : World} {s : Value} {bs : List Blk} (h : SC w s bs) {B : Nat} (hb : Below B w w') (hB : w.heap.size ≤ B) : SC w' s bs := ⟨h.1.below hb hB, h.2⟩
theorem OwnB.sc {w : World} {lo : Nat} {s : Value} {bs : List Blk} (h : OwnB w lo s bs) (hwf : ∀ x ∈ bs, WFB x) (hl : bs.length ≤ 1100000) : SC w s bs := by
  refine ⟨h.sb hwf hl, fun a n c e => ?_⟩
  obtain ⟨g, cap, rfl, _, _, _, _, hc⟩ := h
  cases e
  exact hc
theorem l01In_out (n lo hi : Int) (W : World) (β : Bool) (hβ : (decide (lo ≤ n) && decide (n ≤ hi)) = β) : Calls Try.prog 79 #[.int .i64 n, .int .i64 lo, .int .i64 hi] W (RS (.bool β) W) := by
  rw [← hβ]
  exact l01In_any n lo hi W
end Go.Proofs.Ytiomdfhhejdoiaa

namespace Go.Proofs.Ytiomdfhhejdoiaa
open Go.RowKit Go.Maps
theorem Blks.take {w : World} {b off : Nat} {bs : List Blk} (h : Blks w b off bs) (j : Nat) : Blks w b off (bs.take j) := fun k hk => by
  rw [List.length_take] at hk
  have := h k (by omega)
  rwa [List.getElem?_take_of_lt (by omega)]
theorem Blks.drop {w : World} {b off : Nat} {bs : List Blk} (h : Blks w b off bs) (j : Nat) : Blks w b (off + j * 3) (bs.drop j) := fun k hk => by
  rw [List.length_drop] at hk
  have := h (j + k) (by omega)
  rw [List.getElem?_drop, show off + j * 3 + k * 3 = off + (j + k) * 3 by omega]
  exact this
theorem lit_own (W : World) : OwnR (W.alloc (.cells #[] 68)) W.heap.size (.slice (some ⟨W.heap.size, 0, none⟩) 0 0) [] :=
  ⟨rfl, .inr ⟨W.heap.size, 0, #[], rfl, Nat.le_refl _, (MapKept.heap_alloc W (.cells #[] 68)).1, Nat.le_refl _, by unfold maxLen; omega, rfl, rfl⟩⟩
theorem OwnR.drew {w : World} {base : Nat} {v : Value} {bs : List Blk} (h : OwnR w base v bs) : OwnR w.drew base v bs := h
theorem SX.drew {w : World} {v : Value} {bs : List Blk} (h : SX w v bs) : SX w.drew v bs := h
theorem Blks.drew {w : World} {b off : Nat} {bs : List Blk} (h : Blks w b off bs) : Blks w.drew b off bs := h
theorem Blks.kept {w w' : World} {b off : Nat} {bs : List Blk} {row : Option Nat} (h : Blks w b off bs) (hg : w.grownBy w' row) (hne : some b ≠ row) : Blks w' b off bs := fun k hk => by
  obtain ⟨h1, h2, h3⟩ := h k hk
  exact ⟨hg.cell h1 hne, hg.cell h2 hne, hg.cell h3 hne⟩
theorem keep_cell {w w' : World} {row : Option Nat} {b o : Nat} {u : Value} (h : w.cell? ⟨b, o, none⟩ = some u) (hg : w.grownBy w' row) (hne : ∀ r, row = some r → b < r) : w'.cell? ⟨b, o, none⟩ = some u :=
  hg.cell h (fun e => by have := hne _ e.symm; simp at this)
theorem keep_frozen {w w' : World} {row : Option Nat} {b o : Nat} {u : Value} (hc : w.cell? ⟨b, o, none⟩ = some u) (h : w.frozen? ⟨b, o, none⟩ = false) (hg : w.grownBy w' row) (hne : ∀ r, row = some r → b < r) : w'.frozen? ⟨b, o, none⟩ = false :=
  (World.frozen?_of_block (w := w) (a := ⟨b, o, none⟩) (hg.block b (block_lt_of_cell hc) (fun e => by have := hne _ e.symm; omega))).trans h
theorem keep_some {w w' : World} {row : Option Nat} {b o : Nat} (h : (w.cell? ⟨b, o, none⟩).isSome = true) (hg : w.grownBy w' row) (hne : ∀ r, row = some r → b < r) : (w'.cell? ⟨b, o, none⟩).isSome = true := by
  obtain ⟨u, hu⟩ := Option.isSome_iff_exists.1 h
  rw [keep_cell hu hg hne]
  rfl
theorem keep_free {w w' : World} {row : Option Nat} {b o : Nat} (h : (w.cell? ⟨b, o, none⟩).isSome = true) (hf : w.frozen? ⟨b, o, none⟩ = false) (hg : w.grownBy w' row) (hne : ∀ r, row = some r → b < r) : w'.frozen? ⟨b, o, none⟩ = false := by
  obtain ⟨u, hu⟩ := Option.isSome_iff_exists.1 h
  exact keep_frozen hu hf hg hne
def Six (w' : World) (b : Nat) (v : Int) (s : Value) : Prop := w'.cell? ⟨b, 0, none⟩ = some (.int .i64 v) ∧ w'.cell? ⟨b, 1, none⟩ = some s ∧ w'.cell? ⟨b + 1, 0, none⟩ = some (.int .i64 0) ∧ w'.cell? ⟨b + 1, 1, none⟩ = some (.slice none 0 0) ∧ w'.frozen? ⟨b + 1, 0, none⟩ = false ∧ w'.frozen? ⟨b + 1, 1, none⟩ = false
theorem keep6 {w w' : World} {b : Nat} {v : Int} {s : Value} {row : Option Nat} (h : Six w b v s) (hg : w.grownBy w' row) (hr : ∀ r, row = some r → b + 1 < r) : Six w' b v s := by
  obtain ⟨h0, h1, h2, h3, h4, h5⟩ := h
  exact ⟨keep_cell h0 hg (fun r e => by have := hr r e; omega), keep_cell h1 hg (fun r e => by have := hr r e; omega), keep_cell h2 hg hr, keep_cell h3 hg hr, keep_frozen h2 h4 hg hr, keep_frozen h3 h5 hg hr⟩
theorem run_slice_drop (b off n cap j : Nat) (h1 : j ≤ n) (h2 : n ≤ cap) : ∃ x, (∀ W : World, (Instr.slice 29 (.slice (some ⟨b, off, none⟩) n cap) (some (.int .i64 (j : Int))) none none).run Try.prog W = .ok x W) ∧ ∀ (W : World) (bs : List Blk), bs.length = n → b < W.heap.size → Blks W b off bs → SX W x (bs.drop j) := by
  have hj0 : (0 : Int) ≤ (j : Int) := by omega
  have hj1 : (j : Int) ≤ (n : Int) := by omega
  by_cases hc : j = cap
  · refine ⟨.slice (some ⟨b, off, none⟩) 0 0, fun W => ?_, fun W bs e _ _ => .inl ⟨_, _, rfl, List.drop_eq_nil_of_le (by omega)⟩⟩
    have e1 : n = j := by omega
    subst e1
    subst hc
    simp [Instr.slice, Instr.sliceBounds, Instr.sliceBound, run_underlying Try.underlying29, go_sem, hj0]
  · refine ⟨.slice (some ⟨b, off + j * 3, none⟩) (n - j) (cap - j), fun W => ?_, fun W bs e h1 h2 => .inr ⟨b, off + j * 3, cap - j, by rw [List.length_drop, e], h1, h2.drop j⟩⟩
    have hc' : ¬ cap = j := fun e => hc e.symm
    simp [Instr.slice, Instr.sliceBounds, Instr.sliceBound, run_underlying Try.underlying29, go_sem, hj0, h1, hc', addr_at]
end Go.Proofs.Ytiomdfhhejdoiaa

namespace Go.Proofs.Ytiomdfhhejdoiaa
open Go.RowKit Go.Maps
theorem wpList_append_int2 {w : World} {ops : Array Oper} {rest : List Oper} {o : Oper} {a : Act} {Q : Exit → Act → World → Prop} (hgd : o.guard = none) (s x : Operand)
    (ho : o.op = .call { callee := .builtin .append, args := #[s, x], argTypes := #[26, 26] })
    (base : Nat) (v : Value) (zs : List Int) (hs : a.eval s = v) (hown : OwnJ w base v zs) (b0 c : Nat) (y1 y2 : Int) (hx : a.eval x = .slice (some ⟨b0, 0, none⟩) 2 c)
    (c1 : w.cell? ⟨b0, 0, none⟩ = some (.int .i64 y1)) (c2 : w.cell? ⟨b0, 1, none⟩ = some (.int .i64 y2)) (hl : zs.length ≤ 3300000) (hbase : base ≤ w.heap.size)
    (h : ∀ (g cap : Nat) (w' : World), OwnJ w' base (.slice (some ⟨g, 0, none⟩) (zs.length + 2) cap) (zs ++ [y1, y2]) → w.grownBy w' v.ownBlock → wpList Try.prog ops Q rest (a.put o.dst (.slice (some ⟨g, 0, none⟩) (zs.length + 2) cap)) w') : wpList Try.prog ops Q (o :: rest) a w := by
  obtain ⟨i0, hi, hz0, hz1, hz2⟩ := info_parts infoInt64
  refine wpList_append_own w hgd s x 26 ho base 2 i0 _ 1 8 Try.underlying26 hi hz0 hz1 hz2 rfl (by decide) v zs.length (zs.map (Value.int .i64)) hs hown ⟨b0, 0, none⟩ 2 c [.int .i64 y1, .int .i64 y2] hx rfl ?_ ?_ (by unfold maxLen; omega) (by omega) hbase ?_
  · intro j u hj
    rw [addr_at, Nat.zero_add]
    match j, hj with
    | 0, hj => simp at hj; rw [← hj]; exact c1
    | 1, hj => simp at hj; rw [← hj]; exact c2
    | j + 2, hj => simp at hj
  · intro u hu
    simp at hu
    rcases hu with rfl | rfl <;> rfl
  · intro v' w' hown' hg _
    obtain ⟨g, cap, rfl⟩ := row_some (k := zs.length + 1) hown'
    refine h g cap w' ?_ hg
    unfold OwnJ
    rw [List.length_append, List.map_append]
    exact hown'
theorem tab_third {n : Nat} {bs : List Blk} (h : isSysImpl (n : Int) bs = true) (hf : fullB (n : Int) bs = true) {a b : Int} (ha : 0 ≤ a ∧ a < (n : Int)) (hb : 0 ≤ b ∧ b < (n : Int)) (hab : a ≠ b) : tabI bs a b = third1 bs a b := by
  obtain ⟨x, hx, h1, h2, _⟩ := tri_third h hf ha hb hab
  unfold tabI third1
  rw [if_neg hab]
  cases hfd : bs.find? (bothB a b) with
  | none => exact absurd (show bothB a b x = true by simp [bothB, h1, h2]) (by simpa using List.find?_eq_none.1 hfd x hx)
  | some y => rfl
/-- The points of the walk. -/
def wk (bs : List Blk) (a b : Nat) (s : Int) (k : Nat) : Int := stepN (third1 bs (a : Int)) (third1 bs (b : Int)) s k
def wkL (bs : List Blk) (a b : Nat) (s : Int) (k : Nat) : List Int := (List.range k).map (wk bs a b s)
theorem wkL_two (bs : List Blk) (a b : Nat) (s : Int) (k : Nat) : wkL bs a b s (k + 2) = wkL bs a b s k ++ [wk bs a b s k, wk bs a b s (k + 1)] := by
  simp [wkL, List.range_succ]
theorem wkL_len (bs : List Blk) (a b : Nat) (s : Int) (k : Nat) : (wkL bs a b s k).length = k := by simp [wkL]
/-- The length of a slice. -/
def lenOf : Value → Nat
  | .slice _ n _ => n
  | _ => 0
set_option maxRecDepth 100000 in
set_option maxHeartbeats 8000000 in
theorem cycleFrom_any (G : Nat) (lo : Nat) (gs caps : Nat → Nat) (n c : Nat) (bs : List Blk) (a b s : Nat) (w : World) (h : SSR w lo G gs caps n (rowT n (tabN bs))) (hi : isSysImpl (n : Int) bs = true) (hf : fullB (n : Int) bs = true) (ha : a < n) (hb : b < n) (hab : a ≠ b) (hs : Beyond n bs (a : Int) (b : Int) (s : Int)) (N : Nat) (hN0 : 0 < N) (hN2 : N % 2 = 0) (hN15 : N ≤ 15) (hfr : Fresh (third1 bs (a : Int)) (third1 bs (b : Int)) (s : Int) N) (hNs : wk bs a b s N = (s : Int)) :
    Calls Try.prog 122 #[.slice (some ⟨G, 0, none⟩) n c, .int .i64 (a : Int), .int .i64 (b : Int), .int .i64 (s : Int)] w (fun e w' => ∃ u, e = .returned u ∧ OwnJ w' w.heap.size u (wkL bs a b s N) ∧ Below w.heap.size w w') := by
  have htwo := two_thirds hi hf (a := (a : Int)) (b := (b : Int)) (by omega) (by omega) (by omega)
  have HM := Lib.hid (show ∀ k, Beyond n bs (a : Int) (b : Int) (wk bs a b s k) from fun k => htwo.mem hs k)
  have HSS := Lib.hid h
  have HI := Lib.hid hi
  have HF := Lib.hid hf
  have HFR := Lib.hid hfr
  have HNS := Lib.hid hNs
  have hn15 := (sys_size hi).2.1
  have HS0 := Lib.hid (show wk bs a b s 0 = (s : Int) from rfl)
  clear h hi hf hs hfr hNs htwo
  go_enter Try.func122, Try.ntmps122
  go_wp2_with fail
  refine wp_scope_jumps 0 (fun a' w' => ∃ (k : Nat) (o : Value) (u11 u13 u14 u15 u16 u17 u18 u19 u20 u21 u22 u23 u24 u25 u26 u27 u28 u29 u30 u31 u32 u33 u34 : Value), a' = { tmps := #[.slice (some ⟨G, 0, none⟩) n c, .int .i64 (a : Int), .int .i64 (b : Int), .int .i64 (s : Int), undef, undef, undef, undef, .slice none 0 0, o, .int .i64 (wk bs a b s (2 * k)), u11, .int .i64 (s : Int), u13, u14, u15, u16, u17, u18, u19, u20, u21, u22, u23, u24, u25, u26, u27, u28, u29, u30, u31, u32, u33, u34, undef], defers := [] } ∧ 2 * k < N ∧ OwnJ w' w.heap.size o (wkL bs a b s (2 * k)) ∧ (∃ x y, o = .slice x (2 * k) y) ∧ Below w.heap.size w w') (fun a' _ => N - lenOf (a'.tmps.getD 9 undef)) rfl ?_ ?_
  · go_wp2_with fail
    go_step3
    obtain ⟨k, hk0⟩ : ∃ k : Nat, k = 0 := ⟨0, rfl⟩
    have hk : 2 * k < N := by omega
    have hO : OwnJ w w.heap.size (.slice none 0 0) (wkL bs a b s (2 * k)) := by rw [hk0]; exact OwnJ.nil _ _
    have HB := Lib.hid (Below.refl w.heap.size w)
    have hP := HM.out (2 * k)
    have hQ := HM.out (2 * k + 1)
    have hR := HM.out (2 * k + 2)
    have eQ : wk bs a b s (2 * k + 1) = third1 bs (a : Int) (wk bs a b s (2 * k)) := by show (if (2 * k) % 2 = 0 then _ else _) = _; rw [if_pos (by omega)]; rfl
    have eR : wk bs a b s (2 * k + 2) = third1 bs (b : Int) (wk bs a b s (2 * k + 1)) := by show (if (2 * k + 1) % 2 = 0 then _ else _) = _; rw [if_neg (by omega)]; rfl
    have hS := wkL_two bs a b s (2 * k)
    have hle : (wkL bs a b s (2 * k)).length ≤ 100 := by rw [wkL_len]; omega
    have hPn : wk bs a b s (2 * k) = (s : Int) := by rw [hk0]; rfl
    obtain ⟨Q, hQn⟩ := Int.eq_ofNat_of_zero_le hQ.1.1
    obtain ⟨R, hRn⟩ := Int.eq_ofNat_of_zero_le hR.1.1
    have tQ := tab_third HI.out HF.out (a := (a : Int)) (b := wk bs a b s (2 * k)) (by omega) hP.1 (fun e => hP.2.1 e.symm)
    have tR := tab_third HI.out HF.out (a := (b : Int)) (b := wk bs a b s (2 * k + 1)) (by omega) hQ.1 (fun e => hQ.2.2.1 e.symm)
    rw [← eQ] at tQ
    rw [← eR] at tR
    have hPr := hP.1
    have hQr := hQ.1
    rw [hPn] at hPr tQ hS
    rw [hQn] at hQr tQ tR hS
    rw [hRn] at tR
    have hSS := HSS.out.below HB.out (Nat.le_refl _)
    have o1 := hSS.cell a ha
    have o2 := hSS.cell b hb
    rw [rowT_len] at o1 o2
    have z1 := (hSS.row a ha).at_ s (by rw [rowT_len]; omega)
    have z2 := (hSS.row b hb).at_ Q (by rw [rowT_len]; omega)
    rw [rowT_at _ _ (by omega), Nat.zero_add] at z1 z2
    rw [show tabN bs a s = (Q : Int) from tQ] at z1
    rw [show tabN bs b Q = (R : Int) from tR] at z2
    have HSV := Lib.hid hS
    have HRN := Lib.hid hRn
    have HPN := Lib.hid hPn
    have g0 : (0 : Int) ≤ (a : Int) := by omega
    have g1 : (a : Int) < (n : Int) := by omega
    have g2 : (0 : Int) ≤ (b : Int) := by omega
    have g3 : (b : Int) < (n : Int) := by omega
    have g4 : (s : Int) < (n : Int) := by omega
    have g5 : (Q : Int) < (n : Int) := by omega
    have HOO := Lib.hid hO
    have hzB := HB.out.size
    have hGlt : G < w.heap.size := HSS.out.lt
    have hgb : gs b < w.heap.size := (HSS.out.row b hb).lt
    clear hk0 hP hQ hR eQ eR hS tQ tR hSS hPn hQn hRn hPr hQr hO
    by_cases hrs : R = s
    · have hne : ((R : Int) != (s : Int)) = false := by simp; omega
      have hNk : 2 * k + 2 = N := by
        apply Classical.byContradiction
        intro hc
        refine HFR.out 0 (2 * k + 2) (by omega) (by omega) ?_
        show wk bs a b s 0 = wk bs a b s (2 * k + 2)
        rw [HS0.out, HRN.out, hrs]
      have HNK := Lib.hid hNk
      clear hrs hNk
      go_wp2_with (at_builtin; refine wpList_append_int2 rfl _ _ rfl w.heap.size _ (wkL bs a b s (2 * k)) rfl (HOO.out.below ((Below.refl _ _).alloc (Nat.le_refl _) _) (Nat.le_refl _)) _ _ (s : Int) (Q : Int) rfl (by simp [go_sem]) (by simp [go_sem]) (by omega) (by simp <;> omega) ?_; intro g' cap' w4 hO4 hg4; have hrow := HOO.out.row; have hgo : w.grownBy w4 (Value.slice none 0 0).ownBlock := ⟨hg4.os, hg4.tape, hg4.output, by have := hg4.size; simp at this; omega, fun i hi hne => by
        rw [hg4.block i (by simp; omega) hne, Below.heap_alloc _ _ _ hi]⟩; have o3 := (hgo.cell o2 (fun e => by have := hrow G e.symm; omega)); have z3 := (hgo.cell z2 (fun e => by have := hrow (gs b) e.symm; omega)))
      simp only [Exit.jump]
      go_ret
      exact ⟨_, rfl, by rw [← HNK.out, HSV.out]; exact hO4, HB.out.grown hgo hzB (fun j e => hrow j e)⟩
    · have hne : ((R : Int) != (s : Int)) = true := by simp; omega
      have hNk : 2 * (k + 1) < N := by
        apply Classical.byContradiction
        intro hc
        have e : 2 * k + 2 = N := by omega
        have h1 := HNS.out
        rw [← e, HRN.out] at h1
        exact hrs (by omega)
      have HNK := Lib.hid hNk
      clear hrs hNk
      go_wp2_with (at_builtin; refine wpList_append_int2 rfl _ _ rfl w.heap.size _ (wkL bs a b s (2 * k)) rfl (HOO.out.below ((Below.refl _ _).alloc (Nat.le_refl _) _) (Nat.le_refl _)) _ _ (s : Int) (Q : Int) rfl (by simp [go_sem]) (by simp [go_sem]) (by omega) (by simp <;> omega) ?_; intro g' cap' w4 hO4 hg4; have hrow := HOO.out.row; have hgo : w.grownBy w4 (Value.slice none 0 0).ownBlock := ⟨hg4.os, hg4.tape, hg4.output, by have := hg4.size; simp at this; omega, fun i hi hne => by
        rw [hg4.block i (by simp; omega) hne, Below.heap_alloc _ _ _ hi]⟩; have o3 := (hgo.cell o2 (fun e => by have := hrow G e.symm; omega)); have z3 := (hgo.cell z2 (fun e => by have := hrow (gs b) e.symm; omega)))
      go_step3
      rw [← HRN.out]
      refine ⟨rfl, ⟨k + 1, _, _, _, _, _, _, _, _, _, _, _, _, _, _, _, _, _, _, _, _, _, _, _, _, rfl, HNK.out, by rw [show 2 * (k + 1) = 2 * k + 2 from rfl, HSV.out]; exact hO4, ⟨some ⟨g', 0, none⟩, cap', by rw [wkL_len]; rfl⟩, HB.out.grown hgo hzB (fun j e => hrow j e)⟩⟩
  · rintro a' wr ⟨k, o, u11, u13, u14, u15, u16, u17, u18, u19, u20, u21, u22, u23, u24, u25, u26, u27, u28, u29, u30, u31, u32, u33, u34, rfl, hk, hO, ⟨oa, oc, rfl⟩, hB⟩
    have HB := Lib.hid hB
    clear hB
    have hP := HM.out (2 * k)
    have hQ := HM.out (2 * k + 1)
    have hR := HM.out (2 * k + 2)
    have eQ : wk bs a b s (2 * k + 1) = third1 bs (a : Int) (wk bs a b s (2 * k)) := by show (if (2 * k) % 2 = 0 then _ else _) = _; rw [if_pos (by omega)]; rfl
    have eR : wk bs a b s (2 * k + 2) = third1 bs (b : Int) (wk bs a b s (2 * k + 1)) := by show (if (2 * k + 1) % 2 = 0 then _ else _) = _; rw [if_neg (by omega)]; rfl
    have hS := wkL_two bs a b s (2 * k)
    have hle : (wkL bs a b s (2 * k)).length ≤ 100 := by rw [wkL_len]; omega
    obtain ⟨P, hPn⟩ := Int.eq_ofNat_of_zero_le hP.1.1
    obtain ⟨Q, hQn⟩ := Int.eq_ofNat_of_zero_le hQ.1.1
    obtain ⟨R, hRn⟩ := Int.eq_ofNat_of_zero_le hR.1.1
    have tQ := tab_third HI.out HF.out (a := (a : Int)) (b := wk bs a b s (2 * k)) (by omega) hP.1 (fun e => hP.2.1 e.symm)
    have tR := tab_third HI.out HF.out (a := (b : Int)) (b := wk bs a b s (2 * k + 1)) (by omega) hQ.1 (fun e => hQ.2.2.1 e.symm)
    rw [← eQ] at tQ
    rw [← eR] at tR
    have hPr := hP.1
    have hQr := hQ.1
    rw [hPn] at hPr tQ hS
    rw [hQn] at hQr tQ tR hS
    rw [hRn] at tR
    have hSS := HSS.out.below HB.out (Nat.le_refl _)
    have o1 := hSS.cell a ha
    have o2 := hSS.cell b hb
    rw [rowT_len] at o1 o2
    have z1 := (hSS.row a ha).at_ P (by rw [rowT_len]; omega)
    have z2 := (hSS.row b hb).at_ Q (by rw [rowT_len]; omega)
    rw [rowT_at _ _ (by omega), Nat.zero_add] at z1 z2
    rw [show tabN bs a P = (Q : Int) from tQ] at z1
    rw [show tabN bs b Q = (R : Int) from tR] at z2
    have HSV := Lib.hid hS
    have HRN := Lib.hid hRn
    have HPN := Lib.hid hPn
    have g0 : (0 : Int) ≤ (a : Int) := by omega
    have g1 : (a : Int) < (n : Int) := by omega
    have g2 : (0 : Int) ≤ (b : Int) := by omega
    have g3 : (b : Int) < (n : Int) := by omega
    have g4 : (P : Int) < (n : Int) := by omega
    have g5 : (Q : Int) < (n : Int) := by omega
    have HOO := Lib.hid hO
    have hzB := HB.out.size
    have hGlt : G < w.heap.size := HSS.out.lt
    have hgb : gs b < w.heap.size := (HSS.out.row b hb).lt
    rw [hPn]
    clear hP hQ hR eQ eR hS tQ tR hSS hPn hQn hRn hPr hQr hO
    by_cases hrs : R = s
    · have hne : ((R : Int) != (s : Int)) = false := by simp; omega
      have hNk : 2 * k + 2 = N := by
        apply Classical.byContradiction
        intro hc
        refine HFR.out 0 (2 * k + 2) (by omega) (by omega) ?_
        show wk bs a b s 0 = wk bs a b s (2 * k + 2)
        rw [HS0.out, HRN.out, hrs]
      have HNK := Lib.hid hNk
      clear hrs hNk
      go_wp2_with (at_builtin; refine wpList_append_int2 rfl _ _ rfl w.heap.size _ (wkL bs a b s (2 * k)) rfl (HOO.out.below ((Below.refl _ _).alloc (Nat.le_refl _) _) (Nat.le_refl _)) _ _ (P : Int) (Q : Int) rfl (by simp [go_sem]) (by simp [go_sem]) (by omega) (by simp <;> omega) ?_; intro g' cap' w4 hO4 hg4; have hrow := HOO.out.row; have hgo : wr.grownBy w4 (Value.slice oa (2 * k) oc).ownBlock := ⟨hg4.os, hg4.tape, hg4.output, by have := hg4.size; simp at this; omega, fun i hi hne => by
        rw [hg4.block i (by simp; omega) hne, Below.heap_alloc _ _ _ hi]⟩; have o3 := (hgo.cell o2 (fun e => by have := hrow G e.symm; omega)); have z3 := (hgo.cell z2 (fun e => by have := hrow (gs b) e.symm; omega)))
      simp only [Exit.jump]
      go_ret
      exact ⟨_, rfl, by rw [← HNK.out, HSV.out]; exact hO4, HB.out.grown hgo hzB (fun j e => hrow j e)⟩
    · have hne : ((R : Int) != (s : Int)) = true := by simp; omega
      have hNk : 2 * (k + 1) < N := by
        apply Classical.byContradiction
        intro hc
        have e : 2 * k + 2 = N := by omega
        have h1 := HNS.out
        rw [← e, HRN.out] at h1
        exact hrs (by omega)
      have HNK := Lib.hid hNk
      clear hrs hNk
      go_wp2_with (at_builtin; refine wpList_append_int2 rfl _ _ rfl w.heap.size _ (wkL bs a b s (2 * k)) rfl (HOO.out.below ((Below.refl _ _).alloc (Nat.le_refl _) _) (Nat.le_refl _)) _ _ (P : Int) (Q : Int) rfl (by simp [go_sem]) (by simp [go_sem]) (by omega) (by simp <;> omega) ?_; intro g' cap' w4 hO4 hg4; have hrow := HOO.out.row; have hgo : wr.grownBy w4 (Value.slice oa (2 * k) oc).ownBlock := ⟨hg4.os, hg4.tape, hg4.output, by have := hg4.size; simp at this; omega, fun i hi hne => by
        rw [hg4.block i (by simp; omega) hne, Below.heap_alloc _ _ _ hi]⟩; have o3 := (hgo.cell o2 (fun e => by have := hrow G e.symm; omega)); have z3 := (hgo.cell z2 (fun e => by have := hrow (gs b) e.symm; omega)))
      go_step3
      rw [← HRN.out]
      refine ⟨rfl, ⟨k + 1, _, _, _, _, _, _, _, _, _, _, _, _, _, _, _, _, _, _, _, _, _, _, _, _, rfl, HNK.out, by rw [show 2 * (k + 1) = 2 * k + 2 from rfl, HSV.out]; exact hO4, ⟨some ⟨g', 0, none⟩, cap', by rw [wkL_len]; rfl⟩, HB.out.grown hgo hzB (fun j e => hrow j e)⟩, by rw [wkL_len]; simp [lenOf]; omega⟩
end Go.Proofs.Ytiomdfhhejdoiaa

namespace Go.Proofs.Ytiomdfhhejdoiaa
def CycOk (bs : List Blk) (a b : Nat) (s : Int) (N : Nat) : Prop := 0 < N ∧ N % 2 = 0 ∧ N ≤ 15 ∧ Fresh (third1 bs (a : Int)) (third1 bs (b : Int)) s N ∧ wk bs a b s N = s
open Classical in
noncomputable def perN (bs : List Blk) (a b : Nat) (s : Int) : Nat := if h : ∃ N, CycOk bs a b s N then Classical.choose h else 0
noncomputable def cyc (bs : List Blk) (a b : Nat) (s : Int) : List Int := wkL bs a b s (perN bs a b s)
def seen0 (bs : List Blk) (a b : Nat) : List Int := [(a : Int), (b : Int), third1 bs (a : Int) (b : Int)]
/-- The cycles after some points. -/
noncomputable def cyS (bs : List Blk) (a b : Nat) : Nat → List (List Int)
  | 0 => []
  | k + 1 => if (k : Int) ∈ seen0 bs a b ++ (cyS bs a b k).flatten then cyS bs a b k else cyS bs a b k ++ [cyc bs a b (k : Int)]
section
variable {n : Nat} {bs : List Blk} {a b : Nat}
theorem perN_ok (h : isSysImpl (n : Int) bs = true) (hf : fullB (n : Int) bs = true) (ha : a < n) (hb : b < n) (hab : a ≠ b) {s : Int} (hs : Beyond n bs (a : Int) (b : Int) s) : CycOk bs a b s (perN bs a b s) := by
  have ht := two_thirds h hf (a := (a : Int)) (b := (b : Int)) (by omega) (by omega) (by omega)
  have hn := (sys_size h).2.1
  obtain ⟨N, h0, h2, hl, hfr, he⟩ := ht.period hs (l := (List.range n).map fun (k : Nat) => (k : Int)) (fun x hx => List.mem_map.2 ⟨x.toNat, List.mem_range.2 (by have := hx.1; omega), by have := hx.1; omega⟩)
  have hex : ∃ N, CycOk bs a b s N := ⟨N, h0, h2, by simp at hl; omega, hfr, he⟩
  unfold perN
  rw [dif_pos hex]
  exact Classical.choose_spec hex
theorem cyc_len (h : isSysImpl (n : Int) bs = true) (hf : fullB (n : Int) bs = true) (ha : a < n) (hb : b < n) (hab : a ≠ b) {s : Int} (hs : Beyond n bs (a : Int) (b : Int) s) : (cyc bs a b s).length ≤ 15 ∧ 0 < (cyc bs a b s).length := by
  have := perN_ok h hf ha hb hab hs
  unfold cyc
  rw [wkL_len]
  exact ⟨this.2.2.1, this.1⟩
theorem mem_cyc {s x : Int} : x ∈ cyc bs a b s ↔ ∃ k, k < perN bs a b s ∧ wk bs a b s k = x := by
  simp [cyc, wkL]
/-- What is in the cycles is beyond, and closed. -/
theorem cyS_closed (h : isSysImpl (n : Int) bs = true) (hf : fullB (n : Int) bs = true) (ha : a < n) (hb : b < n) (hab : a ≠ b) : ∀ k, k ≤ n → ∀ x ∈ (cyS bs a b k).flatten, Beyond n bs (a : Int) (b : Int) x ∧ third1 bs (a : Int) x ∈ (cyS bs a b k).flatten ∧ third1 bs (b : Int) x ∈ (cyS bs a b k).flatten
  | 0, _, x, hx => by simp [cyS] at hx
  | k + 1, hk, x, hx => by
    have ih := cyS_closed h hf ha hb hab k (by omega)
    have ht := two_thirds h hf (a := (a : Int)) (b := (b : Int)) (by omega) (by omega) (by omega)
    unfold cyS at hx ⊢
    split
    · rename_i hm
      rw [if_pos hm] at hx
      exact ih x hx
    · rename_i hm
      rw [if_neg hm] at hx
      have hB : Beyond n bs (a : Int) (b : Int) (k : Int) := by
        simp only [seen0, List.mem_append, List.mem_cons, List.not_mem_nil, or_false, not_or] at hm
        exact ⟨by omega, hm.1.1, hm.1.2.1, hm.1.2.2⟩
      have hok := perN_ok h hf ha hb hab hB
      simp only [List.flatten_append, List.flatten_cons, List.flatten_nil, List.append_nil, List.mem_append] at hx ⊢
      rcases hx with hx | hx
      · obtain ⟨h1, h2, h3⟩ := ih x hx
        exact ⟨h1, .inl h2, .inl h3⟩
      · obtain ⟨j, hj, rfl⟩ := mem_cyc.1 hx
        obtain ⟨⟨i1, hi1, e1⟩, ⟨i2, hi2, e2⟩⟩ := ht.closed hB hok.1 hok.2.1 hok.2.2.2.2 hj
        exact ⟨ht.mem hB j, .inr (mem_cyc.2 ⟨i1, hi1, e1.symm⟩), .inr (mem_cyc.2 ⟨i2, hi2, e2.symm⟩)⟩
theorem wk_notin (h : isSysImpl (n : Int) bs = true) (hf : fullB (n : Int) bs = true) (ha : a < n) (hb : b < n) (hab : a ≠ b) {k : Nat} (hk : k ≤ n) {s : Int} (hs : Beyond n bs (a : Int) (b : Int) s) (hn : s ∉ (cyS bs a b k).flatten) : ∀ j, wk bs a b s j ∉ (cyS bs a b k).flatten
  | 0 => hn
  | j + 1 => fun hm => by
    have ht := two_thirds h hf (a := (a : Int)) (b := (b : Int)) (by omega) (by omega) (by omega)
    obtain ⟨_, h2, h3⟩ := cyS_closed h hf ha hb hab k hk _ hm
    have hbk := ht.back hs j
    refine wk_notin h hf ha hb hab hk hs hn j ?_
    show stepN _ _ s j ∈ _
    rw [← hbk]
    split
    · exact h2
    · exact h3
theorem cyS_step (k : Nat) : (∃ R, cyS bs a b (k + 1) = cyS bs a b k ++ R) := by
  rw [show cyS bs a b (k + 1) = if (k : Int) ∈ seen0 bs a b ++ (cyS bs a b k).flatten then cyS bs a b k else cyS bs a b k ++ [cyc bs a b (k : Int)] from rfl]
  split
  · exact ⟨[], by simp⟩
  · exact ⟨_, rfl⟩
theorem cyS_pre {k m : Nat} (hk : k ≤ m) : ∃ R, cyS bs a b m = cyS bs a b k ++ R := by
  induction hk with
  | refl => exact ⟨[], by simp⟩
  | step _ ih =>
    obtain ⟨R, hR⟩ := ih
    obtain ⟨R', hR'⟩ := cyS_step (bs := bs) (a := a) (b := b) _
    exact ⟨R ++ R', by rw [hR', hR, List.append_assoc]⟩
theorem cyS_len : ∀ k, (cyS bs a b k).length ≤ k
  | 0 => Nat.le_refl _
  | k + 1 => by
    have := cyS_len k
    unfold cyS
    split
    · omega
    · simp; omega
theorem cyS_rows (h : isSysImpl (n : Int) bs = true) (hf : fullB (n : Int) bs = true) (ha : a < n) (hb : b < n) (hab : a ≠ b) : ∀ k, k ≤ n → ∀ r ∈ cyS bs a b k, r.length ≤ 15
  | 0, _, r, hr => by simp [cyS] at hr
  | k + 1, hk, r, hr => by
    have ih := cyS_rows h hf ha hb hab k (by omega)
    unfold cyS at hr
    split at hr
    · exact ih r hr
    · rename_i hm
      have hB : Beyond n bs (a : Int) (b : Int) (k : Int) := by
        simp only [seen0, List.mem_append, List.mem_cons, List.not_mem_nil, or_false, not_or] at hm
        exact ⟨by omega, hm.1.1, hm.1.2.1, hm.1.2.2⟩
      rcases List.mem_append.1 hr with hr | hr
      · exact ih r hr
      · simp at hr
        rw [hr]
        exact (cyc_len h hf ha hb hab hB).1
end
end Go.Proofs.Ytiomdfhhejdoiaa

namespace Go.Proofs.Ytiomdfhhejdoiaa
open Go.RowKit Go.Maps
/-- Appending all of a row to a list of one's own that is not empty: the grown list lies where it lay, or beyond all. -/
theorem wpList_append_ints_at {w : World} {ops : Array Oper} {rest : List Oper} {o : Oper} {a : Act} {Q : Exit → Act → World → Prop} (hgd : o.guard = none) (s x : Operand)
    (ho : o.op = .call { callee := .builtin .append, args := #[s, x], argTypes := #[26, 26] })
    (base : Nat) (v : Value) (zs : List Int) (hs : a.eval s = v) (hown : OwnJ w base v zs) (hne : 0 < zs.length) (b0 off c : Nat) (ys : List Int) (hx : a.eval x = .slice (some ⟨b0, off, none⟩) ys.length c)
    (hy : Ints w b0 off ys) (hl : zs.length + ys.length ≤ 3300000) (hbase : base ≤ w.heap.size)
    (h : ∀ (g cap : Nat) (w' : World), OwnJ w' base (.slice (some ⟨g, 0, none⟩) (zs.length + ys.length) cap) (zs ++ ys) → w.grownBy w' v.ownBlock → (v.ownBlock = some g ∨ g = w.heap.size) → wpList Try.prog ops Q rest (a.put o.dst (.slice (some ⟨g, 0, none⟩) (zs.length + ys.length) cap)) w') : wpList Try.prog ops Q (o :: rest) a w := by
  obtain ⟨i0, hi, hz0, hz1, hz2⟩ := info_parts infoInt64
  refine wpList_append_own_at w hgd s x 26 ho base 2 i0 _ 1 8 Try.underlying26 hi hz0 hz1 hz2 rfl (by decide) v zs.length (zs.map (Value.int .i64)) hs hown ⟨b0, off, none⟩ ys.length c (ys.map (Value.int .i64)) hx (by simp) ?_ ?_ (by unfold maxLen; omega) (by omega) hbase ?_
  · intro j u hj
    rw [addr_at]
    rw [List.getElem?_map] at hj
    cases hq : ys[j]? with
    | none => rw [hq] at hj; cases hj
    | some z =>
      rw [hq] at hj
      have hjl : j < ys.length := by
        rcases Nat.lt_or_ge j ys.length with h1 | h1
        · exact h1
        · rw [List.getElem?_eq_none h1] at hq; cases hq
      have := hy j hjl
      rw [hq] at this
      simp at hj
      rw [← hj]
      exact this
  · intro u hu
    obtain ⟨z, _, rfl⟩ := List.mem_map.1 hu
    rfl
  · intro v' w' hown' hg _ hob
    obtain ⟨m, hm⟩ : ∃ m, zs.length + ys.length = m + 1 := ⟨zs.length + ys.length - 1, by omega⟩
    have hv : ∃ g cap, v' = .slice (some ⟨g, 0, none⟩) (zs.length + ys.length) cap := by
      rcases hown'.2 with ⟨_, h0⟩ | ⟨g, cap, _, rfl, _⟩
      · omega
      · exact ⟨g, cap, rfl⟩
    obtain ⟨g, cap, rfl⟩ := hv
    refine h g cap w' ?_ hg ?_
    · unfold OwnJ
      rw [List.length_append, List.map_append]
      exact hown'
    · rcases hob with e | e
      · exact .inl (by rw [← e]; rfl)
      · exact .inr (by simpa [Value.ownBlock] using e)
theorem wpList_append_row_at {w : World} {ops : Array Oper} {rest : List Oper} {o : Oper} {a : Act} {Q : Exit → Act → World → Prop} (hgd : o.guard = none) (s x : Operand)
    (ho : o.op = .call { callee := .builtin .append, args := #[s, x], argTypes := #[44, 44] })
    (base : Nat) (v : Value) (n : Nat) (gs caps : Nat → Nat) (F : Nat → List Int) (hs : a.eval s = v) (hown : AccS w base v n gs caps F) (b0 c : Nat) (hx : a.eval x = .slice (some ⟨b0, 0, none⟩) 1 c) (g cg : Nat)
    (c1 : w.cell? ⟨b0, 0, none⟩ = some (.slice (some ⟨g, 0, none⟩) (F n).length cg)) (hrow : OwnAtI w g (F n)) (hgt : ∀ k, k < n → gs k < g) (hng : v.ownBlock ≠ some g) (hbg : base ≤ g) (hl : n ≤ 1100000) (hbase : base ≤ w.heap.size)
    (h : ∀ (G cap : Nat) (w' : World), AccS w' base (.slice (some ⟨G, 0, none⟩) (n + 1) cap) (n + 1) (fun k => if k = n then g else gs k) (fun k => if k = n then cg else caps k) F → w.grownBy w' v.ownBlock → (v.ownBlock = some G ∨ G = w.heap.size) → wpList Try.prog ops Q rest (a.put o.dst (.slice (some ⟨G, 0, none⟩) (n + 1) cap)) w') : wpList Try.prog ops Q (o :: rest) a w := by
  obtain ⟨i0, hi, hz0, hz1, hz2⟩ := info_parts infoRow
  refine wpList_append_own_at w hgd s x 44 ho base 26 i0 _ 1 24 Try.underlying44 hi hz0 hz1 hz2 rfl (by decide) v n _ hs hown.own ⟨b0, 0, none⟩ 1 c [.slice (some ⟨g, 0, none⟩) (F n).length cg] hx rfl ?_ ?_ (by unfold maxLen; omega) (by omega) hbase ?_
  · intro j u hj
    rw [addr_at, Nat.zero_add]
    match j, hj with
    | 0, hj => simp at hj; rw [← hj]; exact c1
    | j + 1, hj => simp at hj
  · intro u hu
    simp at hu
    rw [hu]
    rfl
  · intro v' w' hown' hg _ hob
    obtain ⟨G, cap, rfl⟩ := row_some hown'
    have hGg : G ≠ g := by
      rintro rfl
      rcases hob with e | e
      · exact hng (by rw [← e]; rfl)
      · simp [Value.ownBlock] at e
        have := hrow.lt
        omega
    refine h G cap w' ⟨?_, fun k hk => ?_, fun k hk => ?_, fun j k hjk hk => ?_, fun k hk => ?_⟩ hg ?_
    · rw [List.range_succ, List.map_append, List.map_singleton]
      have e1 : (List.range n).map (rowV (fun k => if k = n then g else gs k) (fun k => if k = n then cg else caps k) F) = (List.range n).map (rowV gs caps F) := map_congr' fun k hk => by
        have : k ≠ n := by have := List.mem_range.1 hk; omega
        simp [rowV, this]
      rw [e1]
      simpa [rowV] using hown'
    · split
      · subst k; exact hrow.kept hg (fun e => hng e.symm)
      · exact (hown.row k (by omega)).kept hg (fun e => hown.ne k (by omega) e.symm)
    · split
      · simpa [Value.ownBlock] using hGg
      · intro e
        have e' : G = gs k := by simpa [Value.ownBlock] using e
        rcases hob with e2 | e2
        · exact hown.ne k (by omega) (by rw [← e2, e])
        · simp [Value.ownBlock] at e2
          have := (hown.row k (by omega)).lt
          omega
    · rw [if_neg (by omega)]
      split
      · exact Nat.ne_of_lt (hgt j (by omega))
      · exact hown.inc j k hjk (by omega)
    · split
      · exact hbg
      · exact hown.low k (by omega)
    · rcases hob with e | e
      · exact .inl (by rw [← e]; rfl)
      · exact .inr (by simpa [Value.ownBlock] using e)
/-- The list of the points that were seen, in block sB, and the rows beside it. -/
structure CyM (w : World) (base sB sc : Nat) (sl : List Int) (cv : Value) (m : Nat) (gs caps : Nat → Nat) (F : Nat → List Int) : Prop where
  own : OwnJ w base (.slice (some ⟨sB, 0, none⟩) sl.length sc) sl
  acc : AccS w base cv m gs caps F
  ne : cv.ownBlock ≠ some sB
  nr : ∀ k, k < m → gs k ≠ sB
theorem CyM.kept {w w' : World} {base sB sc : Nat} {sl : List Int} {cv : Value} {m : Nat} {gs caps : Nat → Nat} {F : Nat → List Int} (h : CyM w base sB sc sl cv m gs caps F) (hg : w.grownBy w' none) : CyM w' base sB sc sl cv m gs caps F :=
  ⟨ownsRow_kept h.own hg (.inl rfl), h.acc.kept hg (.inl rfl) (fun _ _ e => by cases e), h.ne, h.nr⟩
end Go.Proofs.Ytiomdfhhejdoiaa

namespace Go.Proofs.Ytiomdfhhejdoiaa
open Go.RowKit Go.Maps
theorem inL_mem {p : Int} {l : List Int} : inL p l = true ↔ p ∈ l := by
  unfold inL
  rw [List.any_eq_true]
  constructor
  · rintro ⟨x, hx, e⟩
    have : p = x := by simpa using e
    exact this ▸ hx
  · intro h
    exact ⟨p, h, by simp⟩
theorem lit3J (W : World) (x y z : Int) {base : Nat} (hb : base ≤ W.heap.size) : OwnJ (W.alloc (.cells #[.int .i64 x, .int .i64 y, .int .i64 z] 2)) base (.slice (some ⟨W.heap.size, 0, none⟩) 3 3) [x, y, z] :=
  ⟨rfl, .inr ⟨W.heap.size, 3, #[.int .i64 x, .int .i64 y, .int .i64 z], rfl, hb, World.alloc_heap_new W _, Nat.le_refl _, by decide, rfl, rfl⟩⟩
theorem OwnJ.ints0 {w : World} {base sB k sc : Nat} {sl : List Int} (h : OwnJ w base (.slice (some ⟨sB, 0, none⟩) k sc) sl) (hl : sl.length ≤ 1100000) : Ints w sB 0 sl ∧ k = sl.length ∧ sB < w.heap.size ∧ base ≤ sB := by
  have hr := h.row sB rfl
  rcases h.res hl with ⟨_, a, c, e⟩ | ⟨g, cap, e, h1, h2, ho⟩
  · rcases h.2 with ⟨e2, _⟩ | ⟨g, cap, cur, e2, _⟩
    · cases e2
    · simp at e2
      have e3 := h.1
      cases e
      simp at e3
      have : sl = [] := List.length_eq_zero_iff.1 (by omega)
      subst this
      refine ⟨fun k hk => absurd hk (Nat.not_lt_zero k), rfl, ?_, hr⟩
      rcases h.2 with ⟨e5, _⟩ | ⟨g5, cap5, cur5, e5, _, hcur, _⟩
      · cases e5
      · simp at e5
        obtain ⟨rfl, _⟩ := e5
        exact (Array.getElem?_eq_some_iff.1 hcur).1
  · simp at e
    obtain ⟨rfl, rfl, _⟩ := e
    exact ⟨ho.at_, rfl, h2, hr⟩
theorem cyS_next_in {bs : List Blk} {a b k : Nat} (h : (k : Int) ∈ seen0 bs a b ++ (cyS bs a b k).flatten) : cyS bs a b (k + 1) = cyS bs a b k := by
  rw [show cyS bs a b (k + 1) = if (k : Int) ∈ seen0 bs a b ++ (cyS bs a b k).flatten then cyS bs a b k else cyS bs a b k ++ [cyc bs a b (k : Int)] from rfl, if_pos h]
theorem cyS_next_out {bs : List Blk} {a b k : Nat} (h : ¬ (k : Int) ∈ seen0 bs a b ++ (cyS bs a b k).flatten) : cyS bs a b (k + 1) = cyS bs a b k ++ [cyc bs a b (k : Int)] := by
  rw [show cyS bs a b (k + 1) = if (k : Int) ∈ seen0 bs a b ++ (cyS bs a b k).flatten then cyS bs a b k else cyS bs a b k ++ [cyc bs a b (k : Int)] from rfl, if_neg h]
theorem beyond_of {n k a b : Nat} {bs : List Blk} (hk : k < n) (h : ¬ (k : Int) ∈ seen0 bs a b ++ (cyS bs a b k).flatten) : Beyond n bs (a : Int) (b : Int) (k : Int) ∧ (k : Int) ∉ (cyS bs a b k).flatten := by
  simp only [seen0, List.mem_append, List.mem_cons, List.not_mem_nil, or_false, not_or] at h
  exact ⟨⟨by omega, h.1.1, h.1.2.1, h.1.2.2⟩, h.2⟩
theorem CyM.step1 {w w' : World} {base sB sc l g3 gS : Nat} {sl cy : List Int} {cv : Value} {m : Nat} {gs caps : Nat → Nat} {F : Nat → List Int} (h : CyM w base sB sc sl cv m gs caps F)
    (hg : w.grownBy w' (Value.slice (some ⟨sB, 0, none⟩) l sc).ownBlock) (he : (Value.slice (some ⟨sB, 0, none⟩) l sc).ownBlock = some gS ∨ gS = w.heap.size) (ho : OwnAtI w g3 cy) (hne : sB ≠ g3) :
    (gS = sB ∨ gS = w.heap.size) ∧ AccS w' base cv m gs caps F ∧ OwnAtI w' g3 cy := by
  refine ⟨?_, ?_, ?_⟩
  · rcases he with e | e
    · left
      simp [Value.ownBlock] at e
      exact e.symm
    · exact .inr e
  · exact h.acc.kept hg (.inr fun e => h.ne e) (fun j hj e => h.nr j hj (by simpa [Value.ownBlock] using e))
  · exact ho.kept hg (by simp [Value.ownBlock]; omega)
theorem CyM.step2 {w4 w5 w6 : World} {base sB N3 g3 gS capS gC capC : Nat} {sl : List Int} {cv : Value} {m : Nat} {gs gs' caps' : Nat → Nat} {F : Nat → List Int}
    (hO : OwnJ w4 base (.slice (some ⟨gS, 0, none⟩) sl.length capS) sl) (h45 : w4.grownBy w5 none) (h56 : w5.grownBy w6 cv.ownBlock) (he : cv.ownBlock = some gC ∨ gC = w5.heap.size)
    (hA : AccS w6 base (.slice (some ⟨gC, 0, none⟩) (m + 1) capC) (m + 1) gs' caps' F) (hgs : ∀ k, gs' k = if k = m then g3 else gs k) (hS : gS = sB ∨ gS = N3) (hxl : ∀ r, cv.ownBlock = some r → r < N3) (hne : cv.ownBlock ≠ some sB)
    (hg : ∀ j, j < m → gs j < N3 ∧ gs j ≠ sB) (h3 : g3 < N3 ∧ g3 ≠ sB) (hlt : gS < w4.heap.size) : CyM w6 base gS capS sl (.slice (some ⟨gC, 0, none⟩) (m + 1) capC) (m + 1) gs' caps' F := by
  have hcv : cv.ownBlock ≠ some gS := fun e => by
    rcases hS with rfl | rfl
    · exact hne e
    · exact Nat.lt_irrefl _ (hxl _ e)
  refine ⟨ownsRow_kept (ownsRow_kept hO h45 (.inl rfl)) h56 (.inr fun e => hcv e.symm), hA, ?_, fun k hk => ?_⟩
  · intro e
    have e : gC = gS := by simpa [Value.ownBlock] using e
    subst e
    rcases he with e | e
    · exact hcv e
    · have := h45.size; omega
  · rw [hgs]
    split
    · rcases hS with rfl | rfl
      · exact h3.2
      · omega
    · rcases hS with rfl | rfl
      · exact (hg k (by omega)).2
      · have := (hg k (by omega)).1; omega
theorem flat_le {l : List (List Int)} (h : ∀ r ∈ l, r.length ≤ 15) : l.flatten.length ≤ 15 * l.length := by
  induction l with
  | nil => simp
  | cons r l ih =>
    have h1 := h r List.mem_cons_self
    have h2 := ih fun x hx => h x (List.mem_cons_of_mem _ hx)
    simp only [List.flatten_cons, List.length_append, List.length_cons]
    omega
set_option maxRecDepth 100000 in
set_option maxHeartbeats 8000000 in
theorem cyclesFrom_any (G lo : Nat) (tgs tcaps : Nat → Nat) (n c : Nat) (bs : List Blk) (a b : Nat) (w : World) (h : SSR w lo G tgs tcaps n (rowT n (tabN bs))) (hi : isSysImpl (n : Int) bs = true) (hf : fullB (n : Int) bs = true) (ha : a < n) (hb : b < n) (hab : a ≠ b) :
    Calls Try.prog 97 #[.slice (some ⟨G, 0, none⟩) n c, .int .i64 (a : Int), .int .i64 (b : Int)] w (fun e w' => ∃ u, e = .returned u ∧ ResSS w' w.heap.size u (cyS bs a b n).length (rowsF (cyS bs a b n)) ∧ Below w.heap.size w w') := by
  have hn15 := (sys_size hi).2.1
  have HSS := Lib.hid h
  have HCF := Lib.hid fun (k : Nat) (hk : Beyond n bs (a : Int) (b : Int) (k : Int)) W (hb2 : Below w.heap.size w W) => (fun ok => cycleFrom_any G lo tgs tcaps n c bs a b k W (h.below hb2 (Nat.le_refl _)) hi hf ha hb hab hk (perN bs a b (k : Int)) ok.1 ok.2.1 ok.2.2.1 ok.2.2.2.1 ok.2.2.2.2) (perN_ok hi hf ha hb hab hk)
  have HCL := Lib.hid fun (k : Nat) (hk : Beyond n bs (a : Int) (b : Int) (k : Int)) => cyc_len hi hf ha hb hab hk
  have HRW := Lib.hid fun k (hk : k ≤ n) => flat_le (cyS_rows hi hf ha hb hab k hk)
  have o1 := h.cell a ha
  rw [rowT_len] at o1
  have z1 := (h.row a ha).at_ b (by rw [rowT_len]; exact hb)
  rw [rowT_at _ _ hb, Nat.zero_add] at z1
  obtain ⟨t0, ht0⟩ : ∃ t, t = third1 bs (a : Int) (b : Int) := ⟨_, rfl⟩
  rw [show tabN bs a b = t0 from by rw [ht0]; exact tab_third hi hf (by omega) (by omega) (by omega)] at z1
  have HSEEN := Lib.hid (show seen0 bs a b = [(a : Int), (b : Int), t0] by rw [ht0]; rfl)
  have g0 : (0 : Int) ≤ (a : Int) := by omega
  have g1 : (a : Int) < (n : Int) := by omega
  have g2 : (0 : Int) ≤ (b : Int) := by omega
  have g3 : (b : Int) < (n : Int) := by omega
  clear h hi hf ht0
  go_enter Try.func97, Try.ntmps97
  obtain ⟨W0, rfl⟩ : ∃ W0, W0 = w := ⟨_, rfl⟩
  go_wp2_with fail
  go_loopw [7, 8, 23] (fun sv cv i wr => ∃ (k sB sc : Nat) (gs caps : Nat → Nat), k ≤ n ∧ i = .int .i64 k ∧ sv = .slice (some ⟨sB, 0, none⟩) (seen0 bs a b ++ (cyS bs a b k).flatten).length sc ∧ CyM wr W0.heap.size sB sc (seen0 bs a b ++ (cyS bs a b k).flatten) cv (cyS bs a b k).length gs caps (rowsF (cyS bs a b n)) ∧ Below W0.heap.size W0 wr ∧ ∃ x y, cv = .slice x (cyS bs a b k).length y) (fun _ _ i _ => n - (intOf i).toNat)
  case atStart =>
    refine ⟨0, W0.heap.size, 3, fun _ => 0, fun _ => 0, Nat.zero_le _, rfl, rfl, ⟨?_, AccS.nil _ _ _ _ _, by simp [Value.ownBlock], fun k hk => absurd hk (Nat.not_lt_zero k)⟩, (Below.refl _ _).alloc (Nat.le_refl _) _, _, _, rfl⟩
    rw [show cyS bs a b 0 = [] from rfl, List.flatten_nil, List.append_nil, HSEEN.out]
    exact lit3J W0 _ _ _ (Nat.le_refl _)
  case round =>
    obtain ⟨k, sB, sc, gs, caps, hk, rfl, rfl, hM, hB, x0, y0, rfl⟩ := hrel
    have HB := Lib.hid hB
    have HM := Lib.hid hM
    have hz := hB.size
    have hsl := HRW.out k hk
    have hcl := cyS_len (bs := bs) (a := a) (b := b) k
    obtain ⟨sl, hsl'⟩ : ∃ sl, sl = seen0 bs a b ++ (cyS bs a b k).flatten := ⟨_, rfl⟩
    have hsll : sl.length ≤ 300 := by rw [hsl', List.length_append]; have : (seen0 bs a b).length = 3 := rfl; omega
    have hsl0 : 0 < sl.length := by rw [hsl', List.length_append]; have : (seen0 bs a b).length = 3 := rfl; omega
    obtain ⟨m, hm⟩ : ∃ m, m = (cyS bs a b k).length := ⟨_, rfl⟩
    have hm15 : m ≤ 15 := by omega
    rw [← hsl', ← hm] at HM
    rw [← hsl', ← hm]
    obtain ⟨hI, _, hsBlt, hsBb⟩ := HM.out.own.ints0 (by omega)
    clear hB hM hsl hcl
    by_cases hkl : k < n
    · have HCO := Lib.hid (Contains_any sB 0 sc sl (k : Int) wr hI (by omega))
      cases hin : inL (k : Int) sl with
      | true =>
        rw [hin] at HCO
        have HN := Lib.hid (cyS_next_in (bs := bs) (a := a) (b := b) (k := k) (by rw [← hsl']; exact inL_mem.1 hin))
        have HSL := Lib.hid hsl'
        have HMM := Lib.hid hm
        clear hin hsl' hm hI
        go_wp2_with fail
        refine HCO.out.mono ?_
        rintro e w2 ⟨rfl, rfl⟩
        go_wp2_with fail
        go_roundw
        case rel => exact ⟨k + 1, sB, sc, gs, caps, by omega, by go_num, by rw [HN.out, ← HSL.out], by rw [HN.out, ← HSL.out, ← HMM.out]; exact HM.out, HB.out, x0, y0, by rw [HN.out, ← HMM.out]⟩
        case measure => simp [intOf]; omega
      | false =>
        rw [hin] at HCO
        have hnot : ¬ (k : Int) ∈ seen0 bs a b ++ (cyS bs a b k).flatten := by rw [← hsl']; intro e; rw [inL_mem.2 e] at hin; cases hin
        have HN := Lib.hid (cyS_next_out hnot)
        have hbey := (beyond_of hkl hnot).1
        have HC := Lib.hid (HCF.out k hbey wr HB.out)
        have hcyl := HCL.out k hbey
        obtain ⟨R, hR⟩ := cyS_pre (bs := bs) (a := a) (b := b) (show k + 1 ≤ n by omega)
        have HF := Lib.hid (show rowsF (cyS bs a b n) m = cyc bs a b (k : Int) by
          unfold rowsF
          rw [hR, HN.out, hm, List.append_assoc, List.getElem?_append_right (Nat.le_refl _), Nat.sub_self]
          rfl)
        have HSL := Lib.hid hsl'
        have HMM := Lib.hid hm
        obtain ⟨cy, hcy⟩ : ∃ cy, cy = cyc bs a b (k : Int) := ⟨_, rfl⟩
        rw [show wkL bs a b (k : Int) (perN bs a b (k : Int)) = cy from hcy.symm] at HC
        rw [← hcy] at HF hcyl
        have HCY := Lib.hid hcy
        clear hin hsl' hm hI hnot hbey hR hcy
        go_wp2_with fail
        refine HCO.out.mono ?_
        rintro e w2 ⟨rfl, rfl⟩
        go_wp2_with fail
        refine HC.out.mono ?_
        rintro e w3 ⟨u3, rfl, ho3, hb3⟩
        obtain ⟨g3, cap3, rfl, hg3lo, hg3hi, hoA⟩ : ∃ g cap, u3 = .slice (some ⟨g, 0, none⟩) cy.length cap ∧ wr.heap.size ≤ g ∧ g < w3.heap.size ∧ OwnAtI w3 g cy := by
          rcases ho3.res (by omega) with ⟨e, _⟩ | h
          · rw [e] at hcyl; simp at hcyl
          · exact h
        have hM3 := HM.out.kept (gb_below hb3)
        have hz3 := hb3.size
        have HB3 := Lib.hid (HB.out.trans (hb3.mono hz))
        have hxlt : ∀ r, (Value.slice x0 m y0).ownBlock = some r → r < wr.heap.size := fun r e => (ownsRow_lt HM.out.acc.own r e).2
        have hglt : ∀ j, j < m → gs j < wr.heap.size := fun j hj => (HM.out.acc.row j hj).lt
        have hzb : W0.heap.size ≤ w3.heap.size := by omega
        have HM3 := Lib.hid hM3
        have HA3 := Lib.hid hoA
        have HXL := Lib.hid hxlt
        have HGL := Lib.hid hglt
        clear ho3 hb3 hM3 hoA hxlt hglt
        have hs3 : sB ≠ g3 := by omega
        have HS3 := Lib.hid hs3
        clear hs3
        go_wp2_with (first
          | (at_builtin; refine wpList_append_ints_at rfl _ _ rfl W0.heap.size _ sl rfl HM3.out.own hsl0 g3 0 cap3 cy rfl HA3.out.at_ (by omega) hzb ?_; intro gS capS w4 hoS hgS heS; have HST := Lib.hid (HM3.out.step1 hgS heS HA3.out HS3.out); have hz4 := hgS.size; have HS4 := Lib.hid hoS; have HG4 := Lib.hid hgS; clear hoS hgS heS)
          | (at_builtin; refine wpList_append_row_at rfl _ _ rfl W0.heap.size _ m gs caps (rowsF (cyS bs a b n)) rfl (HST.out.2.1.below ((Below.refl _ _).alloc (Nat.le_refl _) _) (Nat.le_refl _)) w4.heap.size 1 rfl g3 cap3 (by rw [HF.out]; simp [go_sem]) (by rw [HF.out]; exact HST.out.2.2.kept (World.grownBy_alloc _ _ none) (by simp)) (fun j hj => by have := HGL.out j hj; omega) (fun e => by have := HXL.out g3 e; omega) (by omega) (by omega) (by simp; omega) ?_; intro gC capC w6 haC hgC heC))
        have hsl2 : (sl ++ cy).length = sl.length + cy.length := List.length_append
        have hS4 := HS4.out
        rw [← hsl2] at hS4
        have h4lt := (hS4.ints0 (by omega)).2.2.1
        have hM6 := CyM.step2 (gs := gs) (g3 := g3) (N3 := w3.heap.size) hS4 (World.grownBy_alloc w4 _ none) hgC heC haC (fun _ => rfl) HST.out.1 (fun r e => by have := HXL.out r e; omega) HM.out.ne (fun j hj => ⟨by have := HGL.out j hj; omega, HM.out.nr j hj⟩) ⟨hg3hi, fun e => HS3.out e.symm⟩ h4lt
        have hrb : ∀ r, (Value.slice (some ⟨sB, 0, none⟩) sl.length sc).ownBlock = some r → W0.heap.size ≤ r := fun r e => by
          have h0 : sB = r := by simpa [Value.ownBlock] using e
          omega
        have hB6 : Below W0.heap.size W0 w6 := ((HB3.out.grown HG4.out hzb hrb).alloc (by omega) _).grown hgC (by simp; omega) (fun r e => (ownsRow_lt HM.out.acc.own r e).1)
        have hfl : seen0 bs a b ++ (cyS bs a b (k + 1)).flatten = sl ++ cy := by rw [HN.out, List.flatten_append, ← List.append_assoc, ← HSL.out, HCY.out]; simp
        have hln : (cyS bs a b (k + 1)).length = m + 1 := by rw [HN.out, List.length_append, ← HMM.out]; rfl
        have HFL := Lib.hid hfl
        have HLN := Lib.hid hln
        have HM6 := Lib.hid hM6
        have HB6 := Lib.hid hB6
        clear hM6 hB6 hfl hln hS4 hsl2
        go_roundw
        case rel => exact ⟨k + 1, gS, capS, _, _, by omega, by go_num, by rw [HFL.out, List.length_append], by rw [HFL.out, HLN.out]; exact HM6.out, HB6.out, _, _, by rw [HLN.out]⟩
        case measure => simp [intOf]; omega
    · have e : k = n := by omega
      subst e
      have hr := HM.out.acc.res
      rw [hm] at hr ⊢
      go_wp2
      go_ret
      exact ⟨_, rfl, hr, HB.out⟩
end Go.Proofs.Ytiomdfhhejdoiaa

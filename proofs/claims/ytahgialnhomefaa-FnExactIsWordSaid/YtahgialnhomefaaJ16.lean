
/- reduce of words modulo 2. The rows of a system: plain; the table in memory. rowsOf modulo 2. rowsOf modulo 2, walked. The model's rank (by columns, rows swapped), plain: it is the length of the program's basis. basisOf modulo 2. Sets of points as masks, and how many bits they have: plain. -/
import Derived.Test.YtahgialnhomefaaJ15
import Derived.Lib.BitFns
namespace Go.Proofs.Ytahgialnhomefaa
open Go.RowKit Go.Maps
set_option maxRecDepth 100000 in
set_option maxHeartbeats 2000000 in
theorem reduce2_any (b off n c1 : Nat) (ws : List Int) (ta : Option Addr) (tc m : Nat) (B : List (List Int)) (w : World) (hw : Ints w b off ws) (hwf : Wf 2 n ws) (hB : RdB w ta b off n B) (hBw : ∀ o ∈ B, Wf 2 n o) (hBn : ∀ o ∈ B, ∃ x ∈ o, x ≠ 0)
    (hfz : ∀ k, k < n → w.frozen? ⟨b, off + k, none⟩ = false) (hn : n ≤ 1000) (hm : m = B.length) (hm1 : m ≤ 1000) :
    Calls Try.prog 71 #[.slice (some ⟨b, off, none⟩) n c1, .slice ta m tc] w (fun e w' => e = .returned (.tuple #[]) ∧ Wr w w' b off n ∧ Ints w' b off (redL 2 ws B)) := by
  have HB := Lib.hid fun W' (h : Wr w W' b off n) i (hi : i < m) => (hB.wr h (fun o ho => (hBw o ho).1)) i (by omega)
  have HWF := Lib.hid fun k => redL_wf (n := n) (p := 2) (.inl rfl) hwf (B := B.take k) (fun o ho => hBw o (List.mem_of_mem_take ho))
  have HBW := Lib.hid fun i (hi : i < m) => hBw (B[i]?.getD []) (by rw [List.getElem?_eq_getElem (by omega)]; exact List.getElem_mem _)
  have HBN := Lib.hid fun i (hi : i < m) => hBn (B[i]?.getD []) (by rw [List.getElem?_eq_getElem (by omega)]; exact List.getElem_mem _)
  have HSN := Lib.hid fun k (hk : k < m) => (show redL 2 ws (B.take (k + 1)) = redS 2 (redL 2 ws (B.take k)) (B[k]?.getD []) by
    rw [List.take_add_one, List.getElem?_eq_getElem (by omega)]
    exact redL_snoc _ _ _)
  have HW0 := Lib.hid (show Ints w b off (redL 2 ws (B.take 0)) from hw)
  have HFZ := Lib.hid hfz
  have HEN := Lib.hid (show redL 2 ws (B.take m) = redL 2 ws B by rw [hm, List.take_length])
  have HM := Lib.hid fun r W => modulus2_any r W
  clear hw hwf hB hBw hBn hfz hm
  go_enter Try.func71, Try.ntmps71
  go_wp2
  go_loopw [9] (fun i wr => ∃ k : Nat, k ≤ m ∧ i = .int .i64 k ∧ Wr w wr b off n ∧ Ints wr b off (redL 2 ws (B.take k))) (fun i _ => m - (intOf i).toNat)
  case atStart => exact ⟨0, Nat.zero_le _, rfl, Wr.refl _ _ _ _, HW0.out⟩
  case round =>
    obtain ⟨k, hk, rfl, hR, hI⟩ := hrel
    by_cases hkl : k < m
    · obtain ⟨H, ho, ch, bi, oi, rfl, hHl, hHb, hcell, hIo, hbi, hdis⟩ := HB.out wr hR k hkl
      have hwfo := HBW.out k hkl
      have hwfr := HWF.out k
      have hne := HBN.out k hkl
      have hNX := HSN.out k hkl
      obtain ⟨cur, hcur⟩ : ∃ cur, cur = redL 2 ws (B.take k) := ⟨_, rfl⟩
      obtain ⟨o, hoe⟩ : ∃ o, o = B[k]?.getD [] := ⟨_, rfl⟩
      rw [← hcur] at hI hwfr hNX
      rw [← hoe] at hIo hwfo hne hNX
      have HLD := Lib.hid fun W' (hW : W' = wr) => (show Calls Try.prog 107 #[.slice (some ⟨bi, oi, none⟩) n ch] W' (RS (.int .i64 (ldL o : Int)) W') by rw [hW]; exact lead2_any bi oi n ch o wr hIo hwfo.1 hne hn)
      have hln := (ldL_lead (p := 2) (.inl rfl) hwfo hne).2
      have hFR : ∀ k, k < n → wr.frozen? ⟨b, off + k, none⟩ = false := fun k hk => (hR.fz (off + k)).trans (HFZ.out k hk)
      obtain ⟨l, hl⟩ : ∃ l, l = ldL o := ⟨_, rfl⟩
      have hNX2 : redL 2 ws (B.take (k + 1)) = addL 2 (vec cur l * vec o l * (2 - 1)) o cur := by rw [hNX, hl]; rfl
      rw [← hl] at HLD hln
      have k1 := hI l (by rw [hwfr.1]; exact hln)
      have k2 := hIo l (by rw [hwfo.1]; exact hln)
      obtain ⟨x0, x1⟩ := hwfr.at (by decide) l
      obtain ⟨y0, y1⟩ := hwfo.at (by decide) l
      obtain ⟨x, hx⟩ : ∃ x, x = vec cur l := ⟨_, rfl⟩
      obtain ⟨y, hy⟩ : ∃ y, y = vec o l := ⟨_, rfl⟩
      rw [show cur[l]?.getD 0 = x from hx.symm] at k1
      rw [show o[l]?.getD 0 = y from hy.symm] at k2
      rw [← hx] at x0 x1 hNX2
      rw [← hy] at y0 y1 hNX2
      have hm0 : 0 ≤ x * y := Int.mul_nonneg x0 y0
      have hm4 : x * y ≤ 3 * 3 := Int.mul_le_mul (by omega) (by omega) y0 (by omega)
      have w1 : IntKind.i64.wrap (x * y) = x * y := IntWalk.i64_in _ (by omega)
      have w2 : IntKind.i64.wrap (x * y * 2) = x * y * 2 := IntWalk.i64_in _ (by omega)
      have HNX := Lib.hid hNX2
      have HADD := Lib.hid fun t (ht : t = x * y * (2 - 1)) => (show Calls Try.prog 108 #[.slice (some ⟨b, off, none⟩) n c1, .int .i64 t, .slice (some ⟨bi, oi, none⟩) n ch] wr.drew (fun e w' => e = .returned (.tuple #[]) ∧ Wr wr w' b off n ∧ Ints w' b off (addL 2 (x * y * (2 - 1)) o cur)) by
        have h := add2_any b off n c1 bi oi ch t cur o wr.drew hI hIo hwfr.1 hwfo.1 hwfr.2 hwfo.2 (by omega) hFR hdis hbi hn
        rw [ht] at h ⊢
        exact h.mono fun e w' ⟨h1, h2, h3⟩ => ⟨h1, ⟨⟨h2.gr.os, h2.gr.tape, h2.gr.output, h2.gr.size, h2.gr.block⟩, h2.out, h2.fz⟩, h3⟩)
      have hR2 := Lib.hid hR
      have g0 : (0 : Int) ≤ (k : Int) := by omega
      have g1 : (k : Int) < (m : Int) := by omega
      have l0 : (0 : Int) ≤ (l : Int) := by omega
      have l1 : (l : Int) < (n : Int) := by omega
      clear hI hIo hwfo hwfr hne hNX hNX2 hcur hoe hl hx hy hFR hR hdis
      go_upto_region 3 with fail
      go_upto_region 4 with (first | (go_at_call 107; refine (HLD.out _ rfl).mono ?_; rintro e w3 ⟨rfl, rfl⟩))
      refine wp_region_B (S := fun W => W = wr.drew) 20 (by kernel_rfl) (by kernel_rfl) ?_
      have hS0 : wr.drew = wr.drew := rfl
      refine wpAnyB_take (i := 0) (v := ?vv0) rfl (by kernel_rfl) (by kernel_rfl) (by kernel_rfl) (by kernel_rfl) (fun _ _ _ h => h) (Or.inl ⟨by rfl, ?yy0⟩) hS0 ?rr0
      case yy0 =>
        intro wq hSw
        subst hSw
        go_simp
        try with_reducible rfl
      simp only [Act.put, List.setIfInBounds_toArray, List.set_cons_zero, List.set_cons_succ]
      refine wpAnyB_take (i := 1) (v := ?vv1) rfl (by kernel_rfl) (by kernel_rfl) (by kernel_rfl) (by kernel_rfl) (fun _ _ _ h => h) (Or.inl ⟨by rfl, ?yy1⟩) hS0 ?rr1
      case yy1 =>
        intro wq hSw
        subst hSw
        go_simp
        try with_reducible rfl
      simp only [Act.put, List.setIfInBounds_toArray, List.set_cons_zero, List.set_cons_succ]
      refine wpAnyB_take (i := 2) (v := ?vv2) rfl (by kernel_rfl) (by kernel_rfl) (by kernel_rfl) (by kernel_rfl) (fun _ _ _ h => h) (Or.inl ⟨by rfl, ?yy2⟩) hS0 ?rr2
      case yy2 =>
        intro wq hSw
        subst hSw
        go_simp
        try with_reducible rfl
      simp only [Act.put, List.setIfInBounds_toArray, List.set_cons_zero, List.set_cons_succ]
      refine wpAnyB_take (i := 3) (v := ?vv3) rfl (by kernel_rfl) (by kernel_rfl) (by kernel_rfl) (by kernel_rfl) (fun _ _ _ h => h) (Or.inl ⟨by rfl, ?yy3⟩) hS0 ?rr3
      case yy3 =>
        intro wq hSw
        subst hSw
        go_simp
        try with_reducible rfl
      simp only [Act.put, List.setIfInBounds_toArray, List.set_cons_zero, List.set_cons_succ]
      refine wpAnyB_take (i := 4) (v := ?vv4) rfl (by kernel_rfl) (by kernel_rfl) (by kernel_rfl) (by kernel_rfl) (fun _ _ _ h => h) (Or.inl ⟨by rfl, ?yy4⟩) hS0 ?rr4
      case yy4 =>
        intro wq hSw
        subst hSw
        go_simp
        try with_reducible rfl
      simp only [Act.put, List.setIfInBounds_toArray, List.set_cons_zero, List.set_cons_succ]
      refine wpAnyB_take (i := 5) (v := ?vv5) rfl (by kernel_rfl) (by kernel_rfl) (by kernel_rfl) (by kernel_rfl) (fun _ _ _ h => h) (Or.inl ⟨by rfl, ?yy5⟩) hS0 ?rr5
      case yy5 =>
        intro wq hSw
        subst hSw
        go_simp
        try with_reducible rfl
      simp only [Act.put, List.setIfInBounds_toArray, List.set_cons_zero, List.set_cons_succ]
      refine wpAnyB_take (i := 6) (v := ?vv6) rfl (by kernel_rfl) (by kernel_rfl) (by kernel_rfl) (by kernel_rfl) (fun _ _ _ h => h) (Or.inl ⟨by rfl, ?yy6⟩) hS0 ?rr6
      case yy6 =>
        intro wq hSw
        subst hSw
        go_simp
        try with_reducible rfl
      simp only [Act.put, List.setIfInBounds_toArray, List.set_cons_zero, List.set_cons_succ]
      refine wpAnyB_take (i := 7) (v := ?vv7) rfl (by kernel_rfl) (by kernel_rfl) (by kernel_rfl) (by kernel_rfl) (fun _ _ _ h => h) (Or.inl ⟨by rfl, ?yy7⟩) hS0 ?rr7
      case yy7 =>
        intro wq hSw
        subst hSw
        go_simp
        try with_reducible rfl
      simp only [Act.put, List.setIfInBounds_toArray, List.set_cons_zero, List.set_cons_succ]
      refine wpAnyB_take (i := 8) (v := ?vv8) rfl (by kernel_rfl) (by kernel_rfl) (by kernel_rfl) (by kernel_rfl) (fun _ _ _ h => h) (Or.inl ⟨by rfl, ?yy8⟩) hS0 ?rr8
      case yy8 =>
        intro wq hSw
        subst hSw
        go_simp
        try with_reducible rfl
      simp only [Act.put, List.setIfInBounds_toArray, List.set_cons_zero, List.set_cons_succ]
      refine wpAnyB_take (i := 9) (v := ?vv9) rfl (by kernel_rfl) (by kernel_rfl) (by kernel_rfl) (by kernel_rfl) (fun _ _ _ h => h) (Or.inl ⟨by rfl, ?yy9⟩) hS0 ?rr9
      case yy9 =>
        intro wq hSw
        subst hSw
        go_simp
        try with_reducible rfl
      simp only [Act.put, List.setIfInBounds_toArray, List.set_cons_zero, List.set_cons_succ]
      refine wpAnyB_take (i := 10) (v := ?vv10) rfl (by kernel_rfl) (by kernel_rfl) (by kernel_rfl) (by kernel_rfl) (fun _ _ _ h => h) (Or.inl ⟨by rfl, ?yy10⟩) hS0 ?rr10
      case yy10 =>
        intro wq hSw
        subst hSw
        go_simp
        try with_reducible rfl
      simp only [Act.put, List.setIfInBounds_toArray, List.set_cons_zero, List.set_cons_succ]
      refine wpAnyB_take (i := 11) (v := ?vv11) rfl (by kernel_rfl) (by kernel_rfl) (by kernel_rfl) (by kernel_rfl) (fun _ _ _ h => h) (Or.inl ⟨by rfl, ?yy11⟩) hS0 ?rr11
      case yy11 =>
        intro wq hSw
        subst hSw
        go_simp
        try with_reducible rfl
      simp only [Act.put, List.setIfInBounds_toArray, List.set_cons_zero, List.set_cons_succ]
      refine wpAnyB_take (i := 12) (v := ?vv12) rfl (by kernel_rfl) (by kernel_rfl) (by kernel_rfl) (by kernel_rfl) (fun _ _ _ h => h) (Or.inl ⟨by rfl, ?yy12⟩) hS0 ?rr12
      case yy12 =>
        intro wq hSw
        subst hSw
        go_simp
        try with_reducible rfl
      simp only [Act.put, List.setIfInBounds_toArray, List.set_cons_zero, List.set_cons_succ]
      refine wpAnyB_take (i := 13) (v := ?vv13) rfl (by kernel_rfl) (by kernel_rfl) (by kernel_rfl) (by kernel_rfl) (fun _ _ _ h => h) (Or.inl ⟨by rfl, ?yy13⟩) hS0 ?rr13
      case yy13 =>
        intro wq hSw
        subst hSw
        go_simp
        try with_reducible rfl
      simp only [Act.put, List.setIfInBounds_toArray, List.set_cons_zero, List.set_cons_succ]
      refine wpAnyB_take (i := 14) (v := ?vv14) rfl (by kernel_rfl) (by kernel_rfl) (by kernel_rfl) (by kernel_rfl) (fun _ _ _ h => h) (Or.inl ⟨by rfl, ?yy14⟩) hS0 ?rr14
      case yy14 =>
        intro wq hSw
        subst hSw
        go_simp
        try with_reducible rfl
      simp only [Act.put, List.setIfInBounds_toArray, List.set_cons_zero, List.set_cons_succ]
      refine wpAnyB_take (i := 18) (v := ?vv18) rfl (by kernel_rfl) (by kernel_rfl) (by kernel_rfl) (by kernel_rfl) (fun _ _ _ h => h) (Or.inl ⟨by rfl, ?yy18⟩) hS0 ?rr18
      case yy18 =>
        intro wq hSw
        subst hSw
        go_simp
        try with_reducible rfl
      simp only [Act.put, List.setIfInBounds_toArray, List.set_cons_zero, List.set_cons_succ]
      refine wpAnyB_ready (rs := [15]) (by kernel_rfl) (by simp) ?_
      refine (AllReadyB.cons rfl (fun K1 hK1 => ?_) AllReadyB.nil)
      go_simp
      go_upon
      refine (HM.out _ _).mono ?_
      rintro e w6 ⟨rfl, rfl⟩
      go_wp2_with fail
      refine hK1.out _ _ rfl (fun hS1 => ?_)
      clear hK1 K1
      try simp only [Act.put, List.setIfInBounds_toArray, List.set_cons_zero, List.set_cons_succ]
      refine wpAnyB_ready (rs := [16]) (by kernel_rfl) (by simp) ?_
      refine (AllReadyB.cons rfl (fun K2 hK2 => ?_) AllReadyB.nil)
      go_simp
      refine hK2.out _ _ rfl (fun hS2 => ?_)
      clear hK2 K2
      try simp only [Act.put, List.setIfInBounds_toArray, List.set_cons_zero, List.set_cons_succ]
      refine wpAnyB_ready (rs := [17]) (by kernel_rfl) (by simp) ?_
      refine (AllReadyB.cons rfl (fun K3 hK3 => ?_) AllReadyB.nil)
      go_simp
      refine hK3.out _ _ rfl (fun hS3 => ?_)
      clear hK3 K3
      try simp only [Act.put, List.setIfInBounds_toArray, List.set_cons_zero, List.set_cons_succ]
      refine wpAnyB_ready (rs := [19]) (by kernel_rfl) (by simp) ?_
      refine AllReadyB.last rfl (by kernel_rfl) (by kernel_rfl) (fun K4 hK4 => ?_)
      go_simp
      go_at_call 108
      refine (HADD.out _ ?_).mono ?_
      · simp only [show IntKind.i64.wrap 1 = 1 from rfl, Int.mul_one, w1]; omega
      rintro e w7 ⟨rfl, hwr7, hI7⟩
      have hwr8 := hR2.out.trans hwr7
      have HWR8 := Lib.hid hwr8
      have HI8 := Lib.hid hI7
      clear hwr7 hI7 hwr8
      go_wp2_with fail
      refine hK4.out _ _ ?_
      clear hK4 K4
      go_wp2_with fail
      go_roundw
      case rel => exact ⟨k + 1, by omega, by go_num, HWR8.out, by rw [HNX.out]; exact HI8.out⟩
      case measure => simp [intOf]; omega
    · have e : k = m := by omega
      rw [e, HEN.out] at hI
      have HI2 := Lib.hid hI
      have HR2 := Lib.hid hR
      clear hI hR
      go_wp2
      go_returns
      exact ⟨rfl, HR2.out, HI2.out⟩
end Go.Proofs.Ytahgialnhomefaa

namespace Go.Proofs.Ytahgialnhomefaa
open Go.RowKit Go.Maps
def rowB (n : Nat) (x : Blk) : List Int := mrkL (List.replicate n 0) [x.a, x.b, x.c]
def rowsB (n : Nat) (bs : List Blk) : List (List Int) := bs.map (rowB n)
theorem rowB_len (n : Nat) (x : Blk) : (rowB n x).length = n := by unfold rowB; rw [mrkL_len, List.length_replicate]
theorem mrkL_in {p : Int} (hp : 1 < p) (zs : List Int) : ∀ ws : List Int, (∀ x ∈ ws, 0 ≤ x ∧ x < p) → ∀ x ∈ mrkL ws zs, 0 ≤ x ∧ x < p := by
  induction zs with
  | nil => intro ws h; exact h
  | cons z zs ih =>
    intro ws h
    refine ih (ws.set z.toNat 1) fun x hx => ?_
    rcases List.mem_or_eq_of_mem_set hx with hx | rfl
    · exact h x hx
    · omega
theorem rowB_wf {p : Int} (hp : 1 < p) (n : Nat) (x : Blk) : Wf p n (rowB n x) := ⟨rowB_len n x, mrkL_in hp _ _ fun y hy => by rw [(List.mem_replicate.1 hy).2]; omega⟩
theorem rowsB_wf {p : Int} (hp : 1 < p) (n : Nat) (bs : List Blk) : ∀ r ∈ rowsB n bs, Wf p n r := fun r hr => by
  obtain ⟨x, _, rfl⟩ := List.mem_map.1 hr
  exact rowB_wf hp n x
theorem rowsB_at (n : Nat) {bs : List Blk} {k : Nat} (hk : k < bs.length) : (rowsB n bs)[k]?.getD [] = rowB n (bs[k]?.getD default) := by simp [rowsB, hk]
theorem rowsB_len (n : Nat) (bs : List Blk) : (rowsB n bs).length = bs.length := by simp [rowsB]
/-- What is marked of the table so far. -/
def rowK (n : Nat) (bs : List Blk) (k i : Nat) : List Int := if i < k then rowB n (bs[i]?.getD default) else List.replicate n 0
theorem rowK_len (n : Nat) (bs : List Blk) (k i : Nat) : (rowK n bs k i).length = n := by unfold rowK; split <;> simp [rowB_len]
/-- A table of m rows of n numbers. -/
structure TabW (W : World) (T n m : Nat) (F : Nat → List Int) : Prop where
  lt : T < W.heap.size
  row : ∀ i, i < m → Ints W T (i * n) (F i)
  free : ∀ o, W.frozen? ⟨T, o, none⟩ = false
theorem TabW.congr {W : World} {T n m : Nat} {F F' : Nat → List Int} (h : TabW W T n m F) (e : ∀ i, i < m → F i = F' i) : TabW W T n m F' := ⟨h.lt, fun i hi => by rw [← e i hi]; exact h.row i hi, h.free⟩
theorem TabW.kept {W W' : World} {T n m : Nat} {F : Nat → List Int} {row : Option Nat} (h : TabW W T n m F) (hg : W.grownBy W' row) (hne : some T ≠ row) : TabW W' T n m F :=
  ⟨Nat.lt_of_lt_of_le h.lt hg.size, fun i hi k hk => (World.cell?_of_block (w := W) (a := ⟨T, _, none⟩) (hg.block T h.lt hne)).trans (h.row i hi k hk), fun o => (World.frozen?_of_block (w := W) (a := ⟨T, o, none⟩) (hg.block T h.lt hne)).trans (h.free o)⟩
theorem TabW.below {W W' : World} {T n m : Nat} {F : Nat → List Int} (h : TabW W T n m F) (hb : Below W.heap.size W W') : TabW W' T n m F := h.kept (gb_below hb) (by simp)
theorem row_apart {i k n : Nat} (h : i ≠ k) : k * n + n ≤ i * n ∨ i * n + n ≤ k * n := by
  rcases Nat.lt_or_gt_of_ne h with h1 | h1
  · right
    have := Nat.mul_le_mul_right n (show i + 1 ≤ k from h1)
    rw [Nat.add_mul, Nat.one_mul] at this
    exact this
  · left
    have := Nat.mul_le_mul_right n (show k + 1 ≤ i from h1)
    rw [Nat.add_mul, Nat.one_mul] at this
    exact this
/-- A row was written. -/
theorem TabW.wr {W W' : World} {T n m k : Nat} {F : Nat → List Int} {L : List Int} (h : TabW W T n m F) (hF : ∀ i, i < m → (F i).length = n) (hw : Wr W W' T (k * n) n) (hL : Ints W' T (k * n) L) : TabW W' T n m (fun i => if i = k then L else F i) := by
  refine ⟨Nat.lt_of_lt_of_le h.lt hw.gr.size, fun i hi => ?_, fun o => (hw.fz o).trans (h.free o)⟩
  by_cases e : i = k
  · subst e
    rw [if_pos rfl]
    exact hL
  · rw [if_neg e]
    refine (h.row i hi).wr hw h.lt (.inr ?_)
    rw [hF i hi]
    rcases row_apart (n := n) e with h1 | h1
    · exact .inl h1
    · exact .inr h1
end Go.Proofs.Ytahgialnhomefaa

namespace Go.Proofs.Ytahgialnhomefaa
open Go.RowKit Go.Maps
theorem infoR2 : (Try.prog.info? 72).map (fun i => (i.zero, i.size, i.bytes)) = some (some (.int .i64 0), 1, 8) := by kernel_rfl
theorem infoW2 : (Try.prog.info? 78).map (fun i => (i.zero, i.size, i.bytes)) = some (some (.slice none 0 0), 1, 24) := by kernel_rfl
theorem mkW2 (n : Nat) (hn : n ≤ 1100000) (W : World) : (Instr.makeSlice 78 (.int .i64 (n : Int)) (.int .i64 (n : Int))).run Try.prog W = .ok (.slice (some ⟨W.heap.size, 0, none⟩) n n) (W.alloc (.cells (madeCells #[.int .i64 0] n) 72)) := by
  obtain ⟨i0, hi, hz0, hz1, hz2⟩ := info_parts infoR2
  have hr := run_make (P := Try.prog) W 78 72 i0 (.int .i64 0) Try.underlying78 hi hz0 .i64 .i64 n n (by omega) (by omega) (by rw [hz2]; omega) (by omega)
  simp only [Int.toNat_natCast, hz1, Nat.mul_one] at hr
  exact hr
theorem run_slice3_2 (T M lo hi : Nat) (h1 : lo < hi) (h2 : hi ≤ M) (W : World) : (Instr.slice 78 (.slice (some ⟨T, 0, none⟩) M M) (some (.int .i64 (lo : Int))) (some (.int .i64 (hi : Int))) (some (.int .i64 (hi : Int)))).run Try.prog W = .ok (.slice (some ⟨T, lo, none⟩) (hi - lo) (hi - lo)) W := by
  have a0 : (0 : Int) ≤ (lo : Int) := by omega
  have a3 : (0 : Int) ≤ (hi : Int) := by omega
  simp [Instr.slice, Instr.sliceBounds, Instr.sliceBound, run_underlying Try.underlying78, go_sem, a0, a3, addr_at]
  rw [if_pos h2, if_pos (by omega), if_neg (by omega)]
/-- A list of the call's own of rows. -/
def OwnW2 (w : World) (base : Nat) (u : Value) (hs : List Value) : Prop := w.ownsRow base 78 1 u hs.length hs
theorem wpList_append_word2 {w : World} {ops : Array Oper} {rest : List Oper} {o : Oper} {a : Act} {Q : Exit → Act → World → Prop} (hgd : o.guard = none) (s x : Operand)
    (ho : o.op = .call { callee := .builtin .append, args := #[s, x], argTypes := #[70, 70] })
    (base : Nat) (v : Value) (hs : List Value) (hsv : a.eval s = v) (hown : OwnW2 w base v hs) (b0 c : Nat) (hx : a.eval x = .slice (some ⟨b0, 0, none⟩) 1 c) (p : Option Addr) (n0 c0 : Nat)
    (c1 : w.cell? ⟨b0, 0, none⟩ = some (.slice p n0 c0)) (hl : hs.length ≤ 1100000) (hbase : base ≤ w.heap.size)
    (h : ∀ (G cap : Nat) (w' : World), OwnW2 w' base (.slice (some ⟨G, 0, none⟩) (hs.length + 1) cap) (hs ++ [.slice p n0 c0]) → w.grownBy w' v.ownBlock → (v.ownBlock = some G ∨ G = w.heap.size) → wpList Try.prog ops Q rest (a.put o.dst (.slice (some ⟨G, 0, none⟩) (hs.length + 1) cap)) w') : wpList Try.prog ops Q (o :: rest) a w := by
  obtain ⟨i0, hi, hz0, hz1, hz2⟩ := info_parts infoW2
  refine wpList_append_own_at w hgd s x 70 ho base 78 i0 _ 1 24 Try.underlying70 hi hz0 hz1 hz2 rfl (by decide) v hs.length _ hsv hown ⟨b0, 0, none⟩ 1 c [.slice p n0 c0] hx rfl ?_ ?_ (by unfold maxLen; omega) (by omega) hbase ?_
  · intro j u hj
    rw [addr_at, Nat.zero_add]
    match j, hj with
    | 0, hj => simp at hj; rw [← hj]; exact c1
    | j + 1, hj => simp at hj
  · intro u hu
    simp at hu
    rw [hu]
    rfl
  · intro v' w' hown' hg _ hob
    obtain ⟨G, cap, rfl⟩ := row_some hown'
    refine h G cap w' ?_ hg ?_
    · unfold OwnW2
      rw [List.length_append]
      exact hown'
    · rcases hob with e | e
      · exact .inl (by rw [← e]; rfl)
      · exact .inr (by simpa [Value.ownBlock] using e)
theorem OwnW2.kept {w w' : World} {base : Nat} {u : Value} {hs : List Value} (h : OwnW2 w base u hs) {row : Option Nat} (hg : w.grownBy w' row) (hr : ∀ r, row = some r → u.ownBlock ≠ some r) : OwnW2 w' base u hs := World.ownsRow.kept h hg (by
  cases row with
  | none =>
    cases hv : u.ownBlock with
    | none => exact .inl rfl
    | some g => exact .inr (by simp)
  | some r => exact .inr (hr r rfl))
theorem OwnW2.below {w w' : World} {base : Nat} {u : Value} {hs : List Value} (h : OwnW2 w base u hs) (hb : Below w.heap.size w w') : OwnW2 w' base u hs := h.kept (gb_below hb) (fun r e => by cases e)
theorem OwnW2.blk {w : World} {base : Nat} {v : Value} {hs : List Value} (h : OwnW2 w base v hs) : ∀ r, v.ownBlock = some r → base ≤ r ∧ r < w.heap.size := fun r e => by
  rcases h.2 with ⟨hv, _⟩ | ⟨g, cap, cur, hv, hb, hcur, _⟩
  · rw [hv] at e; simp [Value.ownBlock] at e
  · rw [hv] at e
    obtain rfl : g = r := by simpa [Value.ownBlock] using e
    exact ⟨hb, (Array.getElem?_eq_some_iff.1 hcur).1⟩
theorem OwnW2.nil (w : World) (base : Nat) : OwnW2 w base (.slice none 0 0) [] := ⟨rfl, .inl ⟨rfl, rfl⟩⟩
theorem OwnW2.form {w : World} {base : Nat} {u : Value} {hs : List Value} (h : OwnW2 w base u hs) : ∃ a c, u = .slice a hs.length c := by
  rcases h.2 with ⟨rfl, h0⟩ | ⟨g, cap, cur, rfl, _⟩
  · rw [h0]; exact ⟨_, _, rfl⟩
  · exact ⟨_, _, rfl⟩
theorem OwnW2.at_ {w : World} {base : Nat} {u : Value} {hs : List Value} (h : OwnW2 w base u hs) {i : Nat} {x : Value} (hi : hs[i]? = some x) : ∃ g c, u = .slice (some ⟨g, 0, none⟩) hs.length c ∧ base ≤ g ∧ g < w.heap.size ∧ w.cell? ⟨g, i, none⟩ = some x := by
  have hil : i < hs.length := (List.getElem?_eq_some_iff.1 hi).1
  obtain ⟨_, h | ⟨g', cap', cur, rfl, hb, hcur, hn, hc, hsz, hx⟩⟩ := h
  · omega
  · refine ⟨g', cap', rfl, hb, (Array.getElem?_eq_some_iff.1 hcur).1, ?_⟩
    rw [← hx, List.getElem?_take_of_lt (by omega)] at hi
    simp [World.cell?, hcur]
    simpa using hi
end Go.Proofs.Ytahgialnhomefaa

namespace Go.Proofs.Ytahgialnhomefaa
open Go.RowKit Go.Maps
def hdrW2 (T n k : Nat) : List Value := (List.range k).map fun i => .slice (some ⟨T, i * n, none⟩) n n
theorem hdrW2_succ (T n k : Nat) : hdrW2 T n (k + 1) = hdrW2 T n k ++ [.slice (some ⟨T, k * n, none⟩) n n] := by simp [hdrW2, List.range_succ]
theorem hdrW2_len (T n k : Nat) : (hdrW2 T n k).length = k := by simp [hdrW2]
set_option maxRecDepth 100000 in
set_option maxHeartbeats 4000000 in
theorem rowsOf2_any (n : Nat) (s : Value) (bs : List Blk) (w : World) (h : SB w s bs) (hi : isSysImpl (n : Int) bs = true) :
    Calls Try.prog 101 #[.agg #[.int .i64 (n : Int), s]] w (fun e w' => ∃ u T, e = .returned u ∧ OwnW2 w' w.heap.size u (hdrW2 T n bs.length) ∧ TabW w' T n bs.length (fun i => rowB n (bs[i]?.getD default)) ∧ w.heap.size ≤ T ∧ u.ownBlock ≠ some T ∧ Below w.heap.size w w') := by
  have hs := h.slice
  obtain ⟨hv3, hv15, hb35⟩ := sys_size hi
  have HG := Lib.hid fun k (hk : k < bs.length) => goodB_iff.1 (sys_good hi (bs[k]?.getD default) (by rw [List.getElem?_eq_getElem hk]; exact List.getElem_mem _))
  have HSB := Lib.hid h
  obtain ⟨m, hm⟩ : ∃ m, m = bs.length := ⟨_, rfl⟩
  have HMM := Lib.hid hm
  obtain ⟨a0, c0, rfl⟩ := hs
  rw [← hm] at hb35 HG ⊢
  have hNM : n * m ≤ 15 * 35 := Nat.mul_le_mul (by omega) (by omega)
  have hmk := mkW2 (n * m) (by omega)
  rw [Int.natCast_mul] at hmk
  have wnm : IntKind.i64.wrap ((n : Int) * (m : Int)) = (n : Int) * (m : Int) := by rw [← Int.natCast_mul]; exact IntWalk.i64_in _ (by omega)
  clear h hi hm
  go_enter Try.func101, Try.ntmps101
  go_wp2
  have hbA : Below w.heap.size w (w.alloc (.cells #[.int .i64 (n : Int), .slice a0 m c0] 30)) := (Below.refl _ _).alloc (Nat.le_refl _) _
  obtain ⟨w1, hw1e⟩ : ∃ w1, w1 = w.alloc (.cells #[.int .i64 (n : Int), .slice a0 m c0] 30) := ⟨_, rfl⟩
  have hz1 : w1.heap.size = w.heap.size + 1 := by rw [hw1e]; simp
  rw [← hw1e] at hbA ⊢
  rw [← hz1]
  have hT0 : TabW (w1.alloc (.cells (madeCells #[.int .i64 0] (n * m)) 72)) w1.heap.size n m (rowK n bs 0) := by
    refine ⟨by simp, fun i hi k hk => ?_, fun o => by simp⟩
    rw [rowK_len] at hk
    have hlt : i * n + k < n * m := by
      have := Nat.mul_le_mul_right n (show i + 1 ≤ m from hi)
      rw [Nat.add_mul, Nat.one_mul, Nat.mul_comm m n] at this
      omega
    rw [World.cell?_alloc_at _ _ _ _ rfl]
    simp [madeCells, hlt, rowK, Nat.mod_one, hk]
  have hb2 : Below w1.heap.size w1 (w1.alloc (.cells (madeCells #[.int .i64 0] (n * m)) 72)) := (Below.refl _ _).alloc (Nat.le_refl _) _
  obtain ⟨w2, hw2⟩ : ∃ w2, w2 = w1.alloc (.cells (madeCells #[.int .i64 0] (n * m)) 72) := ⟨_, rfl⟩
  have hz2 : w1.heap.size < w2.heap.size := by rw [hw2]; simp
  rw [← hw2] at hT0 hb2 ⊢
  obtain ⟨TT, hTT⟩ : ∃ TT, TT = w1.heap.size := ⟨_, rfl⟩
  rw [← hTT] at hT0 ⊢
  have HTT := Lib.hid hTT
  have HT0 := Lib.hid hT0
  have HB2 := Lib.hid hb2
  have HBA := Lib.hid hbA
  have hwT : w.heap.size < TT := by omega
  have hw1 : w.heap.size ≤ w1.heap.size := by omega
  have hT2 : TT < w2.heap.size := by omega
  clear hw1e hw2 hT0 hb2 hbA hmk hz1 hz2 hTT
  have HSB2 := Lib.hid (HSB.out.below (HBA.out.trans (HB2.out.mono HBA.out.size)) (Nat.le_refl _))
  go_loopw [5, 20] (fun o i wr => ∃ k : Nat, k ≤ m ∧ i = .int .i64 k ∧ Below w1.heap.size w1 wr ∧ w2.heap.size ≤ wr.heap.size ∧ TabW wr TT n m (rowK n bs k) ∧ OwnW2 wr w2.heap.size o (hdrW2 TT n k) ∧ ∃ a q c, o = .slice a q c) (fun _ i _ => m - (intOf i).toNat)
  case atStart => exact ⟨0, Nat.zero_le _, rfl, HB2.out, Nat.le_refl _, HT0.out, OwnW2.nil _ _, _, _, _, rfl⟩
  case round =>
    obtain ⟨k, hk, rfl, hB, hz, hT, hO, oa, om, oc, rfl⟩ := hrel
    have HB := Lib.hid hB
    have HT := Lib.hid hT
    have HO := Lib.hid hO
    clear hB hT hO
    by_cases hkl : k < m
    · rcases HSB.out.2.2 with ⟨_, _, _, hnil⟩ | ⟨b, off, cap, hv, hblt, hbl⟩
      · exfalso; rw [hnil] at HMM; have := HMM.out; simp at this; omega
      simp at hv
      obtain ⟨rfl, _, rfl⟩ := hv
      have hbw : Below w.heap.size w wr := HBA.out.trans (HB.out.mono HBA.out.size)
      obtain ⟨y1, y2, y3⟩ := (hbl.below hbw hblt) k (by rw [← HMM.out]; exact hkl)
      have hg := HG.out k hkl
      obtain ⟨x, hx⟩ : ∃ x, x = bs[k]?.getD default := ⟨_, rfl⟩
      rw [← hx] at y1 y2 y3 hg
      have HX := Lib.hid hx
      obtain ⟨xa, xb, xc⟩ := x
      dsimp only at y1 y2 y3 hg
      have g0 : (0 : Int) ≤ (k : Int) := by omega
      have g1 : (k : Int) < (m : Int) := by omega
      have hkn : k * n + n ≤ n * m := by
        have := Nat.mul_le_mul_right n (show k + 1 ≤ m from hkl)
        rw [Nat.add_mul, Nat.one_mul, Nat.mul_comm m n] at this
        exact this
      have q1 : IntKind.i64.wrap ((k : Int) * (n : Int)) = (k : Int) * (n : Int) := by rw [← Int.natCast_mul]; exact IntWalk.i64_in _ (by omega)
      have q2 : IntKind.i64.wrap ((k : Int) + 1) = (k : Int) + 1 := IntWalk.i64_in _ (by omega)
      have q4 : ((k : Int) + 1) * (n : Int) = ((k * n + n : Nat) : Int) := by rw [Int.add_mul, Int.one_mul, ← Int.natCast_mul]; omega
      have q3 : IntKind.i64.wrap (((k : Int) + 1) * (n : Int)) = ((k : Int) + 1) * (n : Int) := by rw [q4]; exact IntWalk.i64_in _ (by omega)
      have hsl := run_slice3_2 TT (n * m) (k * n) (k * n + n) (by omega) hkn
      rw [Nat.add_sub_cancel_left, ← q4, Int.natCast_mul] at hsl
      clear q4
      clear hbl hx hbw
      go_upto_region 8 with fail
      have hb5 := (Below.refl wr.heap.size wr).alloc (Nat.le_refl _) (.cells #[.int .i64 xa, .int .i64 xb, .int .i64 xc] 84)
      have hIB : IB (wr.alloc (.cells #[.int .i64 xa, .int .i64 xb, .int .i64 xc] 84)) (.slice (some ⟨wr.heap.size, 0, none⟩) 3 3) [xa, xb, xc] :=
        ⟨by simp, .inr ⟨wr.heap.size, 0, 3, rfl, by simp, fun j hj => by
          match j, hj with
          | 0, _ => simp [go_sem]
          | 1, _ => simp [go_sem]
          | 2, _ => simp [go_sem]
          | j + 3, hj => exact absurd hj (by simp)⟩⟩
      obtain ⟨W5, hW5⟩ : ∃ W5, W5 = wr.alloc (.cells #[.int .i64 xa, .int .i64 xb, .int .i64 xc] 84) := ⟨_, rfl⟩
      have hz5 : wr.heap.size < W5.heap.size := by rw [hW5]; simp
      rw [← hW5] at hb5 hIB ⊢
      have HT5 := Lib.hid (HT.out.below hb5)
      have HO5 := Lib.hid (HO.out.below hb5)
      have HB5 := Lib.hid (HB.out.trans (hb5.mono HB.out.size))
      have hr5 := HT5.out.row k hkl
      rw [show rowK n bs k k = List.replicate n 0 by unfold rowK; rw [if_neg (Nat.lt_irrefl k)]] at hr5
      have HMK := Lib.hid (mark2_any TT (k * n) n n (List.replicate n 0) [xa, xb, xc] (.slice (some ⟨wr.heap.size, 0, none⟩) 3 3) W5 hr5 (by simp) hIB (fun b2 off2 q c e => by
          have : wr.heap.size = b2 := by injection e with e1; injection e1 with e1; injection e1
          omega) (fun z hz => by
          simp only [List.mem_cons, List.not_mem_nil, or_false] at hz
          rcases hz with rfl | rfl | rfl <;> omega) (fun j _ => HT5.out.free _))
      have HROW := Lib.hid (show mrkL (List.replicate n 0) [xa, xb, xc] = rowB n (bs[k]?.getD default) by rw [← HX.out]; rfl)
      rw [HROW.out] at HMK
      clear hW5 hb5 hIB hr5 y1 y2 y3 hsl q1 q3
      go_wp2_with fail
      refine HMK.out.mono ?_
      rintro e w6 ⟨rfl, hwr, hI6⟩
      have hT6 := HT5.out.wr (fun i _ => rowK_len n bs k i) hwr hI6
      have hT6' := hT6.congr (F' := rowK n bs (k + 1)) (fun i _ => by
        by_cases e : i = k
        · subst e; rw [if_pos rfl]; unfold rowK; rw [if_pos (Nat.lt_succ_self i)]
        · rw [if_neg e]; unfold rowK
          by_cases h2 : i < k
          · rw [if_pos h2, if_pos (by omega)]
          · rw [if_neg h2, if_neg (by omega)])
      have hO6 := HO5.out.kept hwr.gr (fun r e e2 => by cases e; have := (HO5.out.blk TT e2).1; omega)
      have hB6 := HB5.out.grown hwr.gr HB5.out.size (fun r e => by cases e; have := HTT.out; omega)
      have hz6 := hwr.gr.size
      have HT6 := Lib.hid hT6'
      have HO6 := Lib.hid hO6
      have HB6 := Lib.hid hB6
      have hhl : (hdrW2 TT n k).length ≤ 1100000 := by rw [hdrW2_len]; omega
      have HSC := Lib.hid (hdrW2_succ TT n k)
      clear hT6 hT6' hO6 hB6 hwr hI6
      obtain ⟨HH, hHH⟩ : ∃ HH, HH = hdrW2 TT n k := ⟨_, rfl⟩
      rw [← hHH] at HO6 hhl HSC
      clear hHH
      go_wp2_with (at_builtin; refine wpList_append_word2 rfl _ _ rfl w2.heap.size (.slice oa om oc) HH rfl (HO6.out.below ((Below.refl _ _).alloc (Nat.le_refl _) _)) _ _ rfl (some ⟨TT, k * n, none⟩) n n (by simp [go_sem]) hhl (by simp; omega) ?_; intro G' cap' w7 hV7 hg7 hG7)
      have hgo := gb_trans (World.grownBy_alloc _ _ none) hg7
      have hbk := HO6.out.blk
      have hT7 := HT6.out.kept hgo (fun e => by have := (hbk TT e.symm).1; omega)
      have hB7 := HB6.out.grown hgo HB6.out.size (fun r e => by have := (hbk r e).1; have := HB2.out.size; omega)
      have hz7 := hgo.size
      clear hg7 hgo
      go_roundw
      case rel => first
        | exact ⟨k + 1, by omega, by go_num, hB7, by omega, hT7, by rw [HSC.out]; exact hV7, _, _, _, rfl⟩
        | ((repeat apply Exists.intro); exact ⟨⟨k + 1, by omega, by go_num, hB7, by omega, hT7, by rw [HSC.out]; exact hV7, _, _, _, rfl⟩, rfl⟩)
      case measure => simp [intOf]; omega
    · have e : k = m := by omega
      rw [e] at HT HO
      have hT9 := HT.out.congr (F' := fun i => rowB n (bs[i]?.getD default)) (fun i hi => by unfold rowK; rw [if_pos hi])
      have HT9 := Lib.hid hT9
      clear hT9 e
      go_wp2
      go_ret
      exact ⟨_, TT, rfl, ownsRow_base HO.out (by have := HB2.out.size; omega), HT9.out, by omega, fun e => by have := (HO.out.blk TT e).1; omega, HBA.out.trans (HB.out.mono (by omega))⟩
end Go.Proofs.Ytahgialnhomefaa

namespace Go.Proofs.Ytahgialnhomefaa
variable {p : Int} {n : Nat}
/-- A row made 0 at a column. -/
def clrM (p : Int) (c : Nat) (own row : List Int) : List Int := addL p (p - vec row c * vec own c % p) own row
def swpM (R : List (List Int)) (k i : Nat) : List (List Int) := (R.set i (R[k]?.getD [])).set k (R[i]?.getD [])
def tailM (p : Int) (c k : Nat) (own : List Int) (R : List (List Int)) : List (List Int) := R.take (k + 1) ++ (R.drop (k + 1)).map (clrM p c own)
/-- The first row from k on that is not 0 at a column. -/
def bestM (c k : Nat) (R : List (List Int)) : Option Nat := ((List.range R.length).drop k).find? fun i => decide (vec (R[i]?.getD []) c ≠ 0)
def colM (p : Int) (s : List (List Int) × Nat) (c : Nat) : List (List Int) × Nat :=
  match bestM c s.2 s.1 with
  | none => s
  | some i => (tailM p c s.2 (s.1[i]?.getD []) (swpM s.1 s.2 i), s.2 + 1)
def runM (p : Int) (R : List (List Int)) (c : Nat) : List (List Int) × Nat := (List.range c).foldl (colM p) (R, 0)
theorem runM_succ (R : List (List Int)) (c : Nat) : runM p R (c + 1) = colM p (runM p R c) c := by simp [runM, List.range_succ]
def rankM (p : Int) (n : Nat) (R : List (List Int)) : Nat := (runM p R n).2
theorem bestM_some {c k i : Nat} {R : List (List Int)} (h : bestM c k R = some i) : k ≤ i ∧ i < R.length ∧ vec (R[i]?.getD []) c ≠ 0 := by
  have h1 := List.mem_of_find?_eq_some h
  have h2 := List.find?_some h
  rw [List.range_eq_range', List.drop_range', List.mem_range'_1] at h1
  refine ⟨by omega, by omega, by simpa using h2⟩
theorem bestM_none {c k : Nat} {R : List (List Int)} (h : bestM c k R = none) : ∀ i, k ≤ i → i < R.length → vec (R[i]?.getD []) c = 0 := by
  intro i h1 h2
  have := List.find?_eq_none.1 h i (by rw [List.range_eq_range', List.drop_range', List.mem_range'_1]; omega)
  simpa using this
/-- What stays while the columns are gone through. -/
structure Inv (p : Int) (n : Nat) (O : List (List Int)) (c : Nat) (s : List (List Int) × Nat) : Prop where
  len : s.1.length = O.length
  le : s.2 ≤ s.1.length
  wf : ∀ r ∈ s.1, Wf p n r
  leads : ∃ ls, Leads p ((s.1.take s.2).map vec) ls ∧ ∀ l ∈ ls, l < c
  zero : ∀ i, s.2 ≤ i → i < s.1.length → ∀ j, j < c → vec (s.1[i]?.getD []) j = 0
  toS : ∀ r ∈ O, Sp p (· ∈ s.1.map vec) (vec r)
  froS : ∀ r ∈ s.1, Sp p (· ∈ O.map vec) (vec r)
theorem swpM_get {R : List (List Int)} {k i : Nat} (hk : k ≤ i) (hi : i < R.length) (m : Nat) : (swpM R k i)[m]? = if m = k then R[i]? else if m = i then R[k]? else R[m]? := by
  unfold swpM
  by_cases h0 : m = k
  · subst h0
    rw [if_pos rfl, List.getElem?_set_self (by simp; omega)]
    simp [hi]
  · rw [if_neg h0, List.getElem?_set_ne (fun h => h0 h.symm)]
    by_cases h1 : m = i
    · subst h1
      rw [if_pos rfl, List.getElem?_set_self hi]
      simp [show k < R.length by omega]
    · rw [if_neg h1, List.getElem?_set_ne (fun h => h1 h.symm)]
theorem swpM_perm {R : List (List Int)} {k i : Nat} (hk : k ≤ i) (hi : i < R.length) : ∀ r, r ∈ swpM R k i ↔ r ∈ R := by
  intro r
  rw [List.mem_iff_getElem?, List.mem_iff_getElem?]
  constructor
  · rintro ⟨m, hm⟩
    rw [swpM_get hk hi] at hm
    split at hm
    · exact ⟨_, hm⟩
    · split at hm
      · exact ⟨_, hm⟩
      · exact ⟨_, hm⟩
  · rintro ⟨m, hm⟩
    by_cases h0 : m = k
    · subst h0
      refine ⟨i, ?_⟩
      rw [swpM_get hk hi]
      by_cases h1 : i = m
      · rw [if_pos h1, h1]; exact hm
      · rw [if_neg h1, if_pos rfl]; exact hm
    · by_cases h1 : m = i
      · subst h1
        exact ⟨k, by rw [swpM_get hk hi, if_pos rfl]; exact hm⟩
      · exact ⟨m, by rw [swpM_get hk hi, if_neg h0, if_neg h1]; exact hm⟩
theorem swpM_take {R : List (List Int)} {k i : Nat} (hk : k ≤ i) : (swpM R k i).take k = R.take k := by
  apply List.ext_getElem?
  intro m
  unfold swpM
  simp only [List.getElem?_take]
  by_cases hm : m < k
  · rw [if_pos hm, if_pos hm, List.getElem?_set_ne (by omega), List.getElem?_set_ne (by omega)]
  · rw [if_neg hm, if_neg hm]
theorem swpM_at {R : List (List Int)} {k i : Nat} (hk : k ≤ i) (hi : i < R.length) : (swpM R k i)[k]? = R[i]? := by
  unfold swpM
  rw [List.getElem?_set_self (by simp; omega)]
  simp [hi]
theorem colM_inv (hp : P23 p) {O : List (List Int)} {c : Nat} {s : List (List Int) × Nat} (hc : c < n) (h : Inv p n O c s) : Inv p n O (c + 1) (colM p s c) := by
  obtain ⟨R, k⟩ := s
  unfold colM
  cases hb : bestM c k R with
  | none =>
    obtain ⟨ls, h1, h2⟩ := h.leads
    refine ⟨h.len, h.le, h.wf, ⟨ls, h1, fun l hl => Nat.lt_succ_of_lt (h2 l hl)⟩, fun i hi hl j hj => ?_, h.toS, h.froS⟩
    rcases Nat.lt_succ_iff_lt_or_eq.1 hj with hj | rfl
    · exact h.zero i hi hl j hj
    · exact bestM_none hb i hi hl
  | some i =>
    obtain ⟨hk, hi, hne⟩ := bestM_some hb
    obtain ⟨own, ho⟩ : ∃ own, own = R[i]?.getD [] := ⟨_, rfl⟩
    have hown : own ∈ R := by rw [ho]; simp [hi]
    have howf : Wf p n own := h.wf own hown
    obtain ⟨Q, hQ⟩ : ∃ Q, Q = swpM R k i := ⟨_, rfl⟩
    have hQl : Q.length = R.length := by rw [hQ]; simp [swpM]
    have hQm : ∀ r, r ∈ Q ↔ r ∈ R := by rw [hQ]; exact swpM_perm hk hi
    have hQk : Q[k]? = some own := by rw [hQ, swpM_at hk hi, ho]; simp [hi]
    have hQt : Q.take (k + 1) = R.take k ++ [own] := by
      rw [List.take_add_one, hQk, hQ, swpM_take hk]; rfl
    have hQw : ∀ r ∈ Q, Wf p n r := fun r hr => h.wf r ((hQm r).1 hr)
    have hQz : ∀ r ∈ Q.drop k, ∀ j, j < c → vec r j = 0 := by
      intro r hr j hj
      obtain ⟨m, hm, rfl⟩ := List.getElem_of_mem hr
      rw [List.length_drop] at hm
      have hz := fun a (ha : k ≤ a) (hb : a < R.length) => h.zero a ha hb j hj
      have hg := swpM_get (R := R) hk hi (k + m)
      rw [← hQ] at hg
      have hgm : Q[k + m]? = some ((Q.drop k)[m]'(by rw [List.length_drop]; exact hm)) := by
        rw [List.getElem_drop, List.getElem?_eq_getElem (by omega)]
      rw [hgm] at hg
      generalize (Q.drop k)[m]'(by rw [List.length_drop]; exact hm) = r at hg ⊢
      have key : ∀ a, k ≤ a → a < R.length → some r = R[a]? → vec r j = 0 := fun a ha hb he => by
        have := hz a ha hb
        show vec r j = 0
        have e : (R, k).fst[a]?.getD [] = r := by show R[a]?.getD [] = r; rw [← he]; rfl
        rw [e] at this
        exact this
      split at hg
      · exact key i hk hi hg
      · split at hg
        · exact key k (Nat.le_refl k) (by omega) hg
        · exact key (k + m) (Nat.le_add_right k m) (by omega) hg
    have hoz : ∀ j, j < c → vec own j = 0 := by
      intro j hj
      rw [ho]
      exact h.zero i hk hi j hj
    have hol : Lead p (vec own) c := by
      refine ⟨by rw [howf.mod hp.pos, ho]; exact hne, fun j hj => by rw [hoz j hj]; exact Int.zero_emod p⟩
    have hdz : ∀ r ∈ Q.drop (k + 1), ∀ j, j < c → vec r j = 0 := fun r hr => hQz r (by
      have : Q.drop (k + 1) = (Q.drop k).drop 1 := by rw [List.drop_drop]
      rw [this] at hr
      exact List.mem_of_mem_drop hr)
    have hdw : ∀ r ∈ Q.drop (k + 1), Wf p n r := fun r hr => hQw r (List.mem_of_mem_drop hr)
    have clr_at : ∀ r ∈ Q.drop (k + 1), ∀ j, j < c + 1 → vec (clrM p c own r) j = 0 := by
      intro r hr j hj
      have hrw := hdw r hr
      unfold clrM
      rw [addL_any hrw.1 howf.1]
      rcases Nat.lt_succ_iff_lt_or_eq.1 hj with hj | rfl
      · rw [hdz r hr j hj, hoz j hj]; simp
      · have h1 := p23_sq hp hol.1
        have h2 := mul0 (-vec r j) h1
        have h3 : ((vec r j * vec own j) % p - vec r j * vec own j) % p = 0 := em' (Int.emod_emod_of_dvd _ (Int.dvd_refl p))
        have h4 := mul0 (-vec own j) h3
        have h5 : (vec own j * p) % p = 0 := by simp
        refine eq0 (add0 (add0 h2 h4) h5) ?_
        generalize (vec r j * vec own j) % p = q
        generalize vec r j = x
        generalize vec own j = y
        have e1 : -x * (y * y - 1) = x - x * (y * y) := by rw [Int.mul_sub, Int.mul_one, Int.neg_mul]; omega
        have e2 : -y * (q - x * y) = x * (y * y) - q * y := by
          rw [Int.mul_sub, Int.neg_mul, Int.neg_mul, Int.mul_comm y q, Int.mul_left_comm y x y]; omega
        rw [e1, e2, Int.sub_mul, Int.mul_comm y p]
        omega
    have hlead : ∃ ls, Leads p (((tailM p c k own Q).take (k + 1)).map vec) ls ∧ ∀ l ∈ ls, l < c + 1 := by
      obtain ⟨ls, h1, h2⟩ := h.leads
      have : (tailM p c k own Q).take (k + 1) = R.take k ++ [own] := by
        unfold tailM
        rw [List.take_append_of_le_length (by rw [List.length_take]; omega), List.take_take, Nat.min_self, hQt]
      rw [this, List.map_append]
      refine ⟨ls ++ [c], h1.snoc hol fun hm => absurd (h2 c hm) (Nat.lt_irrefl c), fun l hl => ?_⟩
      rcases List.mem_append.1 hl with hl | hl
      · exact Nat.lt_succ_of_lt (h2 l hl)
      · rw [List.mem_singleton] at hl; omega
    have hmem : ∀ r, r ∈ tailM p c k own Q ↔ r ∈ Q.take (k + 1) ∨ ∃ x ∈ Q.drop (k + 1), clrM p c own x = r := by
      intro r; unfold tailM; rw [List.mem_append, List.mem_map]
    have howT : own ∈ tailM p c k own Q := (hmem own).2 (.inl (by rw [hQt]; simp))
    have hQin : ∀ r, r ∈ Q → r ∈ Q.take (k + 1) ∨ r ∈ Q.drop (k + 1) := fun r hr => by
      rw [← List.take_append_drop (k + 1) Q] at hr
      exact List.mem_append.1 hr
    show Inv p n O (c + 1) (tailM p c k (R[i]?.getD []) (swpM R k i), k + 1)
    rw [← ho, ← hQ]
    refine ⟨?_, ?_, fun r hr => ?_, hlead, fun m hm hml j hj => ?_, fun r hr => ?_, fun r hr => ?_⟩
    · show (tailM p c k own Q).length = O.length
      unfold tailM
      rw [List.length_append, List.length_map, ← List.length_append, List.take_append_drop, hQl]
      exact h.len
    · show k + 1 ≤ (tailM p c k own Q).length
      unfold tailM
      rw [List.length_append, List.length_map, ← List.length_append, List.take_append_drop, hQl]
      omega
    · rcases (hmem r).1 hr with hr | ⟨x, hx, rfl⟩
      · exact hQw r (List.mem_of_mem_take hr)
      · exact addL_wf hp.pos (hdw x hx).1 howf.1
    · have hl2 : (tailM p c k own Q).length = Q.length := by
        unfold tailM
        rw [List.length_append, List.length_map, ← List.length_append, List.take_append_drop]
      have hm : k + 1 ≤ m := hm
      have hml : m < (tailM p c k own Q).length := hml
      show vec ((tailM p c k own Q)[m]?.getD []) j = 0
      have e : (tailM p c k own Q)[m]? = ((Q.drop (k + 1)).map (clrM p c own))[m - (k + 1)]? := by
        unfold tailM
        rw [List.getElem?_append_right (by rw [List.length_take]; omega), List.length_take]
        congr 1
        omega
      rw [e]
      have hlt : m - (k + 1) < (Q.drop (k + 1)).length := by rw [List.length_drop]; omega
      rw [List.getElem?_map, List.getElem?_eq_getElem hlt]
      exact clr_at _ (List.getElem_mem hlt) j hj
    · have h1 := h.toS r hr
      refine h1.le fun b hb => ?_
      obtain ⟨x, hx, rfl⟩ := List.mem_map.1 hb
      rcases hQin x ((hQm x).2 hx) with hx | hx
      · exact .of (mem_mapS ((hmem x).2 (.inl hx)))
      · have h2 : Sp p (· ∈ (tailM p c k own Q).map vec) (vec (clrM p c own x)) := .of (mem_mapS ((hmem _).2 (.inr ⟨x, hx, rfl⟩)))
        refine (h2.plus (-(p - vec x c * vec own c % p)) (mem_mapS howT)).congr fun j => ?_
        have h3 := mul0 (-1) (addL_mod (p := p) (t := p - vec x c * vec own c % p) (hdw x hx).1 howf.1 j)
        refine eq0 h3 ?_
        show vec x j - (vec (clrM p c own x) j + -(p - vec x c * vec own c % p) * vec own j) = _
        unfold clrM
        generalize p - vec x c * vec own c % p = t
        rw [Int.neg_mul]
        omega
    · rcases (hmem r).1 hr with hr | ⟨x, hx, rfl⟩
      · exact h.froS r ((hQm r).1 (List.mem_of_mem_take hr))
      · have h1 := h.froS x ((hQm x).1 (List.mem_of_mem_drop hx))
        have h2 := (h.froS own hown).smul (p - vec x c * vec own c % p)
        refine (h1.add h2).congr fun j => ?_
        refine eq0 (addL_mod (p := p) (t := p - vec x c * vec own c % p) (hdw x hx).1 howf.1 j) ?_
        unfold clrM
        generalize p - vec x c * vec own c % p = t
        show _ - (_ + _) = _
        omega
theorem runM_inv (hp : P23 p) {R : List (List Int)} (hR : ∀ r ∈ R, Wf p n r) : ∀ c, c ≤ n → Inv p n R c (runM p R c) := by
  intro c
  induction c with
  | zero => exact fun _ => ⟨rfl, Nat.zero_le _, hR, ⟨[], .nil, fun l hl => by cases hl⟩, fun i _ _ j hj => absurd hj (Nat.not_lt_zero j), fun r hr => .of (mem_mapS hr), fun r hr => .of (mem_mapS hr)⟩
  | succ c ih => exact fun hc => by rw [runM_succ]; exact colM_inv hp hc (ih (by omega))
/-- The model's rank is the length of the program's basis. -/
theorem rankM_eq (hp : P23 p) {R : List (List Int)} (hR : ∀ r ∈ R, Wf p n r) : rankM p n R = (basL p R).length := by
  have h := runM_inv hp hR n (Nat.le_refl n)
  obtain ⟨he, h1, h2⟩ := basL_spec hp hR
  obtain ⟨ls, hl, _⟩ := h.leads
  unfold rankM
  generalize runM p R n = s at h hl
  have hlen : ((s.1.take s.2).map vec).length = s.2 := by rw [List.length_map, List.length_take]; have := h.le; omega
  have hlen2 : ((basL p R).map vec).length = (basL p R).length := by simp
  rw [← hlen, ← hlen2]
  have hz : ∀ r ∈ s.1, Sp p (· ∈ (s.1.take s.2).map vec) (vec r) := by
    intro r hr
    obtain ⟨m, hm, rfl⟩ := List.getElem_of_mem hr
    by_cases hlt : m < s.2
    · refine .of (mem_mapS (List.mem_iff_getElem.2 ⟨m, ?_, ?_⟩))
      · rw [List.length_take]; omega
      · rw [List.getElem_take]
    · refine .zero fun j => ?_
      by_cases hj : j < n
      · have := h.zero m (by omega) hm j hj
        rw [List.getElem?_eq_getElem hm] at this
        rw [show vec s.1[m] j = 0 from this]; exact Int.zero_emod p
      · rw [vec_out (by have := (h.wf _ hr).1; omega)]; exact Int.zero_emod p
  refine rank_same hp hl (he.leads hp) (fun b hb => ?_) (fun b hb => ?_)
  · obtain ⟨r, hr, rfl⟩ := List.mem_map.1 hb
    refine (h.froS r (List.mem_of_mem_take hr)).le fun b hb => ?_
    obtain ⟨o, ho, rfl⟩ := List.mem_map.1 hb
    exact h1 o ho
  · obtain ⟨r, hr, rfl⟩ := List.mem_map.1 hb
    refine (h2 r hr).le fun b hb => ?_
    obtain ⟨o, ho, rfl⟩ := List.mem_map.1 hb
    refine (h.toS o ho).le fun b hb => ?_
    obtain ⟨q, hq, rfl⟩ := List.mem_map.1 hb
    exact hz q hq
/-- The length of the basis is at most the number of places. -/
theorem basL_len (hp : P23 p) {R : List (List Int)} (hR : ∀ r ∈ R, Wf p n r) : (basL p R).length ≤ n := by
  obtain ⟨he, _, _⟩ := basL_spec hp hR
  have h1 := he.leads hp
  have : (basL p R).length = ((basL p R).map ldL).length := by simp
  rw [this, ← List.length_range (n := n)]
  refine nodup_le h1.nodup fun l hl => ?_
  obtain ⟨b, hb, rfl⟩ := List.mem_map.1 hl
  exact List.mem_range.2 (ldL_lead hp (he.wf b hb) (he.ne b hb)).2
/-- A word is in the code exactly if it doesn't make the rank greater. -/
theorem word_rank (hp : P23 p) {R : List (List Int)} {w : List Int} (hR : ∀ r ∈ R, Wf p n r) (hw : Wf p n w) : (rankM p n (R ++ [w]) = rankM p n R) ↔ ¬ hasN (redL p w (basL p R)) = true := by
  rw [rankM_eq hp hR, rankM_eq hp (fun r hr => by
    rcases List.mem_append.1 hr with hr | hr
    · exact hR r hr
    · rw [List.mem_singleton] at hr; rw [hr]; exact hw), basL_snoc, basS]
  by_cases hn : hasN (redL p w (basL p R)) = true
  · rw [if_pos hn]; simp [hn]
  · rw [if_neg hn]; simp [hn]
end Go.Proofs.Ytahgialnhomefaa

namespace Go.Proofs.Ytahgialnhomefaa
open Go.RowKit Go.Maps
def hdrX2 (T n : Nat) (i : Nat) : Value := .slice (some ⟨T, i * n, none⟩) n n
theorem bas_take2 {n : Nat} {bs : List Blk} {k : Nat} (hk : k < bs.length) : basL 2 ((rowsB n bs).take (k + 1)) = basS 2 (basL 2 ((rowsB n bs).take k)) (rowB n (bs[k]?.getD default)) := by
  rw [List.take_add_one, ← rowsB_at n hk, List.getElem?_eq_getElem (by rw [rowsB_len]; exact hk)]
  exact basL_snoc _ _
theorem bas_ok2 (n : Nat) (bs : List Blk) (k : Nat) : (∀ o ∈ basL 2 ((rowsB n bs).take k), Wf 2 n o) ∧ (∀ o ∈ basL 2 ((rowsB n bs).take k), ∃ x ∈ o, x ≠ 0) ∧ (basL 2 ((rowsB n bs).take k)).length ≤ n := by
  have hR : ∀ r ∈ (rowsB n bs).take k, Wf 2 n r := fun r hr => rowsB_wf (p := 2) (by decide) n bs r (List.mem_of_mem_take hr)
  obtain ⟨he, _, _⟩ := basL_spec (p := 2) (.inl rfl) hR
  exact ⟨he.wf, he.ne, basL_len (.inl rfl) hR⟩
/-- What stands while the rows are gone through. -/
structure BasM2 (W : World) (lo T n m k : Nat) (bs : List Blk) (G : Nat → List Int) (ix : List Nat) (o u : Value) : Prop where
  tab : TabW W T n m G
  rest : ∀ i, k ≤ i → i < m → G i = rowB n (bs[i]?.getD default)
  len : ∀ i, i < m → (G i).length = n
  lt : ∀ i ∈ ix, i < k
  bas : ix.map G = basL 2 ((rowsB n bs).take k)
  own : OwnW2 W lo o (ix.map (hdrX2 T n))
  tl : T < lo
  us : ∃ lo2, OwnW2 W lo2 u (hdrW2 T n m)
  ut : u.ownBlock ≠ some T
  ul : ∀ r, u.ownBlock = some r → r < lo
theorem BasM2.rdb {W : World} {lo T n m k : Nat} {bs : List Blk} {G : Nat → List Int} {ix : List Nat} {u : Value} {oa : Option Addr} {om oc : Nat} (h : BasM2 W lo T n m k bs G ix (.slice oa om oc) u) (hkm : k ≤ m) {b off : Nat} (hd : b ≠ T ∧ b < lo ∨ b = T ∧ off = k * n) : RdB W oa b off n (basL 2 ((rowsB n bs).take k)) := fun i hi => by
  rw [← h.bas, List.length_map] at hi
  obtain ⟨j, hj⟩ : ∃ j, ix[i]? = some j := ⟨_, List.getElem?_eq_getElem hi⟩
  have hjk := h.lt j (List.mem_of_getElem? hj)
  obtain ⟨g, c, hv, h1, h2, h3⟩ := h.own.at_ (i := i) (x := hdrX2 T n j) (by rw [List.getElem?_map, hj]; rfl)
  injection hv with e1 e2 e3
  have hTl := h.tl
  refine ⟨g, 0, n, T, j * n, by rw [e1], h2, ?_, by rw [Nat.zero_add]; exact h3, ?_, h.tab.lt, ?_⟩
  · rcases hd with hd | hd <;> omega
  · have := h.tab.row j (by omega)
    rw [← h.bas, List.getElem?_map, hj]
    exact this
  · rcases hd with hd | ⟨rfl, rfl⟩
    · exact .inl (fun e => hd.1 e.symm)
    · rcases row_apart (i := j) (k := k) (n := n) (by omega) with h4 | h4
      · exact .inr (.inl h4)
      · exact .inr (.inr h4)
/-- A row was reduced. -/
theorem BasM2.red {W W' : World} {lo T n m k : Nat} {bs : List Blk} {G : Nat → List Int} {ix : List Nat} {o u : Value} (h : BasM2 W lo T n m k bs G ix o u) (hkm : k < m) (hm : m = bs.length) {R : List Int} (hRl : R.length = n) (hR : R = redL 2 (rowB n (bs[k]?.getD default)) (basL 2 ((rowsB n bs).take k))) (hw : Wr W W' T (k * n) n) (hI : Ints W' T (k * n) R) :
    (hasN R = false → BasM2 W' lo T n m (k + 1) bs (fun i => if i = k then R else G i) ix o u) ∧
    (hasN R = true → TabW W' T n m (fun i => if i = k then R else G i) ∧ OwnW2 W' lo o (ix.map (hdrX2 T n)) ∧ ∀ W'' o', W'.grownBy W'' o.ownBlock → OwnW2 W'' lo o' (ix.map (hdrX2 T n) ++ [hdrX2 T n k]) → BasM2 W'' lo T n m (k + 1) bs (fun i => if i = k then R else G i) (ix ++ [k]) o' u) := by
  have hT := h.tab.wr h.len hw hI
  have hO : OwnW2 W' lo o (ix.map (hdrX2 T n)) := h.own.kept hw.gr (fun r e e2 => by cases e; have := (h.own.blk T e2).1; have := h.tl; omega)
  obtain ⟨lo2, hu⟩ := h.us
  have hU : OwnW2 W' lo2 u (hdrW2 T n m) := hu.kept hw.gr (fun r e e2 => by cases e; exact h.ut e2)
  have hmap : ix.map (fun i => if i = k then R else G i) = ix.map G := List.map_congr_left fun i hi => by
    have := h.lt i hi
    rw [if_neg (by omega)]
  have hbas := bas_take2 (n := n) (bs := bs) (k := k) (by omega)
  have hrest : ∀ i, k + 1 ≤ i → i < m → (if i = k then R else G i) = rowB n (bs[i]?.getD default) := fun i h1 h2 => by
    rw [if_neg (by omega)]; exact h.rest i (by omega) h2
  have hlen : ∀ i, i < m → (if i = k then R else G i).length = n := fun i hi => by
    split
    · exact hRl
    · exact h.len i hi
  constructor
  · intro hn
    refine ⟨hT, hrest, hlen, fun i hi => Nat.lt_succ_of_lt (h.lt i hi), ?_, hO, h.tl, ⟨lo2, hU⟩, h.ut, h.ul⟩
    rw [hmap, h.bas, hbas, basS, ← hR, hn, if_neg (by decide)]
  · intro hn
    refine ⟨hT, hO, fun W'' o' hg ho' => ?_⟩
    have hTl := h.tl
    refine ⟨hT.kept hg (fun e => by have := (hO.blk T e.symm).1; omega), hrest, hlen, fun i hi => ?_, ?_, by rw [List.map_append]; exact ho', h.tl, ⟨lo2, hU.kept hg (fun r e e2 => by have := (hO.blk r e).1; have := h.ul r e2; omega)⟩, h.ut, h.ul⟩
    · rcases List.mem_append.1 hi with hi | hi
      · exact Nat.lt_succ_of_lt (h.lt i hi)
      · rw [List.mem_singleton] at hi; omega
    · rw [List.map_append, hmap, h.bas, hbas, basS, ← hR, hn, if_pos rfl]
      simp
theorem BasM2.below {W W' : World} {lo T n m k : Nat} {bs : List Blk} {G : Nat → List Int} {ix : List Nat} {o u : Value} (h : BasM2 W lo T n m k bs G ix o u) (hb : Below W.heap.size W W') : BasM2 W' lo T n m k bs G ix o u := by
  obtain ⟨lo2, hu⟩ := h.us
  exact ⟨h.tab.below hb, h.rest, h.len, h.lt, h.bas, h.own.below hb, h.tl, ⟨lo2, hu.below hb⟩, h.ut, h.ul⟩
set_option maxRecDepth 100000 in
set_option maxHeartbeats 4000000 in
theorem basisOf2_any (n : Nat) (s : Value) (bs : List Blk) (w : World) (h : SB w s bs) (hi : isSysImpl (n : Int) bs = true) :
    Calls Try.prog 66 #[.agg #[.int .i64 (n : Int), s]] w (fun e w' => ∃ ta tc, e = .returned (.slice ta (basL 2 (rowsB n bs)).length tc) ∧ Below w.heap.size w w' ∧ ∀ b off, b < w.heap.size → RdB w' ta b off n (basL 2 (rowsB n bs))) := by
  have hs := h.slice
  obtain ⟨hv3, hv15, hb35⟩ := sys_size hi
  have hbA : Below w.heap.size w (w.alloc (.cells #[.int .i64 (n : Int), s] 30)) := (Below.refl _ _).alloc (Nat.le_refl _) _
  have HRO := Lib.hid (rowsOf2_any n s bs _ (h.below hbA (Nat.le_refl _)) hi)
  have HBA := Lib.hid hbA
  obtain ⟨m, hm⟩ : ∃ m, m = bs.length := ⟨_, rfl⟩
  have HMM := Lib.hid hm
  have HOK := Lib.hid (bas_ok2 n bs)
  obtain ⟨a0, c0, rfl⟩ := hs
  rw [← hm] at HRO hb35 HBA
  rw [← hm]
  clear h hi hm hbA
  go_enter Try.func66, Try.ntmps66
  go_wp2_with fail
  refine HRO.out.mono ?_
  rintro e w1 ⟨u, T, rfl, hO, hT, hlT, huT, hb1⟩
  have HB1 := Lib.hid (HBA.out.trans (hb1.mono (by simp)))
  obtain ⟨ua, uc, hu⟩ := hO.form
  rw [hdrW2_len] at hu
  have hwT : w.heap.size ≤ T := by simp at hlT; omega
  have hM0 : BasM2 w1 w1.heap.size T n m 0 bs (fun i => rowB n (bs[i]?.getD default)) [] (.slice none 0 0) u := ⟨hT, fun _ _ _ => rfl, fun i _ => rowB_len n _, fun i hi => (by cases hi), (by simp [basL]), OwnW2.nil _ _, hT.lt, ⟨_, hO⟩, huT, fun r e => (hO.blk r e).2⟩
  subst hu
  have HM0 := Lib.hid hM0
  have hwz : w.heap.size ≤ w1.heap.size := HB1.out.size
  clear hb1 hO hT hlT huT hM0 HRO
  go_wp2_with fail
  go_loopw [3, 9] (fun o i wr => ∃ (k : Nat) (G : Nat → List Int) (ix : List Nat), k ≤ m ∧ i = .int .i64 k ∧ Below w.heap.size w wr ∧ w1.heap.size ≤ wr.heap.size ∧ BasM2 wr w1.heap.size T n m k bs G ix o (.slice ua m uc) ∧ ∃ a q c, o = .slice a q c) (fun _ i _ => m - (intOf i).toNat)
  case atStart => exact ⟨0, _, [], Nat.zero_le _, rfl, HB1.out, Nat.le_refl _, HM0.out, _, _, _, rfl⟩
  case round =>
    obtain ⟨k, G, ix, hk, rfl, hB, hz, hM, oa, om, oc, rfl⟩ := hrel
    have HB := Lib.hid hB
    have HM := Lib.hid hM
    have hom : om = (basL 2 ((rowsB n bs).take k)).length := by
      obtain ⟨a, c, e⟩ := hM.own.form
      injection e with _ e2 _
      rw [e2, List.length_map, ← hM.bas, List.length_map]
    clear hB
    by_cases hkl : k < m
    · obtain ⟨lo2, hU⟩ := hM.us
      obtain ⟨g, c, hue, hg1, hg2, hcell⟩ := hU.at_ (i := k) (x := .slice (some ⟨T, k * n, none⟩) n n) (by unfold hdrW2; rw [List.getElem?_map, List.getElem?_range hkl]; rfl)
      injection hue with e1 e2 e3
      clear e2 e3
      subst e1
      have hrow := hM.tab.row k hkl
      rw [hM.rest k (Nat.le_refl k) hkl] at hrow
      obtain ⟨hw1, hw2, hw3⟩ := HOK.out k
      have hwfr := rowB_wf (p := 2) (by decide) n (bs[k]?.getD default)
      have HRED := Lib.hid (reduce2_any T (k * n) n n (rowB n (bs[k]?.getD default)) oa oc om (basL 2 ((rowsB n bs).take k)) wr hrow hwfr (hM.rdb hk (.inr ⟨rfl, rfl⟩)) hw1 hw2 (fun j _ => hM.tab.free _) (by omega) hom (by omega))
      have hRwf := redL_wf (p := 2) (n := n) (.inl rfl) hwfr hw1
      obtain ⟨R, hR⟩ : ∃ R, R = redL 2 (rowB n (bs[k]?.getD default)) (basL 2 ((rowsB n bs).take k)) := ⟨_, rfl⟩
      rw [← hR] at HRED hRwf
      have HR := Lib.hid hR
      have g0 : (0 : Int) ≤ (k : Int) := by omega
      have g1 : (k : Int) < (m : Int) := by omega
      clear hM hU hrow hw1 hw2 hw3 hwfr hR hom
      go_wp2_with fail
      refine HRED.out.mono ?_
      rintro e w4 ⟨rfl, hwr, hI⟩
      have hboth := HM.out.red hkl HMM.out hRwf.1 HR.out hwr hI
      have HBOTH := Lib.hid hboth
      have HWT := Lib.hid (weight2_any T (k * n) n n R w4 hI hRwf.1 (by omega))
      have hwp := wtL_pos (ws := R)
      have hB4 := HB.out.grown hwr.gr HB.out.size (fun r e => by cases e; exact hwT)
      have HB4 := Lib.hid hB4
      have hz4 := hwr.gr.size
      obtain ⟨q, hq⟩ : ∃ q, q = wtL R := ⟨_, rfl⟩
      rw [← hq] at HWT hwp
      clear hboth hwr hI hB4 hq
      cases hn : hasN R with
      | false =>
        have hq0 : q = 0 := by
          rcases Nat.eq_zero_or_pos q with h | h
          · exact h
          · rw [hwp.1 h] at hn; cases hn
        subst hq0
        have HN := Lib.hid (HBOTH.out.1 hn)
        clear hwp hn
        go_wp2_with fail
        refine HWT.out.mono ?_
        rintro e w5 ⟨rfl, rfl⟩
        go_wp2
        go_roundw
        case rel => exact ⟨k + 1, _, ix, by omega, by go_num, HB4.out, by omega, HN.out, _, _, _, rfl⟩
        case measure => simp [intOf]; omega
      | true =>
        have hq0 : 0 < q := hwp.2 hn
        have hd : decide ((0 : Int) < (q : Int)) = true := by simp; omega
        obtain ⟨hT4, hO4, hNX⟩ := HBOTH.out.2 hn
        have HO4 := Lib.hid hO4
        have HNX := Lib.hid hNX
        have hil : (ix.map (hdrX2 T n)).length ≤ 1100000 := by
          have := congrArg List.length HM.out.bas
          rw [List.length_map] at this
          have h2 := (HOK.out k).2.2
          rw [List.length_map]
          omega
        obtain ⟨HH, hHH⟩ : ∃ HH, HH = ix.map (hdrX2 T n) := ⟨_, rfl⟩
        rw [← hHH] at HO4 hil HNX
        clear hT4 hO4 hNX hwp hn hHH
        go_wp2_with (first | (go_at_call 72; refine HWT.out.mono ?_; rintro e w5 ⟨rfl, rfl⟩) | (at_builtin; refine wpList_append_word2 rfl _ _ rfl w1.heap.size (.slice oa om oc) HH rfl (HO4.out.below ((Below.refl _ _).alloc (Nat.le_refl _) _)) _ _ rfl (some ⟨T, k * n, none⟩) n n (by simp [go_sem]) hil (by simp; omega) ?_; intro G' cap' w7 hV7 hg7 hG7))
        have hgo := gb_trans (World.grownBy_alloc _ _ none) hg7
        have hM7 := HNX.out _ _ hgo hV7
        have hB7 := HB4.out.grown hgo HB4.out.size (fun r e => by have := (HO4.out.blk r e).1; omega)
        have hz7 := hgo.size
        clear hg7 hgo
        go_roundw
        case rel => first
          | exact ⟨k + 1, _, ix ++ [k], by omega, by go_num, hB7, by omega, hM7, _, _, _, rfl⟩
          | ((repeat apply Exists.intro); exact ⟨⟨k + 1, _, ix ++ [k], by omega, by go_num, hB7, by omega, hM7, _, _, _, rfl⟩, rfl⟩)
        case measure => simp [intOf]; omega
    · have e : k = m := by omega
      have HRD := Lib.hid fun b off (hb : b < w.heap.size) => HM.out.rdb hk (b := b) (off := off) (.inl ⟨by omega, by omega⟩)
      have hall : (rowsB n bs).take k = rowsB n bs := by rw [e, HMM.out, ← rowsB_len n bs, List.take_length]
      rw [hall] at HRD hom
      have HOM := Lib.hid hom
      clear hom hall e hM
      go_wp2
      go_ret
      exact ⟨oa, oc, by first | rfl | (rw [HOM.out]; rfl), HB.out, HRD.out⟩
end Go.Proofs.Ytahgialnhomefaa

namespace Go.Proofs.Ytahgialnhomefaa
open Go.RowKit
/-- How many bits a mask of 15 bits has. -/
def pc (n : Nat) : Nat := Lib.popAux 15 n
theorem popA_split : ∀ (k j n : Nat), Lib.popAux (k + j) n = Lib.popAux k (n % 2 ^ k) + Lib.popAux j (n / 2 ^ k)
  | 0, j, n => by simp [Lib.popAux]
  | k + 1, j, n => by
    have h1 : n % 2 ^ (k + 1) % 2 = n % 2 := Nat.mod_mod_of_dvd n ⟨2 ^ k, by rw [Nat.pow_succ]; omega⟩
    have h2 : n % 2 ^ (k + 1) / 2 = n / 2 % 2 ^ k := by rw [Nat.pow_succ, Nat.mod_mul_left_div_self]
    have h3 : n / 2 ^ (k + 1) = n / 2 / 2 ^ k := by rw [Nat.pow_succ, Nat.mul_comm, Nat.div_div_eq_div_mul]
    rw [show k + 1 + j = (k + j) + 1 by omega, Lib.popAux, popA_split k j (n / 2), Lib.popAux, h1, h2, h3]
    omega
theorem pop_lo : ∀ n : Fin 256, Lib.popAux 8 n.val = Lib.onesCount n.val := by decide +kernel
theorem pop_hi : ∀ n : Fin 128, Lib.popAux 7 n.val = Lib.onesCount n.val := by decide +kernel
theorem pc_tab {n : Nat} (h : n < 32768) : pc n = Lib.onesCount (n / 256) + Lib.onesCount (n % 256) := by
  have h1 := popA_split 8 7 n
  have h2 := pop_lo ⟨n % 256, by omega⟩
  have h3 := pop_hi ⟨n / 256, by omega⟩
  simp only at h2 h3
  unfold pc
  rw [show (15 : Nat) = 8 + 7 by rfl, h1, show (2 : Nat) ^ 8 = 256 by rfl, h2, h3, Nat.add_comm]
theorem popA_range : ∀ (k n : Nat), Lib.popAux k n = ((List.range k).filter fun t => n.testBit t).length
  | 0, n => by simp [Lib.popAux]
  | k + 1, n => by
    rw [Lib.popAux, popA_range k (n / 2), List.range_succ_eq_map, List.filter_cons, List.filter_map, ]
    have e : ((fun t => n.testBit t) ∘ Nat.succ) = fun t => (n / 2).testBit t := by
      funext t
      simp only [Function.comp, Nat.succ_eq_add_one, Nat.testBit_succ]
    rw [e]
    by_cases h : n.testBit 0 = true
    · rw [if_pos h, List.length_cons, List.length_map]
      rw [Nat.testBit_zero, decide_eq_true_eq] at h
      omega
    · rw [if_neg h, List.length_map]
      rw [Nat.testBit_zero, decide_eq_true_eq] at h
      omega
theorem nodup_map_inj {α β : Type} {f : α → β} : ∀ {l : List α}, l.Nodup → (∀ a ∈ l, ∀ b ∈ l, f a = f b → a = b) → (l.map f).Nodup := fun {l} h hf => by
  rw [List.Nodup, List.pairwise_map]
  exact List.Pairwise.imp_of_mem (fun ha hb hne e => hne (hf _ ha _ hb e)) h
theorem pc_msk {L : List Int} (hn : L.Nodup) (h : ∀ z ∈ L, 0 ≤ z ∧ z < 15) : pc (msk L) = L.length := by
  unfold pc
  rw [popA_range]
  have hm : (L.map Int.toNat).Nodup := nodup_map_inj hn fun a ha b hb e => by have := h a ha; have := h b hb; omega
  have h0 : ∀ d ∈ L, 0 ≤ d := fun d hd => (h d hd).1
  refine Nat.le_antisymm ?_ ?_
  · rw [show L.length = (L.map Int.toNat).length from (List.length_map Int.toNat).symm]
    refine nodup_length _ _ (List.nodup_range.filter _) fun t ht => ?_
    have ht := (List.mem_filter.1 ht).2
    exact List.mem_map.2 ⟨(t : Int), (msk_mem h0).1 ht, by simp⟩
  · rw [show L.length = (L.map Int.toNat).length from (List.length_map Int.toNat).symm]
    refine nodup_length _ _ hm fun t ht => ?_
    obtain ⟨z, hz, rfl⟩ := List.mem_map.1 ht
    have := h z hz
    exact List.mem_filter.2 ⟨List.mem_range.2 (by omega), (msk_mem h0).2 (by rw [Int.toNat_of_nonneg this.1]; exact hz)⟩
theorem and_msk {L M : List Int} (hL : ∀ z ∈ L, 0 ≤ z) (hM : ∀ z ∈ M, 0 ≤ z) : msk L &&& msk M = msk (L.filter fun a => decide (a ∈ M)) := by
  have hF : ∀ z ∈ L.filter fun a => decide (a ∈ M), 0 ≤ z := fun z hz => hL z (List.mem_filter.1 hz).1
  apply Nat.eq_of_testBit_eq
  intro t
  rw [Nat.testBit_and, Bool.eq_iff_iff, Bool.and_eq_true, msk_mem hL, msk_mem hM, msk_mem hF, List.mem_filter, decide_eq_true_eq]
/-- How many points of a block are in a set. -/
def cntB (x : Blk) (zs : List Int) : Nat := ((ptsB x).filter fun a => decide (a ∈ zs)).length
theorem cntB_le (x : Blk) (zs : List Int) : cntB x zs ≤ 3 := by
  unfold cntB
  exact Nat.le_trans (List.length_filter_le _ _) (by simp [ptsB])
/-- The program's bits: that of the point 0 is the highest one. -/
def rv (z : Int) : Int := 14 - z
def mskR (zs : List Int) : Nat := msk (zs.map rv)
theorem rv_in {zs : List Int} (h : ∀ z ∈ zs, 0 ≤ z ∧ z < 15) : ∀ z ∈ zs.map rv, 0 ≤ z ∧ z < 15 := fun z hz => by
  obtain ⟨a, ha, rfl⟩ := List.mem_map.1 hz
  have := h a ha
  unfold rv
  omega
theorem mskR_lt {zs : List Int} (h : ∀ z ∈ zs, 0 ≤ z ∧ z < 15) : mskR zs < 32768 := msk_lt15 (rv_in h)
theorem and_R {L M : List Int} (hL : ∀ z ∈ L, 0 ≤ z ∧ z < 15) (hM : ∀ z ∈ M, 0 ≤ z ∧ z < 15) : mskR L &&& mskR M = mskR (L.filter fun a => decide (a ∈ M)) := by
  unfold mskR
  rw [and_msk (fun z hz => (rv_in hL z hz).1) (fun z hz => (rv_in hM z hz).1), List.filter_map]
  congr 1
  congr 1
  apply List.filter_congr
  intro a ha
  rw [Function.comp, decide_eq_decide, List.mem_map]
  constructor
  · rintro ⟨b, hb, e⟩
    unfold rv at e
    obtain rfl : b = a := by omega
    exact hb
  · exact fun h => ⟨a, h, rfl⟩
theorem ptsB_nodup {x : Blk} (h : okB x) : (ptsB x).Nodup := by
  obtain ⟨h1, h2, h3, h4⟩ := h
  simp only [ptsB, List.nodup_cons, List.mem_cons, List.not_mem_nil, or_false, not_or, List.nodup_nil, and_true, not_false_eq_true]
  omega
theorem filt_in {L : List Int} {p : Int → Bool} (h : ∀ z ∈ L, 0 ≤ z ∧ z < 15) : ∀ z ∈ L.filter p, 0 ≤ z ∧ z < 15 := fun z hz => h z (List.mem_filter.1 hz).1
theorem pc_R {x : Blk} (hx : okB x) {zs : List Int} (hz : ∀ z ∈ zs, 0 ≤ z ∧ z < 15) : pc (mskR (ptsB x) &&& mskR zs) = cntB x zs := by
  rw [and_R (okB_small hx) hz]
  unfold mskR cntB
  rw [pc_msk (nodup_map_inj ((ptsB_nodup hx).filter _) fun a _ b _ e => by unfold rv at e; omega) (rv_in (filt_in (okB_small hx))), List.length_map]
theorem pc_M {x : Blk} (hx : okB x) {zs : List Int} (hz : ∀ z ∈ zs, 0 ≤ z ∧ z < 15) : pc (mkB x &&& msk zs) = cntB x zs := by
  rw [mkB_msk hx, and_msk (fun z h => (okB_small hx z h).1) (fun z h => (hz z h).1)]
  unfold cntB
  rw [pc_msk ((ptsB_nodup hx).filter _) (filt_in (okB_small hx))]
theorem sub_M {x : Blk} (hx : okB x) {zs : List Int} (hz : ∀ z ∈ zs, 0 ≤ z ∧ z < 15) : mkB x &&& msk zs = mkB x ↔ cntB x zs = 3 := by
  constructor
  · intro e
    rw [← pc_M hx hz, e, mkB_msk hx, pc_msk (ptsB_nodup hx) (okB_small hx)]
    rfl
  · intro e
    rw [mkB_msk hx, and_msk (fun z h => (okB_small hx z h).1) (fun z h => (hz z h).1)]
    congr 1
    refine List.filter_eq_self.2 ?_
    have := (List.length_filter_eq_length_iff (p := fun a => decide (a ∈ zs)) (l := ptsB x)).1 (by rw [show (ptsB x).length = 3 from rfl]; exact e)
    exact this
theorem bits16 {x y : Nat} (hx : x < 32768) (hy : y < 32768) : bits .and .u16 (x : Int) (y : Int) = ((x &&& y : Nat) : Int) ∧ bits .or .u16 (x : Int) (y : Int) = ((x ||| y : Nat) : Int) := by
  have h := bits_nat .u16 15 (by decide) (fun n h0 h1 => IntWalk.u16_in _ (by omega)) x y (by omega) (by omega)
  exact h
theorem and_lt15 {x y : Nat} (hy : y < 32768) : x &&& y < 32768 := Nat.and_lt_two_pow (n := 15) x hy
/-- Is the set closed? Has it no block? -/
def closedL (bs : List Blk) (zs : List Int) : Bool := bs.all fun x => decide (cntB x zs ≠ 2)
def indepL (bs : List Blk) (zs : List Int) : Bool := bs.all fun x => decide (cntB x zs ≠ 3)
/-- How many blocks have just n points in the set. -/
def cntW (n : Nat) (bs : List Blk) (zs : List Int) : Nat := (bs.filter fun x => decide (cntB x zs = n)).length
theorem cntW_zero {n : Nat} {bs : List Blk} {zs : List Int} : cntW n bs zs = 0 ↔ (bs.all fun x => decide (cntB x zs ≠ n)) = true := by
  unfold cntW
  rw [List.length_eq_zero_iff, List.filter_eq_nil_iff, List.all_eq_true]
  simp
theorem cntW_le (n : Nat) (bs : List Blk) (zs : List Int) : cntW n bs zs ≤ bs.length := List.length_filter_le _ _
theorem cntW_take {n k : Nat} {bs : List Blk} {zs : List Int} (hk : k < bs.length) : cntW n (bs.take (k + 1)) zs = cntW n (bs.take k) zs + (if cntB (bs[k]?.getD default) zs = n then 1 else 0) := by
  unfold cntW
  rw [List.take_succ_eq_append_getElem hk, List.filter_append, List.length_append]
  congr 1
  simp only [List.getElem?_eq_getElem hk, Option.getD_some, List.filter_cons, List.filter_nil]
  split <;> simp_all
end Go.Proofs.Ytahgialnhomefaa

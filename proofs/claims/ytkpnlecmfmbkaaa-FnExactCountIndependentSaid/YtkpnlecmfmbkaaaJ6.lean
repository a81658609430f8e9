
/- The iterator over all blocks of v points. The pairs of a list of blocks, as a map. The laws' marks in systems. The program's FreeBlocks. Closed and independent sets, in the model: whole. Spans: plain. The number of independent sets: plain. -/
import Derived.Test.YtkpnlecmfmbkaaaJ5
import Derived.Lib.QuietBelow
namespace Go.Proofs.Ytkpnlecmfmbkaaa
open Go.RowKit Go.Maps Go.Shelf
attribute [local go_sem] Oper.semAt_some
def rowC (a b n : Nat) : List Blk := (List.range n).map fun (t : Nat) => ⟨(a : Int), (b : Int), ((b + 1 + t : Nat) : Int)⟩
def rowB (v a n : Nat) : List Blk := (List.range n).flatMap fun (t : Nat) => rowC a (a + 1 + t) (v - (a + 1 + t + 1))
def rowA (v n : Nat) : List Blk := (List.range n).flatMap fun (t : Nat) => rowB v t (v - (t + 1))
theorem rowC_succ (a b n : Nat) : rowC a b (n + 1) = rowC a b n ++ [⟨(a : Int), (b : Int), ((b + 1 + n : Nat) : Int)⟩] := by simp [rowC, List.range_succ]
theorem rowB_succ (v a n : Nat) : rowB v a (n + 1) = rowB v a n ++ rowC a (a + 1 + n) (v - (a + 1 + n + 1)) := by simp [rowB, List.range_succ]
theorem rowA_succ (v n : Nat) : rowA v (n + 1) = rowA v n ++ rowB v n (v - (n + 1)) := by simp [rowA, List.range_succ]
theorem wf_small {a : Nat} (h : a ≤ 15) : WF (a : Int) := by
  have : (a : Int) = wrap64 (a : Int) := by unfold wrap64; omega
  unfold WF
  rw [this]
  exact wrap64_wf _
theorem wfb_small {a b c : Nat} (ha : a ≤ 15) (hb : b ≤ 15) (hc : c ≤ 15) : WFB ⟨(a : Int), (b : Int), (c : Int)⟩ := ⟨wf_small ha, wf_small hb, wf_small hc⟩
theorem flat_len {α : Type} (f : Nat → List α) (m : Nat) : ∀ n : Nat, (∀ t, t < n → (f t).length ≤ m) → ((List.range n).flatMap f).length ≤ n * m
  | 0, _ => by simp
  | n + 1, h => by
    have ih := flat_len f m n (fun t ht => h t (by omega))
    have h1 := h n (by omega)
    rw [List.range_succ, List.flatMap_append, List.length_append, Nat.succ_mul, List.flatMap_cons, List.flatMap_nil, List.append_nil]
    omega
theorem rowC_len (a b n : Nat) : (rowC a b n).length = n := by simp [rowC]
theorem rowB_len {v a n : Nat} (hv : v ≤ 15) : (rowB v a n).length ≤ n * 15 := flat_len _ 15 n fun t _ => by rw [rowC_len]; omega
theorem rowA_len {v n : Nat} (hv : v ≤ 15) : (rowA v n).length ≤ n * 225 := flat_len _ 225 n fun t _ => by
  have := rowB_len (v := v) (a := t) (n := v - (t + 1)) hv
  omega
/-- A block of three int64. -/
abbrev WB := { x : Blk // WFB x }
end Go.Proofs.Ytkpnlecmfmbkaaa

namespace Go.Proofs.Ytkpnlecmfmbkaaa
open Go.RowKit Go.Maps
end Go.Proofs.Ytkpnlecmfmbkaaa

namespace Go.Proofs.Ytkpnlecmfmbkaaa
open Go.RowKit Go.Maps
theorem gb_trans {a b c : World} {row : Option Nat} (h : a.grownBy b none) (k : b.grownBy c row) : a.grownBy c row :=
  ⟨k.os.trans h.os, k.tape.trans h.tape, k.output.trans h.output, Nat.le_trans h.size k.size, fun i hi hne => (k.block i (Nat.lt_of_lt_of_le hi h.size) hne).trans (h.block i hi (by simp))⟩
theorem gb_below {a b : World} (h : Below a.heap.size a b) : a.grownBy b none := only_of_below h none
theorem ResR.slice {w : World} {lo hi : Nat} {s : Value} {bs : List Blk} (h : ResR w lo hi s bs) : ∃ a c, s = .slice a bs.length c := by
  rcases h with ⟨rfl, a, c, rfl⟩ | ⟨g, cap, rfl, _⟩ <;> exact ⟨_, _, rfl⟩
set_option maxRecDepth 100000 in
theorem markSystem_any (lo hi : Nat) (v : Int) (s : Value) (bs : List Blk) (k : Int) (w : World) (h : ResR w lo hi s bs) (hl : bs.length ≤ 1100000) (h0 : 0 ≤ k) (h1 : k ≤ 9000000) :
    Calls Try.prog 31 #[.agg #[.int .i64 v, s], .int .i64 k] w (fun e w' => e = .returned (.int .i64 (k + 3 * bs.length)) ∧ (∃ row, w.grownBy w' row ∧ ∀ r, row = some r → lo ≤ r ∧ r < hi) ∧ ResR w' lo hi s (markL k bs.length)) := by
  have hc := markR lo hi s bs k (w.alloc (.cells #[.int .i64 v, s] 32)) (h.below ((Below.refl _ _).alloc (Nat.le_refl _) _) (Nat.le_refl _)) hl h0 h1
  have hs := h.slice
  have HC := Lib.hid hc
  clear hc h
  obtain ⟨a, c, rfl⟩ := hs
  go_enter Try.func31, Try.ntmps31
  go_wp2_with (go_at_call 91; refine HC.out.mono ?_; rintro e w1 ⟨rfl, hg, hr⟩)
  go_ret
  obtain ⟨row, hg, hrow⟩ := hg
  exact ⟨rfl, ⟨row, gb_trans (World.grownBy_alloc _ _ none) hg, hrow⟩, hr⟩
end Go.Proofs.Ytkpnlecmfmbkaaa

namespace Go.Proofs.Ytkpnlecmfmbkaaa
open Go.RowKit Go.Maps Go.Shelf
attribute [local go_sem] Oper.semAt_some
/-- The blocks that are free of the pairs of bs. -/
def frL (bs : List Blk) (pre : List WB) : List Blk := (pre.map (·.1)).filter (freeB (bs.flatMap pairsL))
theorem frL_snoc (bs : List Blk) (pre : List WB) (x : WB) : frL bs (pre ++ [x]) = frL bs pre ++ if freeB (bs.flatMap pairsL) x.1 then [x.1] else [] := by
  unfold frL
  rw [List.map_append, List.filter_append]
  congr 1
  simp [List.filter_cons]
theorem frL_len (bs : List Blk) (pre : List WB) : (frL bs pre).length ≤ pre.length := by
  unfold frL
  refine Nat.le_trans (List.length_filter_le _ _) ?_
  simp
theorem own_ne {W : World} {n₁ : Nat} {e : TypeId} {size : Nat} {v : Value} {k : Nat} {xs : List Value} (hrow : W.ownsRow n₁ e size v k xs) {j : Nat} (hj : j < n₁) : some j ≠ v.ownBlock := fun ej => by
  rcases hrow.2 with ⟨rfl, _⟩ | ⟨g, cap, cur, rfl, hb, _, _⟩
  · simp [Value.ownBlock] at ej
  · obtain rfl : j = g := by simpa [Value.ownBlock] using ej
    omega
theorem cell_three_new (W : World) (y : Blk) (T : TypeId) : ∀ j u, (cells3 y)[j]? = some u → (W.alloc (.cells #[.int .i64 y.a, .int .i64 y.b, .int .i64 y.c] T)).cell? ((⟨W.heap.size, 0, none⟩ : Addr).add j) = some u := by
  intro j u hj
  rw [addr_at, Nat.zero_add]
  match j, hj with
  | 0, hj => simp [cells3] at hj; rw [← hj]; exact new_at 0 rfl
  | 1, hj => simp [cells3] at hj; rw [← hj]; exact new_at 1 rfl
  | 2, hj => simp [cells3] at hj; rw [← hj]; exact new_at 2 rfl
  | j + 3, hj => simp [cells3] at hj
end Go.Proofs.Ytkpnlecmfmbkaaa

namespace Go.Proofs.Ytkpnlecmfmbkaaa
open Go.RowKit Go.Maps Go.Shelf
theorem RS.rv {P : Program} {f : FuncId} {args : Array Value} {w : World} {v : Value} (h : Calls P f args w (RS v w)) : Calls P f args w (RV v w) := h.mono fun _ _ hh => ⟨hh.1, hh.2 ▸ Below.refl _ _⟩
theorem msk_take {zs : List Int} {k : Nat} (hk : k < zs.length) : msk (zs.take (k + 1)) = msk (zs.take k) ||| 2 ^ (zs[k]?.getD 0).toNat := by
  rw [List.take_succ_eq_append_getElem hk, msk_snoc]
  simp [hk]
set_option maxRecDepth 100000 in
theorem l07Bits_any (s : Value) (zs : List Int) (w : World) (h : IB w s zs) (hz : ∀ z ∈ zs, 0 ≤ z ∧ z < 15) : Calls Try.prog 107 #[s] w (RS (.int .i64 (msk zs)) w) := by
  obtain ⟨hl, h⟩ := h
  have HZ := Lib.hid hz
  clear hz
  have hform : ∃ a c, s = .slice a zs.length c := by rcases h with ⟨a, c, rfl, rfl⟩ | ⟨b, off, cap, rfl, _⟩ <;> exact ⟨_, _, rfl⟩
  have HI := Lib.hid h
  clear h
  obtain ⟨a, c, rfl⟩ := hform
  go_enter Try.func107, Try.ntmps107
  go_wp2
  go_loop [3, 4] (fun m i => ∃ k : Nat, k ≤ zs.length ∧ i = .int .i64 k ∧ m = .int .i64 (msk (zs.take k))) (fun _ i => zs.length - (intOf i).toNat)
  case atStart => exact ⟨0, Nat.zero_le _, rfl, rfl⟩
  case round =>
    obtain ⟨k, hk, rfl, rfl⟩ := hrel
    by_cases hkl : k < zs.length
    · rcases HI.out with ⟨_, _, _, hnil⟩ | ⟨b, off, cap, hval, hlt, hI⟩
      · rw [hnil] at hkl; simp at hkl
      · simp at hval
        obtain ⟨rfl, rfl⟩ := hval
        have c0 := hI k hkl
        have HT := Lib.hid (msk_take hkl)
        have hzz := HZ.out (zs[k]?.getD 0) (by simp [hkl])
        have hml := msk_lt15 (in_take HZ.out k)
        obtain ⟨z, hzq⟩ : ∃ z, z = zs[k]?.getD 0 := ⟨_, rfl⟩
        rw [← hzq] at c0 HT hzz
        obtain ⟨z0, z15⟩ := hzz
        obtain ⟨q1, q2, q3⟩ := wrap_pow15 z0 z15
        obtain ⟨m, hm⟩ : ∃ m, m = msk (zs.take k) := ⟨_, rfl⟩
        rw [← hm] at HT hml ⊢
        have q4 := (bits15 hml (y := 2 ^ z.toNat) (by omega)).2
        obtain ⟨P, hP⟩ : ∃ P, P = 2 ^ z.toNat := ⟨_, rfl⟩
        rw [← hP] at q3 q4 HT
        rw [show ((2 ^ z.toNat : Nat) : Int) = (P : Int) by rw [hP]] at q1
        have g0 : (0 : Int) ≤ (k : Int) := by omega
        have g1 : (k : Int) < (zs.length : Int) := by omega
        have s1 : z ≤ 64 := by omega
        clear hzq hI hm hP
        go_wp2
        go_round
        case rel => exact ⟨k + 1, by omega, by go_num, by rw [HT.out]⟩
        case measure => simp [intOf]; omega
    · have e : k = zs.length := by omega
      have HE := Lib.hid (show zs.take k = zs by rw [e, List.take_length])
      clear e
      go_wp2
      go_ret
      exact RS_of (int_eq (by rw [HE.out]))
theorem closedL_drop {bs : List Blk} {zs : List Int} {k : Nat} (hk : k < bs.length) : closedL (bs.drop k) zs = (decide (cntB (bs[k]?.getD default) zs ≠ 2) && closedL (bs.drop (k + 1)) zs) := by
  unfold closedL
  rw [List.drop_eq_getElem_cons hk, List.all_cons]
  simp [hk]
set_option maxRecDepth 100000 in
set_option maxHeartbeats 1000000 in
theorem l07Closed_any (v : Int) (s : Value) (bs : List Blk) (zs : List Int) (w : World) (h : SB w s bs) (hok : ∀ x ∈ bs, okB x) (hz : ∀ z ∈ zs, 0 ≤ z ∧ z < 15) :
    Calls Try.prog 106 #[.agg #[.int .i64 v, s], .int .i64 (msk zs)] w (RV (.bool (closedL bs zs)) w) := by
  have hs := h.slice
  have hl := h.2.1
  have H := Lib.hid h
  have HOK := Lib.hid hok
  have hml := msk_lt15 hz
  have HPM := Lib.hid fun (x : Blk) (hx : okB x) => pc_M hx hz
  clear h hok hz
  obtain ⟨m, hm⟩ : ∃ m, m = msk zs := ⟨_, rfl⟩
  rw [← hm] at hml HPM ⊢
  clear hm
  obtain ⟨a0, c0, rfl⟩ := hs
  go_enter Try.func106, Try.ntmps106
  go_wp2
  obtain ⟨w2, hw2⟩ : ∃ w2, w2 = w.alloc (.cells #[.int .i64 v, .slice a0 bs.length c0] 32) := ⟨_, rfl⟩
  have hB0 : Below w.heap.size w w2 := by rw [hw2]; exact (Below.refl _ _).alloc (Nat.le_refl _) _
  have hz2 : w2.heap.size = w.heap.size + 1 := by rw [hw2]; simp
  have hc2 : w2.cell? ⟨w.heap.size, 1, none⟩ = some (.slice a0 bs.length c0) := by rw [hw2]; simp
  rw [← hw2]
  clear hw2
  go_loopw [5] (fun i wr => ∃ k : Nat, k ≤ bs.length ∧ i = .int .i64 k ∧ Below (w.heap.size + 1) w2 wr ∧ Hid (closedL bs zs = closedL (bs.drop k) zs)) (fun i _ => bs.length - (intOf i).toNat)
  case atStart => exact ⟨0, Nat.zero_le _, rfl, Below.refl _ _, Lib.hid rfl⟩
  case round =>
    obtain ⟨k, hk, rfl, hB, HR⟩ := hrel
    have hz := hB.size
    have p1 : wr.cell? ⟨w.heap.size, 1, none⟩ = some (.slice a0 bs.length c0) := by rw [hB.cell (by simp)]; exact hc2
    have hBw : Below w.heap.size w wr := hB0.trans (hB.mono (by omega))
    by_cases hkl : k < bs.length
    · rcases H.out.2.2 with ⟨_, _, _, hnil⟩ | ⟨bb, off, cap, hval, hblt, hbl⟩
      · rw [hnil] at hkl; simp at hkl
      simp at hval
      obtain ⟨rfl, rfl⟩ := hval
      obtain ⟨x1, x2, x3⟩ := (hbl.below hBw hblt) k hkl
      have HD := Lib.hid (closedL_drop (zs := zs) hkl)
      have hokx := HOK.out (bs[k]?.getD default) (by simp [hkl])
      obtain ⟨x, hx⟩ : ∃ x, x = bs[k]?.getD default := ⟨_, rfl⟩
      rw [← hx] at x1 x2 x3 HD hokx
      have hpc := HPM.out x hokx
      have HL := Lib.hid fun W => l05Bits_any x hokx W
      have hmk : mkB x < 32768 := by rw [mkB_msk hokx]; exact msk_lt15 (okB_small hokx)
      obtain ⟨y, hy⟩ : ∃ y, y = mkB x := ⟨_, rfl⟩
      rw [← hy] at hpc HL hmk
      have q1 := (bits15 hmk hml).1
      have q2 := and_lt15 (x := y) hml
      obtain ⟨r, hr⟩ : ∃ r, r = y &&& m := ⟨_, rfl⟩
      rw [← hr] at q1 q2 hpc
      have HON := Lib.hid fun W => l05Ones_any r q2 W
      obtain ⟨p, hp⟩ : ∃ p, p = cntB x zs := ⟨_, rfl⟩
      rw [hpc, ← hp] at HON
      rw [← hp] at HD
      obtain ⟨xa, xb, xc⟩ := x
      unfold bv at HL
      dsimp only at HL x1 x2 x3
      have g0 : (0 : Int) ≤ (k : Int) := by omega
      have g1 : (k : Int) < (bs.length : Int) := by omega
      clear hbl hx hokx hy hr hp hpc
      by_cases e : p = 2
      · have HV := Lib.hid (show closedL bs zs = false by rw [HR.out, HD.out, e]; rfl)
        subst e
        clear HD
        go_wp2_with fail
        refine (HL.out _).mono ?_
        rintro e w3 ⟨rfl, hb3⟩
        have hB3 := hBw.trans (hb3.mono hBw.size)
        clear hb3
        go_wp2_with fail
        refine (HON.out _).mono ?_
        rintro e w4 ⟨rfl, rfl⟩
        go_wp2
        go_ret
        exact RV_of (bool_eq (by rw [HV.out])) hB3
      · have HV := Lib.hid (show closedL bs zs = closedL (bs.drop (k + 1)) zs by rw [HR.out, HD.out]; simp [e])
        have ed : decide ((p : Int) = 2) = false := by simp; omega
        have ed2 : ((p : Int) == 2) = false := by simp; omega
        clear HD
        go_wp2_with fail
        refine (HL.out _).mono ?_
        rintro e w3 ⟨rfl, hb3⟩
        have hB3 := hB.trans (hb3.mono (by omega))
        clear hb3
        go_wp2_with fail
        refine (HON.out _).mono ?_
        rintro e w4 ⟨rfl, rfl⟩
        go_wp2
        go_roundw
        case rel => exact ⟨k + 1, by omega, by go_num, hB3, HV⟩
        case measure => simp [intOf]; omega
    · have e : k = bs.length := by omega
      have HE := Lib.hid (show closedL bs zs = true by rw [HR.out, e, List.drop_length]; rfl)
      clear e HR
      go_wp2
      go_ret
      exact RV_of (bool_eq (by rw [HE.out])) hBw
set_option maxRecDepth 100000 in
set_option maxHeartbeats 1000000 in
theorem l07Inside_any (v : Int) (s : Value) (bs : List Blk) (zs : List Int) (w : World) (h : SB w s bs) (hok : ∀ x ∈ bs, okB x) (hz : ∀ z ∈ zs, 0 ≤ z ∧ z < 15) :
    Calls Try.prog 184 #[.agg #[.int .i64 v, s], .int .i64 (msk zs)] w (RV (.int .i64 (cntW 3 bs zs)) w) := by
  have hs := h.slice
  have hl := h.2.1
  have H := Lib.hid h
  have HOK := Lib.hid hok
  have hml := msk_lt15 hz
  have HPM := Lib.hid fun (x : Blk) (hx : okB x) => sub_M hx hz
  clear h hok hz
  obtain ⟨m, hm⟩ : ∃ m, m = msk zs := ⟨_, rfl⟩
  rw [← hm] at hml HPM ⊢
  clear hm
  obtain ⟨a0, c0, rfl⟩ := hs
  go_enter Try.func184, Try.ntmps184
  go_wp2
  obtain ⟨w2, hw2⟩ : ∃ w2, w2 = w.alloc (.cells #[.int .i64 v, .slice a0 bs.length c0] 32) := ⟨_, rfl⟩
  have hB0 : Below w.heap.size w w2 := by rw [hw2]; exact (Below.refl _ _).alloc (Nat.le_refl _) _
  have hz2 : w2.heap.size = w.heap.size + 1 := by rw [hw2]; simp
  have hc2 : w2.cell? ⟨w.heap.size, 1, none⟩ = some (.slice a0 bs.length c0) := by rw [hw2]; simp
  rw [← hw2]
  clear hw2
  go_loopw [5, 6] (fun c i wr => ∃ k : Nat, k ≤ bs.length ∧ i = .int .i64 k ∧ c = .int .i64 (cntW 3 (bs.take k) zs) ∧ Below (w.heap.size + 1) w2 wr) (fun _ i _ => bs.length - (intOf i).toNat)
  case atStart => exact ⟨0, Nat.zero_le _, rfl, rfl, Below.refl _ _⟩
  case round =>
    obtain ⟨k, hk, rfl, rfl, hB⟩ := hrel
    have hz := hB.size
    have p1 : wr.cell? ⟨w.heap.size, 1, none⟩ = some (.slice a0 bs.length c0) := by rw [hB.cell (by simp)]; exact hc2
    have hBw : Below w.heap.size w wr := hB0.trans (hB.mono (by omega))
    by_cases hkl : k < bs.length
    · rcases H.out.2.2 with ⟨_, _, _, hnil⟩ | ⟨bb, off, cap, hval, hblt, hbl⟩
      · rw [hnil] at hkl; simp at hkl
      simp at hval
      obtain ⟨rfl, rfl⟩ := hval
      obtain ⟨x1, x2, x3⟩ := (hbl.below hBw hblt) k hkl
      have HT := Lib.hid (cntW_take (n := 3) (zs := zs) hkl)
      have hcl := cntW_le 3 (bs.take k) zs
      rw [List.length_take] at hcl
      replace hcl : cntW 3 (bs.take k) zs ≤ k := by omega
      have hokx := HOK.out (bs[k]?.getD default) (by simp [hkl])
      obtain ⟨x, hx⟩ : ∃ x, x = bs[k]?.getD default := ⟨_, rfl⟩
      rw [← hx] at x1 x2 x3 HT hokx
      have hpc := HPM.out x hokx
      have HL := Lib.hid fun W => l05Bits_any x hokx W
      have hmk : mkB x < 32768 := by rw [mkB_msk hokx]; exact msk_lt15 (okB_small hokx)
      obtain ⟨y, hy⟩ : ∃ y, y = mkB x := ⟨_, rfl⟩
      rw [← hy] at hpc HL hmk
      have q1 := (bits15 hmk hml).1
      have q2 := and_lt15 (x := y) hml
      obtain ⟨r, hr⟩ : ∃ r, r = y &&& m := ⟨_, rfl⟩
      rw [← hr] at q1 q2 hpc
      obtain ⟨C, hC⟩ : ∃ C, C = cntW 3 (bs.take k) zs := ⟨_, rfl⟩
      rw [← hC] at HT hcl ⊢
      obtain ⟨x0, hx0⟩ : ∃ x0, x0 = x := ⟨_, rfl⟩
      rw [← hx0] at hpc HT hx hokx hy
      obtain ⟨xa, xb, xc⟩ := x
      clear hx0
      unfold bv at HL
      dsimp only at HL x1 x2 x3
      have g0 : (0 : Int) ≤ (k : Int) := by omega
      have g1 : (k : Int) < (bs.length : Int) := by omega
      by_cases e : cntB x0 zs = 3
      · have HT2 := Lib.hid (show cntW 3 (bs.take (k + 1)) zs = C + 1 by rw [HT.out, if_pos e])
        obtain rfl := hpc.2 e
        clear HT hbl hx hokx hy hr hpc e hC
        go_wp2_with fail
        refine (HL.out _).mono ?_
        rintro e w3 ⟨rfl, hb3⟩
        have hB3 := hB.trans (hb3.mono (by omega))
        clear hb3
        go_wp2
        go_roundw
        case rel => exact ⟨k + 1, by omega, by go_num, by rw [HT2.out]; go_num, hB3⟩
        case measure => simp [intOf]; omega
      · have HT2 := Lib.hid (show cntW 3 (bs.take (k + 1)) zs = C by rw [HT.out, if_neg e]; rfl)
        have hne : ¬ r = y := fun h => e (hpc.1 h)
        have ed : decide ((r : Int) = (y : Int)) = false := by simp; omega
        have ed2 : ((r : Int) == (y : Int)) = false := by simp; omega
        clear HT hbl hx hokx hy hr hpc e hC hne
        go_wp2_with fail
        refine (HL.out _).mono ?_
        rintro e w3 ⟨rfl, hb3⟩
        have hB3 := hB.trans (hb3.mono (by omega))
        clear hb3
        go_wp2
        go_roundw
        case rel => exact ⟨k + 1, by omega, by go_num, by rw [HT2.out], hB3⟩
        case measure => simp [intOf]; omega
    · have e : k = bs.length := by omega
      have HE := Lib.hid (show cntW 3 (bs.take k) zs = cntW 3 bs zs by rw [e, List.take_length])
      clear e
      go_wp2
      go_ret
      exact RV_of (int_eq (by rw [HE.out])) hBw
set_option maxRecDepth 100000 in
theorem l07Independent_any (v : Int) (s : Value) (bs : List Blk) (zs : List Int) (w : World) (h : SB w s bs) (hok : ∀ x ∈ bs, okB x) (hz : ∀ z ∈ zs, 0 ≤ z ∧ z < 15) :
    Calls Try.prog 122 #[.agg #[.int .i64 v, s], .int .i64 (msk zs)] w (RV (.bool (indepL bs zs)) w) := by
  have hb0 := (Below.refl w.heap.size w).alloc (Nat.le_refl _) (.cells #[.int .i64 v, s] 32)
  have HC := Lib.hid (l07Inside_any v s bs zs _ (h.below hb0 (Nat.le_refl _)) hok hz)
  have HV := Lib.hid (show ((cntW 3 bs zs : Int) == 0) = indepL bs zs by rw [beq_zero, Bool.eq_iff_iff, decide_eq_true_eq, cntW_zero]; rfl)
  obtain ⟨a, c, rfl⟩ := h.slice
  obtain ⟨m, hm⟩ : ∃ m, m = msk zs := ⟨_, rfl⟩
  obtain ⟨C, hC⟩ : ∃ C, C = cntW 3 bs zs := ⟨_, rfl⟩
  rw [← hm, ← hC] at HC
  rw [← hC] at HV
  rw [← hm]
  clear hm hC h hok hz
  go_enter Try.func122, Try.ntmps122
  go_wp2_with fail
  refine HC.out.mono ?_
  rintro e w1 ⟨rfl, hb1⟩
  have hbw := below_new hb1
  go_wp2
  go_ret
  exact RV_of (bool_eq (by rw [← HV.out])) hbw
set_option maxRecDepth 100000 in
set_option maxHeartbeats 1000000 in
theorem specIsClosed_any (v : Int) (s : Value) (bs : List Blk) (t : Value) (zs : List Int) (w : World) (h : SB w s bs) (ht : IB w t zs) :
    Calls Try.prog 53 #[.agg #[.int .i64 v, s], t] w (RV (boolCode (closF v bs zs).1 (closF v bs zs).2) w) := by
  have hs := h.slice
  have hts := ht.form
  have HPC := Lib.hid fun W (hb : Below w.heap.size w W) => l01Set_any v s bs t zs W (h.below hb (Nat.le_refl _)) (ht.below hb (Nat.le_refl _))
  have HSB := Lib.hid h
  have HIB := Lib.hid ht
  have hb0 := (Below.refl w.heap.size w).alloc (Nat.le_refl _) (.cells #[.int .i64 v, s] 32)
  clear h ht
  obtain ⟨a0, c0, rfl⟩ := hs
  obtain ⟨a1, c1, rfl⟩ := hts
  by_cases hc : setCode v bs zs = 0
  · obtain ⟨_, hok, hin, _⟩ := setCode_zero hc
    have HV := Lib.hid (show closF v bs zs = (closedL bs zs, 0) by simp [closF, hc])
    have HST := Lib.hid fun W (hb : Below w.heap.size w W) => RS.rv (l07Bits_any _ zs W (HIB.out.below hb (Nat.le_refl _)) hin)
    have HCL := Lib.hid fun W (hb : Below w.heap.size w W) => l07Closed_any v _ bs zs W (HSB.out.below hb (Nat.le_refl _)) hok hin
    obtain ⟨m, hm⟩ : ∃ m, m = msk zs := ⟨_, rfl⟩
    rw [← hm] at HST HCL
    rw [hc] at HPC
    rw [HV.out]
    obtain ⟨β, hβ⟩ : ∃ β, β = closedL bs zs := ⟨_, rfl⟩
    rw [← hβ] at HCL ⊢
    clear hc hok hin HV hm hβ HSB HIB
    go_enter Try.func53, Try.ntmps53
    go_wp2_with fail
    refine (HPC.out _ hb0).mono ?_
    rintro e w1 ⟨rfl, hb1⟩
    have q0 := cell_new hb1 0 rfl
    have q1 := cell_new hb1 1 rfl
    have hbw := below_new hb1
    have hz1 := hbw.size
    have r0 := cell_regrown q0
    have r1 := cell_regrown q1
    clear hb1
    go_wp2_with fail
    refine wp_region_quiet_below (by kernel_rfl) (by kernel_rfl) ?_
    repeat (go_big_quiet_step (first | exact Calls.regrown_of (HST.out _ (hbw.trans ((below_regrown _ _ _).mono hz1))) | exact Calls.regrown_of (HCL.out _ (hbw.trans ((below_regrown _ _ _).mono hz1)))))
    refine wpQuiet_nil ?_
    intro _ hw'
    obtain ⟨⟨dq, osq⟩, hw''⟩ := hw'
    have hbq := below_regrown w1 dq osq
    rw [← hw''] at hbq
    clear hw'' r0 r1 q0 q1
    go_wp2
    exact bodyPost_ret (v := boolCode β 0) (by simp [results, Try.results53, boolCode, go_sem, *]) rfl (RV_of rfl (hbw.trans (hbq.mono hz1)))
  · have HV := Lib.hid (show closF v bs zs = (false, setCode v bs zs) by simp [closF, hc])
    obtain ⟨κ, hκ⟩ : ∃ κ, κ = setCode v bs zs := ⟨_, rfl⟩
    rw [← hκ] at HPC HV hc
    have hne : (κ != 0) = true := by simpa using hc
    clear hc hκ
    rw [HV.out]
    go_enter Try.func53, Try.ntmps53
    go_wp2_with fail
    refine (HPC.out _ hb0).mono ?_
    rintro e w1 ⟨rfl, hb1⟩
    have hbw := below_new hb1
    clear hb1 HV
    go_wp2
    exact bodyPost_ret (v := boolCode false κ) (by simp [results, Try.results53, boolCode, go_sem, *]) rfl (RV_of rfl hbw)
set_option maxRecDepth 100000 in
set_option maxHeartbeats 1000000 in
theorem specIsIndependent_any (v : Int) (s : Value) (bs : List Blk) (t : Value) (zs : List Int) (w : World) (h : SB w s bs) (ht : IB w t zs) :
    Calls Try.prog 60 #[.agg #[.int .i64 v, s], t] w (RV (boolCode (indF v bs zs).1 (indF v bs zs).2) w) := by
  have hs := h.slice
  have hts := ht.form
  have HPC := Lib.hid fun W (hb : Below w.heap.size w W) => l01Set_any v s bs t zs W (h.below hb (Nat.le_refl _)) (ht.below hb (Nat.le_refl _))
  have HSB := Lib.hid h
  have HIB := Lib.hid ht
  have hb0 := (Below.refl w.heap.size w).alloc (Nat.le_refl _) (.cells #[.int .i64 v, s] 32)
  clear h ht
  obtain ⟨a0, c0, rfl⟩ := hs
  obtain ⟨a1, c1, rfl⟩ := hts
  by_cases hc : setCode v bs zs = 0
  · obtain ⟨_, hok, hin, _⟩ := setCode_zero hc
    have HV := Lib.hid (show indF v bs zs = (indepL bs zs, 0) by simp [indF, hc])
    have HST := Lib.hid fun W (hb : Below w.heap.size w W) => RS.rv (l07Bits_any _ zs W (HIB.out.below hb (Nat.le_refl _)) hin)
    have HCL := Lib.hid fun W (hb : Below w.heap.size w W) => l07Independent_any v _ bs zs W (HSB.out.below hb (Nat.le_refl _)) hok hin
    obtain ⟨m, hm⟩ : ∃ m, m = msk zs := ⟨_, rfl⟩
    rw [← hm] at HST HCL
    rw [hc] at HPC
    rw [HV.out]
    obtain ⟨β, hβ⟩ : ∃ β, β = indepL bs zs := ⟨_, rfl⟩
    rw [← hβ] at HCL ⊢
    clear hc hok hin HV hm hβ HSB HIB
    go_enter Try.func60, Try.ntmps60
    go_wp2_with fail
    refine (HPC.out _ hb0).mono ?_
    rintro e w1 ⟨rfl, hb1⟩
    have q0 := cell_new hb1 0 rfl
    have q1 := cell_new hb1 1 rfl
    have hbw := below_new hb1
    have hz1 := hbw.size
    have r0 := cell_regrown q0
    have r1 := cell_regrown q1
    clear hb1
    go_wp2_with fail
    refine wp_region_quiet_below (by kernel_rfl) (by kernel_rfl) ?_
    repeat (go_big_quiet_step (first | exact Calls.regrown_of (HST.out _ (hbw.trans ((below_regrown _ _ _).mono hz1))) | exact Calls.regrown_of (HCL.out _ (hbw.trans ((below_regrown _ _ _).mono hz1)))))
    refine wpQuiet_nil ?_
    intro _ hw'
    obtain ⟨⟨dq, osq⟩, hw''⟩ := hw'
    have hbq := below_regrown w1 dq osq
    rw [← hw''] at hbq
    clear hw'' r0 r1 q0 q1
    go_wp2
    exact bodyPost_ret (v := boolCode β 0) (by simp [results, Try.results60, boolCode, go_sem, *]) rfl (RV_of rfl (hbw.trans (hbq.mono hz1)))
  · have HV := Lib.hid (show indF v bs zs = (false, setCode v bs zs) by simp [indF, hc])
    obtain ⟨κ, hκ⟩ : ∃ κ, κ = setCode v bs zs := ⟨_, rfl⟩
    rw [← hκ] at HPC HV hc
    have hne : (κ != 0) = true := by simpa using hc
    clear hc hκ
    rw [HV.out]
    go_enter Try.func60, Try.ntmps60
    go_wp2_with fail
    refine (HPC.out _ hb0).mono ?_
    rintro e w1 ⟨rfl, hb1⟩
    have hbw := below_new hb1
    clear hb1 HV
    go_wp2
    exact bodyPost_ret (v := boolCode false κ) (by simp [results, Try.results60, boolCode, go_sem, *]) rfl (RV_of rfl hbw)
end Go.Proofs.Ytkpnlecmfmbkaaa

namespace Go.Proofs.Ytkpnlecmfmbkaaa
open Go.RowKit
/-- The point is in each closed set that has the given ones. -/
def InSpan (bs : List Blk) (zs : List Int) (z : Int) : Prop := ∀ L : List Int, (∀ a ∈ zs, a ∈ L) → closedL bs L = true → z ∈ L
theorem cntB_mono {x : Blk} {L M : List Int} (h : ∀ a ∈ L, a ∈ M) : cntB x L ≤ cntB x M := by
  unfold cntB
  rw [← List.countP_eq_length_filter, ← List.countP_eq_length_filter]
  exact List.countP_mono_left fun a _ ha => by simp at ha ⊢; exact h a ha
theorem cntB_three {x : Blk} {L : List Int} (h : cntB x L = 3) : ∀ a ∈ ptsB x, a ∈ L := fun a ha => by
  have := (List.length_filter_eq_length_iff (p := fun a => decide (a ∈ L)) (l := ptsB x)).1 (by rw [show (ptsB x).length = 3 from rfl]; exact h)
  simpa using this a ha
theorem cntB_all {x : Blk} {L : List Int} (h : ∀ a ∈ ptsB x, a ∈ L) : cntB x L = 3 := by
  unfold cntB
  rw [List.filter_eq_self.2 fun a ha => by simpa using h a ha]
  rfl
theorem closedL_at {bs : List Blk} {L : List Int} (h : closedL bs L = true) {x : Blk} (hx : x ∈ bs) : cntB x L ≠ 2 := by simpa using List.all_eq_true.1 h x hx
theorem span_step {bs : List Blk} {zs L : List Int} {x : Blk} (hx : x ∈ bs) (hL : ∀ a ∈ L, InSpan bs zs a) (h2 : cntB x L = 2) : ∀ a ∈ L ++ ptsB x, InSpan bs zs a := fun a ha => by
  rcases List.mem_append.1 ha with h | h
  · exact hL a h
  · intro M hM hc
    have h1 : cntB x L ≤ cntB x M := cntB_mono fun a ha => hL a ha M hM hc
    have h3 := cntB_le x M
    have h4 := closedL_at hc hx
    exact cntB_three (by omega) a h
/-- The state of the search for the span. -/
structure Spn (bs : List Blk) (zs L : List Int) : Prop where
  sub : ∀ a ∈ zs, a ∈ L
  inn : ∀ a ∈ L, InSpan bs zs a
  ok : ∀ a ∈ L, 0 ≤ a ∧ a < 15
theorem Spn.start {bs : List Blk} {zs : List Int} (h : ∀ a ∈ zs, 0 ≤ a ∧ a < 15) : Spn bs zs zs := ⟨fun _ h => h, fun a ha _ hM _ => hM a ha, h⟩
theorem Spn.step {bs : List Blk} {zs L : List Int} (h : Spn bs zs L) {x : Blk} (hx : x ∈ bs) (hok : okB x) (h2 : cntB x L = 2) : Spn bs zs (L ++ ptsB x) :=
  ⟨fun a ha => List.mem_append_left _ (h.sub a ha), span_step hx h.inn h2, fun a ha => by
    rcases List.mem_append.1 ha with h' | h'
    · exact h.ok a h'
    · exact okB_small hok a h'⟩
theorem Spn.done {bs : List Blk} {zs L : List Int} (h : Spn bs zs L) (hc : closedL bs L = true) (z : Int) : z ∈ L ↔ InSpan bs zs z := ⟨h.inn z, fun hz => hz L h.sub hc⟩
/-- The ascending list of the points below k of a set. -/
def ptL (p : Int → Bool) (k : Nat) : List Int := ((List.range k).map fun (i : Nat) => (i : Int)).filter p
theorem ptL_succ (p : Int → Bool) (k : Nat) : ptL p (k + 1) = ptL p k ++ if p (k : Int) then [(k : Int)] else [] := by
  unfold ptL
  rw [List.range_succ, List.map_append, List.filter_append]
  congr 1
  simp only [List.map_cons, List.map_nil, List.filter_cons, List.filter_nil]
theorem ptL_len (p : Int → Bool) (k : Nat) : (ptL p k).length ≤ k := by
  unfold ptL
  exact Nat.le_trans (List.length_filter_le _ _) (by simp)
theorem ptL_congr {p q : Int → Bool} (h : ∀ a, p a = q a) (k : Nat) : ptL p k = ptL q k := by rw [show p = q from funext h]
noncomputable def inSpanB (bs : List Blk) (zs : List Int) (a : Int) : Bool := @decide (InSpan bs zs a) (Classical.propDecidable _)
theorem Spn.list {bs : List Blk} {zs L : List Int} (h : Spn bs zs L) (hc : closedL bs L = true) (k : Nat) : ptL (fun a => decide (a ∈ L)) k = ptL (inSpanB bs zs) k := ptL_congr (fun a => by
  unfold inSpanB
  rw [decide_eq_decide]
  exact h.done hc a) k
noncomputable def spnF (v : Int) (bs : List Blk) (zs : List Int) : List Int × Int := if setCode v bs zs = 0 then (ptL (inSpanB bs zs) 15, 0) else ([], setCode v bs zs)
theorem spnF_len (v : Int) (bs : List Blk) (zs : List Int) : (spnF v bs zs).1.length ≤ 15 := by
  unfold spnF
  split
  · exact ptL_len _ _
  · simp
/-- The number of bits grows with a point more. -/
theorem pc_mono {m n : Nat} (h : ∀ t, m.testBit t = true → n.testBit t = true) : pc m ≤ pc n := by
  unfold pc
  rw [popA_range, popA_range]
  refine nodup_length _ _ (List.nodup_range.filter _) fun t ht => ?_
  exact List.mem_filter.2 ⟨(List.mem_filter.1 ht).1, h t (List.mem_filter.1 ht).2⟩
theorem pc_lt {m n : Nat} (h : ∀ t, m.testBit t = true → n.testBit t = true) {t : Nat} (ht : t < 15) (h1 : m.testBit t = false) (h2 : n.testBit t = true) : pc m < pc n := by
  unfold pc
  rw [popA_range, popA_range]
  suffices hh : (t :: (List.range 15).filter fun t => m.testBit t).length ≤ ((List.range 15).filter fun t => n.testBit t).length by rw [List.length_cons] at hh; omega
  refine nodup_length _ _ (List.nodup_cons.2 ⟨fun hm => ?_, List.nodup_range.filter _⟩) fun s hs => ?_
  · have := (List.mem_filter.1 hm).2
    rw [h1] at this
    simp at this
  · rcases List.mem_cons.1 hs with rfl | hs
    · exact List.mem_filter.2 ⟨List.mem_range.2 ht, h2⟩
    · exact List.mem_filter.2 ⟨(List.mem_filter.1 hs).1, h s (List.mem_filter.1 hs).2⟩
theorem cntB_two {x : Blk} {L : List Int} (h : cntB x L = 2) : ∃ a ∈ ptsB x, a ∉ L := by
  apply Classical.byContradiction
  intro hc
  have := cntB_all (x := x) (L := L) fun a ha => Classical.byContradiction fun hn => hc ⟨a, ha, hn⟩
  omega
theorem mskR_append (L M : List Int) : mskR (L ++ M) = mskR L ||| mskR M := by
  unfold mskR
  rw [List.map_append]
  apply Nat.eq_of_testBit_eq
  intro t
  rw [Nat.testBit_or, msk_test, msk_test, msk_test, List.any_append]
theorem mskR_mem {L : List Int} (h : ∀ a ∈ L, 0 ≤ a ∧ a < 15) {a : Int} (h0 : 0 ≤ a) (h1 : a < 15) : (mskR L).testBit (14 - a).toNat = decide (a ∈ L) := by
  rw [Bool.eq_iff_iff]
  unfold mskR
  rw [msk_mem fun z hz => (rv_in h z hz).1, List.mem_map, decide_eq_true_eq]
  constructor
  · rintro ⟨b, hb, e⟩
    have := h b hb
    unfold rv at e
    obtain rfl : b = a := by omega
    exact hb
  · exact fun ha => ⟨a, ha, by unfold rv; omega⟩
theorem grow_R {x : Blk} (hx : okB x) {L : List Int} (hL : ∀ a ∈ L, 0 ≤ a ∧ a < 15) (h : cntB x L = 2) : pc (mskR L) < pc (mskR (L ++ ptsB x)) := by
  obtain ⟨a, ha, hn⟩ := cntB_two h
  have ha2 := okB_small hx a ha
  have hok2 : ∀ a ∈ L ++ ptsB x, 0 ≤ a ∧ a < 15 := fun b hb => by
    rcases List.mem_append.1 hb with h' | h'
    · exact hL b h'
    · exact okB_small hx b h'
  refine pc_lt (t := (14 - a).toNat) (fun t ht => by rw [mskR_append, Nat.testBit_or, ht]; rfl) (by omega) ?_ ?_
  · rw [mskR_mem hL ha2.1 ha2.2]; simpa using hn
  · rw [mskR_mem hok2 ha2.1 ha2.2]; simpa using .inr ha
theorem msk_append2 (L M : List Int) : msk (L ++ M) = msk L ||| msk M := by
  apply Nat.eq_of_testBit_eq
  intro t
  rw [Nat.testBit_or, msk_test, msk_test, msk_test, List.any_append]
theorem msk_memB {L : List Int} (h : ∀ a ∈ L, 0 ≤ a ∧ a < 15) {a : Int} (h0 : 0 ≤ a) : (msk L).testBit a.toNat = decide (a ∈ L) := by
  rw [Bool.eq_iff_iff, msk_mem fun z hz => (h z hz).1, decide_eq_true_eq, Int.toNat_of_nonneg h0]
theorem grow_M {x : Blk} (hx : okB x) {L : List Int} (hL : ∀ a ∈ L, 0 ≤ a ∧ a < 15) (h : cntB x L = 2) : pc (msk L) < pc (msk (L ++ ptsB x)) := by
  obtain ⟨a, ha, hn⟩ := cntB_two h
  have ha2 := okB_small hx a ha
  have hok2 : ∀ a ∈ L ++ ptsB x, 0 ≤ a ∧ a < 15 := fun b hb => by
    rcases List.mem_append.1 hb with h' | h'
    · exact hL b h'
    · exact okB_small hx b h'
  refine pc_lt (t := a.toNat) (fun t ht => by rw [msk_append2, Nat.testBit_or, ht]; rfl) (by omega) ?_ ?_
  · rw [msk_memB hL ha2.1]; simpa using hn
  · rw [msk_memB hok2 ha2.1]; simpa using .inr ha
theorem closedL_take {bs : List Blk} {L : List Int} {k : Nat} (hk : k < bs.length) : closedL (bs.take (k + 1)) L = (closedL (bs.take k) L && decide (cntB (bs[k]?.getD default) L ≠ 2)) := by
  unfold closedL
  rw [List.take_succ_eq_append_getElem hk, List.all_append]
  simp [hk]
end Go.Proofs.Ytkpnlecmfmbkaaa

namespace Go.Proofs.Ytkpnlecmfmbkaaa
open Go.RowKit
/-- How many of the numbers below m are as told. -/
def cdn (f : Nat → Bool) : Nat → Nat
  | 0 => 0
  | m + 1 => (if f m then 1 else 0) + cdn f m
theorem cdn_le (f : Nat → Bool) : ∀ m, cdn f m ≤ m
  | 0 => Nat.le_refl _
  | m + 1 => by unfold cdn; have := cdn_le f m; split <;> omega
theorem cdn_congr {f g : Nat → Bool} : ∀ m, (∀ i, i < m → f i = g i) → cdn f m = cdn g m
  | 0, _ => rfl
  | m + 1, h => by unfold cdn; rw [h m (by omega), cdn_congr m fun i hi => h i (by omega)]
theorem cdn_zero {f : Nat → Bool} : ∀ m, (∀ i, i < m → f i = false) → cdn f m = 0
  | 0, _ => rfl
  | m + 1, h => by unfold cdn; rw [h m (by omega), cdn_zero m fun i hi => h i (by omega)]; simp
theorem cdn_cut (f : Nat → Bool) (a : Nat) : ∀ b, cdn f (a + b) = cdn f a + cdn (fun i => f (a + i)) b
  | 0 => by simp [cdn]
  | b + 1 => by
    show (if f (a + b) then 1 else 0) + cdn f (a + b) = cdn f a + ((if f (a + b) then 1 else 0) + cdn (fun i => f (a + i)) b)
    rw [cdn_cut f a b]
    omega
/-- The points from one on that a number's bits tell, the first by the highest one. -/
def subL : Nat → Nat → Nat → List Int
  | _, 0, _ => []
  | p, m + 1, n => if n < 2 ^ m then subL (p + 1) m n else (p : Int) :: subL (p + 1) m (n - 2 ^ m)
theorem subL_succ (p m n : Nat) : subL p (m + 1) n = if n < 2 ^ m then subL (p + 1) m n else (p : Int) :: subL (p + 1) m (n - 2 ^ m) := rfl
theorem subL_in : ∀ (m p n : Nat), p + m ≤ 15 → ∀ z ∈ subL p m n, (p : Int) ≤ z ∧ z < 15
  | 0, _, _, _, z, hz => by simp [subL] at hz
  | m + 1, p, n, h, z, hz => by
    unfold subL at hz
    split at hz
    · have := subL_in m (p + 1) n (by omega) z hz; omega
    · rcases List.mem_cons.1 hz with e | hz
      · omega
      · have := subL_in m (p + 1) _ (by omega) z hz; omega
theorem subL_nodup : ∀ (m p n : Nat), p + m ≤ 15 → (subL p m n).Nodup
  | 0, _, _, _ => List.nodup_nil
  | m + 1, p, n, h => by
    unfold subL
    split
    · exact subL_nodup m (p + 1) n (by omega)
    · refine List.nodup_cons.2 ⟨fun hm => ?_, subL_nodup m (p + 1) _ (by omega)⟩
      have := subL_in m (p + 1) _ (by omega) _ hm
      omega
theorem mskR_one {p : Nat} (h : p < 15) : mskR [(p : Int)] = 2 ^ (14 - p) := by
  have e : (rv (p : Int)).toNat = 14 - p := by unfold rv; omega
  simp [mskR, msk, e]
theorem subL_msk : ∀ (m p n : Nat), p + m ≤ 15 → n < 2 ^ m → mskR (subL p m n) = n * 2 ^ (15 - (p + m))
  | 0, p, n, h, hn => by
    have : n = 0 := by simpa using hn
    subst this
    simp [subL, mskR, msk]
  | m + 1, p, n, h, hn => by
    unfold subL
    rw [show p + (m + 1) = p + 1 + m by omega]
    split
    · rename_i hlt
      exact subL_msk m (p + 1) n (by omega) hlt
    · rename_i hge
      have hp : 2 ^ (m + 1) = 2 ^ m + 2 ^ m := by rw [Nat.pow_succ]; omega
      obtain ⟨r, hr⟩ : ∃ r, n = 2 ^ m + r := ⟨n - 2 ^ m, by omega⟩
      subst hr
      rw [Nat.add_sub_cancel_left]
      have hr2 : r < 2 ^ m := by omega
      have ih := subL_msk m (p + 1) r (by omega) hr2
      rw [show (p : Int) :: subL (p + 1) m r = [(p : Int)] ++ subL (p + 1) m r from rfl, mskR_append, mskR_one (by omega), ih]
      have hq : 2 ^ m * 2 ^ (15 - (p + 1 + m)) = 2 ^ (14 - p) := by rw [← Nat.pow_add]; congr 1; omega
      have hlt : r * 2 ^ (15 - (p + 1 + m)) < 2 ^ (14 - p) := by
        rw [← hq]
        exact Nat.mul_lt_mul_of_pos_right hr2 (Nat.two_pow_pos _)
      rw [Nat.add_mul, hq]
      have := Nat.two_pow_add_eq_or_of_lt hlt 1
      rw [Nat.mul_one] at this
      exact this.symm
theorem subL_pc (m p n : Nat) (h : p + m ≤ 15) : pc (mskR (subL p m n)) = (subL p m n).length := by
  have hin : ∀ z ∈ subL p m n, 0 ≤ z ∧ z < 15 := fun z hz => by have := subL_in m p n h z hz; omega
  unfold mskR
  rw [pc_msk (nodup_map_inj (subL_nodup m p n h) fun a _ b _ e => by unfold rv at e; omega) (rv_in hin), List.length_map]
/-- The number of the independent sets with k more points of the last m. -/
def cM (bs : List Blk) (v : Nat) : Nat → List Int → Nat → Nat
  | _, _, 0 => 1
  | 0, _, _ + 1 => 0
  | m + 1, S, k + 1 => (if indepL bs (S ++ [((v - (m + 1) : Nat) : Int)]) then cM bs v m (S ++ [((v - (m + 1) : Nat) : Int)]) k else 0) + cM bs v m S (k + 1)
theorem cM_succ (bs : List Blk) (v m : Nat) (S : List Int) (k : Nat) : cM bs v (m + 1) S (k + 1) = (if indepL bs (S ++ [((v - (m + 1) : Nat) : Int)]) then cM bs v m (S ++ [((v - (m + 1) : Nat) : Int)]) k else 0) + cM bs v m S (k + 1) := rfl
theorem cM_zero (bs : List Blk) (v m : Nat) (S : List Int) : cM bs v m S 0 = 1 := by cases m <;> rfl
theorem cM_none (bs : List Blk) (v : Nat) : ∀ (m : Nat) (S : List Int) (k : Nat), m < k → cM bs v m S k = 0
  | 0, S, k, h => by
    obtain ⟨j, rfl⟩ : ∃ j, k = j + 1 := ⟨k - 1, by omega⟩
    rfl
  | m + 1, S, k, h => by
    obtain ⟨j, rfl⟩ : ∃ j, k = j + 1 := ⟨k - 1, by omega⟩
    unfold cM
    rw [cM_none bs v m _ j (by omega), cM_none bs v m _ (j + 1) (by omega)]
    simp
theorem cM_le (bs : List Blk) (v : Nat) : ∀ (m : Nat) (S : List Int) (k : Nat), cM bs v m S k ≤ 2 ^ m
  | 0, S, 0 => by simp [cM]
  | 0, S, k + 1 => by simp [cM]
  | m + 1, S, 0 => by unfold cM; exact Nat.one_le_two_pow
  | m + 1, S, k + 1 => by
    unfold cM
    have h1 := cM_le bs v m (S ++ [((v - (m + 1) : Nat) : Int)]) k
    have h2 := cM_le bs v m S (k + 1)
    rw [Nat.pow_succ]
    split <;> omega
theorem indepL_mono {bs : List Blk} {L M : List Int} (h : ∀ a ∈ L, a ∈ M) (hM : indepL bs M = true) : indepL bs L = true := by
  unfold indepL at *
  rw [List.all_eq_true] at *
  intro x hx
  have h1 := hM x hx
  have h2 := cntB_mono (x := x) h
  have h3 := cntB_le x M
  simp at h1 ⊢
  omega
def goodI (bs : List Blk) (S : List Int) (p m k n : Nat) : Bool := decide ((subL p m n).length = k) && indepL bs (S ++ subL p m n)
theorem cdn_cM (bs : List Blk) (v : Nat) : ∀ (m : Nat) (S : List Int) (k : Nat), m ≤ v → indepL bs S = true → cdn (goodI bs S (v - m) m k) (2 ^ m) = cM bs v m S k
  | 0, S, 0, _, h => by simp [cdn, goodI, subL, cM, h]
  | 0, S, k + 1, _, _ => by simp [cdn, goodI, subL, cM]
  | m + 1, S, k, hm, h => by
    have hp : 2 ^ (m + 1) = 2 ^ m + 2 ^ m := by rw [Nat.pow_succ]; omega
    rw [hp, cdn_cut]
    have e1 : cdn (goodI bs S (v - (m + 1)) (m + 1) k) (2 ^ m) = cM bs v m S k := by
      rw [← cdn_cM bs v m S k (by omega) h]
      refine cdn_congr _ fun i hi => ?_
      unfold goodI
      rw [subL_succ, if_pos hi, show v - (m + 1) + 1 = v - m by omega]
    rw [e1]
    have e2 : ∀ i, i < 2 ^ m → goodI bs S (v - (m + 1)) (m + 1) k (2 ^ m + i) = (decide ((subL (v - m) m i).length + 1 = k) && indepL bs ((S ++ [((v - (m + 1) : Nat) : Int)]) ++ subL (v - m) m i)) := by
      intro i hi
      unfold goodI
      rw [subL_succ, if_neg (by omega), show v - (m + 1) + 1 = v - m by omega, Nat.add_sub_cancel_left, List.length_cons, List.append_assoc]
      simp
    rw [cdn_congr _ e2]
    cases k with
    | zero =>
      rw [cdn_zero _ (fun i _ => by simp)]
      rw [cM_zero, cM_zero]
    | succ k =>
      rw [cM_succ, Nat.add_comm]
      congr 1
      by_cases hg : indepL bs (S ++ [((v - (m + 1) : Nat) : Int)]) = true
      · rw [if_pos hg, ← cdn_cM bs v m _ k (by omega) hg]
        refine cdn_congr _ fun i _ => ?_
        unfold goodI
        simp
      · rw [if_neg hg]
        refine cdn_zero _ fun i _ => ?_
        have : indepL bs ((S ++ [((v - (m + 1) : Nat) : Int)]) ++ subL (v - m) m i) = false := by
          cases he : indepL bs ((S ++ [((v - (m + 1) : Nat) : Int)]) ++ subL (v - m) m i) with
          | false => rfl
          | true => exact absurd (indepL_mono (fun a ha => List.mem_append.2 (.inl ha)) he) hg
        rw [this, Bool.and_false]
/-- What CountIndependent answers. -/
def ciF (v : Int) (bs : List Blk) (k : Int) : Int × Int := if isSysImpl v bs then (if (decide (0 ≤ k) && decide (k ≤ 15)) = true then ((cM bs v.toNat v.toNat [] k.toNat : Nat), 0) else (0, 2)) else (0, 1)
end Go.Proofs.Ytkpnlecmfmbkaaa

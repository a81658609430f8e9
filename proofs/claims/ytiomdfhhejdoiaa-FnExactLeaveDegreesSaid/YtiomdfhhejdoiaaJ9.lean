
/- The outline's ascending list. The model's DegreesOf. The program's DegreesOf, plain. The program's LeaveDegrees. The model's LeaveDegrees. How the laws' arguments are read. How the laws' other arguments are read: slices of integers, slices of blocks, a block, rows. What a law over one system whose result is a system knows of the memory between two of its steps. -/
import Derived.Test.YtiomdfhhejdoiaaJ8
import Derived.Deep.RegionHeld3
import Derived.Test.YtiomdfhhejdoiaaRows
import Derived.ProofKit
import Derived.OpenShut
import Derived.Deep.Slices
import Derived.Lib.SmallJoins
import Derived.ChangeOld
namespace Go.Proofs.Ytiomdfhhejdoiaa
open Go.RowKit Go.Maps
def ins (s : List Int) (j : Nat) (y : Int) : List Int := s.take j ++ y :: s.drop j
theorem ins_len (s : List Int) (j : Nat) (y : Int) : (ins s j y).length = s.length + 1 := by
  unfold ins
  simp
  omega
theorem ins_end (s : List Int) (y : Int) : ins s s.length y = s ++ [y] := by simp [ins]
theorem ins_set (s : List Int) (j : Nat) (y x : Int) (h : j ≤ s.length) : (ins s j y).set j x = ins s j x := by
  have e : (s.take j).length = j := by rw [List.length_take]; omega
  unfold ins
  rw [List.set_append_right _ _ (by omega), e, Nat.sub_self, List.set_cons_zero]
theorem ins_get (s : List Int) (j : Nat) (y : Int) (h : j < s.length) : (ins s (j + 1) y)[j]?.getD 0 = s[j]?.getD 0 := by
  unfold ins
  rw [List.getElem?_append_left (by rw [List.length_take]; omega), List.getElem?_take_of_lt (by omega)]
theorem ins_shift (s : List Int) (j : Nat) (y : Int) (h : j < s.length) : (ins s (j + 1) y).set (j + 1) (s[j]?.getD 0) = ins s j (s[j]?.getD 0) := by
  rw [ins_set s (j + 1) y _ (by omega)]
  unfold ins
  rw [List.take_add_one, List.getElem?_eq_getElem h, List.append_assoc]
  conv => rhs; rw [List.drop_eq_getElem_cons h]
  simp
theorem ins_perm {s zs : List Int} {k : Nat} {x : Int} (hp : s.Perm (zs.take k)) (hx : zs.take (k + 1) = zs.take k ++ [x]) (j : Nat) : (ins s j x).Perm (zs.take (k + 1)) := by
  unfold ins
  refine List.perm_middle.trans ?_
  rw [List.take_append_drop, hx]
  exact (hp.cons x).trans (List.perm_append_comm (l₁ := [x]) (l₂ := zs.take k))
theorem ins_sorted {s : List Int} {j : Nat} {x : Int} (hs : s.Pairwise (· ≤ ·)) (_hj : j ≤ s.length) (hle : ∀ z ∈ s.take j, z ≤ x) (hgt : ∀ z ∈ s.drop j, x < z) : (ins s j x).Pairwise (· ≤ ·) := by
  have h0 := hs
  rw [← List.take_append_drop j s, List.pairwise_append] at h0
  unfold ins
  rw [List.pairwise_append, List.pairwise_cons]
  refine ⟨h0.1, ⟨fun z hz => by have := hgt z hz; omega, h0.2.1⟩, fun p hp q hq => ?_⟩
  rcases List.mem_cons.1 hq with rfl | hq
  · exact hle p hp
  · exact h0.2.2 p hp q hq
theorem sorted_le {s : List Int} {j : Nat} {x : Int} (hs : s.Pairwise (· ≤ ·)) (hj : j < s.length) (h : s[j]?.getD 0 ≤ x) : ∀ z ∈ s.take (j + 1), z ≤ x := by
  rw [List.getElem?_eq_getElem hj, Option.getD_some] at h
  intro z hz
  obtain ⟨i, hi, rfl⟩ := List.mem_iff_getElem.1 hz
  rw [List.length_take] at hi
  rw [List.getElem_take]
  rcases Nat.lt_or_ge i j with h1 | h1
  · have := List.pairwise_iff_getElem.1 hs i j (by omega) hj h1
    omega
  · have e : i = j := by omega
    subst e
    exact h
theorem OwnJ.setT {w : World} {base g n cap : Nat} {zs : List Int} (h : OwnJ w base (.slice (some ⟨g, 0, none⟩) n cap) zs) {i : Nat} {x : Int} (_hi : i < zs.length) :
    OwnJ (w.setCell ⟨g, i, none⟩ (.int .i64 x)) base (.slice (some ⟨g, 0, none⟩) n cap) (zs.set i x) ∧ w.grownBy (w.setCell ⟨g, i, none⟩ (.int .i64 x)) (some g) := by
  refine ⟨?_, only_setCell (only_refl w (some g)) rfl _⟩
  obtain ⟨_, h | ⟨g', cap', cur, e, hb, hcur, hn, hc, hsz, hx⟩⟩ := h
  · simp at h
  · simp at e
    obtain ⟨rfl, rfl, rfl⟩ := e
    have hl : (zs.set i x).length = zs.length := List.length_set
    unfold OwnJ
    rw [hl]
    refine ⟨by simp, .inr ⟨g, cap, cur.setIfInBounds i (.int .i64 x), rfl, hb, heap_setCell_same w g i cur _ _ hcur, hn, hc, by simp [hsz], ?_⟩⟩
    rw [Array.toList_setIfInBounds, List.take_set, hx, List.map_set]
theorem OwnJ.at_ {w : World} {base g n cap : Nat} {zs : List Int} (h : OwnJ w base (.slice (some ⟨g, 0, none⟩) n cap) zs) {i : Nat} (hi : i < zs.length) : w.cell? ⟨g, i, none⟩ = some (.int .i64 (zs[i]?.getD 0)) ∧ base ≤ g ∧ g < w.heap.size ∧ n = zs.length ∧ w.frozen? ⟨g, i, none⟩ = false := by
  obtain ⟨_, h | ⟨g', cap', cur, e, hb, hcur, hn, hc, hsz, hx⟩⟩ := h
  · simp at h
  · simp at e
    obtain ⟨rfl, rfl, rfl⟩ := e
    refine ⟨?_, hb, (Array.getElem?_eq_some_iff.1 hcur).1, rfl, by simp [World.frozen?, hcur]⟩
    have e : (zs.map (Value.int .i64))[i]? = some (.int .i64 zs[i]) := by simp [hi]
    rw [← hx, List.getElem?_take_of_lt (by omega)] at e
    rw [List.getElem?_eq_getElem hi, Option.getD_some]
    simp [World.cell?, hcur]
    simpa using e
set_option maxRecDepth 100000 in
set_option maxHeartbeats 2000000 in
theorem l03Ascending_any (b0 off cap : Nat) (zs : List Int) (w : World) (h : Ints w b0 off zs) (hlt : b0 < w.heap.size) (hl : zs.length ≤ 1000) :
    Calls Try.prog 106 #[.slice (some ⟨b0, off, none⟩) zs.length cap] w (fun e w' => ∃ u, e = .returned u ∧ (∃ g c, u = .slice (some ⟨g, 0, none⟩) zs.length c) ∧ OwnJ w' w.heap.size u (ascL zs) ∧ Below w.heap.size w w') := by
  have HI := Lib.hid h
  obtain ⟨m, hm⟩ : ∃ m, m = zs.length := ⟨_, rfl⟩
  have HM := Lib.hid hm
  rw [← hm] at hl ⊢
  clear h hm
  obtain ⟨W0, rfl⟩ : ∃ W0, W0 = w := ⟨_, rfl⟩
  go_enter Try.func106, Try.ntmps106
  go_wp2_with fail
  go_loopw [3, 4, 5] (fun o i _ wr => ∃ (k : Nat) (s : List Int) (g c : Nat), k ≤ m ∧ i = .int .i64 k ∧ o = .slice (some ⟨g, 0, none⟩) k c ∧ Below W0.heap.size W0 wr ∧ OwnJ wr W0.heap.size (.slice (some ⟨g, 0, none⟩) k c) s ∧ Hid (s.Perm (zs.take k) ∧ s.Pairwise (· ≤ ·) ∧ s.length = k)) (fun _ i _ _ => m - (intOf i).toNat)
  case atStart => exact ⟨0, [], _, _, Nat.zero_le _, rfl, rfl, (Below.refl _ _).alloc (Nat.le_refl _) _, OwnJ.new0 _ (Nat.le_refl _), Lib.hid ⟨by simp, List.Pairwise.nil, rfl⟩⟩
  case round =>
    obtain ⟨k, s, g, c, hk, rfl, rfl, hB, hO, HP⟩ := hrel
    have hz := hB.size
    by_cases hkl : k < m
    · have q := (hB.cell (p := ⟨b0, off + k, none⟩) hlt).trans (HI.out k (by rw [← HM.out]; exact hkl))
      have hxk : zs.take (k + 1) = zs.take k ++ [zs[k]?.getD 0] := by
        have hk' : k < zs.length := by rw [← HM.out]; exact hkl
        rw [List.take_add_one, List.getElem?_eq_getElem hk']
        rfl
      obtain ⟨x, hx⟩ : ∃ x, x = zs[k]?.getD 0 := ⟨_, rfl⟩
      rw [← hx] at q hxk
      have HXK := Lib.hid hxk
      have HO := Lib.hid hO
      have HB := Lib.hid hB
      have HQ := Lib.hid q
      have g0 : (0 : Int) ≤ (k : Int) := by omega
      have g1 : (k : Int) < (m : Int) := by omega
      clear hx hxk hB hO
      go_wp2_with (at_builtin; refine wpList_append_int rfl _ _ rfl W0.heap.size _ s rfl (HO.out.below ((Below.refl _ _).alloc (Nat.le_refl _) _) (Nat.le_refl _)) _ _ x rfl (by simp [go_sem]) (by have := HP.out.2.2; omega) (by simp; omega) ?_; intro g' cap' w4 hO4 hg4)
      have hrow := HO.out.row
      have hgo : wr.grownBy w4 (some g) := ⟨hg4.os, hg4.tape, hg4.output, by have := hg4.size; simp at this; omega, fun i hi hne => by
        rw [hg4.block i (by simp; omega) hne, Below.heap_alloc _ _ _ hi]⟩
      have hB4 := HB.out.grown hgo hz (fun r e => hrow r e)
      rw [HP.out.2.2] at hO4 ⊢
      have hz4 := hB4.size
      have HO4 := Lib.hid hO4
      have HB4 := Lib.hid hB4
      clear hg4 hgo hrow hO4 hB4 q
      go_wp2_with fail
      go_loopw [5] (fun t wr' => ∃ (j : Nat) (y : Int), j ≤ k ∧ t = .int .i64 j ∧ Below W0.heap.size W0 wr' ∧ OwnJ wr' W0.heap.size (.slice (some ⟨g', 0, none⟩) (k + 1) cap') (ins s j y) ∧ Hid (∀ z ∈ s.drop j, x < z)) (fun t _ => (intOf t).toNat)
      case atStart => exact ⟨k, x, Nat.le_refl _, rfl, HB4.out, by have := HP.out.2.2; rw [← this, ins_end, this]; exact HO4.out, Lib.hid (by rw [List.drop_of_length_le (by have := HP.out.2.2; omega)]; simp)⟩
      case round =>
        obtain ⟨j, y, hjk, rfl, hB5, hO5, HGT⟩ := hrel
        have hz5 := hB5.size
        have q5 := (hB5.cell (p := ⟨b0, off + k, none⟩) hlt).trans ((HB.out.cell (p := ⟨b0, off + k, none⟩) hlt).symm.trans HQ.out)
        have hO6a := Lib.hid hO5
        have hB6a := Lib.hid hB5
        have hls := HP.out.2.2
        have hAt := hO5.at_ (i := j) (by rw [ins_len]; omega)
        have hgl := hAt.2.1
        have fz := hAt.2.2.2.2
        have c6 := hAt.1
        generalize (ins s j y)[j]?.getD 0 = old at c6
        rcases Nat.eq_zero_or_pos j with rfl | hj0
        · have hjs : 0 ≤ s.length := Nat.zero_le _
          have HLE := Lib.hid (show ∀ z ∈ s.take 0, z ≤ x by simp)
          have i1 : decide ((0 : Int) < ((0 : Nat) : Int)) = false := by simp
          clear hB5 hO5 hAt
          go_wp2
          go_quiet (fail)
          have hB6 := Lib.hid (below_drewN hB6a.out nq)
          have hO6 := Lib.hid (show OwnJ (wr.drewN nq) _ _ _ from hO6a.out)
          have hs6 := hO6.out.setT (i := 0) (x := x) (by rw [ins_len]; omega)
          rw [ins_set s 0 y x hjs] at hs6
          have hB7 := hB6.out.grown hs6.2 (by have := hB6.out.size; omega) (fun r e => by cases e; exact hgl)
          have HS6 := Lib.hid hs6.1
          have HB7 := Lib.hid hB7
          have HFIN := Lib.hid (show (ins s 0 x).Perm (zs.take (k + 1)) ∧ (ins s 0 x).Pairwise (· ≤ ·) ∧ (ins s 0 x).length = k + 1 from ⟨ins_perm HP.out.1 HXK.out 0, ins_sorted HP.out.2.1 hjs HLE.out HGT.out, by rw [ins_len, HP.out.2.2]⟩)
          clear hs6 hB7
          go_wp2
          go_roundw
          case rel => exact ⟨k + 1, ins s 0 x, g', cap', by omega, by go_num, rfl, HB7.out, HS6.out, HFIN⟩
          case measure => simp [intOf]; omega
        · obtain ⟨j', rfl⟩ : ∃ j', j = j' + 1 := ⟨j - 1, by omega⟩
          have hjk2 : j' < s.length := by omega
          have hv := ins_get s j' y hjk2
          have hsh := ins_shift s j' y hjk2
          have hA2 := hO5.at_ (i := j') (by rw [ins_len]; omega)
          have c5 := hA2.1
          have fz2 := hA2.2.2.2.2
          rw [hv] at c5
          obtain ⟨v, hvv⟩ : ∃ v, v = s[j']?.getD 0 := ⟨_, rfl⟩
          rw [← hvv] at c5 hsh
          have hdr : s.drop j' = v :: s.drop (j' + 1) := by rw [List.drop_eq_getElem_cons hjk2, hvv, List.getElem?_eq_getElem hjk2]; rfl
          have HDR := Lib.hid hdr
          have HSH := Lib.hid hsh
          have HVV := Lib.hid hvv
          have i1 : decide ((0 : Int) < (j' : Int) + 1) = true := by simp
          have e5 : ((j' + 1 : Nat) : Int) = (j' : Int) + 1 := by omega
          rw [e5]
          clear hB5 hO5 hAt hA2 hv hsh hvv hdr hls
          by_cases hc : x < v
          · have i2 : decide (x < v) = true := decide_eq_true hc
            go_wp2
            go_quiet (fail)
            have hB6 := Lib.hid (below_drewN hB6a.out nq)
            have hO6 := Lib.hid (show OwnJ (wr.drewN nq) _ _ _ from hO6a.out)
            have hs6 := hO6.out.setT (i := j' + 1) (x := v) (by rw [ins_len]; omega)
            rw [HSH.out] at hs6
            have hB7 := hB6.out.grown hs6.2 (by have := hB6.out.size; omega) (fun r e => by cases e; exact hgl)
            have HS6 := Lib.hid hs6.1
            have HB7 := Lib.hid hB7
            have HGT2 := Lib.hid (show ∀ z ∈ s.drop j', x < z by
              rw [HDR.out]
              intro z hz
              rcases List.mem_cons.1 hz with rfl | hz
              · exact hc
              · exact HGT.out z hz)
            clear hs6 hB7
            go_wp2
            go_roundw
            case rel => exact ⟨j', v, by omega, by go_num, HB7.out, HS6.out, HGT2⟩
            case measure => simp [intOf] <;> omega
          · have i2 : decide (x < v) = false := decide_eq_false hc
            have hjs : j' + 1 ≤ s.length := hjk2
            have HLE := Lib.hid (sorted_le HP.out.2.1 hjk2 (x := x) (by rw [← HVV.out]; omega))
            go_wp2
            go_quiet (fail)
            have hB6 := Lib.hid (below_drewN hB6a.out nq)
            have hO6 := Lib.hid (show OwnJ (wr.drewN nq) _ _ _ from hO6a.out)
            have hs6 := hO6.out.setT (i := (j' + 1)) (x := x) (by rw [ins_len]; omega)
            rw [ins_set s (j' + 1) y x hjs] at hs6
            have hB7 := hB6.out.grown hs6.2 (by have := hB6.out.size; omega) (fun r e => by cases e; exact hgl)
            have HS6 := Lib.hid hs6.1
            have HB7 := Lib.hid hB7
            have HFIN := Lib.hid (show (ins s (j' + 1) x).Perm (zs.take (k + 1)) ∧ (ins s (j' + 1) x).Pairwise (· ≤ ·) ∧ (ins s (j' + 1) x).length = k + 1 from ⟨ins_perm HP.out.1 HXK.out (j' + 1), ins_sorted HP.out.2.1 hjs HLE.out HGT.out, by rw [ins_len, HP.out.2.2]⟩)
            clear hs6 hB7
            go_wp2
            go_roundw
            case rel => exact ⟨k + 1, ins s (j' + 1) x, g', cap', by omega, by go_num, rfl, HB7.out, HS6.out, HFIN⟩
            case measure => simp [intOf]; omega
    · have e : k = m := by omega
      subst e
      have e2 : s = ascL zs := ascL_of (by have := HP.out.1; rw [HM.out, List.take_length] at this; exact this) HP.out.2.1
      subst e2
      clear HP
      go_wp2
      go_ret
      exact ⟨_, rfl, ⟨_, _, rfl⟩, hO, hB⟩
end Go.Proofs.Ytiomdfhhejdoiaa

namespace Go.Proofs.Ytiomdfhhejdoiaa
open Go.RowKit Go.Maps
/-- How many blocks go through each of the first k points. -/
def degI (bs : List Blk) (k : Nat) : List Int := (List.range k).map fun (q : Nat) => ((idxI (q : Int) bs bs.length).length : Int)
theorem degI_succ (bs : List Blk) (k : Nat) : degI bs (k + 1) = degI bs k ++ [((idxI (k : Int) bs bs.length).length : Int)] := by
  simp [degI, List.range_succ]
theorem degI_len (bs : List Blk) (k : Nat) : (degI bs k).length = k := by simp [degI]
def degF (v : Int) (bs : List Blk) : List Int × Int := if isSysImpl v bs then (degI bs v.toNat, 0) else ([], 1)
end Go.Proofs.Ytiomdfhhejdoiaa

namespace Go.Proofs.Ytiomdfhhejdoiaa
open Go.RowKit Go.Maps Go.Shelf
theorem mkRowD (n : Nat) (hn : n ≤ 1100000) (W : World) : (Instr.makeSlice 26 (.int .i64 (n : Int)) (.int .i64 (n : Int))).run Try.prog W = .ok (.slice (some ⟨W.heap.size, 0, none⟩) n n) (W.alloc (.cells (madeCells #[.int .i64 0] n) 2)) := by
  obtain ⟨i0, hi, hz0, hz1, hz2⟩ := info_parts infoInt64
  have hr := run_make (P := Try.prog) W 26 2 i0 (.int .i64 0) Try.underlying26 hi hz0 .i64 .i64 n n (by omega) (by omega) (by rw [hz2]; omega) (by omega)
  simp only [Int.toNat_natCast, hz1, Nat.mul_one] at hr
  exact hr
/-- The row while point k is counted: c of its blocks were met. -/
def degR (bs : List Blk) (v k c : Nat) : List Int := (List.range v).map fun q => if q < k then ((idxI (q : Int) bs bs.length).length : Int) else if q = k then (c : Int) else 0
theorem degR_len (bs : List Blk) (v k c : Nat) : (degR bs v k c).length = v := by simp [degR]
theorem degR_at (bs : List Blk) {v k : Nat} (c : Nat) (hk : k < v) : (degR bs v k c)[k]?.getD 0 = (c : Int) := by simp [degR, hk]
theorem degR_set (bs : List Blk) {v k : Nat} (c : Nat) (_hk : k < v) : (degR bs v k c).set k ((c : Int) + 1) = degR bs v k (c + 1) := by
  apply List.ext_getElem
  · simp [degR]
  · intro i h1 h2
    rw [List.getElem_set]
    by_cases e : k = i
    · subst e
      simp [degR]
    · rw [if_neg e]
      simp [degR, Ne.symm e]
theorem degR_next (bs : List Blk) (v k : Nat) : degR bs v k (idxI (k : Int) bs bs.length).length = degR bs v (k + 1) 0 := by
  apply List.map_congr_left
  intro q _
  by_cases h : q < k
  · simp [h, show q < k + 1 by omega]
  · by_cases e : q = k
    · subst e
      simp
    · simp [h, e, show ¬ q < k + 1 by omega]
theorem degR_start (bs : List Blk) (v : Nat) : degR bs v 0 0 = List.replicate v 0 := by
  apply List.ext_getElem
  · simp [degR]
  · intro i h1 h2
    simp [degR]
theorem degR_end (bs : List Blk) (v : Nat) : degR bs v v 0 = degI bs v := by
  apply List.map_congr_left
  intro q hq
  simp [List.mem_range.1 hq]
theorem idxI_upTo (p : Int) (bs : List Blk) : (idxI p bs bs.length).length = (upTo p bs bs.length).length := by simp [idxI]
theorem OwnJ.made0 (W : World) {base : Nat} (n : Nat) (hn : n ≤ 1100000) (hb : base ≤ W.heap.size) : OwnJ (W.alloc (.cells (madeCells #[.int .i64 0] n) 2)) base (.slice (some ⟨W.heap.size, 0, none⟩) n n) (List.replicate n 0) := by
  have hml : 1100000 ≤ maxLen := by decide
  unfold OwnJ World.ownsRow
  refine ⟨by simp, .inr ⟨W.heap.size, n, madeCells #[.int .i64 0] n, by simp, hb, World.alloc_heap_new W _, by simp, by omega, by simp [madeCells], ?_⟩⟩
  apply List.ext_getElem
  · simp [madeCells]
  · intro i h1 h2
    simp [madeCells, Nat.mod_one]
theorem ownJ_own (base : Nat) (u : Value) : Own (fun (zs : List Int) W => OwnJ W base u zs) := fun _ X _ row hs hg hr => World.ownsRow.kept hs hg (by
  rcases hs.2 with ⟨rfl, _⟩ | ⟨g, cap, cur, rfl, _, hgb, _⟩
  · exact .inl rfl
  · refine .inr fun e => ?_
    obtain ⟨o, ho, hc⟩ := hr g e.symm
    rw [hgb] at ho
    cases ho
    cases hc)
/-- The marks that the loops left, the newest first: each bears a block that no call stands in. -/
def Marks (n0 : Nat) (W : World) : Nat → List Deferred → Prop
  | _, [] => True
  | n1, d :: ds => ∃ D, d = { target := .collected D, args := #[] } ∧ n0 ≤ D ∧ D < n1 ∧ W.heap[D]? = some (.deferred (some [])) ∧ Marks n0 W D ds
theorem Marks.mono {n0 : Nat} {W : World} {ds : List Deferred} {n1 n2 : Nat} (h : Marks n0 W n1 ds) (hn : n1 ≤ n2) : Marks n0 W n2 ds := by
  cases ds with
  | nil => trivial
  | cons d ds =>
    obtain ⟨D, e, h0, h1, hD, hr⟩ := h
    exact ⟨D, e, h0, by omega, hD, hr⟩
theorem Marks.kept {n0 : Nat} {W W' : World} : ∀ {ds : List Deferred} {n1 : Nat}, Marks n0 W n1 ds → (∀ D, D < n1 → W.heap[D]? = some (.deferred (some [])) → W'.heap[D]? = some (.deferred (some []))) → Marks n0 W' n1 ds
  | [], _, _, _ => trivial
  | _ :: _, _, ⟨D, e, h0, h1, hD, hr⟩, k => ⟨D, e, h0, h1, k D h1 hD, hr.kept fun D' h' => k D' (by omega)⟩
theorem Marks.grown {n0 : Nat} {W W' : World} {ds : List Deferred} {n1 : Nat} {row : Option Nat} (h : Marks n0 W n1 ds) (hg : W.grownBy W' row) (hr : ∀ r, row = some r → n1 ≤ r ∨ ∃ o : Obj, W.heap[r]? = some o ∧ o.isCells = true) : Marks n0 W' n1 ds :=
  h.kept fun D hD e => (hg.block D (Array.getElem?_eq_some_iff.1 e).1 (fun e' => by
    rcases hr D e'.symm with h | ⟨o, ho, hc⟩
    · omega
    · rw [e] at ho
      cases ho
      cases hc)).trans e
theorem Marks.alloc {n0 : Nat} {W : World} {ds : List Deferred} {n1 : Nat} (h : Marks n0 W n1 ds) (o : Obj) : Marks n0 (W.alloc o) n1 ds := h.grown (World.grownBy_alloc W o none) (fun r e => by cases e)
theorem marks_own (n0 n1 B : Nat) (hB : n1 ≤ B) {β : Type} (ds : List Deferred) : OwnFrom B (fun (_ : β) W => Marks n0 W n1 ds) := fun _ _ _ _ hs hg hr => hs.grown hg (fun r e => .inl (Nat.le_trans hB (hr r e).1))
theorem leaves_marks {F : Fence} {n : Nat} {P : Program} {fn : Func} {tmps : Array Value} {R : Ending → World → Prop} {n0 : Nat} (K : World → Prop) (hK : ∀ W D, K W → n0 ≤ D → W.heap[D]? = some (.deferred (some [])) → K (W.putObj D (.deferred none)))
    (hend : ∀ W, K W → LeavesInM F n P fn tmps R [] .returning W) : ∀ (ds : List Deferred) (n1 : Nat) (W : World), Marks n0 W n1 ds → K W → LeavesInM F n P fn tmps R ds .returning W
  | [], _, W, _, h => hend W h
  | d :: ds, n1, W, ⟨D, e, h0, h1, hD, hr⟩, h => ⟨by simp, .inl ⟨D, _, by rw [e], run_takeDeferred hD, leaves_marks K hK hend ds D _ (hr.kept fun D' h' e' => (World.putObj_heap_other (by omega)).trans e') (hK W D h h0 hD)⟩⟩
theorem meas_lt {v k : Nat} (h : k < v) : ((v : Int) - ((k + 1 : Nat) : Int)).toNat < ((v : Int) - (k : Int)).toNat := by omega
theorem wrap_succ {k : Nat} (h : k ≤ 15) : wrap64 ((k : Int) + 1) = ((k + 1 : Nat) : Int) := by unfold wrap64; omega
theorem OwnJ.baseD {w : World} {b b' : Nat} {u : Value} {zs : List Int} (h : OwnJ w b u zs) (hb : b' ≤ b) : OwnJ w b' u zs := ownsRow_base h hb
/-- A system in a box. -/
def SysAt (W : World) (B : Nat) (v : Int) (s : Value) : Prop := W.heap[B]? = some (.cells #[.int .i64 v, s] 31 (0, 0))
theorem SysAt.cells {W : World} {B : Nat} {v : Int} {s : Value} (h : SysAt W B v s) : W.cell? ⟨B, 0, none⟩ = some (.int .i64 v) ∧ W.cell? ⟨B, 1, none⟩ = some s ∧ B < W.heap.size := by
  have : W.heap[B]? = _ := h
  refine ⟨by simp [World.cell?, this], by simp [World.cell?, this], (Array.getElem?_eq_some_iff.1 this).1⟩
theorem SysAt.kept {W W' : World} {B : Nat} {v : Int} {s : Value} {row : Option Nat} (h : SysAt W B v s) (hg : W.grownBy W' row) (hr : some B ≠ row) : SysAt W' B v s := (hg.block B h.cells.2.2 hr).trans h
theorem SysAt.alloc {W : World} {B : Nat} {v : Int} {s : Value} (h : SysAt W B v s) (o : Obj) : SysAt (W.alloc o) B v s := h.kept (World.grownBy_alloc W o none) (fun e => by cases e)
theorem SysAt.own {β : Type} (B : Nat) (v : Int) (s : Value) : Own (fun (_ : β) W => SysAt W B v s) := fun _ X Y row hs hg hrow => hs.kept hg (fun e' => by
  obtain ⟨o, ho, hc⟩ := hrow B e'.symm
  rw [show X.heap[B]? = _ from hs] at ho
  cases ho
  cases hc)
end Go.Proofs.Ytiomdfhhejdoiaa

namespace Go.Proofs.Ytiomdfhhejdoiaa
open Go.RowKit Go.Maps
/-- How often each of the first v points is in the pairs of the list. -/
def cnV (v : Nat) (L : List (Int × Int)) : List Int := (List.range v).map fun (p : Nat) => (cntP L (p : Int) : Int)
theorem cnV_len (v : Nat) (L : List (Int × Int)) : (cnV v L).length = v := by simp [cnV]
theorem cnV_at {v : Nat} (L : List (Int × Int)) {p : Nat} (hp : p < v) : (cnV v L)[p]?.getD 0 = (cntP L (p : Int) : Int) := by simp [cnV, hp]
theorem cnV_nil (v : Nat) : cnV v [] = List.replicate v 0 := by
  apply List.ext_getElem
  · simp [cnV]
  · intro i h1 h2
    simp [cnV, cntP]
theorem cnt_le (L : List (Int × Int)) (p : Int) : cntP L p ≤ L.length := List.countP_le_length
/-- One end of a pair counted. -/
def cnH (v : Nat) (L : List (Int × Int)) (a : Nat) : List Int := (cnV v L).set a ((cntP L (a : Int) : Int) + 1)
theorem cnH_len (v : Nat) (L : List (Int × Int)) (a : Nat) : (cnH v L a).length = v := by simp [cnH, cnV_len]
theorem cnH_at {v : Nat} (L : List (Int × Int)) {a b : Nat} (hb : b < v) (hab : a ≠ b) : (cnH v L a)[b]?.getD 0 = (cntP L (b : Int) : Int) := by
  unfold cnH
  rw [List.getElem?_set_ne hab, cnV_at L hb]
theorem cnH_set {v : Nat} (L : List (Int × Int)) {a b : Nat} (_ha : a < v) (_hb : b < v) (_hab : a ≠ b) : (cnH v L a).set b ((cntP L (b : Int) : Int) + 1) = cnV v (L ++ [((a : Int), (b : Int))]) := by
  unfold cnH
  apply List.ext_getElem
  · simp [cnV]
  · intro i h1 h2
    rw [List.getElem_set, List.getElem_set]
    simp only [cnV, List.getElem_map, List.getElem_range, cntP_append]
    have e : cntP [((a : Int), (b : Int))] (i : Int) = if a = i ∨ b = i then 1 else 0 := by
      unfold cntP
      rw [List.countP_cons, List.countP_nil]
      by_cases h1 : a = i <;> by_cases h2 : b = i <;> simp [h1, h2]
      · simp [show (a : Int) ≠ (i : Int) by omega, show (b : Int) ≠ (i : Int) by omega]
    rw [e]
    by_cases h1 : b = i
    · subst h1
      simp
    · by_cases h2 : a = i
      · subst h2
        simp [h1]
      · simp [h1, h2]
theorem left_rows {v : Nat} {P : Int → Int → Bool} {k : Nat} (hk : k < (leftL P v v).length) :
    ∃ a b : Nat, a < v ∧ b < v ∧ a ≠ b ∧ fnL (leftL P v v) k = [(a : Int), (b : Int)] ∧ (leftL P v v).take (k + 1) = (leftL P v v).take k ++ [((a : Int), (b : Int))] := by
  obtain ⟨p, hp⟩ : ∃ p, p = (leftL P v v)[k] := ⟨_, rfl⟩
  have e1 : (leftL P v v)[k]? = some p := by rw [List.getElem?_eq_getElem hk, hp]
  have hm3 : 0 ≤ p.1 ∧ p.1 < v ∧ p.1 < p.2 ∧ p.2 < v := by
    rw [hp]
    have hq : (leftL P v v)[k] ∈ leftL P v v := List.getElem_mem hk
    generalize (leftL P v v)[k] = q at hq ⊢
    rw [leftL_filter] at hq
    exact (leftT_mem v v _ (Nat.le_refl _)).1 (List.mem_filter.1 hq).1
  obtain ⟨x, y⟩ := p
  dsimp only at hm3
  refine ⟨x.toNat, y.toNat, by omega, by omega, by omega, ?_, ?_⟩
  · rw [Int.toNat_of_nonneg (by omega), Int.toNat_of_nonneg (by omega)]
    unfold fnL
    rw [e1]
    rfl
  · rw [Int.toNat_of_nonneg (by omega), Int.toNat_of_nonneg (by omega), List.take_add_one, e1]
    rfl
theorem resSS_form {w : World} {lo n : Nat} {u : Value} {F : Nat → List Int} (h : ResSS w lo u n F) : ∃ a c, u = .slice a n c := by
  rcases h with ⟨rfl, a, c, rfl⟩ | ⟨G, cap, gs, caps, rfl, _⟩ <;> exact ⟨_, _, rfl⟩
def lvF (v : Int) (bs : List Blk) : List Int × Int := if isSysImpl v bs then (lvL v.toNat bs, 0) else ([], 1)
theorem lvF_len (v : Int) (bs : List Blk) : (lvF v bs).1.length ≤ 1100000 := by
  unfold lvF
  cases hi : isSysImpl v bs with
  | false => simp
  | true =>
    have := (sys_size hi).2.1
    simp [lvL]
    omega
set_option maxRecDepth 100000 in
set_option maxHeartbeats 2000000 in
theorem LeaveDegrees_main (v : Nat) (s : Value) (bs : List Blk) (w : World) (h : SB w s bs) (hi : isSysImpl (v : Int) bs = true) :
    Calls Try.prog 15 #[.agg #[.int .i64 (v : Int), s]] w (RJ (lvL v bs, 0) w) := by
  have hs := h.slice
  have HP := Lib.hid fun W (hb : Below w.heap.size w W) => PairsLeft_any (v : Int) s bs W (h.below hb (Nat.le_refl _))
  have hval : pairsF (v : Int) bs = (leftL (notIn (bs.flatMap pairsL)) v v, 0) := by simp [pairsF, hi]
  rw [hval] at HP
  obtain ⟨hv3, hv15, _⟩ := sys_size hi
  have hlv : lvL v bs = cnV v (leftL (notIn (bs.flatMap pairsL)) v v) := rfl
  rw [hlv]
  have hLl := leftL_len (notIn (bs.flatMap pairsL)) v v
  have hLb : v * v ≤ 225 := by
    have h1 : v * v ≤ 15 * 15 := Nat.mul_le_mul (by omega) (by omega)
    omega
  have HR := Lib.hid fun (k : Nat) (hk : k < (leftL (notIn (bs.flatMap pairsL)) v v).length) => left_rows hk
  obtain ⟨L, hL⟩ : ∃ L, L = leftL (notIn (bs.flatMap pairsL)) v v := ⟨_, rfl⟩
  rw [← hL] at HP HR hLl ⊢
  clear hL hlv hval hi h
  have hL2 : L.length ≤ 225 := by omega
  obtain ⟨m, hm⟩ : ∃ m, m = L.length := ⟨_, rfl⟩
  have HM := Lib.hid hm
  have hm2 : m ≤ 225 := by omega
  have HP2 : Hid (∀ W, Below w.heap.size w W → Calls Try.prog 48 #[.agg #[.int .i64 (v : Int), s]] W fun e w' => ∃ u, e = .returned (.tuple #[u, .int .i64 0]) ∧ Below W.heap.size W w' ∧ ResSS w' W.heap.size u m (fnL L)) := Lib.hid fun W hb => by
    rw [hm]
    exact HP.out W hb
  clear hm hLl hLb hL2 HP
  obtain ⟨a0, c0, rfl⟩ := hs
  have hmk := mkRowD v (by omega)
  go_enter Try.func15, Try.ntmps15
  go_wp2_with fail
  refine (HP2.out _ ((Below.refl _ _).alloc (Nat.le_refl _) _)).mono ?_
  rintro e w1 ⟨u, rfl, hb1, hr⟩
  have q0 := cell_new hb1 0 rfl
  have q1 := cell_new hb1 1 rfl
  have hlt1 := lt_new hb1
  have hbw := below_new hb1
  obtain ⟨a2, c2, rfl⟩ := resSS_form hr
  have HRS := Lib.hid hr
  clear hb1 hr
  have hO0 := OwnJ.made0 w1 (base := w1.heap.size) v (by omega) (Nat.le_refl _)
  rw [← cnV_nil v] at hO0
  have hB0 : Below w1.heap.size w1 (w1.alloc (.cells (madeCells #[.int .i64 0] v) 2)) := (Below.refl _ _).alloc (Nat.le_refl _) _
  have hO1 := Lib.hid hO0
  clear hO0
  go_wp2_with fail
  go_loopw [22] (fun i wr => ∃ k : Nat, k ≤ m ∧ i = .int .i64 k ∧ Below w1.heap.size w1 wr ∧ OwnJ wr w1.heap.size (.slice (some ⟨w1.heap.size, 0, none⟩) v v) (cnV v (L.take k))) (fun i _ => m - (intOf i).toNat)
  case atStart => exact ⟨0, Nat.zero_le _, rfl, hB0, by simpa using hO1.out⟩
  case round =>
    obtain ⟨k, hk, rfl, hB, hO⟩ := hrel
    have hz := hB.size
    by_cases hkl : k < m
    · obtain ⟨a, b, ha, hb, hab, hrow, htake⟩ := HR.out k (by rw [← HM.out]; exact hkl)
      rcases HRS.out with ⟨e0, _⟩ | ⟨G, cap, gs, caps, hu, hG, hS⟩
      · omega
      · simp at hu
        obtain ⟨rfl, rfl⟩ := hu
        have c0 := hS.cell k hkl
        have hrk := hS.row k hkl
        rw [hrow] at c0 hrk
        have hgl := hrk.lt
        have hGl := hS.lt
        have r0 := (hB.cell (p := ⟨G, k, none⟩) hGl).trans c0
        have y1 : w1.cell? ⟨gs k, 0, none⟩ = some (.int .i64 (a : Int)) := by simpa using hrk.at_ 0 (by simp)
        have y2 : w1.cell? ⟨gs k, 1, none⟩ = some (.int .i64 (b : Int)) := by simpa using hrk.at_ 1 (by simp)
        have r1 := (hB.cell (p := ⟨gs k, 0, none⟩) hgl).trans y1
        have r2 := (hB.cell (p := ⟨gs k, 1, none⟩) hgl).trans y2
        obtain ⟨d1, d2, d3, d4, d5⟩ := hO.at_ (i := a) (by rw [cnV_len]; exact ha)
        rw [cnV_at _ ha] at d1
        have hc1 := cnt_le (L.take k) (a : Int)
        have hc2 := cnt_le (L.take k) (b : Int)
        have hl2 : (L.take k).length ≤ 225 := by rw [List.length_take]; omega
        obtain ⟨s1, t1⟩ := hO.setT (i := a) (x := (cntP (L.take k) (a : Int) : Int) + 1) (by rw [cnV_len]; exact ha)
        have s1' : OwnJ (wr.setCell ⟨w1.heap.size, a, none⟩ (.int .i64 ((cntP (L.take k) (a : Int) : Int) + 1))) w1.heap.size (.slice (some ⟨w1.heap.size, 0, none⟩) v v) (cnH v (L.take k) a) := s1
        obtain ⟨f1, f2, f3, f4, f5⟩ := s1'.at_ (i := b) (by rw [cnH_len]; exact hb)
        rw [cnH_at _ hb hab] at f1
        obtain ⟨s2, t2⟩ := s1'.setT (i := b) (x := (cntP (L.take k) (b : Int) : Int) + 1) (by rw [cnH_len]; exact hb)
        rw [cnH_set _ ha hb hab, ← htake] at s2
        have hB1 := hB.grown t1 (by omega) (fun r e => by cases e; exact Nat.le_refl _)
        have hB2 := hB1.grown t2 (by have := hB1.size; omega) (fun r e => by cases e; exact Nat.le_refl _)
        have r3 := (hB1.cell (p := ⟨gs k, 1, none⟩) hgl).trans y2
        have r0' := (hB1.cell (p := ⟨G, k, none⟩) hGl).trans c0
        obtain ⟨x, hx⟩ : ∃ x : Nat, x = cntP (L.take k) (a : Int) := ⟨_, rfl⟩
        obtain ⟨y, hy⟩ : ∃ y : Nat, y = cntP (L.take k) (b : Int) := ⟨_, rfl⟩
        rw [← hx] at d1 s2 hB1 hB2 f1 f5 r3 hc1
        rw [← hy] at s2 hB2 f1 hc2
        have w1' : IntKind.i64.wrap ((x : Int) + 1) = (x : Int) + 1 := IntWalk.i64_in _ (by omega)
        have w2' : IntKind.i64.wrap ((y : Int) + 1) = (y : Int) + 1 := IntWalk.i64_in _ (by omega)
        have HFIN := Lib.hid (And.intro hB2 s2)
        have g0 : (0 : Int) ≤ (k : Int) := by omega
        have g1 : (k : Int) < (m : Int) := by omega
        have g2 : (0 : Int) ≤ (a : Int) := by omega
        have g3 : (a : Int) < (v : Int) := by omega
        have g4 : (0 : Int) ≤ (b : Int) := by omega
        have g5 : (b : Int) < (v : Int) := by omega
        simp only [List.length_cons, List.length_nil, Nat.reduceAdd] at r0
        clear d4 f4 y1 y2 hx hy s1 s1' t1 t2 s2 hB2 hrow htake hrk c0 hS hB hO hB1 r0'
        go_wp2
        go_roundw
        case rel => exact ⟨k + 1, by omega, by go_num, HFIN.out.1, HFIN.out.2⟩
        case measure => simp [intOf]; omega
    · have e : k = m := by omega
      subst e
      rw [HM.out, List.take_length] at hO
      have HO := Lib.hid hO
      clear hO
      go_wp2
      go_ret2
      exact ⟨_, rfl, HO.out.baseD (by omega), hbw.trans (hB.mono (by omega))⟩
set_option maxRecDepth 100000 in
theorem LeaveDegrees_any (v : Int) (s : Value) (bs : List Blk) (w : World) (h : SB w s bs) :
    Calls Try.prog 15 #[.agg #[.int .i64 v, s]] w (RJ (lvF v bs) w) := by
  cases hi : isSysImpl v bs with
  | false =>
    have hval : lvF v bs = ([], 1) := by simp [lvF, hi]
    rw [hval]
    have hs := h.slice
    have HI := Lib.hid fun W (hb : Below w.heap.size w W) => PairsLeft_any v s bs W (h.below hb (Nat.le_refl _))
    have hpv : pairsF v bs = ([], 1) := by simp [pairsF, hi]
    rw [hpv] at HI
    clear h hval hi hpv
    obtain ⟨a0, c0, rfl⟩ := hs
    go_enter Try.func15, Try.ntmps15
    go_wp2_with fail
    refine (HI.out _ ((Below.refl _ _).alloc (Nat.le_refl _) _)).mono ?_
    rintro e w1 ⟨u, rfl, hb1, hr⟩
    obtain ⟨a2, c2, rfl⟩ := resSS_form hr
    have hbw := below_new hb1
    clear hr hb1
    go_wp2
    go_ret2
    exact ⟨_, rfl, OwnJ.nil _ _, hbw⟩
  | true =>
    have hval : lvF v bs = (lvL v.toNat bs, 0) := by simp [lvF, hi]
    rw [hval]
    obtain ⟨n, rfl⟩ : ∃ n : Nat, v = n := ⟨v.toNat, by have := (sys_size hi).1; omega⟩
    exact LeaveDegrees_main n s bs w h hi
end Go.Proofs.Ytiomdfhhejdoiaa

namespace Go.Proofs.Ytiomdfhhejdoiaa
open Go.RowKit Go.Maps
theorem step_append_int {w : World} {ops : Array Oper} {o : Oper} {a : Act} {K : Act → World → Prop} {Q : Exit → Act → World → Prop} {E : Prop} (hgd : o.guard = none) (s x : Operand)
    (ho : o.op = .call { callee := .builtin .append, args := #[s, x], argTypes := #[26, 26] })
    (base : Nat) (v : Value) (zs : List Int) (hs : a.eval s = v) (hown : OwnJ w base v zs) (b0 c : Nat) (y : Int) (hx : a.eval x = .slice (some ⟨b0, 0, none⟩) 1 c) (hy : w.cell? ⟨b0, 0, none⟩ = some (.int .i64 y)) (hl : zs.length ≤ 1100000) (hb : base ≤ w.heap.size)
    (h : ∀ (g cap : Nat) (w' : World), OwnJ w' base (.slice (some ⟨g, 0, none⟩) (zs.length + 1) cap) (zs ++ [y]) → w.grownBy w' v.ownBlock → K (a.put o.dst (.slice (some ⟨g, 0, none⟩) (zs.length + 1) cap)) w') :
    if Region.wanted o (yielded ops a.tmps) = true then Oper.wp Try.prog o a w K Q else E := by
  have hw : Region.wanted o (yielded ops a.tmps) = true := by simp [Region.wanted, hgd]
  rw [if_pos hw]
  obtain ⟨i0, hi, hz0, hz1, hz2⟩ := info_parts infoInt64
  obtain ⟨v', w', h1, h2, h3, _, _⟩ := run_append_own_at (P := Try.prog) w base 26 o.type 2 i0 _ 1 8 Try.underlying26 hi hz0 hz1 hz2 rfl (by decide) v zs.length (zs.map (Value.int .i64)) hown ⟨b0, 0, none⟩ 1 c [.int .i64 y] rfl (fun j u hj => by
    rw [addr_at, Nat.zero_add]
    match j, hj with
    | 0, hj => simp at hj; rw [← hj]; exact hy
    | j + 1, hj => simp at hj) (fun u hu => by
    simp at hu
    rw [hu]
    rfl) (by unfold maxLen; omega) (by omega) hb
  have h2' : OwnJ w' base v' (zs ++ [y]) := by unfold OwnJ; rw [List.length_append, List.length_singleton, List.map_append, List.map_singleton]; exact h2
  have hf : ∃ g cap, v' = .slice (some ⟨g, 0, none⟩) (zs.length + 1) cap := by
    rcases h2.2 with ⟨e, e2⟩ | ⟨g, cap, _, e, _⟩
    · omega
    · exact ⟨g, cap, e⟩
  obtain ⟨g, cap, rfl⟩ := hf
  unfold Oper.wp execOp
  simp only [ho, resolve, invoke, builtin, Sem.run_bind, Sem.run_pure, Result.andThen_ok, List.map_toArray, List.map_cons, List.map_nil, hs, hx, h1]
  exact h g cap w' h2' h3
theorem OwnJ.formL {W : World} {base : Nat} {u : Value} {zs : List Int} (h : OwnJ W base u zs) : ∃ a c, u = .slice a zs.length c := by
  rcases h.2 with ⟨rfl, h0⟩ | ⟨g, cap, cur, rfl, _⟩
  · rw [h0]; exact ⟨_, _, rfl⟩
  · exact ⟨_, _, rfl⟩
theorem lv_succ {n : Nat} {bs : List Blk} (h : isSysImpl (n : Int) bs = true) {k : Nat} (hk : k < n) :
    (lvL n bs).take (k + 1) = (lvL n bs).take k ++ [(n : Int) - 1 - 2 * ((idxI (k : Int) bs bs.length).length : Int)] := by
  have hl : k < (lvL n bs).length := by simpa [lvL] using hk
  rw [List.take_add_one, List.getElem?_eq_getElem hl]
  simp only [lvL, List.getElem_map, List.getElem_range, Option.toList_some]
  rw [lv_at h hk]
set_option maxRecDepth 100000 in
set_option maxHeartbeats 4000000 in
theorem specLeaveDegrees_any (v : Int) (s : Value) (bs : List Blk) (w : World) (h : SB w s bs) :
    Calls Try.prog 13 #[.agg #[.int .i64 v, s]] w (RJ (lvF v bs) w) := by
  have hs := h.slice
  have hc := l01Is_any v s bs (w.alloc (.cells #[.int .i64 v, s] 31)) (h.below ((Below.refl _ _).alloc (Nat.le_refl _) _) (Nat.le_refl _))
  have HAT := Lib.hid fun (p : Int) W (hb : Below w.heap.size w W) => l01At_any v s bs p W (h.below hb (Nat.le_refl _))
  clear h
  obtain ⟨a0, c0, rfl⟩ := hs
  cases hi : isSysImpl v bs with
  | false =>
    have hval : lvF v bs = ([], 1) := by simp [lvF, hi]
    rw [hval]
    rw [hi] at hc
    have HC := Lib.hid hc
    clear hc hval hi
    go_enter Try.func13, Try.ntmps13
    go_wp2_with (go_at_call 45; refine HC.out.mono ?_; rintro e w1 ⟨rfl, hb1⟩)
    go_ret2
    exact ⟨_, rfl, OwnJ.nil _ _, below_new hb1⟩
  | true =>
    have hval : lvF v bs = (lvL v.toNat bs, 0) := by simp [lvF, hi]
    rw [hval]
    rw [hi] at hc
    have HC := Lib.hid hc
    obtain ⟨hv3, hv15, hb35⟩ := sys_size hi
    obtain ⟨n, rfl⟩ : ∃ n : Nat, v = n := ⟨v.toNat, by omega⟩
    rw [Int.toNat_natCast]
    have HSU := Lib.hid fun (k : Nat) (hk : k < n) => lv_succ hi hk
    have hLn : (lvL n bs).length = n := by simp [lvL]
    obtain ⟨L, hL⟩ : ∃ L, L = lvL n bs := ⟨_, rfl⟩
    rw [← hL] at HSU hLn ⊢
    have HLN := Lib.hid hLn
    clear hc hval hi hL hLn
    go_enter Try.func13, Try.ntmps13
    go_wp2_with fail
    refine HC.out.mono ?_
    rintro e w1 ⟨rfl, hb1⟩
    have q0 := cell_new hb1 0 rfl
    have q1 := cell_new hb1 1 rfl
    have hlt1 := lt_new hb1
    have hbw := below_new hb1
    clear hb1
    go_wp2_with fail
    have ho0 := OwnJ.new0 w1 (base := w.heap.size + 1) (by omega)
    have p0 := cell_past (ob := .cells #[] 2) q0 (by show w.heap.size < _; omega)
    have p1 := cell_past (ob := .cells #[] 2) q1 (by show w.heap.size < _; omega)
    obtain ⟨w2, hw2⟩ : ∃ w2, w1.alloc (.cells #[] 2) = w2 := ⟨_, rfl⟩
    have hz2 : w2.heap.size = w1.heap.size + 1 := by rw [← hw2]; simp
    have hB0 : Below w.heap.size w w2 := by rw [← hw2]; exact hbw.alloc hbw.size _
    rw [hw2] at ho0 p0 p1 ⊢
    have HO0 := Lib.hid ho0
    clear hw2 ho0 q0 q1
    go_loopw [4, 5] (fun o i wr => ∃ k : Nat, k ≤ n ∧ i = .int .i64 k ∧ Below (w.heap.size + 1) w2 wr ∧ OwnJ wr (w.heap.size + 1) o (L.take k) ∧ ∃ a n c, o = .slice a n c) (fun _ i _ => n - (intOf i).toNat)
    case atStart => exact ⟨0, Nat.zero_le _, rfl, Below.refl _ _, by simpa using HO0.out, _, _, _, rfl⟩
    case round =>
      obtain ⟨k, hk, rfl, hB, hO, hform⟩ := hrel
      have hz := hB.size
      have r0 : wr.cell? ⟨w.heap.size, 0, none⟩ = some (.int .i64 (n : Int)) := by rw [hB.cell (by simp)]; exact p0
      have r1 : wr.cell? ⟨w.heap.size, 1, none⟩ = some (.slice a0 bs.length c0) := by rw [hB.cell (by simp)]; exact p1
      have hBw : Below w.heap.size w wr := hB0.trans (hB.mono (by omega))
      obtain ⟨a3, n3, c3, rfl⟩ := hform
      have HO := Lib.hid hO
      have HB := Lib.hid hB
      have HBW := Lib.hid hBw
      clear hO hB hBw
      by_cases hkl : k < n
      · have hS := HSU.out k hkl
        obtain ⟨m, hm⟩ : ∃ m : Nat, m = (idxI (k : Int) bs bs.length).length := ⟨_, rfl⟩
        have hm35 : m ≤ 35 := by
          have := idxI_len (k : Int) bs bs.length
          omega
        rw [← hm] at hS
        have HM := Lib.hid hm
        have HS := Lib.hid hS
        have hl : (L.take k).length ≤ 1000 := by rw [List.length_take, HLN.out]; omega
        obtain ⟨Z, hZ⟩ : ∃ Z, Z = L.take k := ⟨_, rfl⟩
        rw [← hZ] at HO HS hl
        have e1 : IntKind.i64.wrap ((n : Int) - 1) = (n : Int) - 1 := IntWalk.i64_in _ (by omega)
        have e2 : IntKind.i64.wrap (2 * (m : Int)) = 2 * (m : Int) := IntWalk.i64_in _ (by omega)
        have e3 : IntKind.i64.wrap ((n : Int) - 1 - 2 * (m : Int)) = (n : Int) - 1 - 2 * (m : Int) := IntWalk.i64_in _ (by omega)
        obtain ⟨W0, hW0⟩ : ∃ W0, W0 = wr := ⟨_, rfl⟩
        rw [← hW0] at r0 r1 HO HB HBW hz ⊢
        clear hm hS hZ hW0
        go_wp2_with fail
        go_region_held3 (fun w' => w'.cell? ⟨w.heap.size, 0, none⟩ = some (.int .i64 (n : Int)) ∧ w'.cell? ⟨w.heap.size, 1, none⟩ = some (.slice a0 bs.length c0))
          (first
            | exact ⟨f0, f1⟩
            | exact ⟨e0, e4⟩
            | go_keep)
          (first
            | (go_at_call 46; refine (HAT.out (k : Int) _ (by first | exact HBW.out | exact HBW.out.drew)).mono ?_; rintro e w3 ⟨u, rfl, ho3, hb3⟩; (obtain ⟨a5, c5, hu⟩ := OwnJ.formL ho3); rw [← HM.out] at hu; subst hu; have hb3' : Below W0.heap.size W0 w3 := (by first | exact hb3 | exact ((Below.refl _ _).drew).trans (hb3.mono (by simp))); have e0 := (hb3'.cell (p := ⟨w.heap.size, 0, none⟩) (by show w.heap.size < _; omega)).trans r0; have e4 := (hb3'.cell (p := ⟨w.heap.size, 1, none⟩) (by show w.heap.size < _; omega)).trans r1)
            | (refine step_append_int rfl (.tmp 16) (.tmp 26) rfl (w.heap.size + 1) (.slice a3 n3 c3) Z (by simp [Act.eval]) (by first | exact (HO.out.below hb3' (Nat.le_refl _)).below ((Below.refl _ _).alloc (Nat.le_refl _) _) (Nat.le_refl _) | exact (HO.out.below hb3' (Nat.le_refl _)).below (((Below.refl _ _).alloc (Nat.le_refl _) _).drew) (Nat.le_refl _) | exact (HO.out.below hb3' (Nat.le_refl _)).below (((Below.refl _ _).drew).alloc (by simp) _) (Nat.le_refl _)) w3.heap.size 1 ((n : Int) - 1 - 2 * (m : Int)) (by simp [Act.eval]) (by simp [go_sem]) (by omega) (by have := hb3'.size; simp; omega) ?_; intro g cap w4 ho4 hg4; have hb4 : Below (w.heap.size + 1) W0 w4 := ((hb3'.mono (by omega)).alloc (by have := hb3'.size; omega) _).grown (by first | exact hg4 | exact gb_drewL hg4) (by have := hb3'.size; simp; omega) (fun r e => HO.out.row r e); have f0 := (hb4.cell (p := ⟨w.heap.size, 0, none⟩) (by simp)).trans r0; have f1 := (hb4.cell (p := ⟨w.heap.size, 1, none⟩) (by simp)).trans r1))
        all_goals
          go_wp2_with fail
          go_roundw
          case rel => exact ⟨k + 1, by omega, by go_num, HB.out.trans hb4, by rw [HS.out]; exact ho4, _, _, _, rfl⟩
          case measure => simp [intOf]; omega
      · have e : k = n := by omega
        subst e
        have ht : L.take k = L := by rw [← HLN.out, List.take_length]
        rw [ht] at HO
        go_wp2
        go_ret2
        exact ⟨_, rfl, ownsRow_base HO.out (by omega), HBW.out⟩
end Go.Proofs.Ytiomdfhhejdoiaa

namespace Go.Proofs.Ytiomdfhhejdoiaa
open Go.ChangeShapes Go.WideShapes Go.ChangeAt Go.RowKit Go.Deep Go.Joins
theorem ownKnobs : ownKnob Try.prog.godebug = none := by kernel_rfl
section
variable {H : Type} {enc : TypeId × Value → H} {W : World} {base : Nat} {held : Bool}
theorem arrCells : Try.prog.cellsOf 67 = 3 := by kernel_rfl
set_option maxRecDepth 100000 in
theorem open_arr3 {fuel : Nat} {cs : List Value} {x : DataW H × List MemPlace} (h : DataW.trod enc Try.prog W base (fun _ => true) held fuel 67 cs = some x) :
    ∃ a b c : Int, cs = [.int .i64 a, .int .i64 b, .int .i64 c] ∧ (Lit.int .i64 a).wf = true ∧ (Lit.int .i64 b).wf = true ∧ (Lit.int .i64 c).wf = true := by
  obtain ⟨xs, m, rfl, rfl, hl, hx, hat⟩ := DataW.trod_array Try.underlying67 h
  rw [arrCells] at hl
  match cs, hl with
  | [c0, c1, c2], _ =>
    match xs, hx with
    | [x0, x1, x2], _ =>
      have h0 := hat 0 (by omega)
      have h1 := hat 1 (by omega)
      have h2 := hat 2 (by omega)
      rw [int64Cells] at h0 h1 h2
      simp at h0 h1 h2
      obtain ⟨a, ha, _, wa⟩ := DataW.trod_int Try.underlying2 h0
      obtain ⟨b, hb, _, wb⟩ := DataW.trod_int Try.underlying2 h1
      obtain ⟨c, hc, _, wc⟩ := DataW.trod_int Try.underlying2 h2
      simp at ha hb hc
      exact ⟨a, b, c, by rw [ha, hb, hc], wa, wb, wc⟩
theorem add_at (b off i : Nat) : (⟨b, off, none⟩ : Addr).add i = ⟨b, off + i, none⟩ := by
  unfold Addr.add
  split
  · subst_vars; rfl
  · rfl
set_option maxRecDepth 100000 in
theorem open_arrs {fuel : Nat} {s : Value} {x : DataW H × List MemPlace} (h : DataW.trod enc Try.prog W base (fun _ => true) held fuel 22 [s] = some x) : ∃ bs, InB W s bs := by
  rcases open_slice Try.underlying22 h with ⟨hcs, _⟩ | ⟨a, len, cap, m, n, D, Pl, hcs, hb, hl, hm, hmm, hx, hi⟩
  · simp at hcs
    exact ⟨[], by simp, by simp, .inl ⟨none, 0, hcs, rfl⟩⟩
  · simp at hcs
    subst hcs
    simp at hmm
    subst hmm
    have hm' : m ≤ 9223372036854775807 := by unfold maxLen at hm; exact hm
    by_cases h0 : len = 0
    · subst h0
      exact ⟨[], by simp, by simp, .inl ⟨_, _, rfl, rfl⟩⟩
    · have cell : ∀ i, i < m → ∃ y : Blk, WFB y ∧ ∀ j (v : Value), [Value.int .i64 y.a, Value.int .i64 y.b, Value.int .i64 y.c][j]? = some v → W.cell? (a.add (i * 3 + j)) = some v := fun i him => by
        obtain ⟨cs', hc, ht⟩ := hi i him
        obtain ⟨p, q, r, rfl, wp, wq, wr⟩ := open_arr3 ht
        rw [arrCells] at hc
        obtain ⟨_, _, hat⟩ := World.cells?_some hc
        refine ⟨⟨p, q, r⟩, ⟨wp, wq, wr⟩, fun j v hv => ?_⟩
        have hj : j < 3 := by
          have := (List.getElem?_eq_some_iff.1 hv).1
          simpa using this
        rw [← Go.Deep.add_add, hat j hj]
        exact hv
      obtain ⟨F, hF⟩ := choose_lt (α := Blk) cell
      obtain ⟨b, off, spot⟩ := a
      have hc0 := (hF 0 (by omega)).2 0 _ rfl
      have hspot : spot = none := by simpa [Addr.add] using World.cell?_spot hc0
      subst hspot
      refine ⟨(List.range len).map F, ?_, by simp; omega, .inr ⟨b, off, m, by simp, ?_, ?_⟩⟩
      · intro y hy
        obtain ⟨i, hi', rfl⟩ := List.mem_map.1 hy
        exact (hF i (by have := List.mem_range.1 hi'; omega)).1
      · exact block_lt_of_cell hc0
      · intro k hk
        simp at hk
        have e : ((List.range len).map F)[k]?.getD default = F k := by simp [hk]
        rw [e]
        have := (hF k (by omega)).2
        refine ⟨?_, ?_, ?_⟩
        · have h0 := this 0 _ rfl
          rw [add_at] at h0
          exact h0
        · have h1 := this 1 _ rfl
          rw [add_at, ← Nat.add_assoc] at h1
          exact h1
        · have h2 := this 2 _ rfl
          rw [add_at, ← Nat.add_assoc] at h2
          exact h2
theorem isSys : ∃ f0 f1 : Field, Try.prog.underlying 24 = some (.struct #[f0, f1]) ∧ f0.type = 2 ∧ f1.type = 22 ∧ oneCellFields Try.prog #[f0, f1] = true :=
  ⟨_, _, Try.underlying24, rfl, rfl, by kernel_rfl⟩
theorem sysCells : Try.prog.cellsOf 24 = 2 := by kernel_rfl
set_option maxRecDepth 100000 in
theorem open_system {r : Reach} {b0 : Nat} {v : Value} {d : DataW H} {p : List MemPlace} (hv : Value.okWide Try.prog W r b0 24 v) (h : DataW.Trod enc Try.prog W base (fun _ => true) held 24 v d p) :
    ∃ (n : Int) (s : Value) (bs : List Blk), v = .agg #[.int .i64 n, s] ∧ WF n ∧ InB W s bs := by
  obtain ⟨f0, f1, hu, e0, e1, hone⟩ := isSys
  obtain ⟨v0, v1, y0, y1, n, rfl, _, _, h0, h1⟩ := open_agg2 hu hone sysCells hv h
  rw [e0] at h0
  rw [e1] at h1
  obtain ⟨k, hk, _, wk⟩ := DataW.trod_int Try.underlying2 h0
  simp at hk
  subst hk
  obtain ⟨bs, hbs⟩ := open_arrs h1
  exact ⟨k, v1, bs, rfl, wk, hbs⟩
end
end Go.Proofs.Ytiomdfhhejdoiaa

namespace Go.Proofs.Ytiomdfhhejdoiaa
open Go.ChangeShapes Go.WideShapes Go.ChangeAt Go.RowKit Go.Deep Go.Joins
/-- The value is a slice of just these integers, however many. -/
def InZ (w : World) (s : Value) (zs : List Int) : Prop :=
  (∀ z ∈ zs, WF z) ∧ zs.length ≤ 9223372036854775807 ∧ ((∃ a c, s = .slice a 0 c ∧ zs = []) ∨ ∃ b off cap, s = .slice (some ⟨b, off, none⟩) zs.length cap ∧ b < w.heap.size ∧ Ints w b off zs)
theorem InZ.slice {w : World} {s : Value} {zs : List Int} (h : InZ w s zs) : ∃ a c, s = .slice a zs.length c := by
  rcases h.2.2 with ⟨a, c, rfl, rfl⟩ | ⟨b, off, cap, rfl, _⟩ <;> exact ⟨_, _, rfl⟩
theorem InZ.ib {w : World} {s : Value} {zs : List Int} (h : InZ w s zs) (hl : zs.length ≤ 1048576) : IB w s zs := ⟨by omega, h.2.2⟩
/-- The value is a slice of just these rows, however many. -/
def InSS (w : World) (s : Value) (n : Nat) (F : Nat → List Int) : Prop :=
  n ≤ 9223372036854775807 ∧ ((n = 0 ∧ ∃ a c, s = .slice a 0 c) ∨ ∃ b off cap, s = .slice (some ⟨b, off, none⟩) n cap ∧ b < w.heap.size ∧ ∀ k, k < n → ∃ u, w.cell? ⟨b, off + k, none⟩ = some u ∧ InZ w u (F k))
theorem okWide_array {P : Program} {w : World} {r : Reach} {base : Nat} {t : TypeId} {v : Value} {n : Nat} {e : TypeId} (ht : P.underlying t = some (.array n e)) (h : Value.okWide P w r base t v) : ∃ cs, v = .agg cs ∧ cs.size = P.cellsOf t := by
  simp only [Value.okWide, ht] at h
  obtain ⟨cs, h1, h2, _⟩ := h
  exact ⟨cs, h1, h2⟩
section
variable {H : Type} {enc : TypeId × Value → H} {W : World} {base : Nat} {held : Bool}
set_option maxRecDepth 100000 in
theorem open_zs {fuel : Nat} {s : Value} {x : DataW H × List MemPlace} (h : DataW.trod enc Try.prog W base (fun _ => true) held fuel 26 [s] = some x) : ∃ zs, InZ W s zs := by
  rcases open_slice1 Try.underlying26 int64Cells h with ⟨hcs, _⟩ | ⟨a, len, cap, m, n, V, D, Pl, hcs, hb, hl, hm, hmm, hx, hi⟩
  · simp at hcs
    exact ⟨[], by simp, by simp, .inl ⟨none, 0, hcs, rfl⟩⟩
  · simp at hcs
    subst hcs
    simp at hmm
    subst hmm
    have hm' : m ≤ 9223372036854775807 := by unfold maxLen at hm; exact hm
    by_cases h0 : len = 0
    · subst h0
      exact ⟨[], by simp, by simp, .inl ⟨_, _, rfl, rfl⟩⟩
    · have cell : ∀ i, i < m → ∃ y : Int, WF y ∧ W.cell? (a.add i) = some (.int .i64 y) := fun i him => by
        obtain ⟨hc, ht⟩ := hi i him
        obtain ⟨k, hk, _, wk⟩ := DataW.trod_int Try.underlying2 ht
        simp at hk
        exact ⟨k, wk, by rw [hc, hk]⟩
      obtain ⟨F, hF⟩ := choose_lt (α := Int) cell
      obtain ⟨b, off, spot⟩ := a
      have hc0 := (hF 0 (by omega)).2
      have hspot : spot = none := by simpa [Addr.add] using World.cell?_spot hc0
      subst hspot
      refine ⟨(List.range len).map F, ?_, by simp; omega, .inr ⟨b, off, m, by simp, ?_, ?_⟩⟩
      · intro y hy
        obtain ⟨i, hi', rfl⟩ := List.mem_map.1 hy
        exact (hF i (by have := List.mem_range.1 hi'; omega)).1
      · exact block_lt_of_cell hc0
      · intro k hk
        simp at hk
        have e : ((List.range len).map F)[k]?.getD 0 = F k := by simp [hk]
        rw [e]
        have h1 := (hF k (by omega)).2
        rw [add_at] at h1
        exact h1
set_option maxRecDepth 100000 in
theorem open_ints64 {r : Reach} {b0 : Nat} {v : Value} {d : DataW H} {p : List MemPlace} (hv : Value.okWide Try.prog W r b0 26 v) (h : DataW.Trod enc Try.prog W base (fun _ => true) held 26 v d p) : ∃ zs, InZ W v zs := by
  obtain ⟨a, len, cap, rfl⟩ := okWide_slice Try.underlying26 hv
  obtain ⟨fuel, hf⟩ := h
  exact open_zs hf
set_option maxRecDepth 100000 in
theorem open_blocks {r : Reach} {b0 : Nat} {v : Value} {d : DataW H} {p : List MemPlace} (hv : Value.okWide Try.prog W r b0 22 v) (h : DataW.Trod enc Try.prog W base (fun _ => true) held 22 v d p) : ∃ bs, InB W v bs := by
  obtain ⟨a, len, cap, rfl⟩ := okWide_slice Try.underlying22 hv
  obtain ⟨fuel, hf⟩ := h
  exact open_arrs hf
theorem sliceCells : Try.prog.cellsOf 26 = 1 := by kernel_rfl
set_option maxRecDepth 100000 in
theorem open_rows {r : Reach} {b0 : Nat} {v : Value} {d : DataW H} {p : List MemPlace} (hv : Value.okWide Try.prog W r b0 44 v) (h : DataW.Trod enc Try.prog W base (fun _ => true) held 44 v d p) : ∃ n F, InSS W v n F := by
  obtain ⟨A0, L0, C0, rfl⟩ := okWide_slice Try.underlying44 hv
  obtain ⟨fuel, hf⟩ := h
  have hf' : DataW.trod enc Try.prog W base (fun _ => true) held fuel 44 [.slice A0 L0 C0] = some (d, p) := hf
  rcases open_slice1 Try.underlying44 sliceCells hf' with ⟨hcs, _⟩ | ⟨a, len, cap, m, n, V, D, Pl, hcs, hb, hl, hm, hmm, hx, hi⟩
  · simp at hcs
    obtain ⟨rfl, rfl, rfl⟩ := hcs
    exact ⟨0, fun _ => [], by omega, .inl ⟨rfl, _, _, rfl⟩⟩
  · simp at hcs
    obtain ⟨e1, e2, e3⟩ := hcs
    subst e1
    subst e2
    subst e3
    simp at hmm
    subst hmm
    have hm' : m ≤ 9223372036854775807 := by unfold maxLen at hm; exact hm
    by_cases h0 : L0 = 0
    · subst h0
      exact ⟨0, fun _ => [], by omega, .inl ⟨rfl, _, _, rfl⟩⟩
    · have cell : ∀ i, i < m → ∃ y : List Int, ∃ u, W.cell? (a.add i) = some u ∧ InZ W u y := fun i him => by
        obtain ⟨hc, ht⟩ := hi i him
        obtain ⟨zs, hz⟩ := open_zs ht
        exact ⟨zs, _, hc, hz⟩
      obtain ⟨F, hF⟩ := choose_lt (α := List Int) cell
      obtain ⟨b, off, spot⟩ := a
      obtain ⟨u0, hc0, _⟩ := hF 0 (by omega)
      have hspot : spot = none := by simpa [Addr.add] using World.cell?_spot hc0
      subst hspot
      refine ⟨L0, F, by omega, .inr ⟨b, off, m, rfl, block_lt_of_cell hc0, fun k hk => ?_⟩⟩
      obtain ⟨u, h1, h2⟩ := hF k (by omega)
      rw [add_at] at h1
      exact ⟨u, h1, h2⟩
set_option maxRecDepth 100000 in
theorem open_blk {r : Reach} {b0 : Nat} {v : Value} {d : DataW H} {p : List MemPlace} (hv : Value.okWide Try.prog W r b0 67 v) (h : DataW.Trod enc Try.prog W base (fun _ => true) held 67 v d p) : ∃ x, v = bv x ∧ WFB x := by
  obtain ⟨cs, rfl, hsz⟩ := okWide_array Try.underlying67 hv
  obtain ⟨fuel, hf⟩ := h
  obtain ⟨a, b, c, e, wa, wb, wc⟩ := open_arr3 hf
  have : cs.toList = [.int .i64 a, .int .i64 b, .int .i64 c] := e
  refine ⟨⟨a, b, c⟩, ?_, wa, wb, wc⟩
  unfold bv
  rw [← this]
end
end Go.Proofs.Ytiomdfhhejdoiaa

namespace Go.Proofs.Ytiomdfhhejdoiaa
open Go.RowKit Go.Maps
structure CS (w : World) (v p : Int) (s sW s8 sG : Value) (XW X XG i0 i1 j1 j2 k1 k2 : Nat) (LW L8 LG : List Blk) (W : World) : Prop where
  st : St1 w v s W
  o0 : w.heap.size < i0
  o1 : i0 ≤ i1
  o2 : i1 ≤ XW
  o3 : XW < j1
  o4 : j1 ≤ j2
  o5 : j2 ≤ X
  o6 : X < k1
  o7 : k1 ≤ k2
  o8 : k2 ≤ XG
  rW : ResR W i0 i1 sW LW
  vW : VarB W XW p sW
  r8 : ResR W j1 j2 s8 L8
  vX : VarB W X v s8
  rG : ResR W k1 k2 sG LG
  vG : VarB W XG p sG
section
variable {w : World} {v p : Int} {s sW s8 sG : Value} {XW X XG i0 i1 j1 j2 k1 k2 : Nat} {LW L8 LG : List Blk} {W W' : World}
theorem CS.step (h : CS w v p s sW s8 sG XW X XG i0 i1 j1 j2 k1 k2 LW L8 LG W) (hg : W.grownBy W' none) : CS w v p s sW s8 sG XW X XG i0 i1 j1 j2 k1 k2 LW L8 LG W' :=
  ⟨h.st.step hg (by simp), h.o0, h.o1, h.o2, h.o3, h.o4, h.o5, h.o6, h.o7, h.o8, h.rW.kept hg (by simp), h.vW.step hg (by simp), h.r8.kept hg (by simp), h.vX.step hg (by simp), h.rG.kept hg (by simp), h.vG.step hg (by simp)⟩
theorem CS.mark8 (h : CS w v p s sW s8 sG XW X XG i0 i1 j1 j2 k1 k2 LW L8 LG W) {row : Option Nat} (hg : W.grownBy W' row) (hr : ∀ r, row = some r → j1 ≤ r ∧ r < j2) {L : List Blk} (hn : ResR W' j1 j2 s8 L) :
    CS w v p s sW s8 sG XW X XG i0 i1 j1 j2 k1 k2 LW L LG W' := by
  obtain ⟨st, o0, o1, o2, o3, o4, o5, o6, o7, o8, rW, vW, r8, vX, rG, vG⟩ := h
  exact ⟨st.step hg (fun r e => by have := hr r e; omega), o0, o1, o2, o3, o4, o5, o6, o7, o8, rW.kept hg (fun r e => by have := hr r e; omega), vW.step hg (fun e => by have := hr _ e; omega), hn, vX.step hg (fun e => by have := hr _ e; omega), rG.kept hg (fun r e => by have := hr r e; omega), vG.step hg (fun e => by have := hr _ e; omega)⟩
theorem CS.markG (h : CS w v p s sW s8 sG XW X XG i0 i1 j1 j2 k1 k2 LW L8 LG W) {row : Option Nat} (hg : W.grownBy W' row) (hr : ∀ r, row = some r → k1 ≤ r ∧ r < k2) {L : List Blk} (hn : ResR W' k1 k2 sG L) :
    CS w v p s sW s8 sG XW X XG i0 i1 j1 j2 k1 k2 LW L8 L W' := by
  obtain ⟨st, o0, o1, o2, o3, o4, o5, o6, o7, o8, rW, vW, r8, vX, rG, vG⟩ := h
  exact ⟨st.step hg (fun r e => by have := hr r e; omega), o0, o1, o2, o3, o4, o5, o6, o7, o8, rW.kept hg (fun r e => by have := hr r e; omega), vW.step hg (fun e => by have := hr _ e; omega), r8.kept hg (fun r e => by have := hr r e; omega), vX.step hg (fun e => by have := hr _ e; omega), hn, vG.step hg (fun e => by have := hr _ e; omega)⟩
end
end Go.Proofs.Ytiomdfhhejdoiaa


/- The outline's ascending list. BlockGraphDegrees of the model. How the laws' arguments are read. How the laws' other arguments are read: slices of integers, slices of blocks, a block, rows. What a law over one system whose result is a system knows of the memory between two of its steps. The law FnExactBlockGraphDegrees returns true. The dump's head word by word, cheaply: what every row asks of it. -/
import Derived.Test.YtahgialnhomefaaJ10
import Derived.Test.YtahgialnhomefaaRows
import Derived.ProofKit
import Derived.OpenShut
import Derived.Deep.Slices
import Derived.Lib.SmallJoins
import Derived.ChangeOld
import Derived.Deep.RegionWith
import Derived.Deep.DeepCutAuto
namespace Go.Proofs.Ytahgialnhomefaa
open Go.RowKit Go.Maps
def ins (s : List Int) (j : Nat) (y : Int) : List Int := s.take j ++ y :: s.drop j
theorem ins_len (s : List Int) (j : Nat) (y : Int) : (ins s j y).length = s.length + 1 := by
  unfold ins
  simp
  omega
theorem ins_end (s : List Int) (y : Int) : ins s s.length y = s ++ [y] := by simp [ins]
theorem ins_set (s : List Int) (j : Nat) (y x : Int) (h : j ≤ s.length) : (ins s j y).set j x = ins s j x := by
  have e : (s.take j).length = j := by rw [List.length_take]; omega
  unfold ins
  rw [List.set_append_right _ _ (by omega), e, Nat.sub_self, List.set_cons_zero]
theorem ins_get (s : List Int) (j : Nat) (y : Int) (h : j < s.length) : (ins s (j + 1) y)[j]?.getD 0 = s[j]?.getD 0 := by
  unfold ins
  rw [List.getElem?_append_left (by rw [List.length_take]; omega), List.getElem?_take_of_lt (by omega)]
theorem ins_shift (s : List Int) (j : Nat) (y : Int) (h : j < s.length) : (ins s (j + 1) y).set (j + 1) (s[j]?.getD 0) = ins s j (s[j]?.getD 0) := by
  rw [ins_set s (j + 1) y _ (by omega)]
  unfold ins
  rw [List.take_add_one, List.getElem?_eq_getElem h, List.append_assoc]
  conv => rhs; rw [List.drop_eq_getElem_cons h]
  simp
theorem ins_perm {s zs : List Int} {k : Nat} {x : Int} (hp : s.Perm (zs.take k)) (hx : zs.take (k + 1) = zs.take k ++ [x]) (j : Nat) : (ins s j x).Perm (zs.take (k + 1)) := by
  unfold ins
  refine List.perm_middle.trans ?_
  rw [List.take_append_drop, hx]
  exact (hp.cons x).trans (List.perm_append_comm (l₁ := [x]) (l₂ := zs.take k))
theorem ins_sorted {s : List Int} {j : Nat} {x : Int} (hs : s.Pairwise (· ≤ ·)) (_hj : j ≤ s.length) (hle : ∀ z ∈ s.take j, z ≤ x) (hgt : ∀ z ∈ s.drop j, x < z) : (ins s j x).Pairwise (· ≤ ·) := by
  have h0 := hs
  rw [← List.take_append_drop j s, List.pairwise_append] at h0
  unfold ins
  rw [List.pairwise_append, List.pairwise_cons]
  refine ⟨h0.1, ⟨fun z hz => by have := hgt z hz; omega, h0.2.1⟩, fun p hp q hq => ?_⟩
  rcases List.mem_cons.1 hq with rfl | hq
  · exact hle p hp
  · exact h0.2.2 p hp q hq
theorem sorted_le {s : List Int} {j : Nat} {x : Int} (hs : s.Pairwise (· ≤ ·)) (hj : j < s.length) (h : s[j]?.getD 0 ≤ x) : ∀ z ∈ s.take (j + 1), z ≤ x := by
  rw [List.getElem?_eq_getElem hj, Option.getD_some] at h
  intro z hz
  obtain ⟨i, hi, rfl⟩ := List.mem_iff_getElem.1 hz
  rw [List.length_take] at hi
  rw [List.getElem_take]
  rcases Nat.lt_or_ge i j with h1 | h1
  · have := List.pairwise_iff_getElem.1 hs i j (by omega) hj h1
    omega
  · have e : i = j := by omega
    subst e
    exact h
theorem OwnJ.setT {w : World} {base g n cap : Nat} {zs : List Int} (h : OwnJ w base (.slice (some ⟨g, 0, none⟩) n cap) zs) {i : Nat} {x : Int} (_hi : i < zs.length) :
    OwnJ (w.setCell ⟨g, i, none⟩ (.int .i64 x)) base (.slice (some ⟨g, 0, none⟩) n cap) (zs.set i x) ∧ w.grownBy (w.setCell ⟨g, i, none⟩ (.int .i64 x)) (some g) := by
  refine ⟨?_, only_setCell (only_refl w (some g)) rfl _⟩
  obtain ⟨_, h | ⟨g', cap', cur, e, hb, hcur, hn, hc, hsz, hx⟩⟩ := h
  · simp at h
  · simp at e
    obtain ⟨rfl, rfl, rfl⟩ := e
    have hl : (zs.set i x).length = zs.length := List.length_set
    unfold OwnJ
    rw [hl]
    refine ⟨by simp, .inr ⟨g, cap, cur.setIfInBounds i (.int .i64 x), rfl, hb, heap_setCell_same w g i cur _ _ hcur, hn, hc, by simp [hsz], ?_⟩⟩
    rw [Array.toList_setIfInBounds, List.take_set, hx, List.map_set]
theorem OwnJ.at_ {w : World} {base g n cap : Nat} {zs : List Int} (h : OwnJ w base (.slice (some ⟨g, 0, none⟩) n cap) zs) {i : Nat} (hi : i < zs.length) : w.cell? ⟨g, i, none⟩ = some (.int .i64 (zs[i]?.getD 0)) ∧ base ≤ g ∧ g < w.heap.size ∧ n = zs.length ∧ w.frozen? ⟨g, i, none⟩ = false := by
  obtain ⟨_, h | ⟨g', cap', cur, e, hb, hcur, hn, hc, hsz, hx⟩⟩ := h
  · simp at h
  · simp at e
    obtain ⟨rfl, rfl, rfl⟩ := e
    refine ⟨?_, hb, (Array.getElem?_eq_some_iff.1 hcur).1, rfl, by simp [World.frozen?, hcur]⟩
    have e : (zs.map (Value.int .i64))[i]? = some (.int .i64 zs[i]) := by simp [hi]
    rw [← hx, List.getElem?_take_of_lt (by omega)] at e
    rw [List.getElem?_eq_getElem hi, Option.getD_some]
    simp [World.cell?, hcur]
    simpa using e
set_option maxRecDepth 100000 in
set_option maxHeartbeats 2000000 in
theorem l03Ascending_any (b0 off cap : Nat) (zs : List Int) (w : World) (h : Ints w b0 off zs) (hlt : b0 < w.heap.size) (hl : zs.length ≤ 1000) :
    Calls Try.prog 60 #[.slice (some ⟨b0, off, none⟩) zs.length cap] w (fun e w' => ∃ u, e = .returned u ∧ (∃ g c, u = .slice (some ⟨g, 0, none⟩) zs.length c) ∧ OwnJ w' w.heap.size u (ascL zs) ∧ Below w.heap.size w w') := by
  have HI := Lib.hid h
  obtain ⟨m, hm⟩ : ∃ m, m = zs.length := ⟨_, rfl⟩
  have HM := Lib.hid hm
  rw [← hm] at hl ⊢
  clear h hm
  obtain ⟨W0, rfl⟩ : ∃ W0, W0 = w := ⟨_, rfl⟩
  go_enter Try.func60, Try.ntmps60
  go_wp2_with fail
  go_loopw [3, 4, 5] (fun o i _ wr => ∃ (k : Nat) (s : List Int) (g c : Nat), k ≤ m ∧ i = .int .i64 k ∧ o = .slice (some ⟨g, 0, none⟩) k c ∧ Below W0.heap.size W0 wr ∧ OwnJ wr W0.heap.size (.slice (some ⟨g, 0, none⟩) k c) s ∧ Hid (s.Perm (zs.take k) ∧ s.Pairwise (· ≤ ·) ∧ s.length = k)) (fun _ i _ _ => m - (intOf i).toNat)
  case atStart => exact ⟨0, [], _, _, Nat.zero_le _, rfl, rfl, (Below.refl _ _).alloc (Nat.le_refl _) _, OwnJ.new0 _ (Nat.le_refl _), Lib.hid ⟨by simp, List.Pairwise.nil, rfl⟩⟩
  case round =>
    obtain ⟨k, s, g, c, hk, rfl, rfl, hB, hO, HP⟩ := hrel
    have hz := hB.size
    by_cases hkl : k < m
    · have q := (hB.cell (p := ⟨b0, off + k, none⟩) hlt).trans (HI.out k (by rw [← HM.out]; exact hkl))
      have hxk : zs.take (k + 1) = zs.take k ++ [zs[k]?.getD 0] := by
        have hk' : k < zs.length := by rw [← HM.out]; exact hkl
        rw [List.take_add_one, List.getElem?_eq_getElem hk']
        rfl
      obtain ⟨x, hx⟩ : ∃ x, x = zs[k]?.getD 0 := ⟨_, rfl⟩
      rw [← hx] at q hxk
      have HXK := Lib.hid hxk
      have HO := Lib.hid hO
      have HB := Lib.hid hB
      have HQ := Lib.hid q
      have g0 : (0 : Int) ≤ (k : Int) := by omega
      have g1 : (k : Int) < (m : Int) := by omega
      clear hx hxk hB hO
      go_wp2_with (at_builtin; refine wpList_append_int rfl _ _ rfl W0.heap.size _ s rfl (HO.out.below ((Below.refl _ _).alloc (Nat.le_refl _) _) (Nat.le_refl _)) _ _ x rfl (by simp [go_sem]) (by have := HP.out.2.2; omega) (by simp; omega) ?_; intro g' cap' w4 hO4 hg4)
      have hrow := HO.out.row
      have hgo : wr.grownBy w4 (some g) := ⟨hg4.os, hg4.tape, hg4.output, by have := hg4.size; simp at this; omega, fun i hi hne => by
        rw [hg4.block i (by simp; omega) hne, Below.heap_alloc _ _ _ hi]⟩
      have hB4 := HB.out.grown hgo hz (fun r e => hrow r e)
      rw [HP.out.2.2] at hO4 ⊢
      have hz4 := hB4.size
      have HO4 := Lib.hid hO4
      have HB4 := Lib.hid hB4
      clear hg4 hgo hrow hO4 hB4 q
      go_wp2_with fail
      go_loopw [5] (fun t wr' => ∃ (j : Nat) (y : Int), j ≤ k ∧ t = .int .i64 j ∧ Below W0.heap.size W0 wr' ∧ OwnJ wr' W0.heap.size (.slice (some ⟨g', 0, none⟩) (k + 1) cap') (ins s j y) ∧ Hid (∀ z ∈ s.drop j, x < z)) (fun t _ => (intOf t).toNat)
      case atStart => exact ⟨k, x, Nat.le_refl _, rfl, HB4.out, by have := HP.out.2.2; rw [← this, ins_end, this]; exact HO4.out, Lib.hid (by rw [List.drop_of_length_le (by have := HP.out.2.2; omega)]; simp)⟩
      case round =>
        obtain ⟨j, y, hjk, rfl, hB5, hO5, HGT⟩ := hrel
        have hz5 := hB5.size
        have q5 := (hB5.cell (p := ⟨b0, off + k, none⟩) hlt).trans ((HB.out.cell (p := ⟨b0, off + k, none⟩) hlt).symm.trans HQ.out)
        have hO6a := Lib.hid hO5
        have hB6a := Lib.hid hB5
        have hls := HP.out.2.2
        have hAt := hO5.at_ (i := j) (by rw [ins_len]; omega)
        have hgl := hAt.2.1
        have fz := hAt.2.2.2.2
        have c6 := hAt.1
        generalize (ins s j y)[j]?.getD 0 = old at c6
        rcases Nat.eq_zero_or_pos j with rfl | hj0
        · have hjs : 0 ≤ s.length := Nat.zero_le _
          have HLE := Lib.hid (show ∀ z ∈ s.take 0, z ≤ x by simp)
          have i1 : decide ((0 : Int) < ((0 : Nat) : Int)) = false := by simp
          clear hB5 hO5 hAt
          go_wp2
          go_quiet (fail)
          have hB6 := Lib.hid (below_drewN hB6a.out nq)
          have hO6 := Lib.hid (show OwnJ (wr.drewN nq) _ _ _ from hO6a.out)
          have hs6 := hO6.out.setT (i := 0) (x := x) (by rw [ins_len]; omega)
          rw [ins_set s 0 y x hjs] at hs6
          have hB7 := hB6.out.grown hs6.2 (by have := hB6.out.size; omega) (fun r e => by cases e; exact hgl)
          have HS6 := Lib.hid hs6.1
          have HB7 := Lib.hid hB7
          have HFIN := Lib.hid (show (ins s 0 x).Perm (zs.take (k + 1)) ∧ (ins s 0 x).Pairwise (· ≤ ·) ∧ (ins s 0 x).length = k + 1 from ⟨ins_perm HP.out.1 HXK.out 0, ins_sorted HP.out.2.1 hjs HLE.out HGT.out, by rw [ins_len, HP.out.2.2]⟩)
          clear hs6 hB7
          go_wp2
          go_roundw
          case rel => exact ⟨k + 1, ins s 0 x, g', cap', by omega, by go_num, rfl, HB7.out, HS6.out, HFIN⟩
          case measure => simp [intOf]; omega
        · obtain ⟨j', rfl⟩ : ∃ j', j = j' + 1 := ⟨j - 1, by omega⟩
          have hjk2 : j' < s.length := by omega
          have hv := ins_get s j' y hjk2
          have hsh := ins_shift s j' y hjk2
          have hA2 := hO5.at_ (i := j') (by rw [ins_len]; omega)
          have c5 := hA2.1
          have fz2 := hA2.2.2.2.2
          rw [hv] at c5
          obtain ⟨v, hvv⟩ : ∃ v, v = s[j']?.getD 0 := ⟨_, rfl⟩
          rw [← hvv] at c5 hsh
          have hdr : s.drop j' = v :: s.drop (j' + 1) := by rw [List.drop_eq_getElem_cons hjk2, hvv, List.getElem?_eq_getElem hjk2]; rfl
          have HDR := Lib.hid hdr
          have HSH := Lib.hid hsh
          have HVV := Lib.hid hvv
          have i1 : decide ((0 : Int) < (j' : Int) + 1) = true := by simp
          have e5 : ((j' + 1 : Nat) : Int) = (j' : Int) + 1 := by omega
          rw [e5]
          clear hB5 hO5 hAt hA2 hv hsh hvv hdr hls
          by_cases hc : x < v
          · have i2 : decide (x < v) = true := decide_eq_true hc
            go_wp2
            go_quiet (fail)
            have hB6 := Lib.hid (below_drewN hB6a.out nq)
            have hO6 := Lib.hid (show OwnJ (wr.drewN nq) _ _ _ from hO6a.out)
            have hs6 := hO6.out.setT (i := j' + 1) (x := v) (by rw [ins_len]; omega)
            rw [HSH.out] at hs6
            have hB7 := hB6.out.grown hs6.2 (by have := hB6.out.size; omega) (fun r e => by cases e; exact hgl)
            have HS6 := Lib.hid hs6.1
            have HB7 := Lib.hid hB7
            have HGT2 := Lib.hid (show ∀ z ∈ s.drop j', x < z by
              rw [HDR.out]
              intro z hz
              rcases List.mem_cons.1 hz with rfl | hz
              · exact hc
              · exact HGT.out z hz)
            clear hs6 hB7
            go_wp2
            go_roundw
            case rel => exact ⟨j', v, by omega, by go_num, HB7.out, HS6.out, HGT2⟩
            case measure => simp [intOf] <;> omega
          · have i2 : decide (x < v) = false := decide_eq_false hc
            have hjs : j' + 1 ≤ s.length := hjk2
            have HLE := Lib.hid (sorted_le HP.out.2.1 hjk2 (x := x) (by rw [← HVV.out]; omega))
            go_wp2
            go_quiet (fail)
            have hB6 := Lib.hid (below_drewN hB6a.out nq)
            have hO6 := Lib.hid (show OwnJ (wr.drewN nq) _ _ _ from hO6a.out)
            have hs6 := hO6.out.setT (i := (j' + 1)) (x := x) (by rw [ins_len]; omega)
            rw [ins_set s (j' + 1) y x hjs] at hs6
            have hB7 := hB6.out.grown hs6.2 (by have := hB6.out.size; omega) (fun r e => by cases e; exact hgl)
            have HS6 := Lib.hid hs6.1
            have HB7 := Lib.hid hB7
            have HFIN := Lib.hid (show (ins s (j' + 1) x).Perm (zs.take (k + 1)) ∧ (ins s (j' + 1) x).Pairwise (· ≤ ·) ∧ (ins s (j' + 1) x).length = k + 1 from ⟨ins_perm HP.out.1 HXK.out (j' + 1), ins_sorted HP.out.2.1 hjs HLE.out HGT.out, by rw [ins_len, HP.out.2.2]⟩)
            clear hs6 hB7
            go_wp2
            go_roundw
            case rel => exact ⟨k + 1, ins s (j' + 1) x, g', cap', by omega, by go_num, rfl, HB7.out, HS6.out, HFIN⟩
            case measure => simp [intOf]; omega
    · have e : k = m := by omega
      subst e
      have e2 : s = ascL zs := ascL_of (by have := HP.out.1; rw [HM.out, List.take_length] at this; exact this) HP.out.2.1
      subst e2
      clear HP
      go_wp2
      go_ret
      exact ⟨_, rfl, ⟨_, _, rfl⟩, hO, hB⟩
end Go.Proofs.Ytahgialnhomefaa

namespace Go.Proofs.Ytahgialnhomefaa
open Go.RowKit Go.Maps
/-- The degrees while that of the block i is being counted. -/
def bgs (bs : List Blk) (i : Nat) (c : Int) : List Int := (List.range bs.length).map fun q => if q < i then ((meetI (bs[q]?.getD default) q bs bs.length).length : Int) else if q = i then c else 0
theorem bgs_len (bs : List Blk) (i : Nat) (c : Int) : (bgs bs i c).length = bs.length := by simp [bgs]
theorem bgs_at {bs : List Blk} {i : Nat} (c : Int) (h : i < bs.length) : (bgs bs i c)[i]?.getD 0 = c := by simp [bgs, h]
theorem bgs_set {bs : List Blk} {i : Nat} (c d : Int) (h : i < bs.length) : (bgs bs i c).set i d = bgs bs i d := by
  apply List.ext_getElem?
  intro m
  by_cases hm : m = i
  · subst hm
    rw [List.getElem?_set_self (by rw [bgs_len]; exact h)]
    simp [bgs, h]
  · rw [List.getElem?_set_ne (fun e => hm e.symm)]
    simp only [bgs, List.getElem?_map]
    by_cases hml : m < bs.length
    · simp [hml, hm]
    · simp [hml]
theorem bgs_zero (bs : List Blk) : bgs bs 0 0 = List.replicate bs.length 0 := by
  apply List.ext_getElem?
  intro m
  simp only [bgs, List.getElem?_map, List.getElem?_replicate]
  by_cases hml : m < bs.length
  · simp [hml]
  · simp [hml]
theorem bgs_next {bs : List Blk} {i : Nat} : bgs bs i ((meetI (bs[i]?.getD default) i bs bs.length).length : Int) = bgs bs (i + 1) 0 := by
  apply List.map_congr_left
  intro q _
  by_cases h1 : q < i
  · rw [if_pos h1, if_pos (by omega)]
  · rw [if_neg h1]
    by_cases h2 : q = i
    · subst h2; rw [if_pos rfl, if_pos (by omega)]
    · rw [if_neg h2, if_neg (by omega)]; split <;> rfl
theorem bgs_end (bs : List Blk) : bgs bs bs.length 0 = bgd bs bs.length := by
  apply List.map_congr_left
  intro q hq
  rw [if_pos (List.mem_range.1 hq)]
set_option maxRecDepth 100000 in
set_option maxHeartbeats 2000000 in
theorem specBlockGraphDegrees_any (v : Int) (s : Value) (bs : List Blk) (w : World) (h : SB w s bs) :
    Calls Try.prog 40 #[.agg #[.int .i64 v, s]] w (RJ (bgdF v bs) w) := by
  have hs := h.slice
  have hc := l01Is_any v s bs (w.alloc (.cells #[.int .i64 v, s] 30)) (h.below ((Below.refl _ _).alloc (Nat.le_refl _) _) (Nat.le_refl _))
  have HSB := Lib.hid h
  clear h
  obtain ⟨a0, c0, rfl⟩ := hs
  cases hi : isSysImpl v bs with
  | false =>
    have HV := Lib.hid (show bgdF v bs = ([], 1) by simp [bgdF, hi])
    rw [HV.out]
    rw [hi] at hc
    have HC := Lib.hid hc
    clear hi HSB HV hc
    go_enter Try.func40, Try.ntmps40
    go_wp2_with fail
    refine HC.out.mono ?_
    rintro e w1 ⟨rfl, hb1⟩
    have hb2 := below_new hb1
    clear hb1
    go_wp2
    go_ret2
    exact ⟨_, rfl, OwnJ.nil _ _, hb2⟩
  | true =>
    obtain ⟨hv3, hv15, hb35⟩ := sys_size hi
    have HV := Lib.hid (show bgdF v bs = (bgd bs bs.length, 0) by simp [bgdF, hi])
    rw [HV.out]
    rw [hi] at hc
    have HC := Lib.hid hc
    clear hi hc HV hv3 hv15
    have hmk := mkRow bs.length (by omega)
    go_enter Try.func40, Try.ntmps40
    go_wp2_with fail
    refine HC.out.mono ?_
    rintro e w1 ⟨rfl, hb1⟩
    have hb2 := below_new hb1
    have p1 := cell_new hb1 1 rfl
    have hl1 := block_lt_of_cell p1
    have HB1 := Lib.hid hb2
    clear hb1 hb2 HC
    go_wp2
    have ho0 := OwnJ.made0 w1 (base := w1.heap.size) bs.length (by omega) (Nat.le_refl _)
    rw [← bgs_zero] at ho0
    have hB0 : Below w1.heap.size w1 (w1.alloc (.cells (madeCells #[.int .i64 0] bs.length) 2)) := (Below.refl _ _).alloc (Nat.le_refl _) _
    obtain ⟨w2, hw2⟩ : ∃ w2, w1.alloc (.cells (madeCells #[.int .i64 0] bs.length) 2) = w2 := ⟨_, rfl⟩
    rw [hw2] at ho0 hB0 ⊢
    have HO0 := Lib.hid ho0
    have HB0 := Lib.hid hB0
    have HSB1 := Lib.hid (HSB.out.below HB1.out (Nat.le_refl _))
    clear hw2 ho0 hB0 hmk
    obtain ⟨G, hG⟩ : ∃ G, G = w1.heap.size := ⟨_, rfl⟩
    rw [← hG] at HO0 HB0 ⊢
    have HGG := Lib.hid hG
    clear hG
    go_loopw [5] (fun i wr => ∃ k : Nat, k ≤ bs.length ∧ i = .int .i64 k ∧ Below w1.heap.size w1 wr ∧ OwnJ wr w1.heap.size (.slice (some ⟨G, 0, none⟩) bs.length bs.length) (bgs bs k 0)) (fun i _ => bs.length - (intOf i).toNat)
    case atStart => exact ⟨0, Nat.zero_le _, rfl, by rw [← HGG.out]; exact HB0.out, by rw [← HGG.out]; exact HO0.out⟩
    case round =>
      obtain ⟨j, hj, rfl, hB, hO⟩ := hrel
      have r1 := (hB.cell (p := ⟨w.heap.size, 1, none⟩) hl1).trans p1
      have HB := Lib.hid hB
      have HO := Lib.hid hO
      clear hB hO
      by_cases hjl : j < bs.length
      · have g2 : (0 : Int) ≤ (j : Int) := by omega
        have g3 : (j : Int) < (bs.length : Int) := by omega
        go_wp2_with fail
        clear r1
        go_loopw [6] (fun i wr => ∃ k : Nat, k ≤ bs.length ∧ i = .int .i64 k ∧ Below w1.heap.size w1 wr ∧ OwnJ wr w1.heap.size (.slice (some ⟨G, 0, none⟩) bs.length bs.length) (bgs bs j ((meetI (bs[j]?.getD default) j bs k).length : Int))) (fun i _ => bs.length - (intOf i).toNat)
        case atStart => exact ⟨0, Nat.zero_le _, rfl, HB.out, HO.out⟩
        case round =>
          obtain ⟨k, hk, rfl, hB, hO⟩ := hrel
          have r1 := (hB.cell (p := ⟨w.heap.size, 1, none⟩) hl1).trans p1
          by_cases hkl : k < bs.length
          · rcases HSB1.out.2.2 with ⟨_, _, _, hnil⟩ | ⟨b, off, cap, hv, hblt, hbl⟩
            · exfalso; rw [hnil] at hj hjl; simp at hjl
            simp at hv
            obtain ⟨rfl, rfl⟩ := hv
            obtain ⟨y1, y2, y3⟩ := (hbl.below hB hblt) k hkl
            obtain ⟨x1, x2, x3⟩ := (hbl.below hB hblt) j hjl
            have hsu := meetI_succ (bs[j]?.getD default) j bs k
            have hln := meetI_len (bs[j]?.getD default) j bs k
            obtain ⟨x, hx⟩ : ∃ x, x = bs[j]?.getD default := ⟨_, rfl⟩
            obtain ⟨y, hy⟩ : ∃ y, y = bs[k]?.getD default := ⟨_, rfl⟩
            rw [← hy] at y1 y2 y3 hsu
            rw [← hx] at x1 x2 x3 hsu hln hO ⊢
            have HCM := Lib.hid fun W => l01Common_any x y W
            rw [touch_common] at hsu
            obtain ⟨n, hnn⟩ : ∃ n, n = commonN x y := ⟨_, rfl⟩
            rw [← hnn] at HCM hsu
            have g0 : (0 : Int) ≤ (k : Int) := by omega
            have g1 : (k : Int) < (bs.length : Int) := by omega
            have HSU := Lib.hid hsu
            have HO := Lib.hid hO
            have HB := Lib.hid hB
            clear hbl hnn hsu hO hy hx
            obtain ⟨ya, yb, yc⟩ := y
            obtain ⟨xa, xb, xc⟩ := x
            unfold bv at HCM
            dsimp only at y1 y2 y3 x1 x2 x3 HCM
            have y1 := cell_regrown y1
            have y2 := cell_regrown y2
            have y3 := cell_regrown y3
            have x1 := cell_regrown x1
            have x2 := cell_regrown x2
            have x3 := cell_regrown x3
            have rr := r1
            have r1 := cell_regrown r1
            by_cases hkj : k = j
            · have e1 : ((k : Int) != (j : Int)) = false := by simp; omega
              have HS := Lib.hid (show meetI ⟨xa, xb, xc⟩ j bs (k + 1) = meetI ⟨xa, xb, xc⟩ j bs k by rw [HSU.out]; simp [hkj])
              clear hkj
              go_wp2
              refine wp_region_quiet_below (by kernel_rfl) (by kernel_rfl) ?_
              repeat (go_big_quiet_step (fail))
              refine wpQuiet_nil ?_
              intro _ hw'
              obtain ⟨⟨dq, osq⟩, hw''⟩ := hw'
              subst hw''
              have hbq := below_regrown wr dq osq
              go_wp2
              go_roundw
              case rel => exact ⟨k + 1, by omega, by go_num, HB.out.trans (hbq.mono HB.out.size), by rw [HS.out]; exact HO.out.below hbq (Nat.le_refl _)⟩
              case measure => simp [intOf]; omega
            · have e1 : ((k : Int) != (j : Int)) = true := by simp; omega
              by_cases hn0 : 0 < n
              · have HS := Lib.hid (show (meetI ⟨xa, xb, xc⟩ j bs (k + 1)).length = (meetI ⟨xa, xb, xc⟩ j bs k).length + 1 by rw [HSU.out]; simp [hkj, hn0])
                have d1 : decide ((0 : Int) < (n : Int)) = true := by simp; omega
                clear hkj
                go_wp2
                refine wp_region_quiet_below (by kernel_rfl) (by kernel_rfl) ?_
                repeat (go_big_quiet_step (exact Calls.regrown_of (HCM.out _)))
                refine wpQuiet_nil ?_
                intro _ hw'
                obtain ⟨⟨dq, osq⟩, hw''⟩ := hw'
                have hbq := below_regrown wr dq osq
                rw [← hw''] at hbq
                clear r1 rr y1 y2 y3 x1 x2 x3 hw''
                have hz3 := hbq.size
                have hO3 := HO.out.below hbq (Nat.le_refl _)
                obtain ⟨c1, _, c3, _, c5⟩ := hO3.at_ (i := j) (by rw [bgs_len]; exact hjl)
                rw [bgs_at _ hjl] at c1
                obtain ⟨m, hm⟩ : ∃ m, m = (meetI ⟨xa, xb, xc⟩ j bs k).length := ⟨_, rfl⟩
                rw [← hm] at c1 HS hln
                have hst := hO3.setT (i := j) (x := (m : Int) + 1) (by rw [bgs_len]; exact hjl)
                rw [bgs_set _ _ hjl] at hst
                have wm : IntKind.i64.wrap ((m : Int) + 1) = (m : Int) + 1 := IntWalk.i64_in _ (by omega)
                have HST := Lib.hid hst
                have HB3 := Lib.hid (HB.out.trans (hbq.mono HB.out.size))
                clear hst hO3 hm hbq
                go_wp2
                go_roundw
                case rel => exact ⟨k + 1, by omega, by go_num, HB3.out.grown HST.out.2 HB3.out.size (fun r e => by cases e; rw [HGG.out]; exact Nat.le_refl _), by rw [HS.out]; simpa using HST.out.1⟩
                case measure => simp [intOf]; omega
              · have HS := Lib.hid (show meetI ⟨xa, xb, xc⟩ j bs (k + 1) = meetI ⟨xa, xb, xc⟩ j bs k by rw [HSU.out]; simp [hn0])
                have d1 : decide ((0 : Int) < (n : Int)) = false := by simp; omega
                clear hkj
                go_wp2
                refine wp_region_quiet_below (by kernel_rfl) (by kernel_rfl) ?_
                repeat (go_big_quiet_step (exact Calls.regrown_of (HCM.out _)))
                refine wpQuiet_nil ?_
                intro _ hw'
                obtain ⟨⟨dq, osq⟩, hw''⟩ := hw'
                subst hw''
                have hbq := below_regrown wr dq osq
                go_wp2
                go_roundw
                case rel => exact ⟨k + 1, by omega, by go_num, HB.out.trans (hbq.mono HB.out.size), by rw [HS.out]; exact HO.out.below hbq (Nat.le_refl _)⟩
                case measure => simp [intOf]; omega
          · have e : k = bs.length := by omega
            subst e
            rw [bgs_next] at hO
            go_wp2
            go_roundw
            case rel => exact ⟨j + 1, by omega, by go_num, hB, hO⟩
            case measure => simp [intOf]; omega
      · have e : j = bs.length := by omega
        subst e
        have HO := Lib.hid (bgs_end bs ▸ HO.out)
        go_wp2
        go_ret2
        exact ⟨_, rfl, ownsRow_base HO.out (by have := HB1.out.size; omega), HB1.out.trans (HB.out.mono (by have := HB1.out.size; omega))⟩
end Go.Proofs.Ytahgialnhomefaa

namespace Go.Proofs.Ytahgialnhomefaa
open Go.ChangeShapes Go.WideShapes Go.ChangeAt Go.RowKit Go.Deep Go.Joins
theorem ownKnobs : ownKnob Try.prog.godebug = none := by kernel_rfl
section
variable {H : Type} {enc : TypeId × Value → H} {W : World} {base : Nat} {held : Bool}
theorem arrCells : Try.prog.cellsOf 83 = 3 := by kernel_rfl
set_option maxRecDepth 100000 in
theorem open_arr3 {fuel : Nat} {cs : List Value} {x : DataW H × List MemPlace} (h : DataW.trod enc Try.prog W base (fun _ => true) held fuel 83 cs = some x) :
    ∃ a b c : Int, cs = [.int .i64 a, .int .i64 b, .int .i64 c] ∧ (Lit.int .i64 a).wf = true ∧ (Lit.int .i64 b).wf = true ∧ (Lit.int .i64 c).wf = true := by
  obtain ⟨xs, m, rfl, rfl, hl, hx, hat⟩ := DataW.trod_array Try.underlying83 h
  rw [arrCells] at hl
  match cs, hl with
  | [c0, c1, c2], _ =>
    match xs, hx with
    | [x0, x1, x2], _ =>
      have h0 := hat 0 (by omega)
      have h1 := hat 1 (by omega)
      have h2 := hat 2 (by omega)
      rw [int64Cells] at h0 h1 h2
      simp at h0 h1 h2
      obtain ⟨a, ha, _, wa⟩ := DataW.trod_int Try.underlying2 h0
      obtain ⟨b, hb, _, wb⟩ := DataW.trod_int Try.underlying2 h1
      obtain ⟨c, hc, _, wc⟩ := DataW.trod_int Try.underlying2 h2
      simp at ha hb hc
      exact ⟨a, b, c, by rw [ha, hb, hc], wa, wb, wc⟩
theorem add_at (b off i : Nat) : (⟨b, off, none⟩ : Addr).add i = ⟨b, off + i, none⟩ := by
  unfold Addr.add
  split
  · subst_vars; rfl
  · rfl
set_option maxRecDepth 100000 in
theorem open_arrs {fuel : Nat} {s : Value} {x : DataW H × List MemPlace} (h : DataW.trod enc Try.prog W base (fun _ => true) held fuel 22 [s] = some x) : ∃ bs, InB W s bs := by
  rcases open_slice Try.underlying22 h with ⟨hcs, _⟩ | ⟨a, len, cap, m, n, D, Pl, hcs, hb, hl, hm, hmm, hx, hi⟩
  · simp at hcs
    exact ⟨[], by simp, by simp, .inl ⟨none, 0, hcs, rfl⟩⟩
  · simp at hcs
    subst hcs
    simp at hmm
    subst hmm
    have hm' : m ≤ 9223372036854775807 := by unfold maxLen at hm; exact hm
    by_cases h0 : len = 0
    · subst h0
      exact ⟨[], by simp, by simp, .inl ⟨_, _, rfl, rfl⟩⟩
    · have cell : ∀ i, i < m → ∃ y : Blk, WFB y ∧ ∀ j (v : Value), [Value.int .i64 y.a, Value.int .i64 y.b, Value.int .i64 y.c][j]? = some v → W.cell? (a.add (i * 3 + j)) = some v := fun i him => by
        obtain ⟨cs', hc, ht⟩ := hi i him
        obtain ⟨p, q, r, rfl, wp, wq, wr⟩ := open_arr3 ht
        rw [arrCells] at hc
        obtain ⟨_, _, hat⟩ := World.cells?_some hc
        refine ⟨⟨p, q, r⟩, ⟨wp, wq, wr⟩, fun j v hv => ?_⟩
        have hj : j < 3 := by
          have := (List.getElem?_eq_some_iff.1 hv).1
          simpa using this
        rw [← Go.Deep.add_add, hat j hj]
        exact hv
      obtain ⟨F, hF⟩ := choose_lt (α := Blk) cell
      obtain ⟨b, off, spot⟩ := a
      have hc0 := (hF 0 (by omega)).2 0 _ rfl
      have hspot : spot = none := by simpa [Addr.add] using World.cell?_spot hc0
      subst hspot
      refine ⟨(List.range len).map F, ?_, by simp; omega, .inr ⟨b, off, m, by simp, ?_, ?_⟩⟩
      · intro y hy
        obtain ⟨i, hi', rfl⟩ := List.mem_map.1 hy
        exact (hF i (by have := List.mem_range.1 hi'; omega)).1
      · exact block_lt_of_cell hc0
      · intro k hk
        simp at hk
        have e : ((List.range len).map F)[k]?.getD default = F k := by simp [hk]
        rw [e]
        have := (hF k (by omega)).2
        refine ⟨?_, ?_, ?_⟩
        · have h0 := this 0 _ rfl
          rw [add_at] at h0
          exact h0
        · have h1 := this 1 _ rfl
          rw [add_at, ← Nat.add_assoc] at h1
          exact h1
        · have h2 := this 2 _ rfl
          rw [add_at, ← Nat.add_assoc] at h2
          exact h2
theorem isSys : ∃ f0 f1 : Field, Try.prog.underlying 24 = some (.struct #[f0, f1]) ∧ f0.type = 2 ∧ f1.type = 22 ∧ oneCellFields Try.prog #[f0, f1] = true :=
  ⟨_, _, Try.underlying24, rfl, rfl, by kernel_rfl⟩
theorem sysCells : Try.prog.cellsOf 24 = 2 := by kernel_rfl
set_option maxRecDepth 100000 in
theorem open_system {r : Reach} {b0 : Nat} {v : Value} {d : DataW H} {p : List MemPlace} (hv : Value.okWide Try.prog W r b0 24 v) (h : DataW.Trod enc Try.prog W base (fun _ => true) held 24 v d p) :
    ∃ (n : Int) (s : Value) (bs : List Blk), v = .agg #[.int .i64 n, s] ∧ WF n ∧ InB W s bs := by
  obtain ⟨f0, f1, hu, e0, e1, hone⟩ := isSys
  obtain ⟨v0, v1, y0, y1, n, rfl, _, _, h0, h1⟩ := open_agg2 hu hone sysCells hv h
  rw [e0] at h0
  rw [e1] at h1
  obtain ⟨k, hk, _, wk⟩ := DataW.trod_int Try.underlying2 h0
  simp at hk
  subst hk
  obtain ⟨bs, hbs⟩ := open_arrs h1
  exact ⟨k, v1, bs, rfl, wk, hbs⟩
end
end Go.Proofs.Ytahgialnhomefaa

namespace Go.Proofs.Ytahgialnhomefaa
open Go.ChangeShapes Go.WideShapes Go.ChangeAt Go.RowKit Go.Deep Go.Joins
/-- The value is a slice of just these integers, however many. -/
def InZ (w : World) (s : Value) (zs : List Int) : Prop :=
  (∀ z ∈ zs, WF z) ∧ zs.length ≤ 9223372036854775807 ∧ ((∃ a c, s = .slice a 0 c ∧ zs = []) ∨ ∃ b off cap, s = .slice (some ⟨b, off, none⟩) zs.length cap ∧ b < w.heap.size ∧ Ints w b off zs)
theorem InZ.slice {w : World} {s : Value} {zs : List Int} (h : InZ w s zs) : ∃ a c, s = .slice a zs.length c := by
  rcases h.2.2 with ⟨a, c, rfl, rfl⟩ | ⟨b, off, cap, rfl, _⟩ <;> exact ⟨_, _, rfl⟩
theorem InZ.ib {w : World} {s : Value} {zs : List Int} (h : InZ w s zs) (hl : zs.length ≤ 1048576) : IB w s zs := ⟨by omega, h.2.2⟩
/-- The value is a slice of just these rows, however many. -/
def InSS (w : World) (s : Value) (n : Nat) (F : Nat → List Int) : Prop :=
  n ≤ 9223372036854775807 ∧ ((n = 0 ∧ ∃ a c, s = .slice a 0 c) ∨ ∃ b off cap, s = .slice (some ⟨b, off, none⟩) n cap ∧ b < w.heap.size ∧ ∀ k, k < n → ∃ u, w.cell? ⟨b, off + k, none⟩ = some u ∧ InZ w u (F k))
theorem okWide_array {P : Program} {w : World} {r : Reach} {base : Nat} {t : TypeId} {v : Value} {n : Nat} {e : TypeId} (ht : P.underlying t = some (.array n e)) (h : Value.okWide P w r base t v) : ∃ cs, v = .agg cs ∧ cs.size = P.cellsOf t := by
  simp only [Value.okWide, ht] at h
  obtain ⟨cs, h1, h2, _⟩ := h
  exact ⟨cs, h1, h2⟩
section
variable {H : Type} {enc : TypeId × Value → H} {W : World} {base : Nat} {held : Bool}
set_option maxRecDepth 100000 in
theorem open_zs {fuel : Nat} {s : Value} {x : DataW H × List MemPlace} (h : DataW.trod enc Try.prog W base (fun _ => true) held fuel 38 [s] = some x) : ∃ zs, InZ W s zs := by
  rcases open_slice1 Try.underlying38 int64Cells h with ⟨hcs, _⟩ | ⟨a, len, cap, m, n, V, D, Pl, hcs, hb, hl, hm, hmm, hx, hi⟩
  · simp at hcs
    exact ⟨[], by simp, by simp, .inl ⟨none, 0, hcs, rfl⟩⟩
  · simp at hcs
    subst hcs
    simp at hmm
    subst hmm
    have hm' : m ≤ 9223372036854775807 := by unfold maxLen at hm; exact hm
    by_cases h0 : len = 0
    · subst h0
      exact ⟨[], by simp, by simp, .inl ⟨_, _, rfl, rfl⟩⟩
    · have cell : ∀ i, i < m → ∃ y : Int, WF y ∧ W.cell? (a.add i) = some (.int .i64 y) := fun i him => by
        obtain ⟨hc, ht⟩ := hi i him
        obtain ⟨k, hk, _, wk⟩ := DataW.trod_int Try.underlying2 ht
        simp at hk
        exact ⟨k, wk, by rw [hc, hk]⟩
      obtain ⟨F, hF⟩ := choose_lt (α := Int) cell
      obtain ⟨b, off, spot⟩ := a
      have hc0 := (hF 0 (by omega)).2
      have hspot : spot = none := by simpa [Addr.add] using World.cell?_spot hc0
      subst hspot
      refine ⟨(List.range len).map F, ?_, by simp; omega, .inr ⟨b, off, m, by simp, ?_, ?_⟩⟩
      · intro y hy
        obtain ⟨i, hi', rfl⟩ := List.mem_map.1 hy
        exact (hF i (by have := List.mem_range.1 hi'; omega)).1
      · exact block_lt_of_cell hc0
      · intro k hk
        simp at hk
        have e : ((List.range len).map F)[k]?.getD 0 = F k := by simp [hk]
        rw [e]
        have h1 := (hF k (by omega)).2
        rw [add_at] at h1
        exact h1
set_option maxRecDepth 100000 in
theorem open_ints64 {r : Reach} {b0 : Nat} {v : Value} {d : DataW H} {p : List MemPlace} (hv : Value.okWide Try.prog W r b0 38 v) (h : DataW.Trod enc Try.prog W base (fun _ => true) held 38 v d p) : ∃ zs, InZ W v zs := by
  obtain ⟨a, len, cap, rfl⟩ := okWide_slice Try.underlying38 hv
  obtain ⟨fuel, hf⟩ := h
  exact open_zs hf
set_option maxRecDepth 100000 in
theorem open_blocks {r : Reach} {b0 : Nat} {v : Value} {d : DataW H} {p : List MemPlace} (hv : Value.okWide Try.prog W r b0 22 v) (h : DataW.Trod enc Try.prog W base (fun _ => true) held 22 v d p) : ∃ bs, InB W v bs := by
  obtain ⟨a, len, cap, rfl⟩ := okWide_slice Try.underlying22 hv
  obtain ⟨fuel, hf⟩ := h
  exact open_arrs hf
theorem sliceCells : Try.prog.cellsOf 38 = 1 := by kernel_rfl
set_option maxRecDepth 100000 in
theorem open_rows {r : Reach} {b0 : Nat} {v : Value} {d : DataW H} {p : List MemPlace} (hv : Value.okWide Try.prog W r b0 57 v) (h : DataW.Trod enc Try.prog W base (fun _ => true) held 57 v d p) : ∃ n F, InSS W v n F := by
  obtain ⟨A0, L0, C0, rfl⟩ := okWide_slice Try.underlying57 hv
  obtain ⟨fuel, hf⟩ := h
  have hf' : DataW.trod enc Try.prog W base (fun _ => true) held fuel 57 [.slice A0 L0 C0] = some (d, p) := hf
  rcases open_slice1 Try.underlying57 sliceCells hf' with ⟨hcs, _⟩ | ⟨a, len, cap, m, n, V, D, Pl, hcs, hb, hl, hm, hmm, hx, hi⟩
  · simp at hcs
    obtain ⟨rfl, rfl, rfl⟩ := hcs
    exact ⟨0, fun _ => [], by omega, .inl ⟨rfl, _, _, rfl⟩⟩
  · simp at hcs
    obtain ⟨e1, e2, e3⟩ := hcs
    subst e1
    subst e2
    subst e3
    simp at hmm
    subst hmm
    have hm' : m ≤ 9223372036854775807 := by unfold maxLen at hm; exact hm
    by_cases h0 : L0 = 0
    · subst h0
      exact ⟨0, fun _ => [], by omega, .inl ⟨rfl, _, _, rfl⟩⟩
    · have cell : ∀ i, i < m → ∃ y : List Int, ∃ u, W.cell? (a.add i) = some u ∧ InZ W u y := fun i him => by
        obtain ⟨hc, ht⟩ := hi i him
        obtain ⟨zs, hz⟩ := open_zs ht
        exact ⟨zs, _, hc, hz⟩
      obtain ⟨F, hF⟩ := choose_lt (α := List Int) cell
      obtain ⟨b, off, spot⟩ := a
      obtain ⟨u0, hc0, _⟩ := hF 0 (by omega)
      have hspot : spot = none := by simpa [Addr.add] using World.cell?_spot hc0
      subst hspot
      refine ⟨L0, F, by omega, .inr ⟨b, off, m, rfl, block_lt_of_cell hc0, fun k hk => ?_⟩⟩
      obtain ⟨u, h1, h2⟩ := hF k (by omega)
      rw [add_at] at h1
      exact ⟨u, h1, h2⟩
set_option maxRecDepth 100000 in
theorem open_blk {r : Reach} {b0 : Nat} {v : Value} {d : DataW H} {p : List MemPlace} (hv : Value.okWide Try.prog W r b0 83 v) (h : DataW.Trod enc Try.prog W base (fun _ => true) held 83 v d p) : ∃ x, v = bv x ∧ WFB x := by
  obtain ⟨cs, rfl, hsz⟩ := okWide_array Try.underlying83 hv
  obtain ⟨fuel, hf⟩ := h
  obtain ⟨a, b, c, e, wa, wb, wc⟩ := open_arr3 hf
  have : cs.toList = [.int .i64 a, .int .i64 b, .int .i64 c] := e
  refine ⟨⟨a, b, c⟩, ?_, wa, wb, wc⟩
  unfold bv
  rw [← this]
end
end Go.Proofs.Ytahgialnhomefaa

namespace Go.Proofs.Ytahgialnhomefaa
open Go.RowKit Go.Maps
structure CS (w : World) (v p : Int) (s sW s8 sG : Value) (XW X XG i0 i1 j1 j2 k1 k2 : Nat) (LW L8 LG : List Blk) (W : World) : Prop where
  st : St1 w v s W
  o0 : w.heap.size < i0
  o1 : i0 ≤ i1
  o2 : i1 ≤ XW
  o3 : XW < j1
  o4 : j1 ≤ j2
  o5 : j2 ≤ X
  o6 : X < k1
  o7 : k1 ≤ k2
  o8 : k2 ≤ XG
  rW : ResR W i0 i1 sW LW
  vW : VarB W XW p sW
  r8 : ResR W j1 j2 s8 L8
  vX : VarB W X v s8
  rG : ResR W k1 k2 sG LG
  vG : VarB W XG p sG
section
variable {w : World} {v p : Int} {s sW s8 sG : Value} {XW X XG i0 i1 j1 j2 k1 k2 : Nat} {LW L8 LG : List Blk} {W W' : World}
theorem CS.step (h : CS w v p s sW s8 sG XW X XG i0 i1 j1 j2 k1 k2 LW L8 LG W) (hg : W.grownBy W' none) : CS w v p s sW s8 sG XW X XG i0 i1 j1 j2 k1 k2 LW L8 LG W' :=
  ⟨h.st.step hg (by simp), h.o0, h.o1, h.o2, h.o3, h.o4, h.o5, h.o6, h.o7, h.o8, h.rW.kept hg (by simp), h.vW.step hg (by simp), h.r8.kept hg (by simp), h.vX.step hg (by simp), h.rG.kept hg (by simp), h.vG.step hg (by simp)⟩
theorem CS.mark8 (h : CS w v p s sW s8 sG XW X XG i0 i1 j1 j2 k1 k2 LW L8 LG W) {row : Option Nat} (hg : W.grownBy W' row) (hr : ∀ r, row = some r → j1 ≤ r ∧ r < j2) {L : List Blk} (hn : ResR W' j1 j2 s8 L) :
    CS w v p s sW s8 sG XW X XG i0 i1 j1 j2 k1 k2 LW L LG W' := by
  obtain ⟨st, o0, o1, o2, o3, o4, o5, o6, o7, o8, rW, vW, r8, vX, rG, vG⟩ := h
  exact ⟨st.step hg (fun r e => by have := hr r e; omega), o0, o1, o2, o3, o4, o5, o6, o7, o8, rW.kept hg (fun r e => by have := hr r e; omega), vW.step hg (fun e => by have := hr _ e; omega), hn, vX.step hg (fun e => by have := hr _ e; omega), rG.kept hg (fun r e => by have := hr r e; omega), vG.step hg (fun e => by have := hr _ e; omega)⟩
theorem CS.markG (h : CS w v p s sW s8 sG XW X XG i0 i1 j1 j2 k1 k2 LW L8 LG W) {row : Option Nat} (hg : W.grownBy W' row) (hr : ∀ r, row = some r → k1 ≤ r ∧ r < k2) {L : List Blk} (hn : ResR W' k1 k2 sG L) :
    CS w v p s sW s8 sG XW X XG i0 i1 j1 j2 k1 k2 LW L8 L W' := by
  obtain ⟨st, o0, o1, o2, o3, o4, o5, o6, o7, o8, rW, vW, r8, vX, rG, vG⟩ := h
  exact ⟨st.step hg (fun r e => by have := hr r e; omega), o0, o1, o2, o3, o4, o5, o6, o7, o8, rW.kept hg (fun r e => by have := hr r e; omega), vW.step hg (fun e => by have := hr _ e; omega), r8.kept hg (fun r e => by have := hr r e; omega), vX.step hg (fun e => by have := hr _ e; omega), hn, vG.step hg (fun e => by have := hr _ e; omega)⟩
end
end Go.Proofs.Ytahgialnhomefaa



namespace Go.Proofs.Ytahgialnhomefaa
open Go.RowKit Go.Maps
set_option maxRecDepth 100000 in
set_option maxHeartbeats 2000000 in
theorem FnExactBlockGraphDegrees_main (v0 : Int) (s0 : Value) (bs0 : List Blk) (w : World) (h0 : InB w s0 bs0) (hl : bs0.length ≤ 1048576) :
    Calls Try.prog 12 #[.agg #[.int .i64 v0, s0]] w (RV (.bool true) w) := by
  have hsl0 := h0.slice
  have hbd0 := h0.2.1
  have hsz0 := szSystem_any v0 s0 bs0.length hsl0 (by omega) 1048576 (by omega) (by omega)
  rw [if_neg (by omega)] at hsz0
  obtain ⟨m0, hm0⟩ : ∃ m, m = (1048576 : Int) - (bs0.length : Int) := ⟨_, rfl⟩
  rw [← hm0] at hsz0
  have hmp0 : 0 ≤ m0 := by omega
  have HSZ0 := Lib.hid hsz0
  have HSB0 := Lib.hid (h0.sb (by omega))
  have HBD0 := Lib.hid (show bs0.length ≤ 1100000 by omega)
  have HWF0 := Lib.hid h0.1
  obtain ⟨L, hL⟩ : ∃ L, L = (bgdF v0 bs0).1 := ⟨_, rfl⟩
  obtain ⟨κ, hκ⟩ : ∃ κ, κ = (bgdF v0 bs0).2 := ⟨_, rfl⟩
  have hp : bgdF v0 bs0 = (L, κ) := by rw [hL, hκ]
  have LBD := Lib.hid (show L.length ≤ 1100000 by rw [hL]; exact Nat.le_trans (bgdF_len v0 bs0) HBD0.out)
  have HSP := Lib.hid fun (W : World) (t0 : Value) (r0 : SC W t0 bs0) => specBlockGraphDegrees_any v0 t0 bs0 W r0.1
  have HIM := Lib.hid fun (W : World) (t0 : Value) (r0 : SB W t0 bs0) => BlockGraphDegrees_any v0 t0 bs0 W r0
  rw [hp] at HSP HIM
  have hnk : (κ != κ) = false := by simp
  clear hsz0 hm0 hbd0 hL hκ hp h0 hl
  obtain ⟨a0, c0, rfl⟩ := hsl0
  go_enter Try.func12, Try.ntmps12
  have hm := ((Mem.start w).pushVar v0 (.slice a0 bs0.length c0) 24)
  have fA00 := (hm.var 0 rfl).c0
  have fA01 := (hm.var 0 rfl).c1
  have HM := Lib.hid hm
  clear hm
  go_wp2_with fail
  refine (HSZ0.out _).mono ?_
  rintro e w1 ⟨rfl, hbw1⟩
  have hm := HM.out.step (gb_below hbw1)
  clear fA00 fA01
  clear HM hbw1
  have fA00 := (hm.var 0 rfl).c0
  have fA01 := (hm.var 0 rfl).c1
  have HM := Lib.hid hm
  clear hm
  go_wp2_with fail
  refine (toSystem_any v0 _ bs0 _ (HSB0.out.below HM.out.below (Nat.le_refl _))).mono ?_
  rintro e w2 ⟨tw2, rfl, how2, hbw2⟩
  have r3 := how2.sc HWF0.out HBD0.out
  obtain ⟨gw2, capw2, hsw2, _⟩ := id how2
  subst hsw2
  have hm := HM.out.step (gb_below hbw2)
  clear fA00 fA01
  clear HM hbw2 how2
  have fA00 := (hm.var 0 rfl).c0
  have fA01 := (hm.var 0 rfl).c1
  have HM := Lib.hid hm
  clear hm
  go_wp2_with fail
  refine (HSP.out _ _ r3).mono ?_
  rintro e w4 ⟨uw4, rfl, hrow4, hbw4⟩
  have hrw4 := hrow4.res LBD.out
  clear hrow4
  obtain ⟨aW, nW, hsw4⟩ := hrw4.slice
  subst hsw4
  clear r3
  have hm := (HM.out.pushI hbw4 hrw4)
  clear fA00 fA01
  clear HM hbw4 hrw4
  have fA00 := (hm.var 1 rfl).c0
  have fA01 := (hm.var 1 rfl).c1
  have HM := Lib.hid hm
  clear hm
  go_wp2_with fail
  refine (toSystem_any v0 _ bs0 _ (HSB0.out.below HM.out.below (Nat.le_refl _))).mono ?_
  rintro e w5 ⟨tw5, rfl, how5, hbw5⟩
  have hrw5 := how5.res
  obtain ⟨gw5, capw5, hsw5, _⟩ := id how5
  subst hsw5
  have hm := (HM.out.pushB hbw5 hrw5).pushVar v0 (.slice (some ⟨gw5, 0, none⟩) bs0.length capw5) 30
  clear fA00 fA01
  clear HM hbw5 hrw5 how5
  have fVX00 := (hm.var 0 rfl).c0
  have fVX01 := (hm.var 0 rfl).c1
  have fA00 := (hm.var 3 rfl).c0
  have fA01 := (hm.var 3 rfl).c1
  have HM := Lib.hid hm
  clear hm
  go_wp2_with fail
  refine (HIM.out _ _ ((HM.out.blks 1 rfl).sb HWF0.out HBD0.out)).mono ?_
  rintro e w6 ⟨uw6, rfl, hrow6, hbw6⟩
  have hrw6 := hrow6.res LBD.out
  clear hrow6
  obtain ⟨aG, nG, hsw6⟩ := hrw6.slice
  subst hsw6
  have hm := (HM.out.pushI hbw6 hrw6)
  clear fVX00 fVX01 fA00 fA01
  clear HM hbw6 hrw6
  have fVX00 := (hm.var 1 rfl).c0
  have fVX01 := (hm.var 1 rfl).c1
  have fA00 := (hm.var 4 rfl).c0
  have fA01 := (hm.var 4 rfl).c1
  have HM := Lib.hid hm
  clear hm
  go_wp2_with fail
  refine (eqInt64S_same _ _ L _ ((HM.out.ints 0 rfl).ib LBD.out) ((HM.out.ints 3 rfl).ib LBD.out)).mono ?_
  rintro e w7 ⟨rfl, hbw7⟩
  have hm := HM.out.step (gb_below hbw7)
  clear fVX00 fVX01 fA00 fA01
  clear HM hbw7
  have fVX00 := (hm.var 1 rfl).c0
  have fVX01 := (hm.var 1 rfl).c1
  have fA00 := (hm.var 4 rfl).c0
  have fA01 := (hm.var 4 rfl).c1
  have HM := Lib.hid hm
  clear hm
  go_upto_region 10 with fail
  go_cut [45] (fun sq wx => sq = .bool false ∧ MemOf HM.out wx)
  case first =>
    go_region_with (first | (go_at_call 16; refine (toSystem_any v0 _ bs0 _ ?_).mono ?_; (exact HSB0.out.below HM.out.below.drew (Nat.le_refl _)); rintro e w8 ⟨tw8, rfl, how8, hbw8⟩; have hmx := (HM.out.step (gb_drew1 _)).step (gb_below hbw8); have ec0 := (hmx.var 1 rfl).c0; have ec1 := (hmx.var 1 rfl).c1; have HMX := Lib.hid hmx; clear hmx; have hsbw8 := how8.sb HWF0.out HBD0.out; obtain ⟨gw8, capw8, hsw8, _⟩ := id how8; subst hsw8) | (go_at_call 18; refine (eqSystem_same v0 _ _ bs0 _ ?_ ?_).mono ?_; (exact ((HMX.out.blks 2 rfl).sb HWF0.out HBD0.out)); (exact hsbw8); rintro e w9 ⟨rfl, hbw9⟩))
    all_goals
      go_wp2_with fail
      go_meet
      exact ⟨rfl, HMX.out.step (gb_below hbw9)⟩
  case rest =>
  obtain ⟨rfl, hm⟩ := hcut
  unfold MemOf at hm
  obtain ⟨yc0, rfl⟩ : ∃ W, W = wc := ⟨_, rfl⟩
  clear fVX00 fVX01 fA00 fA01
  clear HM
  have fVX00 := (hm.var 1 rfl).c0
  have fVX01 := (hm.var 1 rfl).c1
  have fA00 := (hm.var 4 rfl).c0
  have fA01 := (hm.var 4 rfl).c1
  have HM := Lib.hid hm
  clear hm
  go_wp2_with fail
  refine (markSystem_any _ _ v0 _ bs0 1 _ (HM.out.blks 2 rfl) HBD0.out (by omega) (by omega)).mono ?_
  rintro e w10 ⟨rfl, hww10, hrw10⟩
  have hm := HM.out.markB 2 rfl hww10 hrw10
  clear fVX00 fVX01 fA00 fA01
  clear HM hww10 hrw10
  have fVX00 := (hm.var 1 rfl).c0
  have fVX01 := (hm.var 1 rfl).c1
  have fA00 := (hm.var 4 rfl).c0
  have fA01 := (hm.var 4 rfl).c1
  have HM := Lib.hid hm
  clear hm
  obtain ⟨kw10, hkw10⟩ : ∃ m, m = 1 + 3 * (bs0.length : Int) := ⟨_, rfl⟩
  rw [← hkw10]
  have h0kw10 : 0 ≤ kw10 := by have := HBD0.out; omega
  have h1kw10 : kw10 ≤ 3300001 := by have := HBD0.out; omega
  clear hkw10
  go_wp2_with fail
  refine (eqInt64S_same _ _ L _ ((HM.out.ints 0 rfl).ib LBD.out) ((HM.out.ints 3 rfl).ib LBD.out)).mono ?_
  rintro e w11 ⟨rfl, hbw11⟩
  have hm := HM.out.step (gb_below hbw11)
  clear fVX00 fVX01 fA00 fA01
  clear HM hbw11
  have fVX00 := (hm.var 1 rfl).c0
  have fVX01 := (hm.var 1 rfl).c1
  have fA00 := (hm.var 4 rfl).c0
  have fA01 := (hm.var 4 rfl).c1
  have HM := Lib.hid hm
  clear hm
  go_wp2_with fail
  refine (markJ _ _ _ L 1 _ (HM.out.ints 0 rfl) LBD.out (by omega) (by omega)).mono ?_
  rintro e w12 ⟨rfl, hww12, hrw12⟩
  have hm := HM.out.markI 0 rfl hww12 hrw12
  clear fVX00 fVX01 fA00 fA01
  clear HM hww12 hrw12
  have fVX00 := (hm.var 1 rfl).c0
  have fVX01 := (hm.var 1 rfl).c1
  have fA00 := (hm.var 4 rfl).c0
  have fA01 := (hm.var 4 rfl).c1
  have HM := Lib.hid hm
  clear hm
  have hheld := fun lo hi W (h : ResI W lo hi (Value.slice aG L.length nG) (markI 1 L.length)) => heldJ lo hi (.slice aG L.length nG) L.length 1 W h LBD.out (by omega) (by omega)
  obtain ⟨m5, hm5⟩ : ∃ m5, m5 = 1 + (L.length : Int) := ⟨_, rfl⟩
  rw [← hm5] at hheld ⊢
  have HHELD := Lib.hid hheld
  have m50 : 0 ≤ m5 := by omega
  have hn5 : (m5 != m5) = false := by simp
  clear hm5 hheld
  go_wp2_with fail
  refine (HHELD.out _ _ _ (HM.out.ints 0 rfl)).mono ?_
  rintro e w13 ⟨rfl, rfl⟩
  go_wp2_with fail
  refine (toSystem_any v0 _ bs0 _ (HSB0.out.below HM.out.below (Nat.le_refl _))).mono ?_
  rintro e w14 ⟨tw14, rfl, how14, hbw14⟩
  have r15 := how14.sb HWF0.out HBD0.out
  obtain ⟨gw14, capw14, hsw14, _⟩ := id how14
  subst hsw14
  have hm := HM.out.step (gb_below hbw14)
  clear fVX00 fVX01 fA00 fA01
  clear HM hbw14 how14
  have fVX00 := (hm.var 1 rfl).c0
  have fVX01 := (hm.var 1 rfl).c1
  have fA00 := (hm.var 4 rfl).c0
  have fA01 := (hm.var 4 rfl).c1
  have HM := Lib.hid hm
  clear hm
  go_wp2_with fail
  refine (HIM.out _ _ r15).mono ?_
  rintro e w16 ⟨uw16, rfl, hrow16, hbw16⟩
  have hrw16 := hrow16.res LBD.out
  clear hrow16
  obtain ⟨aH, nH, hsw16⟩ := hrw16.slice
  subst hsw16
  clear r15
  have hm := (HM.out.pushI hbw16 hrw16)
  clear fVX00 fVX01 fA00 fA01
  clear HM hbw16 hrw16
  have fVX00 := (hm.var 2 rfl).c0
  have fVX01 := (hm.var 2 rfl).c1
  have fA00 := (hm.var 5 rfl).c0
  have fA01 := (hm.var 5 rfl).c1
  have HM := Lib.hid hm
  clear hm
  go_wp2_with fail
  refine (eqInt64S_same _ _ L _ ((HM.out.ints 0 rfl).ib LBD.out) ((HM.out.ints 4 rfl).ib LBD.out)).mono ?_
  rintro e w17 ⟨rfl, hbw17⟩
  have hm := HM.out.step (gb_below hbw17)
  clear fVX00 fVX01 fA00 fA01
  clear HM hbw17
  have fVX00 := (hm.var 2 rfl).c0
  have fVX01 := (hm.var 2 rfl).c1
  have fA00 := (hm.var 5 rfl).c0
  have fA01 := (hm.var 5 rfl).c1
  have HM := Lib.hid hm
  clear hm
  go_wp2_with fail
  refine (HHELD.out _ _ _ (HM.out.ints 1 rfl)).mono ?_
  rintro e w18 ⟨rfl, rfl⟩
  go_wp2
  go_ret
  exact RV_of rfl HM.out.below
set_option maxRecDepth 100000 in
theorem FnExactBlockGraphDegrees_long0 (v0 : Int) (s0 : Value) (bs0 : List Blk) (w : World) (h0 : InB w s0 bs0)  (hl : ¬ bs0.length ≤ 1048576) : Calls Try.prog 12 #[.agg #[.int .i64 v0, s0]] w (RV (.bool true) w) := by
  have hsl0 := h0.slice
  have hbd0 := h0.2.1
  have hsz0 := szSystem_any v0 s0 bs0.length hsl0 (by omega) (1048576) (by omega) (by omega)
  rw [if_pos (by omega)] at hsz0
  have HSZ0 := Lib.hid hsz0
  clear hl h0 hsz0 hbd0
  obtain ⟨a0, c0, rfl⟩ := hsl0
  go_enter Try.func12, Try.ntmps12
  go_wp2_with fail
  refine (HSZ0.out _).mono ?_
  rintro e y0 ⟨rfl, hy0⟩
  go_wp2
  go_ret
  exact RV_of rfl (((Below.refl _ _).alloc (by simp <;> omega) _).trans (hy0.mono (by first | (simp <;> omega) | (have := ((Below.refl _ _).alloc (by simp <;> omega) _).size; omega))))
theorem FnExactBlockGraphDegrees_any (v0 : Int) (s0 : Value) (bs0 : List Blk) (w : World) (h0 : InB w s0 bs0) : Calls Try.prog 12 #[.agg #[.int .i64 v0, s0]] w (RV (.bool true) w) := by
  by_cases hs0 : bs0.length ≤ 1048576
  case neg => exact FnExactBlockGraphDegrees_long0 v0 s0 bs0 w h0   hs0
  exact FnExactBlockGraphDegrees_main v0 s0 bs0 w h0 hs0 
end Go.Proofs.Ytahgialnhomefaa

namespace Go.Proofs.Ytahgialnhomefaa
set_option maxRecDepth 100000 in
noncomputable def iniP : { L : List Char // Try.prog.initOrder = String.ofList L } := ⟨_, by unfold Try.prog; rfl⟩
theorem iniL : Try.prog.initOrder.toList = iniP.1 := (congrArg String.toList iniP.2).trans String.toList_ofList
theorem words_cons (c : Char) (r : List Char) (h : c ≠ Char.ofNat 32) : wordsSigns (c :: r) = match wordsSigns r with | w :: ws => (c :: w) :: ws | [] => [[c]] := by
  rw [wordsSigns]
  all_goals first | rfl | exact h | (intro e; exact h e)
theorem words_word : ∀ (a b : List Char), (a.all fun c => c != Char.ofNat 32) = true → wordsSigns (a ++ Char.ofNat 32 :: b) = a :: wordsSigns b
  | [], b, _ => rfl
  | c :: a, b, h => by
    simp only [List.all_cons, Bool.and_eq_true, bne_iff_ne, ne_eq] at h
    rw [List.cons_append, words_cons _ _ h.1, words_word a b (by simpa using h.2)]
set_option maxRecDepth 100000 in
theorem split1 : iniP.1 = iniP.1.take 7 ++ Char.ofNat 32 :: iniP.1.drop 8 := by kernel_rfl
set_option maxRecDepth 100000 in
theorem split2 : iniP.1.drop 8 = (iniP.1.drop 8).take 64 ++ Char.ofNat 32 :: iniP.1.drop 73 := by kernel_rfl
set_option maxRecDepth 100000 in
theorem split3 : iniP.1.drop 73 = (iniP.1.drop 73).take 3 ++ Char.ofNat 32 :: iniP.1.drop 77 := by kernel_rfl
theorem isCut : (iniP.1.drop 73).take 3 = "cut".toList := by kernel_rfl
set_option maxRecDepth 100000 in
theorem isHead : ((iniP.1.take 7 == "harness".toList || iniP.1.take 7 == "ownmain".toList) && isSumSigns ((iniP.1.drop 8).take 64)) = true := by kernel_rfl
theorem wordsL : wordsSigns iniP.1 = iniP.1.take 7 :: (iniP.1.drop 8).take 64 :: "cut".toList :: wordsSigns (iniP.1.drop 77) := by
  rw [← isCut]
  conv => lhs; rw [split1]
  rw [words_word _ _ (by kernel_rfl)]
  conv => lhs; rw [split2]
  rw [words_word _ _ (by kernel_rfl)]
  conv => lhs; rw [split3]
  rw [words_word _ _ (by kernel_rfl)]
theorem behindL : behindMainWord (wordsSigns Try.prog.initOrder.toList) = "cut".toList :: wordsSigns (iniP.1.drop 77) := by
  rw [iniL, wordsL]
  unfold behindMainWord
  simp only [isHead, if_true]
theorem stripL (ws : List (List Char)) : stripLifts liftWords ("cut".toList :: ws) = ([], "cut".toList :: ws) := by kernel_rfl
section
variable (P : Program) (ws : List (List Char)) (h : behindMainWord (wordsSigns P.initOrder.toList) = "cut".toList :: ws)
include h
theorem head_of : P.headLifts = [] := by
  unfold Program.headLifts
  rw [h]
  simp only [stripL]
  kernel_rfl
theorem make_of : P.make = some .cut := by
  unfold Program.make
  rw [h, head_of P ws h]
  kernel_rfl
theorem lifts_of : P.liftsFinal = false := by
  unfold Program.liftsFinal
  rw [h, head_of P ws h]
  kernel_rfl
theorem enter_of (h1 : P.laysLater = false) (h2 : P.bearsReflect = false) (h3 : P.doorFits [] = true) : P.mayEnter = true := by
  unfold Program.mayEnter
  rw [h]
  simp only [stripL]
  rw [h1, h2, h3]
  kernel_rfl
end
theorem mayE : Try.pinned.checked.prog.mayEnter = true := enter_of _ _ behindL (by kernel_rfl) (by kernel_rfl) (by kernel_rfl)
theorem liftsF : Try.pinned.checked.prog.liftsFinal = false := lifts_of _ _ behindL
theorem makeF : Try.pinned.checked.prog.make = some .cut := make_of _ _ behindL
theorem both {a b : Bool} (h : a = true) (k : b = true) : (a && b) = true := by rw [h, k]; rfl
end Go.Proofs.Ytahgialnhomefaa

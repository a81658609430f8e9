
/- The model's points of a block as digits. Sets of points as masks, in the program: bits counted, the mask of a list. The model's code of a system and a set of points. Closed and independent sets, in the program. IsClosed and IsIndependent of the program. IsWord of the program. The model's l09Rows. Two headers of a list of rows change places. The model's rank, plain: how far it has come. -/
import Derived.Test.YtahgialnhomefaaJ16
import Derived.Deep.QuietTactic
import Derived.IntWalk
import Derived.StillTailTactics
import Derived.BigQuiet
namespace Go.Proofs.Ytahgialnhomefaa
open Go.RowKit Go.Maps
theorem wrap_pow15 {t : Int} (h1 : 0 ≤ t) (h7 : t < 15) : IntKind.i64.wrap (2 ^ t.toNat) = ((2 ^ t.toNat : Nat) : Int) ∧ IntKind.u64.wrap t = t ∧ ((2 ^ t.toNat : Nat) : Int) ≤ 16384 := by
  have : t = 0 ∨ t = 1 ∨ t = 2 ∨ t = 3 ∨ t = 4 ∨ t = 5 ∨ t = 6 ∨ t = 7 ∨ t = 8 ∨ t = 9 ∨ t = 10 ∨ t = 11 ∨ t = 12 ∨ t = 13 ∨ t = 14 := by omega
  rcases this with rfl | rfl | rfl | rfl | rfl | rfl | rfl | rfl | rfl | rfl | rfl | rfl | rfl | rfl | rfl <;> decide
theorem sys_ok {v : Int} {bs : List Blk} (h : isSysImpl v bs = true) : ∀ x ∈ bs, okB x := fun x hx => by
  have hs := (sys_size h).2.1
  have := goodB_iff.1 (sys_good h x hx)
  exact ⟨this.1, this.2.1, this.2.2.1, by omega⟩
end Go.Proofs.Ytahgialnhomefaa

namespace Go.Proofs.Ytahgialnhomefaa
open Go.RowKit Go.Maps
theorem pop8_ones {b : Nat} (h : b < 256) : Lib.pop8 (b : Int) = (Lib.onesCount b : Int) ∧ Lib.onesCount b ≤ 8 := ⟨Lib.pop8_eq ⟨b, h⟩, Lib.onesCount_le8 ⟨b, h⟩⟩
theorem wrap_powu {t : Int} (h1 : 0 ≤ t) (h7 : t < 15) : IntKind.u16.wrap (2 ^ (14 - t).toNat) = ((2 ^ (14 - t).toNat : Nat) : Int) ∧ 2 ^ (14 - t).toNat < 32768 := by
  have : t = 0 ∨ t = 1 ∨ t = 2 ∨ t = 3 ∨ t = 4 ∨ t = 5 ∨ t = 6 ∨ t = 7 ∨ t = 8 ∨ t = 9 ∨ t = 10 ∨ t = 11 ∨ t = 12 ∨ t = 13 ∨ t = 14 := by omega
  rcases this with rfl | rfl | rfl | rfl | rfl | rfl | rfl | rfl | rfl | rfl | rfl | rfl | rfl | rfl | rfl <;> decide
theorem mskR_take {zs : List Int} {k : Nat} (hk : k < zs.length) : mskR (zs.take (k + 1)) = mskR (zs.take k) ||| 2 ^ (14 - zs[k]?.getD 0).toNat := by
  unfold mskR
  rw [List.take_succ_eq_append_getElem hk, List.map_append, List.map_singleton, msk_snoc]
  simp [rv, hk]
theorem in_take {zs : List Int} {n : Int} (h : ∀ z ∈ zs, 0 ≤ z ∧ z < n) (k : Nat) : ∀ z ∈ zs.take k, 0 ≤ z ∧ z < n := fun z hz => h z (List.mem_of_mem_take hz)
end Go.Proofs.Ytahgialnhomefaa

namespace Go.Proofs.Ytahgialnhomefaa
open Go.RowKit Go.Maps
def setCode (v : Int) (bs : List Blk) (pts : List Int) : Int := if isSysImpl v bs then (if pts.all (inP v) && ascGo none pts then 0 else 2) else 1
set_option maxRecDepth 100000 in
theorem l01PointsIB_any (v : Int) (s : Value) (bs : List Blk) (t : Value) (ps : List Int) (w : World) (h : SB w s bs) (ht : IB w t ps) :
    Calls Try.prog 105 #[.agg #[.int .i64 v, s], t] w (RV (.int .i64 (pointsCode v bs ps)) w) := by
  obtain ⟨htl, h3⟩ := ht
  rcases h3 with ⟨a1, c1, rfl, rfl⟩ | ⟨b, off, cap, rfl, hlt, hI⟩
  · have hs := h.slice
    have hc := l01Is_any v s bs (w.alloc (.cells #[.int .i64 v, s] 30)) (h.below ((Below.refl _ _).alloc (Nat.le_refl _) _) (Nat.le_refl _))
    clear h htl
    obtain ⟨a0, c0, rfl⟩ := hs
    cases hi : isSysImpl v bs with
    | false =>
      rw [hi] at hc
      have HC := Lib.hid hc
      have hp : pointsCode v bs [] = 1 := by simp [pointsCode, hi]
      rw [hp]
      clear hc hi hp
      go_enter Try.func105, Try.ntmps105
      go_wp2_with (go_at_call 62; refine HC.out.mono ?_; rintro e w1 ⟨rfl, hb1⟩)
      go_ret
      exact RV_of rfl (((Below.refl _ _).alloc (Nat.le_refl _) _).trans (hb1.mono (by simp)))
    | true =>
      rw [hi] at hc
      have HC := Lib.hid hc
      have hp : pointsCode v bs [] = 0 := by simp [pointsCode, hi]
      rw [hp]
      clear hc hi hp
      go_enter Try.func105, Try.ntmps105
      go_wp2_with fail
      refine HC.out.mono ?_
      rintro e w1 ⟨rfl, hb1⟩
      have hbw := ((Below.refl w.heap.size w).alloc (Nat.le_refl _) (.cells #[.int .i64 v, .slice a0 bs.length c0] 30)).trans (hb1.mono (by simp))
      clear hb1
      go_wp2
      refine wp_loop_rounds 1 ?_
      rw [rounds_succ]
      go_wp2
      go_ret
      exact RV_of rfl hbw
  · exact l01Points_any v s bs b off cap ps w h hI hlt htl
set_option maxRecDepth 100000 in
theorem l01Set_any (v : Int) (s : Value) (bs : List Blk) (t : Value) (ps : List Int) (w : World) (h : SB w s bs) (ht : IB w t ps) :
    Calls Try.prog 68 #[.agg #[.int .i64 v, s], t] w (RV (.int .i64 (setCode v bs ps)) w) := by
  have hs := h.slice
  have hc := l01PointsIB_any v s bs t ps (w.alloc (.cells #[.int .i64 v, s] 30)) (h.below ((Below.refl _ _).alloc (Nat.le_refl _) _) (Nat.le_refl _)) (ht.below ((Below.refl _ _).alloc (Nat.le_refl _) _) (Nat.le_refl _))
  have hts : ∃ a c, t = .slice a ps.length c := by rcases ht.2 with ⟨a, c, rfl, rfl⟩ | ⟨b, off, cap, rfl, _⟩ <;> exact ⟨_, _, rfl⟩
  have htl := ht.1
  have HT := Lib.hid ht
  clear h ht
  obtain ⟨a0, c0, rfl⟩ := hs
  obtain ⟨a1, c1, rfl⟩ := hts
  have HCC := Lib.hid (show setCode v bs ps = if pointsCode v bs ps = 0 then (if ascGo none ps then 0 else 2) else pointsCode v bs ps by
    unfold setCode pointsCode
    cases isSysImpl v bs <;> cases ps.all (inP v) <;> cases ascGo none ps <;> rfl)
  obtain ⟨κ, hκ⟩ : ∃ κ, κ = pointsCode v bs ps := ⟨_, rfl⟩
  rw [← hκ] at hc HCC
  have HC := Lib.hid hc
  clear hc hκ
  by_cases e : κ = 0
  · subst e
    have HD := Lib.hid (show setCode v bs ps = if ascGo none ps then 0 else 2 by rw [HCC.out, if_pos rfl])
    clear HCC
    go_enter Try.func68, Try.ntmps68
    go_wp2_with fail
    refine HC.out.mono ?_
    rintro e w1 ⟨rfl, hb1⟩
    have hbw := ((Below.refl w.heap.size w).alloc (Nat.le_refl _) (.cells #[.int .i64 v, .slice a0 bs.length c0] 30)).trans (hb1.mono (by simp))
    have HT1 := Lib.hid (HT.out.below hbw (Nat.le_refl _))
    clear hb1 HC HT
    go_wp2_with fail
    go_loopw [6] (fun i wr => ∃ k : Nat, 1 ≤ k ∧ i = .int .i64 k ∧ (∃ n, wr = w1.drewN n) ∧ Hid (ascGo none ps = ascGo (ps[k - 1]?) (ps.drop k))) (fun i _ => ps.length - (intOf i).toNat)
    case atStart => exact ⟨1, Nat.le_refl _, rfl, ⟨0, rfl⟩, Lib.hid (by cases ps <;> simp [ascGo])⟩
    case round =>
      obtain ⟨k, hk1, rfl, ⟨n, rfl⟩, HE⟩ := hrel
      by_cases hkl : k < ps.length
      · obtain ⟨j, rfl⟩ : ∃ j, k = j + 1 := ⟨k - 1, by omega⟩
        rcases HT1.out.2 with ⟨_, _, _, hnil⟩ | ⟨b, off, cap, hv2, hplt, hpi⟩
        · exfalso; rw [hnil] at hkl; simp at hkl
        simp at hv2
        obtain ⟨rfl, rfl⟩ := hv2
        have ck := hpi (j + 1) hkl
        have cj := hpi j (by omega)
        have hdr : ps.drop (j + 1) = (ps[j + 1]?.getD 0) :: ps.drop (j + 1 + 1) := by rw [List.drop_eq_getElem_cons hkl]; simp [hkl]
        have hkk : ps[j + 1]? = some (ps[j + 1]?.getD 0) := by simp [hkl]
        have hj : ps[j]? = some (ps[j]?.getD 0) := by simp [show j < ps.length by omega]
        obtain ⟨z, hz⟩ : ∃ z, z = ps[j + 1]?.getD 0 := ⟨_, rfl⟩
        obtain ⟨y, hy⟩ : ∃ y, y = ps[j]?.getD 0 := ⟨_, rfl⟩
        rw [← hz] at ck hdr hkk
        rw [← hy] at cj hj
        have he := HE.out
        rw [Nat.add_sub_cancel, hdr, hj] at he
        have HV := Lib.hid (show ascGo none ps = (decide (y < z) && ascGo (some z) (ps.drop (j + 1 + 1))) by rw [he]; rfl)
        have HKK := Lib.hid hkk
        have g0 : (0 : Int) ≤ ((j + 1 : Nat) : Int) := by omega
        have g1 : ((j + 1 : Nat) : Int) < (ps.length : Int) := by omega
        have gi : (0 : Int) < (j : Int) + 1 := by omega
        have gi0 : (0 : Int) ≤ (j : Int) + 1 := by omega
        have gi1 : (j : Int) + 1 < (ps.length : Int) := by omega
        have gj0 : (0 : Int) ≤ (j : Int) := by omega
        have gj1 : (j : Int) < (ps.length : Int) := by omega
        have ej : ((j + 1 : Nat) : Int) - 1 = (j : Int) := by omega
        clear hz hdr hkk hj hy he HE hpi
        by_cases hyz : y < z
        · have q1 : decide (z ≤ y) = false := by simp; omega
          have HW := Lib.hid (show ascGo none ps = ascGo (some z) (ps.drop (j + 1 + 1)) by rw [HV.out]; simp [hyz])
          clear HV
          go_wp2
          go_quiet (fail)
          go_wp2
          go_roundw
          case rel => exact ⟨j + 1 + 1, by omega, by go_num, ⟨_, rfl⟩, Lib.hid (by rw [HW.out, Nat.add_sub_cancel, HKK.out])⟩
          case measure => simp [intOf]; omega
        · have q1 : decide (z ≤ y) = true := by simp; omega
          have q2 : z ≤ y := by omega
          have HW := Lib.hid (show ascGo none ps = false by rw [HV.out]; simp [hyz])
          clear HV hyz
          go_wp2
          go_quiet (fail)
          go_wp2
          go_ret
          exact RV_of (int_eq (by rw [HD.out, HW.out]; rfl)) (below_drewN (below_drewN hbw _) _)
      · have HW := Lib.hid (show ascGo none ps = true by rw [HE.out, List.drop_eq_nil_of_le (by omega), ascGo])
        go_wp2
        go_ret
        exact RV_of (int_eq (by rw [HD.out, HW.out]; rfl)) (below_drewN hbw _)
  · have q1 : (κ != 0) = true := by simpa using e
    have q2 : decide (κ = 0) = false := by simpa using e
    have HD := Lib.hid (show setCode v bs ps = κ by rw [HCC.out, if_neg e])
    clear HCC e
    go_enter Try.func68, Try.ntmps68
    go_wp2_with fail
    refine HC.out.mono ?_
    rintro e w1 ⟨rfl, hb1⟩
    have hbw := ((Below.refl w.heap.size w).alloc (Nat.le_refl _) (.cells #[.int .i64 v, .slice a0 bs.length c0] 30)).trans (hb1.mono (by simp))
    go_wp2
    go_ret
    exact RV_of (int_eq (by rw [HD.out])) hbw
end Go.Proofs.Ytahgialnhomefaa

namespace Go.Proofs.Ytahgialnhomefaa
open Go.RowKit Go.Maps Go.Shelf
def UB (w : World) (s : Value) (ms : List Nat) : Prop := ms.length ≤ 1100000 ∧ ((∃ a c, s = .slice a 0 c ∧ ms = []) ∨ ∃ b off cap, s = .slice (some ⟨b, off, none⟩) ms.length cap ∧ b < w.heap.size ∧ ∀ k, k < ms.length → w.cell? ⟨b, off + k, none⟩ = some (.int .u16 (ms[k]?.getD 0 : Nat)))
theorem UB.below {w w' : World} {s : Value} {ms : List Nat} (h : UB w s ms) {B : Nat} (hb : Below B w w') (hB : w.heap.size ≤ B) : UB w' s ms := by
  obtain ⟨hl, h | ⟨b, off, cap, e, hlt, hI⟩⟩ := h
  · exact ⟨hl, .inl h⟩
  · exact ⟨hl, .inr ⟨b, off, cap, e, Nat.lt_of_lt_of_le hlt hb.size, fun k hk => (hb.cell (p := ⟨b, off + k, none⟩) (Nat.lt_of_lt_of_le hlt hB)).trans (hI k hk)⟩⟩
theorem UB.form {w : World} {s : Value} {ms : List Nat} (h : UB w s ms) : ∃ a c, s = .slice a ms.length c := by
  rcases h.2 with ⟨a, c, rfl, rfl⟩ | ⟨b, off, cap, rfl, _⟩ <;> exact ⟨_, _, rfl⟩
/-- The masks of the blocks. -/
def mbs (bs : List Blk) : List Nat := bs.map fun x => mskR (ptsB x)
theorem mbs_len (bs : List Blk) : (mbs bs).length = bs.length := by simp [mbs]
theorem mbs_take {bs : List Blk} {k : Nat} (hk : k < bs.length) : mbs (bs.take (k + 1)) = mbs (bs.take k) ++ [mskR (ptsB (bs[k]?.getD default))] := by
  unfold mbs
  rw [List.take_succ_eq_append_getElem hk, List.map_append]
  simp [hk]
theorem mbs_at {bs : List Blk} {k : Nat} (hk : k < bs.length) : (mbs bs)[k]?.getD 0 = mskR (ptsB (bs[k]?.getD default)) := by simp [mbs, hk]
theorem beq_zero (n : Nat) : ((n : Int) == 0) = decide (n = 0) := by
  by_cases h : n = 0
  · subst h; rfl
  · rw [decide_eq_false h]; simp; omega
end Go.Proofs.Ytahgialnhomefaa

namespace Go.Proofs.Ytahgialnhomefaa
open Go.RowKit Go.Maps Go.Shelf
theorem IB.form {w : World} {s : Value} {zs : List Int} (h : IB w s zs) : ∃ a c, s = .slice a zs.length c := by
  rcases h.2 with ⟨a, c, rfl, rfl⟩ | ⟨b, off, cap, rfl, _⟩ <;> exact ⟨_, _, rfl⟩
theorem setCode_zero {v : Int} {bs : List Blk} {zs : List Int} (h : setCode v bs zs = 0) : isSysImpl v bs = true ∧ (∀ x ∈ bs, okB x) ∧ (∀ z ∈ zs, 0 ≤ z ∧ z < 15) ∧ zs.Pairwise (· < ·) ∧ ∀ z ∈ zs, z < v := by
  unfold setCode at h
  cases hi : isSysImpl v bs with
  | false => rw [hi] at h; simp at h
  | true =>
    rw [hi, if_pos rfl] at h
    obtain ⟨h3, h15, _⟩ := sys_size hi
    cases hp : (zs.all (inP v) && ascGo none zs) with
    | false => rw [hp] at h; simp at h
    | true =>
      rw [Bool.and_eq_true, List.all_eq_true] at hp
      have hin : ∀ z ∈ zs, 0 ≤ z ∧ z < v := fun z hz => by have := hp.1 z hz; simpa [inP] using this
      exact ⟨rfl, sys_ok hi, fun z hz => by have := hin z hz; omega, (asc_lt hp.2).1, fun z hz => (hin z hz).2⟩
theorem setCode_pt (v : Int) (bs : List Blk) (zs : List Int) : setCode v bs zs = if isSysImpl v bs then (if ptGo v none zs then 0 else 2) else 1 := by
  unfold setCode
  rw [ptGo_split]
set_option maxRecDepth 100000 in
theorem impPointsCode_any (v : Int) (s : Value) (bs : List Blk) (t : Value) (zs : List Int) (w : World) (h : SB w s bs) (ht : IB w t zs) :
    Calls Try.prog 69 #[.agg #[.int .i64 v, s], t] w (RV (.int .i64 (setCode v bs zs)) w) := by
  have hs := h.slice
  have HI := Lib.hid fun W (hb : Below w.heap.size w W) => IsSystem_any v s bs W (h.below hb (Nat.le_refl _))
  have HN := Lib.hid fun W (hb : Below w.heap.size w W) => isNumberSet_any v t zs W (ht.below hb (Nat.le_refl _))
  have HC := Lib.hid (setCode_pt v bs zs)
  have hts := ht.form
  obtain ⟨κ, hκ⟩ : ∃ κ, κ = setCode v bs zs := ⟨_, rfl⟩
  rw [← hκ] at HC ⊢
  have hb0 := (Below.refl w.heap.size w).alloc (Nat.le_refl _) (.cells #[.int .i64 v, s] 30)
  clear h ht hκ
  obtain ⟨a0, c0, rfl⟩ := hs
  obtain ⟨a1, c1, rfl⟩ := hts
  cases hi : isSysImpl v bs with
  | false =>
    rw [hi] at HI HC
    clear hi
    go_enter Try.func69, Try.ntmps69
    go_wp2_with fail
    refine (HI.out _ hb0).mono ?_
    rintro e w1 ⟨rfl, hb1⟩
    have hbw := hb0.trans (hb1.mono hb0.size)
    clear hb1
    go_wp2
    go_ret
    exact RV_of (int_eq (by rw [HC.out]; rfl)) hbw
  | true =>
    cases hp : ptGo v none zs with
    | false =>
      rw [hi, hp] at HC
      rw [hi] at HI
      rw [hp] at HN
      clear hi hp
      go_enter Try.func69, Try.ntmps69
      go_wp2_with fail
      refine (HI.out _ hb0).mono ?_
      rintro e w1 ⟨rfl, hb1⟩
      have q0 := cell_new hb1 0 rfl
      have hbw := hb0.trans (hb1.mono hb0.size)
      clear hb1
      go_wp2_with fail
      refine (HN.out _ hbw).mono ?_
      rintro e w2 ⟨rfl, rfl⟩
      go_wp2
      go_ret
      exact RV_of (int_eq (by rw [HC.out]; rfl)) hbw
    | true =>
      rw [hi, hp] at HC
      rw [hi] at HI
      rw [hp] at HN
      clear hi hp
      go_enter Try.func69, Try.ntmps69
      go_wp2_with fail
      refine (HI.out _ hb0).mono ?_
      rintro e w1 ⟨rfl, hb1⟩
      have q0 := cell_new hb1 0 rfl
      have hbw := hb0.trans (hb1.mono hb0.size)
      clear hb1
      go_wp2_with fail
      refine (HN.out _ hbw).mono ?_
      rintro e w2 ⟨rfl, rfl⟩
      go_wp2
      go_ret
      exact RV_of (int_eq (by rw [HC.out]; rfl)) hbw
def closF (v : Int) (bs : List Blk) (zs : List Int) : Bool × Int := (decide (setCode v bs zs = 0) && closedL bs zs, setCode v bs zs)
def indF (v : Int) (bs : List Blk) (zs : List Int) : Bool × Int := (decide (setCode v bs zs = 0) && indepL bs zs, setCode v bs zs)
end Go.Proofs.Ytahgialnhomefaa

namespace Go.Proofs.Ytahgialnhomefaa
open Go.RowKit Go.Maps
def iswF (v : Int) (bs : List Blk) (zs : List Int) : Bool × Int := (decide (setCode v bs zs = 0) && !hasN (redL 2 (mrkL (List.replicate v.toNat 0) zs) (basL 2 (rowsB v.toNat bs))), setCode v bs zs)
theorem set_in {v : Int} {bs : List Blk} {zs : List Int} (h : setCode v bs zs = 0) : isSysImpl v bs = true ∧ ∀ z ∈ zs, 0 ≤ z ∧ z < v := by
  unfold setCode at h
  split at h
  · rename_i hi
    refine ⟨hi, ?_⟩
    split at h
    · rename_i hp
      rw [Bool.and_eq_true, List.all_eq_true] at hp
      intro z hz
      have := hp.1 z hz
      simpa [inP] using this
    · cases h
  · cases h
set_option maxRecDepth 100000 in
set_option maxHeartbeats 1000000 in
theorem mark2_nil (b off n c1 : Nat) (ws : List Int) (p : Option Addr × Nat) (w : World) (hw : Ints w b off ws) :
    Calls Try.prog 70 #[.slice (some ⟨b, off, none⟩) n c1, .slice p.1 0 p.2] w (fun e w' => e = .returned (.tuple #[]) ∧ Wr w w' b off n ∧ Ints w' b off (mrkL ws [])) := by
  obtain ⟨a, c⟩ := p
  have HW := Lib.hid hw
  clear hw
  go_enter Try.func70, Try.ntmps70
  go_wp2
  refine wp_loop_rounds 1 ?_
  rw [rounds_succ]
  go_wp2
  go_returns
  exact ⟨rfl, Wr.refl _ _ _ _, HW.out⟩
set_option maxRecDepth 100000 in
set_option maxHeartbeats 4000000 in
theorem IsWord_any (v : Int) (s : Value) (bs : List Blk) (t : Value) (zs : List Int) (w : World) (h : SB w s bs) (ht : IB w t zs) :
    Calls Try.prog 39 #[.agg #[.int .i64 v, s], t] w (RV (boolCode (iswF v bs zs).1 (iswF v bs zs).2) w) := by
  have hs := h.slice
  have hts := ht.form
  have HPC := Lib.hid fun W (hb : Below w.heap.size w W) => impPointsCode_any v s bs t zs W (h.below hb (Nat.le_refl _)) (ht.below hb (Nat.le_refl _))
  have HSB := Lib.hid h
  have HIB := Lib.hid ht
  have hb0 := (Below.refl w.heap.size w).alloc (Nat.le_refl _) (.cells #[.int .i64 v, s] 30)
  by_cases hc : setCode v bs zs = 0
  · obtain ⟨hi, hin⟩ := set_in hc
    obtain ⟨hv3, hv15, hb35⟩ := sys_size hi
    obtain ⟨n, rfl⟩ := Int.eq_ofNat_of_zero_le (show 0 ≤ v by omega)
    have HV := Lib.hid (show iswF (n : Int) bs zs = (!hasN (redL 2 (mrkL (List.replicate n 0) zs) (basL 2 (rowsB n bs))), 0) by simp [iswF, hc])
    rw [hc] at HPC
    rw [HV.out]
    have HBO := Lib.hid fun W (hb : Below w.heap.size w W) => basisOf2_any n s bs W (h.below hb (Nat.le_refl _)) hi
    have hRw := rowsB_wf (p := 2) (by decide) n bs
    obtain ⟨he, _, _⟩ := basL_spec (p := 2) (.inl rfl) hRw
    have HWF := Lib.hid he.wf
    have HNE := Lib.hid he.ne
    have HLE := Lib.hid (basL_len (p := 2) (.inl rfl) hRw)
    have HMW := Lib.hid (show Wf 2 n (mrkL (List.replicate n 0) zs) from ⟨by rw [mrkL_len, List.length_replicate], mrkL_in (by decide) zs _ (fun x hx => by rw [(List.mem_replicate.1 hx).2]; omega)⟩)
    have HIN := Lib.hid hin
    obtain ⟨B, hB⟩ : ∃ B, B = basL 2 (rowsB n bs) := ⟨_, rfl⟩
    rw [← hB] at HBO HWF HNE HLE ⊢
    have hmk := mkW2 n (by omega)
    obtain ⟨β, hβ⟩ : ∃ β, β = !hasN (redL 2 (mrkL (List.replicate n 0) zs) B) := ⟨_, rfl⟩
    rw [← hβ]
    have HBE := Lib.hid hβ
    clear h ht hc hi hin HV hRw he hB HSB hβ
    obtain ⟨a0, c0, rfl⟩ := hs
    obtain ⟨a1, c1, rfl⟩ := hts
    go_enter Try.func39, Try.ntmps39
    go_wp2_with fail
    refine (HPC.out _ hb0).mono ?_
    rintro e w1 ⟨rfl, hb1⟩
    have q0 := cell_new hb1 0 rfl
    have q1 := cell_new hb1 1 rfl
    have hbw := below_new hb1
    have HBW := Lib.hid hbw
    have hz1 := hbw.size
    have hlt := block_lt_of_cell q0
    clear hb1 hbw
    go_wp2_with fail
    have hb2 := (Below.refl w1.heap.size w1).alloc (Nat.le_refl _) (.cells (madeCells #[.int .i64 0] n) 72)
    have hI2 : Ints (w1.alloc (.cells (madeCells #[.int .i64 0] n) 72)) w1.heap.size 0 (List.replicate n 0) := fun k hk => by
      rw [List.length_replicate] at hk
      rw [World.cell?_alloc_at _ _ _ _ rfl]
      simp [madeCells, hk, Nat.mod_one]
    have hF2 : ∀ o, (w1.alloc (.cells (madeCells #[.int .i64 0] n) 72)).frozen? ⟨w1.heap.size, o, none⟩ = false := fun o => by simp
    have hz2 : (w1.alloc (.cells (madeCells #[.int .i64 0] n) 72)).heap.size = w1.heap.size + 1 := by simp
    obtain ⟨w2, hw2⟩ : ∃ w2, w2 = w1.alloc (.cells (madeCells #[.int .i64 0] n) 72) := ⟨_, rfl⟩
    rw [← hw2] at hb2 hI2 hF2 hz2 ⊢
    have hIB2 := HIB.out.below (HBW.out.trans (hb2.mono hz1)) (Nat.le_refl _)
    have hmark : Calls Try.prog 70 #[.slice (some ⟨w1.heap.size, 0, none⟩) n n, .slice a1 zs.length c1] w2 (fun e w' => e = .returned (.tuple #[]) ∧ Wr w2 w' w1.heap.size 0 n ∧ Ints w' w1.heap.size 0 (mrkL (List.replicate n 0) zs)) := by
      rcases HIB.out.2 with ⟨_, _, _, hnil⟩ | ⟨b, off, cap, e, hb, _⟩
      · rw [hnil]
        exact mark2_nil _ _ _ _ _ (a1, c1) _ hI2
      · exact mark2_any w1.heap.size 0 n n (List.replicate n 0) zs _ w2 hI2 (by simp) hIB2 (fun b2 off2 m c e2 => by
          rw [e] at e2
          simp at e2
          omega) HIN.out (fun k _ => hF2 _)
    have HMK := Lib.hid hmark
    have HB2 := Lib.hid hb2
    have HF2 := Lib.hid hF2
    clear hmark hIB2 hI2 hF2 hb2 hw2 hmk
    obtain ⟨M, hM⟩ : ∃ M, M = mrkL (List.replicate n 0) zs := ⟨_, rfl⟩
    rw [← hM] at HMK HMW HBE
    clear hM
    go_wp2_with fail
    refine HMK.out.mono ?_
    rintro e w3 ⟨rfl, hR3, hI3⟩
    have hs3 := hR3.gr.size
    have h13 : Below w1.heap.size w1 w3 := HB2.out.grown hR3.gr HB2.out.size (fun r e => by cases e; exact Nat.le_refl _)
    have hB3 : Below w.heap.size w w3 := HBW.out.trans (h13.mono hz1)
    have p0 := (h13.cell (p := ⟨w.heap.size, 0, none⟩) hlt).trans q0
    have p1 := (h13.cell (p := ⟨w.heap.size, 1, none⟩) hlt).trans q1
    have HI3 := Lib.hid hI3
    have HF3 := Lib.hid fun o => (hR3.fz o).trans (HF2.out o)
    have HB3 := Lib.hid hB3
    have HBQ := Lib.hid (HBO.out w3 hB3)
    clear hR3 hI3 h13 hB3 q0 q1 HMK HBO HF2 HB2
    go_wp2_with fail
    refine HBQ.out.mono ?_
    rintro e w4 ⟨ta, tc, rfl, hb4, hrd⟩
    have HRD := Lib.hid (reduce2_any w1.heap.size 0 n n M ta tc B.length B w4 (HI3.out.below hb4 (by omega)) HMW.out (hrd _ 0 (by omega)) HWF.out HNE.out (fun k _ => (hb4.frozen (p := ⟨w1.heap.size, 0 + k, none⟩) (by show w1.heap.size < _; omega)).trans (HF3.out _)) (by omega) rfl (by have := HLE.out; omega))
    have hz4 := hb4.size
    have HB4 := Lib.hid (HB3.out.trans (hb4.mono HB3.out.size))
    clear hb4 hrd p0 p1 HBQ
    go_wp2_with fail
    refine HRD.out.mono ?_
    rintro e w5 ⟨rfl, hR5, hI5⟩
    have HB5 := Lib.hid (HB4.out.grown hR5.gr HB4.out.size (fun r e => by cases e; exact hz1))
    have HWT := Lib.hid (weight2_any w1.heap.size 0 n n (redL 2 M B) w5 hI5 ((redL_wf (.inl rfl) HMW.out HWF.out).1) (by omega))
    have hwp := wtL_pos (ws := redL 2 M B)
    obtain ⟨R, hR⟩ : ∃ R, R = redL 2 M B := ⟨_, rfl⟩
    rw [← hR] at HWT hwp HBE
    obtain ⟨q, hq⟩ : ∃ q, q = wtL R := ⟨_, rfl⟩
    rw [← hq] at HWT hwp
    clear hR5 hI5 hR hq HRD
    cases hn : hasN R with
    | false =>
      have hq0 : q = 0 := by
        rcases Nat.eq_zero_or_pos q with h | h
        · exact h
        · rw [hwp.1 h] at hn; cases hn
      subst hq0
      obtain rfl : β = true := by rw [HBE.out, hn]; rfl
      clear hwp hn
      go_wp2_with fail
      refine HWT.out.mono ?_
      rintro e w6 ⟨rfl, rfl⟩
      go_wp2
      exact bodyPost_ret (v := boolCode true 0) (by simp [results, Try.results39, boolCode, go_sem, *]) rfl (RV_of rfl HB5.out)
    | true =>
      have hq0 : 0 < q := hwp.2 hn
      have hne : ((q : Int) == 0) = false := by simp; omega
      obtain rfl : β = false := by rw [HBE.out, hn]; rfl
      clear hwp hn
      go_wp2_with fail
      refine HWT.out.mono ?_
      rintro e w6 ⟨rfl, rfl⟩
      go_wp2
      exact bodyPost_ret (v := boolCode false 0) (by simp [results, Try.results39, boolCode, go_sem, *]) rfl (RV_of rfl HB5.out)
  · have HV := Lib.hid (show iswF v bs zs = (false, setCode v bs zs) by simp [iswF, hc])
    obtain ⟨κ, hκ⟩ : ∃ κ, κ = setCode v bs zs := ⟨_, rfl⟩
    rw [← hκ] at HPC HV hc
    have hne : (κ != 0) = true := by simpa using hc
    clear hc hκ h ht HSB HIB
    rw [HV.out]
    obtain ⟨a0, c0, rfl⟩ := hs
    obtain ⟨a1, c1, rfl⟩ := hts
    go_enter Try.func39, Try.ntmps39
    go_wp2_with fail
    refine (HPC.out _ hb0).mono ?_
    rintro e w1 ⟨rfl, hb1⟩
    have hbw := below_new hb1
    clear hb1
    go_wp2
    exact bodyPost_ret (v := boolCode false κ) (by simp [results, Try.results39, boolCode, go_sem, *]) rfl (RV_of rfl hbw)
end Go.Proofs.Ytahgialnhomefaa

namespace Go.Proofs.Ytahgialnhomefaa
open Go.RowKit Go.Maps
set_option maxRecDepth 100000 in
set_option maxHeartbeats 4000000 in
theorem l09Rows_any (n : Nat) (s : Value) (bs : List Blk) (w : World) (h : SB w s bs) (hi : isSysImpl (n : Int) bs = true) :
    Calls Try.prog 64 #[.agg #[.int .i64 (n : Int), s]] w (fun e w' => ∃ u us, e = .returned u ∧ TabL w' w.heap.size u us (rowsB n bs) ∧ Below w.heap.size w w') := by
  have hs := h.slice
  obtain ⟨hv3, hv15, hb35⟩ := sys_size hi
  have HG := Lib.hid (sys_good hi)
  have HSX := Lib.hid h.sx
  have hmk := mkRow n (by omega)
  clear h hi
  obtain ⟨a0, c0, rfl⟩ := hs
  go_enter Try.func64, Try.ntmps64
  go_wp2
  have hbA : Below w.heap.size w (w.alloc (.cells #[.int .i64 (n : Int), .slice a0 bs.length c0] 30)) := (Below.refl _ _).alloc (Nat.le_refl _) _
  obtain ⟨w1, hw1⟩ : ∃ w1, w1 = w.alloc (.cells #[.int .i64 (n : Int), .slice a0 bs.length c0] 30) := ⟨_, rfl⟩
  have x0 : w1.cell? ⟨w.heap.size, 0, none⟩ = some (.int .i64 (n : Int)) := by rw [hw1]; simp [go_sem]
  have x1 : w1.cell? ⟨w.heap.size, 1, none⟩ = some (.slice a0 bs.length c0) := by rw [hw1]; simp [go_sem]
  have hz1 : w1.heap.size = w.heap.size + 1 := by rw [hw1]; simp
  rw [← hw1] at hbA ⊢
  have HT0 := Lib.hid (TabL.new0 (lo := w1.heap.size) w1 (Nat.le_refl _))
  have HBA := Lib.hid hbA
  clear hw1 hbA
  rw [← hz1]
  have hz1' : w.heap.size < w1.heap.size := by omega
  clear hz1
  go_loopw [3, 4] (fun o i wr => ∃ (a : Nat) (us : List Value), a ≤ bs.length ∧ i = .int .i64 (a : Int) ∧ Below w1.heap.size w1 wr ∧ TabL wr w1.heap.size o us (rowsB n (bs.take a)) ∧ ∃ p m c, o = .slice p m c) (fun _ i _ => bs.length - (intOf i).toNat)
  case atStart => exact ⟨0, [], Nat.zero_le _, rfl, (Below.refl _ _).alloc (Nat.le_refl _) _, HT0.out, _, _, _, rfl⟩
  case round =>
    obtain ⟨m, us, hm, rfl, hB, hT, p3, m3, c3, rfl⟩ := hrel
    have HB := Lib.hid hB
    have HT := Lib.hid hT
    have hz := hB.size
    have r0 := (hB.cell (p := ⟨w.heap.size, 0, none⟩) (by show w.heap.size < _; omega)).trans x0
    have r1 := (hB.cell (p := ⟨w.heap.size, 1, none⟩) (by show w.heap.size < _; omega)).trans x1
    clear hB hT
    by_cases hml : m < bs.length
    · have g0 : decide ((m : Int) < (bs.length : Int)) = true := by simp; omega
      rcases HSX.out with ⟨_, _, _, hnil⟩ | ⟨b, off, cap, hv, hblt, hbl⟩
      · rw [hnil] at hml; simp at hml
      simp at hv
      obtain ⟨rfl, rfl⟩ := hv
      have hbw : Below w.heap.size w wr := HBA.out.trans (HB.out.mono (by omega))
      have HBW := Lib.hid hbw
      obtain ⟨x, hx, ex, y0, y1, y2⟩ := blks_at (hbl.below hbw hblt) hml
      have hgx := goodB_iff.1 (HG.out x hx)
      have HTK := Lib.hid (show rowsB n (bs.take (m + 1)) = rowsB n (bs.take m) ++ [rowB n x] by rw [List.take_add_one, ex]; simp [rowsB])
      obtain ⟨xa, xb, xc⟩ := x
      dsimp only at hgx y0 y1 y2
      obtain ⟨p, rfl⟩ := Int.eq_ofNat_of_zero_le hgx.1
      obtain ⟨q, rfl⟩ := Int.eq_ofNat_of_zero_le (show 0 ≤ xb by omega)
      obtain ⟨r, rfl⟩ := Int.eq_ofNat_of_zero_le (show 0 ≤ xc by omega)
      have hp : p < n := by omega
      have hq : q < n := by omega
      have hr : r < n := by omega
      have HRB := Lib.hid (show rowB n ⟨(p : Int), (q : Int), (r : Int)⟩ = (((List.replicate n (0 : Int)).set p 1).set q 1).set r 1 by simp [rowB, mrkL])
      rw [HRB.out] at HTK
      have i0 : (0 : Int) ≤ (m : Int) := by omega
      have i1 : (m : Int) < (bs.length : Int) := by omega
      have HO0 := Lib.hid (OwnJ.made0 wr (base := wr.heap.size) n (by omega) (Nat.le_refl _))
      have HB0 := Lib.hid ((Below.refl wr.heap.size wr).alloc (Nat.le_refl _) (.cells (madeCells #[.int .i64 0] n) 2))
      have hbz : b < wr.heap.size := by have := HBW.out.size; omega
      clear hgx hx ex hbl hbw HRB
      go_wp2_with fail
      obtain ⟨V, hV⟩ : ∃ V, V = wr := ⟨_, rfl⟩
      rw [← hV] at HT HB HBW HO0 HB0 hz hbz r0 r1 y0 y1 y2 ⊢
      clear hV
      obtain ⟨W0, hW0⟩ : ∃ W0, W0 = V.alloc (.cells (madeCells #[.int .i64 0] n) 2) := ⟨_, rfl⟩
      rw [← hW0] at HO0 HB0 ⊢
      clear hW0
      obtain ⟨L0, hL0⟩ : ∃ L0, L0 = List.replicate n (0 : Int) := ⟨_, rfl⟩
      rw [← hL0] at HO0 HTK
      have hl0 : L0.length = n := by rw [hL0]; simp
      clear hL0
      refine wp_loop_rounds 4 ?_
      rw [rounds_succ]
      have b0 := (HB0.out.cell (p := ⟨w.heap.size, 0, none⟩) (by show w.heap.size < _; omega)).trans r0
      have b1 := (HB0.out.cell (p := ⟨w.heap.size, 1, none⟩) (by show w.heap.size < _; omega)).trans r1
      have b2 := (HB0.out.cell (p := ⟨b, off + m * 3, none⟩) hbz).trans y0
      have s1 := HO0.out.at_ (i := p) (by rw [hl0]; exact hp)
      have s2 := s1.1
      have s3 := s1.2.2.2.2
      have s4 := HO0.out.setT (i := p) (x := 1) (by rw [hl0]; exact hp)
      have HO1 := Lib.hid s4.1
      have HB1 := Lib.hid (HB0.out.grown s4.2 HB0.out.size (fun r e => by cases e; exact Nat.le_refl _))
      have hl1 : (L0.set p 1).length = n := by rw [List.length_set]; exact hl0
      clear s1 s4
      go_wp2_with fail
      obtain ⟨W1, hW1⟩ : ∃ W, W = W0.setCell ⟨V.heap.size, p, none⟩ (.int .i64 1) := ⟨_, rfl⟩
      rw [← hW1] at HO1 HB1 ⊢
      obtain ⟨L1, hL1⟩ : ∃ L, L = L0.set p 1 := ⟨_, rfl⟩
      rw [← hL1] at HO1 HTK hl1
      clear hW1 hL1 HO0 HB0 hl0 b0 b1 b2 s2 s3
      rw [rounds_succ]
      have b0 := (HB1.out.cell (p := ⟨w.heap.size, 0, none⟩) (by show w.heap.size < _; omega)).trans r0
      have b1 := (HB1.out.cell (p := ⟨w.heap.size, 1, none⟩) (by show w.heap.size < _; omega)).trans r1
      have b2 := (HB1.out.cell (p := ⟨b, off + m * 3 + 1, none⟩) hbz).trans y1
      have s1 := HO1.out.at_ (i := q) (by rw [hl1]; exact hq)
      have s2 := s1.1
      have s3 := s1.2.2.2.2
      have s4 := HO1.out.setT (i := q) (x := 1) (by rw [hl1]; exact hq)
      have HO2 := Lib.hid s4.1
      have HB2 := Lib.hid (HB1.out.grown s4.2 HB1.out.size (fun r e => by cases e; exact Nat.le_refl _))
      have hl2 : (L1.set q 1).length = n := by rw [List.length_set]; exact hl1
      clear s1 s4
      go_wp2_with fail
      obtain ⟨W2, hW2⟩ : ∃ W, W = W1.setCell ⟨V.heap.size, q, none⟩ (.int .i64 1) := ⟨_, rfl⟩
      rw [← hW2] at HO2 HB2 ⊢
      obtain ⟨L2, hL2⟩ : ∃ L, L = L1.set q 1 := ⟨_, rfl⟩
      rw [← hL2] at HO2 HTK hl2
      clear hW2 hL2 HO1 HB1 hl1 b0 b1 b2 s2 s3
      rw [rounds_succ]
      have b0 := (HB2.out.cell (p := ⟨w.heap.size, 0, none⟩) (by show w.heap.size < _; omega)).trans r0
      have b1 := (HB2.out.cell (p := ⟨w.heap.size, 1, none⟩) (by show w.heap.size < _; omega)).trans r1
      have b2 := (HB2.out.cell (p := ⟨b, off + m * 3 + 2, none⟩) hbz).trans y2
      have s1 := HO2.out.at_ (i := r) (by rw [hl2]; exact hr)
      have s2 := s1.1
      have s3 := s1.2.2.2.2
      have s4 := HO2.out.setT (i := r) (x := 1) (by rw [hl2]; exact hr)
      have HO3 := Lib.hid s4.1
      have HB3 := Lib.hid (HB2.out.grown s4.2 HB2.out.size (fun r e => by cases e; exact Nat.le_refl _))
      have hl3 : (L2.set r 1).length = n := by rw [List.length_set]; exact hl2
      clear s1 s4
      go_wp2_with fail
      obtain ⟨W3, hW3⟩ : ∃ W, W = W2.setCell ⟨V.heap.size, r, none⟩ (.int .i64 1) := ⟨_, rfl⟩
      rw [← hW3] at HO3 HB3 ⊢
      obtain ⟨L3, hL3⟩ : ∃ L, L = L2.set r 1 := ⟨_, rfl⟩
      rw [← hL3] at HO3 HTK hl3
      clear hW3 hL3 HO2 HB2 hl2 b0 b1 b2 s2 s3
      rw [rounds_succ]
      have hll : us.length ≤ 1100000 := by rw [HT.out.len, rowsB_len, List.length_take]; omega
      have HTO := Lib.hid (HT.out.own.below HB3.out (Nat.le_refl _))
      have hm3 : m3 = us.length := by
        rcases HT.out.own.2 with ⟨hv, h0⟩ | ⟨_, _, _, hv, _⟩
        · cases hv; exact h0.symm
        · cases hv; rfl
      subst hm3
      have hzq := HB3.out.size
      go_wp2_with (at_builtin; refine wpList_append_hdr rfl _ _ rfl w1.heap.size _ us rfl (HTO.out.below ((Below.refl _ _).alloc (Nat.le_refl _) _) (Nat.le_refl _)) _ _ rfl (some ⟨V.heap.size, 0, none⟩) n n (by simp [go_sem]) hll (by simp; omega) ?_; intro G' cap' w4 hV4 hg4 hG4)
      have hb6 := (Below.refl W3.heap.size W3).alloc (Nat.le_refl _) (.cells #[.slice (some ⟨V.heap.size, 0, none⟩) n n] 38)
      have hbl := (HT.out.own.blkP)
      have hsn := HT.out.snocB (HB3.out.trans (hb6.mono hzq)) (HO3.out.below hb6 (Nat.le_refl _)) hz hg4 hV4 (fun G e => by have e : G' = G := (by simpa [Value.ownBlock] using e); subst e; rcases hG4 with h | h; exact .inl h; exact .inr (by omega))
      rw [← HTK.out] at hsn
      have HSN := Lib.hid hsn
      have hgo := gb_trans (World.grownBy_alloc _ _ none) hg4
      have HB4 := Lib.hid ((HB.out.trans (HB3.out.mono hz)).grown hgo (by omega) (fun r e => (hbl r e).1))
      clear hsn hg4 hV4 hgo hbl
      go_wp2
      go_roundw
      case rel => first
        | exact ⟨m + 1, _, by omega, by go_num, HB4.out, HSN.out, _, _, _, rfl⟩
        | ((repeat apply Exists.intro); exact ⟨⟨m + 1, _, by omega, by go_num, HB4.out, HSN.out, _, _, _, rfl⟩, rfl⟩)
      case measure => simp [intOf]; omega
    · have g0 : decide ((m : Int) < (bs.length : Int)) = false := by simp; omega
      have e : bs.take m = bs := List.take_of_length_le (by omega)
      rw [e] at HT
      go_wp2
      go_ret
      refine ⟨_, us, rfl, ?_, HBA.out.trans (HB.out.mono (by omega))⟩
      exact ⟨ownsRow_base HT.out.own (by omega), HT.out.len, fun k x hk => (HT.out.row k x hk).baseP (by omega), HT.out.ne, HT.out.inc⟩
end Go.Proofs.Ytahgialnhomefaa

namespace Go.Proofs.Ytahgialnhomefaa
open Go.RowKit Go.Maps
def swpG {α : Type} (d : α) (R : List α) (k i : Nat) : List α := (R.set i (R[k]?.getD d)).set k (R[i]?.getD d)
theorem swpG_at {α : Type} {d : α} {R : List α} {k i : Nat} (hk : k < R.length) (hi : i < R.length) (m : Nat) : (swpG d R k i)[m]? = R[if m = k then i else if m = i then k else m]? := by
  unfold swpG
  by_cases h0 : m = k
  · subst h0
    rw [if_pos rfl, List.getElem?_set_self (by rw [List.length_set]; exact hk)]
    simp [hi]
  · rw [if_neg h0, List.getElem?_set_ne (fun h => h0 h.symm)]
    by_cases h1 : m = i
    · subst h1
      rw [if_pos rfl, List.getElem?_set_self hi]
      simp [hk]
    · rw [if_neg h1, List.getElem?_set_ne (fun h => h1 h.symm)]
theorem TabL.swp {W : World} {lo G m c : Nat} {us : List Value} {Rs : List (List Int)} {k i : Nat} {uk ui : Value} (h : TabL W lo (.slice (some ⟨G, 0, none⟩) m c) us Rs) (hk : us[k]? = some uk) (hi : us[i]? = some ui) :
    TabL ((W.setCell ⟨G, i, none⟩ uk).setCell ⟨G, k, none⟩ ui) lo (.slice (some ⟨G, 0, none⟩) m c) (swpG (.slice none 0 0) us k i) (swpG [] Rs k i) ∧ W.grownBy ((W.setCell ⟨G, i, none⟩ uk).setCell ⟨G, k, none⟩ ui) (some G) := by
  have hkl := (List.getElem?_eq_some_iff.1 hk).1
  have hil := (List.getElem?_eq_some_iff.1 hi).1
  obtain ⟨s1, s2⟩ := h.own.setT (i := i) (x := uk)
  obtain ⟨t1, t2⟩ := s1.setT (i := k) (x := ui)
  have hg := gb_trans2 s2 t2
  have hat : ∀ m, (swpG (.slice none 0 0) us k i)[m]? = us[if m = k then i else if m = i then k else m]? := swpG_at hkl hil
  have hinj : ∀ a b : Nat, a ≠ b → (if a = k then i else if a = i then k else a) ≠ (if b = k then i else if b = i then k else b) := by
    intro a b hab
    split <;> split <;> (repeat' split) <;> omega
  have hus : swpG (.slice none 0 0) us k i = (us.set i uk).set k ui := by unfold swpG; rw [hk, hi]; rfl
  refine ⟨⟨by rw [hus]; exact t1, by simp [swpG, h.len], fun q x hx => ?_, fun x hx => ?_, fun a b x y hab hx hy => ?_⟩, hg⟩
  · rw [hat] at hx
    rw [swpG_at (by rw [← h.len]; exact hkl) (by rw [← h.len]; exact hil)]
    exact (h.row _ x hx).apartP hg (fun r hr => by cases hr; exact h.ne x (List.mem_of_getElem? hx) G rfl)
  · obtain ⟨q, hq⟩ := List.mem_iff_getElem?.1 hx
    rw [hat] at hq
    exact h.ne x (List.mem_of_getElem? hq)
  · rw [hat] at hx hy
    exact h.inc _ _ x y (hinj a b hab) hx hy
end Go.Proofs.Ytahgialnhomefaa

namespace Go.Proofs.Ytahgialnhomefaa
variable {p : Int} {n c k : Nat}
theorem bestM_eq {R : List (List Int)} {q : Nat} (hk : k ≤ q) (hq : q < R.length) (hv : vec (R[q]?.getD []) c ≠ 0) (hz : ∀ i, k ≤ i → i < q → vec (R[i]?.getD []) c = 0) : bestM c k R = some q := by
  unfold bestM
  rw [List.range_eq_range', List.drop_range']
  rw [List.find?_eq_some_iff_getElem]
  refine ⟨by simpa using hv, q - k, by rw [List.length_range']; omega, ?_, fun j hj => ?_⟩
  · simp; omega
  · have := hz (0 + 1 * k + 1 * j) (by omega) (by omega)
    simp [List.getElem_range'] at this ⊢
    exact this
theorem bestM_no {R : List (List Int)} (hz : ∀ i, k ≤ i → i < R.length → vec (R[i]?.getD []) c = 0) : bestM c k R = none := by
  cases h : bestM c k R with
  | none => rfl
  | some i =>
    obtain ⟨h1, h2, h3⟩ := bestM_some h
    exact absurd (hz i h1 h2) h3
/-- The table while the rows behind k are being gone through. -/
def tailK (p : Int) (c k : Nat) (own : List Int) (R : List (List Int)) (i : Nat) : List (List Int) := R.mapIdx fun a r => if k < a ∧ a < i then clrM p c own r else r
theorem tailK_len (own : List Int) (R : List (List Int)) (i : Nat) : (tailK p c k own R i).length = R.length := by simp [tailK]
theorem tailK_at {own : List Int} {R : List (List Int)} {i a : Nat} (ha : a < R.length) : (tailK p c k own R i)[a]?.getD [] = if k < a ∧ a < i then clrM p c own (R[a]?.getD []) else R[a]?.getD [] := by
  simp [tailK, ha]
theorem tailK_start {own : List Int} {R : List (List Int)} : tailK p c k own R (k + 1) = R := by
  apply List.ext_getElem
  · exact tailK_len _ _ _
  · intro a h1 h2
    have : ¬ (k < a ∧ a < k + 1) := by omega
    simp only [tailK, List.getElem_mapIdx]
    rw [if_neg this]
theorem tailK_end {own : List Int} {R : List (List Int)} (_hk : k < R.length) : tailK p c k own R R.length = tailM p c k own R := by
  apply List.ext_getElem
  · rw [tailK_len]; simp [tailM]; omega
  · intro a h1 h2
    rw [tailK_len] at h1
    simp only [tailK, tailM, List.getElem_mapIdx]
    rw [List.getElem_append]
    by_cases h : k < a
    · rw [if_pos ⟨h, h1⟩, dif_neg (by simp; omega)]
      simp only [List.getElem_map, List.getElem_drop, List.length_take]
      congr 2
      omega
    · rw [if_neg (fun x => h x.1), dif_pos (by simp; omega)]
      simp
theorem tailK_set {own : List Int} {R : List (List Int)} {i : Nat} (hk : k < i) (hi : i < R.length) {z : List Int} (hz : z = clrM p c own (R[i]?.getD [])) : (tailK p c k own R i).set i z = tailK p c k own R (i + 1) := by
  subst hz
  apply List.ext_getElem
  · rw [List.length_set, tailK_len, tailK_len]
  · intro a h1 h2
    rw [tailK_len] at h2
    rw [List.getElem_set]
    by_cases e : i = a
    · subst e
      rw [if_pos rfl]
      simp only [tailK, List.getElem_mapIdx]
      rw [if_pos ⟨hk, by omega⟩]
      simp [hi]
    · rw [if_neg e]
      simp only [tailK, List.getElem_mapIdx]
      have : (k < a ∧ a < i) ↔ (k < a ∧ a < i + 1) := by omega
      simp only [this]
theorem set_self {α : Type} {l : List α} {i : Nat} {z : α} (h : l[i]? = some z) : l.set i z = l := by
  apply List.ext_getElem?
  intro a
  by_cases e : i = a
  · subst e
    rw [List.getElem?_set_self (List.getElem?_eq_some_iff.1 h).1, h]
  · rw [List.getElem?_set_ne e]
/-- A row while its numbers are being gone through. -/
def rowJ (n : Nat) (p t : Int) (own r : List Int) (j : Nat) : List Int := (List.range n).map fun b => if b < j then (vec r b + t * vec own b) % p else vec r b
theorem rowJ_len (t : Int) (own r : List Int) (j : Nat) : (rowJ n p t own r j).length = n := by simp [rowJ]
theorem rowJ_at {t : Int} {own r : List Int} {j : Nat} (hj : j < n) : (rowJ n p t own r j)[j]?.getD 0 = vec r j := by simp [rowJ, hj]
theorem rowJ_set {t : Int} {own r : List Int} {j : Nat} (_hj : j < n) : (rowJ n p t own r j).set j ((vec r j + t * vec own j) % p) = rowJ n p t own r (j + 1) := by
  apply List.ext_getElem
  · rw [List.length_set, rowJ_len, rowJ_len]
  · intro a h1 h2
    rw [rowJ_len] at h2
    rw [List.getElem_set]
    by_cases e : j = a
    · subst e
      rw [if_pos rfl]; simp [rowJ]
    · rw [if_neg e]
      have : a < j ↔ a < j + 1 := by omega
      simp [rowJ, this]
theorem rowJ_start (hp : 0 < p) {t : Int} {own r : List Int} (hr : Wf p n r) (ho : ∀ b, b < c → vec own b = 0) : rowJ n p t own r c = r := by
  apply List.ext_getElem
  · rw [rowJ_len, hr.1]
  · intro a h1 h2
    simp only [rowJ, List.getElem_map, List.getElem_range]
    have hv : vec r a = r[a] := vec_at h2
    split
    · rw [ho a (by assumption), Int.mul_zero, Int.add_zero, hr.mod hp, hv]
    · exact hv
theorem rowJ_end {t : Int} {own r : List Int} (hr : Wf p n r) (ho : own.length = n) : rowJ n p t own r n = addL p t own r := by
  apply List.ext_getElem
  · rw [rowJ_len, addL_len, hr.1, ho]; omega
  · intro a h1 h2
    rw [rowJ_len] at h1
    rw [← vec_at h2, addL_at hr.1 ho h1]
    simp [rowJ, h1]
theorem rankM_nil (p : Int) (n : Nat) : rankM p n [] = 0 := by
  unfold rankM
  suffices h : runM p [] n = ([], 0) by rw [h]
  induction n with
  | zero => rfl
  | succ n ih => rw [runM_succ, ih]; rfl
theorem swpM_len (R : List (List Int)) (k i : Nat) : (swpM R k i).length = R.length := by simp [swpM]
end Go.Proofs.Ytahgialnhomefaa

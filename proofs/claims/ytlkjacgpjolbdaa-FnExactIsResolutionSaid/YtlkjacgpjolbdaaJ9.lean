
/- spec.l02Square. The model's sets of blocks. The model's points of blocks as digits, disjoint sets and classes. AreDisjoint and IsClass of the model. AreDisjoint and IsClass of the model: whole. Rows of rows of integers that a call makes by append; the squares of few points. impl.SquareOf makes the square of its number. The model's l01Order. -/
import Derived.Test.YtlkjacgpjolbdaaJ8
import Derived.Deep.QuietTactic
import Derived.BigQuiet
import Derived.IntWalk
import Derived.StillTailTactics
namespace Go.Proofs.Ytlkjacgpjolbdaa
open Go.RowKit Go.Maps
theorem IB.pos {w : World} {a : Option Addr} {n c : Nat} {t : List Int} (h : IB w (.slice a n c) t) (h3 : 0 < t.length) : ∃ b off, a = some ⟨b, off, none⟩ ∧ n = t.length ∧ b < w.heap.size ∧ Ints w b off t := by
  rcases h.2 with ⟨_, _, _, rfl⟩ | ⟨b, off, cap, e, hlt, hr⟩
  · simp at h3
  · simp at e
    obtain ⟨rfl, rfl, rfl⟩ := e
    exact ⟨b, off, rfl, rfl, hlt, hr⟩
theorem wrap_pow0 {t : Int} (h1 : 0 ≤ t) (h7 : t ≤ 7) : IntKind.i64.wrap (2 ^ t.toNat) = ((2 ^ t.toNat : Nat) : Int) ∧ IntKind.u64.wrap t = t := by
  have : t = 0 ∨ t = 1 ∨ t = 2 ∨ t = 3 ∨ t = 4 ∨ t = 5 ∨ t = 6 ∨ t = 7 := by omega
  rcases this with rfl | rfl | rfl | rfl | rfl | rfl | rfl | rfl <;> decide
theorem sqB_false1 {n x : Nat} {F : Nat → List Int} (hx : x < n) (h : isRen (n : Int) (F x) = false) : sqB n F = false := by
  rw [sqB, rowsOk_false hx h]; simp
theorem sqB_false2 {n x : Nat} {F : Nat → List Int} (hx : x < n) (h : isRen (n : Int) (col n F x) = false) : sqB n F = false := by
  rw [sqB, colsOk_false hx h]; simp
theorem isRen_out {n : Nat} {p : List Int} {z : Int} (h : z ∈ p) (hz : ¬ (0 ≤ z ∧ z < (n : Int))) : isRen (n : Int) p = false := by
  rcases e : isRen (n : Int) p with _ | _
  · rfl
  · exact absurd ((isRen_iff.1 e).2.1 z h) hz
theorem take_nx {l : List Int} {k : Nat} (h : k < l.length) : l.take (k + 1) = l.take k ++ [l[k]?.getD 0] := by
  rw [List.take_succ_eq_append_getElem h]; simp [h]
theorem colK_col (n : Nat) (F : Nat → List Int) (y : Nat) : colK F y n = col n F y := rfl
end Go.Proofs.Ytlkjacgpjolbdaa

namespace Go.Proofs.Ytlkjacgpjolbdaa
open Go.RowKit Go.Maps
/-- The code of a system and a set of its blocks. -/
def nsCode (v : Int) (bs : List Blk) (zs : List Int) : Int := if isSysImpl v bs then (if ptGo (bs.length : Int) none zs then 0 else 2) else 1
theorem ptGo_at {v : Int} {zs : List Int} {k : Nat} (hk : k < zs.length) (p : Option Int) : ptGo v p (zs.drop k) = (inP v (zs[k]?.getD 0) && (match p with | none => true | some q => decide (q < zs[k]?.getD 0)) && ptGo v (some (zs[k]?.getD 0)) (zs.drop (k + 1))) := by
  rw [List.drop_eq_getElem_cons hk]
  cases p <;> simp [ptGo, hk]
set_option maxRecDepth 100000 in
set_option maxHeartbeats 2000000 in
theorem l05Set_any (v : Int) (s : Value) (bs : List Blk) (t : Value) (zs : List Int) (w : World) (h : SB w s bs) (ht : IB w t zs) :
    Calls Try.prog 79 #[.agg #[.int .i64 v, s], t] w (RV (.int .i64 (nsCode v bs zs)) w) := by
  have hs := h.slice
  have hc := l01Is_any v s bs (w.alloc (.cells #[.int .i64 v, s] 28)) (h.below ((Below.refl _ _).alloc (Nat.le_refl _) _) (Nat.le_refl _))
  have hts : ∃ a c, t = .slice a zs.length c := by rcases ht.2 with ⟨a, c, rfl, rfl⟩ | ⟨b, off, cap, rfl, _⟩ <;> exact ⟨_, _, rfl⟩
  have hlen := h.2.1
  have htl := ht.1
  have HT := Lib.hid ht
  clear h ht
  obtain ⟨a0, c0, rfl⟩ := hs
  obtain ⟨a1, c1, rfl⟩ := hts
  cases hi : isSysImpl v bs with
  | false =>
    rw [hi] at hc
    have HC := Lib.hid hc
    have HV := Lib.hid (show nsCode v bs zs = 1 by simp [nsCode, hi])
    clear hc hi
    go_enter Try.func79, Try.ntmps79
    go_wp2_with fail
    refine HC.out.mono ?_
    rintro e w1 ⟨rfl, hb1⟩
    have hb2 := below_new hb1
    go_wp2
    go_ret
    exact RV_of (int_eq (by rw [HV.out])) hb2
  | true =>
    rw [hi] at hc
    have HC := Lib.hid hc
    have HV := Lib.hid (show nsCode v bs zs = if ptGo (bs.length : Int) none zs then 0 else 2 by simp [nsCode, hi])
    clear hc hi
    go_enter Try.func79, Try.ntmps79
    go_wp2_with fail
    refine HC.out.mono ?_
    rintro e w1 ⟨rfl, hb1⟩
    have hb2 := below_new hb1
    have p1 := cell_new hb1 1 rfl
    have HT1 := Lib.hid (HT.out.below hb2 (Nat.le_refl _))
    have HB2 := Lib.hid hb2
    clear hb1 hb2 HC HT
    have hwn : IntKind.i64.wrap ((bs.length : Int) - 1) = (bs.length : Int) - 1 := IntWalk.i64_in _ (by omega)
    go_wp2
    go_loopw [5] (fun i wr => ∃ k : Nat, k ≤ zs.length ∧ i = .int .i64 k ∧ (∃ n, wr = w1.drewN n) ∧ Hid (ptGo (bs.length : Int) none zs = ptGo (bs.length : Int) (if k = 0 then none else zs[k - 1]?) (zs.drop k))) (fun i _ => zs.length - (intOf i).toNat)
    case atStart => exact ⟨0, Nat.zero_le _, rfl, ⟨0, rfl⟩, Lib.hid (by simp)⟩
    case round =>
      obtain ⟨k, hk, rfl, ⟨n, rfl⟩, HE⟩ := hrel
      by_cases hkl : k < zs.length
      · rcases HT1.out.2 with ⟨_, _, _, hnil⟩ | ⟨b, off, cap, hv2, hplt, hpi⟩
        · exfalso; rw [hnil] at hkl; simp at hkl
        simp at hv2
        obtain ⟨rfl, rfl⟩ := hv2
        have ck := hpi k hkl
        have hat := ptGo_at (v := (bs.length : Int)) hkl (if k = 0 then none else zs[k - 1]?)
        have he := HE.out
        rw [hat] at he
        have hkk : zs[k]? = some (zs[k]?.getD 0) := by simp [hkl]
        obtain ⟨z, hz⟩ : ∃ z, z = zs[k]?.getD 0 := ⟨_, rfl⟩
        rw [← hz] at ck he hkk
        have HKK := Lib.hid hkk
        have g0 : (0 : Int) ≤ (k : Int) := by omega
        have g1 : (k : Int) < (zs.length : Int) := by omega
        have HIN := Lib.hid fun W => l01In_any z 0 ((bs.length : Int) - 1) W
        have hinp : (decide (0 ≤ z) && decide (z ≤ (bs.length : Int) - 1)) = inP (bs.length : Int) z := by rw [Bool.eq_iff_iff]; simp [inP]; omega
        rw [hinp] at HIN
        clear hz hat hkk hinp HE
        cases hin : inP (bs.length : Int) z with
        | false =>
          rw [hin] at HIN he
          have HW := Lib.hid (show nsCode v bs zs = 2 by rw [HV.out, he]; simp)
          clear hin he hpi
          go_wp2
          go_quiet ((go_at_call 67; exact RS.quiet2 (HIN.out _)))
          go_wp2
          go_ret
          exact RV_of (int_eq (by rw [HW.out])) (below_drewN (below_drewN HB2.out _) _)
        | true =>
          rw [hin] at HIN he
          by_cases hk0 : k = 0
          · subst hk0
            have HW := Lib.hid (show ptGo (bs.length : Int) none zs = ptGo (bs.length : Int) (some z) (zs.drop 1) by rw [he]; simp)
            have gd : decide ((0 : Int) < ((0 : Nat) : Int)) = false := by decide
            have c1 : w1.cell? ⟨b, off, none⟩ = some (.int .i64 z) := by simpa using ck
            clear hin he hpi ck
            go_wp2
            go_quiet ((go_at_call 67; exact RS.quiet2 (HIN.out _)))
            go_wp2
            go_roundw
            case rel => exact ⟨1, by omega, by go_num, ⟨_, rfl⟩, Lib.hid (by rw [HW.out]; simp; rw [← HKK.out])⟩
            case measure => simp [intOf]; omega
          · obtain ⟨j, rfl⟩ : ∃ j, k = j + 1 := ⟨k - 1, by omega⟩
            have cj := hpi j (by omega)
            have hj : zs[j]? = some (zs[j]?.getD 0) := by simp [show j < zs.length by omega]
            obtain ⟨y, hy⟩ : ∃ y, y = zs[j]?.getD 0 := ⟨_, rfl⟩
            rw [← hy] at cj hj
            have he2 : ptGo (bs.length : Int) none zs = (decide (y < z) && ptGo (bs.length : Int) (some z) (zs.drop (j + 1 + 1))) := by
              rw [he]
              simp only [Nat.add_one_ne_zero, if_false, Nat.add_sub_cancel]
              rw [hj]
              simp
            have HV2 := Lib.hid he2
            have gd : decide ((0 : Int) < ((j + 1 : Nat) : Int)) = true := by simp <;> omega
            have gi : (0 : Int) < (j : Int) + 1 := by omega
            have gi0 : (0 : Int) ≤ (j : Int) + 1 := by omega
            have gi1 : (j : Int) + 1 < (zs.length : Int) := by omega
            have gj0 : (0 : Int) ≤ (j : Int) := by omega
            have gj1 : (j : Int) < (zs.length : Int) := by omega
            have ej : ((j + 1 : Nat) : Int) - 1 = (j : Int) := by omega
            clear hin he he2 hy hj hpi
            by_cases hyz : y < z
            · have q1 : decide (z ≤ y) = false := by simp; omega
              have HW := Lib.hid (show ptGo (bs.length : Int) none zs = ptGo (bs.length : Int) (some z) (zs.drop (j + 1 + 1)) by rw [HV2.out]; simp [hyz])
              clear HV2
              go_wp2
              go_quiet ((go_at_call 67; exact RS.quiet2 (HIN.out _)))
              go_wp2
              go_roundw
              case rel => exact ⟨j + 1 + 1, by omega, by go_num, ⟨_, rfl⟩, Lib.hid (by rw [HW.out]; simp only [Nat.add_one_ne_zero, if_false, Nat.add_sub_cancel]; rw [← HKK.out])⟩
              case measure => simp [intOf]; omega
            · have q1 : decide (z ≤ y) = true := by simp; omega
              have q2 : z ≤ y := by omega
              have HW := Lib.hid (show nsCode v bs zs = 2 by rw [HV.out, HV2.out]; simp [hyz])
              clear HV2 hyz
              go_wp2
              go_quiet ((go_at_call 67; exact RS.quiet2 (HIN.out _)))
              go_wp2
              go_ret
              exact RV_of (int_eq (by rw [HW.out])) (below_drewN (below_drewN HB2.out _) _)
      · have HW := Lib.hid (show nsCode v bs zs = 0 by rw [HV.out, HE.out, List.drop_eq_nil_of_le (by omega)]; simp [ptGo])
        go_wp2
        go_ret
        exact RV_of (int_eq (by rw [HW.out])) (below_drewN HB2.out _)
end Go.Proofs.Ytlkjacgpjolbdaa

namespace Go.Proofs.Ytlkjacgpjolbdaa
open Go.RowKit Go.Maps
theorem wrap_pow15 {t : Int} (h1 : 0 ≤ t) (h7 : t < 15) : IntKind.i64.wrap (2 ^ t.toNat) = ((2 ^ t.toNat : Nat) : Int) ∧ IntKind.u64.wrap t = t ∧ ((2 ^ t.toNat : Nat) : Int) ≤ 16384 := by
  have : t = 0 ∨ t = 1 ∨ t = 2 ∨ t = 3 ∨ t = 4 ∨ t = 5 ∨ t = 6 ∨ t = 7 ∨ t = 8 ∨ t = 9 ∨ t = 10 ∨ t = 11 ∨ t = 12 ∨ t = 13 ∨ t = 14 := by omega
  rcases this with rfl | rfl | rfl | rfl | rfl | rfl | rfl | rfl | rfl | rfl | rfl | rfl | rfl | rfl | rfl <;> decide
theorem l05Bits_any (x : Blk) (hx : okB x) (w : World) : Calls Try.prog 128 #[bv x] w (RV (.int .i64 (mkB x : Int)) w) := by
  obtain ⟨a, b, c⟩ := x
  obtain ⟨h1, h2, h3, h4⟩ := hx
  dsimp only at h1 h2 h3 h4
  obtain ⟨pa, qa, ra⟩ := wrap_pow15 (t := a) (by omega) (by omega)
  obtain ⟨pb, qb, rb⟩ := wrap_pow15 (t := b) (by omega) (by omega)
  obtain ⟨pc, qc, rc⟩ := wrap_pow15 (t := c) (by omega) (by omega)
  have HV := Lib.hid (show ((mkB ⟨a, b, c⟩ : Nat) : Int) = ((2 ^ a.toNat : Nat) : Int) + ((2 ^ b.toNat : Nat) : Int) + ((2 ^ c.toNat : Nat) : Int) by simp [mkB])
  have ga : 0 ≤ ((2 ^ a.toNat : Nat) : Int) := Int.natCast_nonneg _
  have gb : 0 ≤ ((2 ^ b.toNat : Nat) : Int) := Int.natCast_nonneg _
  have gc : 0 ≤ ((2 ^ c.toNat : Nat) : Int) := Int.natCast_nonneg _
  obtain ⟨A, hA⟩ : ∃ A, A = ((2 ^ a.toNat : Nat) : Int) := ⟨_, rfl⟩
  obtain ⟨B, hB⟩ : ∃ A, A = ((2 ^ b.toNat : Nat) : Int) := ⟨_, rfl⟩
  obtain ⟨C, hC⟩ : ∃ A, A = ((2 ^ c.toNat : Nat) : Int) := ⟨_, rfl⟩
  rw [← hA] at pa ra ga HV
  rw [← hB] at pb rb gb HV
  rw [← hC] at pc rc gc HV
  have b0 : 0 ≤ b := by omega
  have c0 : 0 ≤ c := by omega
  have a64 : a ≤ 64 := by omega
  have b64 : b ≤ 64 := by omega
  have c64 : c ≤ 64 := by omega
  clear hA hB hC h2 h3 h4
  unfold bv
  dsimp only
  go_enter Try.func128, Try.ntmps128
  go_wp2
  go_ret
  exact RV_of (int_eq (by rw [HV.out])) ((Below.refl _ _).alloc (Nat.le_refl _) _)
def RBM (good : Bool) (m : Nat) (w : World) (e : Ending) (w' : World) : Prop := ∃ p : Int, e = .returned (.tuple #[.bool good, .int .i64 p]) ∧ (good = true → p = (m : Int)) ∧ Below w.heap.size w w'
theorem sys_ok {v : Int} {bs : List Blk} (h : isSysImpl v bs = true) : ∀ x ∈ bs, okB x := fun x hx => by
  have hs := (sys_size h).2.1
  have := goodB_iff.1 (sys_good h x hx)
  exact ⟨this.1, this.2.1, this.2.2.1, by omega⟩
theorem blksAt_ok {bs : List Blk} {zs : List Int} (h : ∀ x ∈ bs, okB x) (hin : ∀ z ∈ zs, 0 ≤ z ∧ z < (bs.length : Int)) : ∀ x ∈ blksAt bs zs, okB x := fun x hx => by
  obtain ⟨z, hz, rfl⟩ := List.mem_map.1 hx
  have := hin z hz
  have hl : z.toNat < bs.length := by omega
  rw [List.getElem?_eq_getElem hl]
  exact h _ (List.getElem_mem hl)
theorem take_blksAt {bs : List Blk} {zs : List Int} {k : Nat} (hk : k < zs.length) : (blksAt bs zs).take (k + 1) = (blksAt bs zs).take k ++ [bs[(zs[k]?.getD 0).toNat]?.getD default] := by
  have h : k < (blksAt bs zs).length := by rw [blksAt_len]; exact hk
  rw [List.take_succ_eq_append_getElem h]
  simp [blksAt, hk]
theorem any_rev (L : List Blk) (p : Blk → Bool) : L.reverse.any p = L.any p := by simp
set_option maxRecDepth 100000 in
set_option maxHeartbeats 1000000 in
theorem l05Disjoint_any (v : Int) (s : Value) (bs : List Blk) (t : Value) (zs : List Int) (w : World) (h : SB w s bs) (ht : IB w t zs) (hin : ∀ z ∈ zs, 0 ≤ z ∧ z < (bs.length : Int)) (hok : ∀ x ∈ bs, okB x) :
    Calls Try.prog 80 #[.agg #[.int .i64 v, s], t] w (RBM (disGo [] (blksAt bs zs)) (dmk (blksAt bs zs)) w) := by
  have hs := h.slice
  have HSB := Lib.hid h
  have hlen := h.2.1
  have htl := ht.1
  have hts : ∃ a c, t = .slice a zs.length c := by rcases ht.2 with ⟨a, c, rfl, rfl⟩ | ⟨b, off, cap, rfl, _⟩ <;> exact ⟨_, _, rfl⟩
  have HT := Lib.hid ht
  have HIN := Lib.hid hin
  have HAL := Lib.hid (blksAt_ok hok hin)
  have HOK := Lib.hid hok
  clear h ht hin hok
  obtain ⟨a0, c0, rfl⟩ := hs
  obtain ⟨a1, c1, rfl⟩ := hts
  have hb0 : Below w.heap.size w (w.alloc (.cells #[.int .i64 v, .slice a0 bs.length c0] 28)) := (Below.refl _ _).alloc (Nat.le_refl _) _
  have HB0 := Lib.hid hb0
  clear hb0
  go_enter Try.func80, Try.ntmps80
  go_wp2
  go_loopw [6, 7] (fun p i wr => ∃ k : Nat, k ≤ zs.length ∧ i = .int .i64 k ∧ p = .int .i64 (dmk ((blksAt bs zs).take k) : Int) ∧ Below w.heap.size w wr ∧ w.heap.size < wr.heap.size ∧ wr.cell? ⟨w.heap.size, 1, none⟩ = some (.slice a0 bs.length c0) ∧ Hid (disGo [] (blksAt bs zs) = disGo (preB bs zs k) ((blksAt bs zs).drop k))) (fun _ i _ => zs.length - (intOf i).toNat)
  case atStart => exact ⟨0, Nat.zero_le _, rfl, rfl, HB0.out, by simp, by simp, Lib.hid rfl⟩
  case round =>
    obtain ⟨k, hk, rfl, rfl, hB, hlt, p1, HE⟩ := hrel
    by_cases hkl : k < zs.length
    · rcases HT.out.2 with ⟨_, _, hq, hnil⟩ | ⟨tb, toff, tcap, hq, htb, hI⟩
      · rw [hnil] at hkl; simp at hkl
      simp at hq
      obtain ⟨rfl, rfl⟩ := hq
      have cz := (hI.below hB htb) k hkl
      have hz2 := HIN.out _ (List.getElem_mem hkl)
      have hge : zs[k] = zs[k]?.getD 0 := by simp [hkl]
      rw [hge] at hz2
      have hsu := preB_succ (bs := bs) hkl
      have hdr := drop_blksAt (bs := bs) hkl
      have htk := take_blksAt (bs := bs) hkl
      obtain ⟨z, hz⟩ : ∃ z, z = zs[k]?.getD 0 := ⟨_, rfl⟩
      rw [← hz] at cz hz2 hsu hdr htk
      clear hz hge
      obtain ⟨j, rfl⟩ : ∃ j : Nat, z = (j : Int) := ⟨z.toNat, by omega⟩
      rw [Int.toNat_natCast] at hsu hdr htk
      have hj : j < bs.length := by omega
      rcases HSB.out.2.2 with ⟨_, _, _, hnil⟩ | ⟨b, off, cap, hv, hblt, hbl⟩
      · rw [hnil] at hj; simp at hj
      simp at hv
      obtain ⟨rfl, rfl⟩ := hv
      obtain ⟨x, hx, ex, x1, x2, x3⟩ := blks_at (hbl.below hB hblt) hj
      rw [show bs[j]?.getD default = x by rw [ex]; rfl] at hsu hdr htk
      have hxo : okB x := HOK.out x (List.mem_of_getElem? ex)
      have he := HE.out
      rw [hdr, disGo_cons] at he
      have hpre : (preB bs zs k).any (touch x) = ((blksAt bs zs).take k).any (touch x) := any_rev _ _
      have hst := dmk_step (L := (blksAt bs zs).take k) (fun y hy => HAL.out y (List.mem_of_mem_take hy)) hxo
      rw [← hpre, ← htk] at hst
      have HBI := Lib.hid fun W => l05Bits_any x hxo W
      have HSU := Lib.hid hsu
      obtain ⟨μ, hμ⟩ : ∃ μ, μ = (preB bs zs k).any (touch x) := ⟨_, rfl⟩
      rw [← hμ] at he hst
      have HE2 := Lib.hid he
      obtain ⟨o, ho⟩ : ∃ o : Int, o = (mkB x : Int) := ⟨_, rfl⟩
      obtain ⟨m, hm⟩ : ∃ m : Int, m = (dmk ((blksAt bs zs).take k) : Int) := ⟨_, rfl⟩
      rw [← ho, ← hm] at hst
      rw [← ho] at HBI
      rw [← hm]
      have h1 := hst.1
      have HO := Lib.hid hst.2
      have i0 : (0 : Int) ≤ (k : Int) := by omega
      have i1 : (k : Int) < (zs.length : Int) := by omega
      have j0 : (0 : Int) ≤ (j : Int) := by omega
      have j1 : (j : Int) < (bs.length : Int) := by omega
      have hz := hB.size
      clear hμ he hsu hdr htk hx ex hbl hI HE hpre hst ho hm hxo
      obtain ⟨xa, xb, xc⟩ := x
      unfold bv at HBI
      dsimp only at x1 x2 x3 HBI
      cases μ with
      | true =>
        go_wp2_with fail
        go_still_tail 8, (by kernel_rfl)
        repeat still_step
        change wpList _ _ _ _ _ wr.drew
        have HBd := Lib.hid (show Below w.heap.size w wr.drew from hB.drew)
        obtain ⟨w3, hw3⟩ : ∃ w3, w3 = wr.drew := ⟨_, rfl⟩
        rw [← hw3] at HBd ⊢
        have hz3 : w3.heap.size = wr.heap.size := by rw [hw3]; rfl
        clear hw3 p1 cz x1 x2 x3
        go_wp2_with fail
        refine (HBI.out _).mono ?_
        rintro e w4 ⟨rfl, hb4⟩
        go_wp2
        go_ret2
        exact ⟨_, by rw [HE2.out]; rfl, fun hc => by rw [HE2.out] at hc; simp at hc, HBd.out.trans (hb4.mono (by omega))⟩
      | false =>
        go_wp2_with fail
        go_still_tail 8, (by kernel_rfl)
        repeat still_step
        change wpList _ _ _ _ _ wr.drew
        have HBd := Lib.hid (show Below w.heap.size w wr.drew from hB.drew)
        obtain ⟨w3, hw3⟩ : ∃ w3, w3 = wr.drew := ⟨_, rfl⟩
        rw [← hw3] at HBd ⊢
        have hz3 : w3.heap.size = wr.heap.size := by rw [hw3]; rfl
        have p3 : w3.cell? ⟨w.heap.size, 1, none⟩ = some (.slice (some ⟨b, off, none⟩) bs.length c0) := by rw [hw3]; exact p1
        clear hw3 p1 cz x1 x2 x3
        go_wp2_with fail
        refine (HBI.out _).mono ?_
        rintro e w4 ⟨rfl, hb4⟩
        have hz4 := hb4.size
        have p4 := (hb4.cell (p := ⟨w.heap.size, 1, none⟩) (by show w.heap.size < _; omega)).trans p3
        go_wp2
        go_roundw
        case rel => exact ⟨k + 1, by omega, by go_num, by rw [HO.out], HBd.out.trans (hb4.mono (by omega)), by omega, p4, Lib.hid (by rw [HE2.out, HSU.out]; rfl)⟩
        case measure => simp [intOf]; omega
    · have he := HE.out
      rw [List.drop_eq_nil_of_le (by rw [blksAt_len]; omega), disGo_nil] at he
      have HE2 := Lib.hid he
      have HD := Lib.hid (show (blksAt bs zs).take k = blksAt bs zs from List.take_of_length_le (by rw [blksAt_len]; omega))
      clear he
      go_wp2
      go_ret2
      exact ⟨_, by rw [HE2.out]; rfl, fun _ => by rw [HD.out], hB⟩
end Go.Proofs.Ytlkjacgpjolbdaa

namespace Go.Proofs.Ytlkjacgpjolbdaa
open Go.RowKit Go.Maps
theorem dis_nodup : ∀ (L M : List Blk), disGo M L = true → (∀ x ∈ L, okB x) → (∀ x ∈ M, okB x) → (allP M).Nodup → (allP (L.reverse ++ M)).Nodup
  | [], M, _, _, _, hn => by simpa using hn
  | b :: r, M, h, hL, hM, hn => by
    rw [disGo_cons, Bool.and_eq_true, Bool.not_eq_true'] at h
    have hb := hL b (by simp)
    have h2 := dis_nodup r (b :: M) h.2 (fun x hx => hL x (by simp [hx])) (fun x hx => by
      rcases List.mem_cons.1 hx with rfl | hx
      · exact hb
      · exact hM x hx) (by
      unfold allP
      rw [List.flatMap_cons, List.nodup_append]
      refine ⟨?_, hn, ?_⟩
      · obtain ⟨h1, h2, h3, h4⟩ := hb
        unfold ptsB
        simp
        omega
      · intro a ha c hc e
        subst e
        obtain ⟨y, hy, hz⟩ := List.mem_flatMap.1 hc
        have : M.any (touch b) = true := List.any_eq_true.2 ⟨y, hy, touch_iff.2 ⟨a, ha, hz⟩⟩
        rw [h.1] at this
        cases this)
    simpa using h2
theorem allP_len (L : List Blk) : (allP L).length = 3 * L.length := by
  induction L with
  | nil => rfl
  | cons b r ih =>
    unfold allP at ih ⊢
    rw [List.flatMap_cons, List.length_append, ih, List.length_cons]
    simp [ptsB]
    omega
theorem allP_rev {L : List Blk} : (allP L).Nodup ↔ (allP L.reverse).Nodup := by
  refine List.Perm.nodup_iff ?_
  unfold allP
  exact (List.Perm.flatMap_right _ (List.reverse_perm L)).symm
theorem dis_points {L : List Blk} (h : disGo [] L = true) (hL : ∀ x ∈ L, okB x) : (allP L).Nodup := by
  have := dis_nodup L [] h hL (by simp) (by simp [allP])
  rw [List.append_nil] at this
  exact allP_rev.2 this
/-- A set of disjoint blocks has all points just if it has as many. -/
theorem dmk_full {n : Nat} {L : List Blk} (hd : disGo [] L = true) (hL : ∀ x ∈ L, okB x) (hr : ∀ z ∈ allP L, 0 ≤ z ∧ z < (n : Int)) : dmk L = 2 ^ n - 1 ↔ 3 * L.length = n := by
  have hn := dis_points hd hL
  have hle : (allP L).length ≤ n := by
    have := List.Nodup.length_le_of_subset (l₂ := (List.range n).map fun (k : Nat) => (k : Int)) hn (fun x hx => List.mem_map.2 ⟨x.toNat, List.mem_range.2 (by have := hr x hx; omega), by have := hr x hx; omega⟩)
    simpa using this
  rw [← allP_len]
  constructor
  · intro h
    have hR : ((List.range n).map fun (k : Nat) => (k : Int)).Nodup := by
      rw [List.Nodup, List.pairwise_map]
      exact List.nodup_range.imp fun h e => h (by omega)
    have := List.Nodup.length_le_of_subset (l₂ := allP L) hR (fun x hx => by
      obtain ⟨k, hk, rfl⟩ := List.mem_map.1 hx
      have hk := List.mem_range.1 hk
      refine (msk_mem (fun d hd => (hr d hd).1)).1 ?_
      show (dmk L).testBit k = true
      rw [h, Nat.testBit_two_pow_sub_one]
      exact decide_eq_true hk)
    have h3 : n ≤ (allP L).length := by simpa using this
    omega
  · intro h
    have h2 := isRen_msk h hr
    have h3 : isRen (n : Int) (allP L) = true := isRen_iff.2 ⟨h, hr, hn⟩
    rw [h3] at h2
    exact of_decide_eq_true h2.symm
theorem wrap_pow16 {v : Int} (h1 : 0 ≤ v) (h7 : v ≤ 15) : IntKind.i64.wrap (2 ^ v.toNat) = ((2 ^ v.toNat : Nat) : Int) ∧ IntKind.u64.wrap v = v ∧ ((2 ^ v.toNat : Nat) : Int) ≤ 32768 := by
  have : v = 15 ∨ v < 15 := by omega
  rcases this with rfl | h
  · decide
  · have := wrap_pow15 h1 h
    exact ⟨this.1, this.2.1, by omega⟩
theorem points_of {v : Int} {bs : List Blk} {zs : List Int} (hi : isSysImpl v bs = true) (hin : ∀ z ∈ zs, 0 ≤ z ∧ z < (bs.length : Int)) : ∀ z ∈ allP (blksAt bs zs), 0 ≤ z ∧ z < v := fun z hz => by
  obtain ⟨x, hx, hz⟩ := List.mem_flatMap.1 hz
  obtain ⟨y, hy, rfl⟩ := List.mem_map.1 hx
  have hq := hin y hy
  have hl : y.toNat < bs.length := by omega
  rw [List.getElem?_eq_getElem hl] at hz
  have hg := goodB_iff.1 (sys_good hi _ (List.getElem_mem hl))
  simp only [ptsB, List.mem_cons, List.not_mem_nil, or_false, Option.getD_some] at hz
  omega
set_option maxRecDepth 100000 in
theorem l05Class_any (v : Int) (s : Value) (bs : List Blk) (t : Value) (zs : List Int) (w : World) (h : SB w s bs) (ht : IB w t zs) (hi : isSysImpl v bs = true) (hin : ∀ z ∈ zs, 0 ≤ z ∧ z < (bs.length : Int)) :
    Calls Try.prog 85 #[.agg #[.int .i64 v, s], t] w (RV (.bool (clsB v (blksAt bs zs))) w) := by
  have hs := h.slice
  have hts : ∃ a c, t = .slice a zs.length c := by rcases ht.2 with ⟨a, c, rfl, rfl⟩ | ⟨b, off, cap, rfl, _⟩ <;> exact ⟨_, _, rfl⟩
  have hsz := sys_size hi
  have HD := Lib.hid fun W (hb : Below w.heap.size w W) => l05Disjoint_any v s bs t zs W (h.below hb (Nat.le_refl _)) (ht.below hb (Nat.le_refl _)) hin (sys_ok hi)
  have hfull : disGo [] (blksAt bs zs) = true → ((dmk (blksAt bs zs) : Int) = ((2 ^ v.toNat : Nat) : Int) - 1 ↔ 3 * ((blksAt bs zs).length : Int) = v) := fun hd => by
    have h2 := dmk_full (n := v.toNat) hd (blksAt_ok (sys_ok hi) hin) (fun z hz => by have := points_of hi hin z hz; omega)
    have h3 : 1 ≤ 2 ^ v.toNat := Nat.one_le_two_pow
    constructor
    · intro e
      have := h2.1 (by omega)
      omega
    · intro e
      have := h2.2 (by omega)
      omega
  obtain ⟨pv, qv, rv⟩ := wrap_pow16 (v := v) (by omega) (by omega)
  have v64 : v ≤ 64 := by omega
  have v0 : 0 ≤ v := by omega
  have gv : 0 ≤ ((2 ^ v.toNat : Nat) : Int) := Int.natCast_nonneg _
  obtain ⟨P, hP⟩ : ∃ P, P = ((2 ^ v.toNat : Nat) : Int) := ⟨_, rfl⟩
  obtain ⟨β, hβ⟩ : ∃ β, β = disGo [] (blksAt bs zs) := ⟨_, rfl⟩
  rw [← hP] at pv rv gv hfull
  have hV : clsB v (blksAt bs zs) = (decide (3 * ((blksAt bs zs).length : Int) = v) && β) := by rw [hβ]; rfl
  rw [← hβ] at HD hfull
  clear hP hβ h ht hi hin hsz
  obtain ⟨a0, c0, rfl⟩ := hs
  obtain ⟨a1, c1, rfl⟩ := hts
  have hw : IntKind.i64.wrap (P - 1) = P - 1 := IntWalk.i64_in _ (by omega)
  cases β with
  | false =>
    have HW := Lib.hid (show clsB v (blksAt bs zs) = false by rw [hV, Bool.and_false])
    clear hV hfull
    go_enter Try.func85, Try.ntmps85
    go_wp2_with fail
    refine (HD.out _ ((Below.refl _ _).alloc (Nat.le_refl _) _)).mono ?_
    rintro e w1 ⟨p, rfl, _, hb1⟩
    have hb2 := below_new hb1
    go_wp2
    go_ret
    exact RV_of (bool_eq (by rw [HW.out])) hb2
  | true =>
    have hf := hfull rfl
    have HW := Lib.hid (show clsB v (blksAt bs zs) = decide ((dmk (blksAt bs zs) : Int) = P - 1) by rw [hV, Bool.and_true, Bool.eq_iff_iff]; simp only [decide_eq_true_eq]; exact hf.symm)
    clear hV hfull hf
    go_enter Try.func85, Try.ntmps85
    go_wp2_with fail
    refine (HD.out _ ((Below.refl _ _).alloc (Nat.le_refl _) _)).mono ?_
    rintro e w1 ⟨p, rfl, hp, hb1⟩
    have hb2 := below_new hb1
    have hpp := hp rfl
    subst hpp
    have q0 := cell_new hb1 0 rfl
    clear hb1 hp
    go_wp2
    go_ret
    exact RV_of (bool_eq (by rw [HW.out, Bool.eq_iff_iff]; simp)) hb2
end Go.Proofs.Ytlkjacgpjolbdaa

namespace Go.Proofs.Ytlkjacgpjolbdaa
open Go.RowKit Go.Maps
theorem setF_ns (good : Bool) (v : Int) (bs : List Blk) (zs : List Int) : setF good v bs zs = (good && decide (nsCode v bs zs = 0), nsCode v bs zs) := by
  unfold setF nsCode
  cases isSysImpl v bs <;> cases ptGo (bs.length : Int) none zs <;> simp
theorem ns_in {v : Int} {bs : List Blk} {zs : List Int} (h : nsCode v bs zs = 0) : isSysImpl v bs = true ∧ ∀ z ∈ zs, 0 ≤ z ∧ z < (bs.length : Int) := by
  have e := setF_ns true v bs zs
  rw [setF_chk] at e
  have : chkF v bs 1 (fun _ => zs) = nsCode v bs zs := (Prod.mk.injEq _ _ _ _ ▸ e).2
  exact chk_in (this.trans h)
set_option maxRecDepth 100000 in
theorem specAreDisjoint_any (v : Int) (s : Value) (bs : List Blk) (t : Value) (zs : List Int) (w : World) (h : SB w s bs) (ht : IB w t zs) :
    Calls Try.prog 31 #[.agg #[.int .i64 v, s], t] w (RV (boolCode (disF v bs zs).1 (disF v bs zs).2) w) := by
  have hs := h.slice
  have hts : ∃ a c, t = .slice a zs.length c := by rcases ht.2 with ⟨a, c, rfl, rfl⟩ | ⟨b, off, cap, rfl, _⟩ <;> exact ⟨_, _, rfl⟩
  have HC := Lib.hid fun W (hb : Below w.heap.size w W) => l05Set_any v s bs t zs W (h.below hb (Nat.le_refl _)) (ht.below hb (Nat.le_refl _))
  have HD := Lib.hid fun (hk : nsCode v bs zs = 0) W (hb : Below w.heap.size w W) => l05Disjoint_any v s bs t zs W (h.below hb (Nat.le_refl _)) (ht.below hb (Nat.le_refl _)) (ns_in hk).2 (sys_ok (ns_in hk).1)
  have hp : disF v bs zs = (disGo [] (blksAt bs zs) && decide (nsCode v bs zs = 0), nsCode v bs zs) := setF_ns _ v bs zs
  rw [hp]
  obtain ⟨κ, hκ⟩ : ∃ κ, κ = nsCode v bs zs := ⟨_, rfl⟩
  rw [← hκ] at HC HD ⊢
  clear hκ h ht hp
  obtain ⟨a0, c0, rfl⟩ := hs
  obtain ⟨a1, c1, rfl⟩ := hts
  by_cases hk : κ = 0
  · have HD0 := Lib.hid (HD.out hk)
    have HG := Lib.hid (show (disGo [] (blksAt bs zs) && decide (κ = 0)) = (disGo [] (blksAt bs zs)) by rw [show decide (κ = 0) = true from decide_eq_true hk, Bool.and_true])
    rw [HG.out]
    subst hk
    clear HD
    go_enter Try.func31, Try.ntmps31
    go_wp2_with fail
    refine (HC.out _ ((Below.refl _ _).alloc (Nat.le_refl _) _)).mono ?_
    rintro e w1 ⟨rfl, hb1⟩
    have hb2 := below_new hb1
    have q0 := cell_new hb1 0 rfl
    have q1 := cell_new hb1 1 rfl
    have HB2 := Lib.hid hb2
    have hz := hb2.size
    clear hb1 hb2 HC
    go_wp2_with fail
    refine (HD0.out _ HB2.out).mono ?_
    rintro e w2 ⟨p, rfl, _, hb3⟩
    go_wp2
    go_ret2
    exact ⟨rfl, HB2.out.trans (hb3.mono hz)⟩
  · have HG := Lib.hid (show (disGo [] (blksAt bs zs) && decide (κ = 0)) = false by rw [show decide (κ = 0) = false from decide_eq_false hk, Bool.and_false])
    have q1 : (κ != 0) = true := by simpa using hk
    rw [HG.out]
    clear HD
    go_enter Try.func31, Try.ntmps31
    go_wp2_with fail
    refine (HC.out _ ((Below.refl _ _).alloc (Nat.le_refl _) _)).mono ?_
    rintro e w1 ⟨rfl, hb1⟩
    have hb2 := below_new hb1
    clear hb1
    go_wp2
    go_ret2
    exact ⟨rfl, hb2⟩
set_option maxRecDepth 100000 in
theorem specIsClass_any (v : Int) (s : Value) (bs : List Blk) (t : Value) (zs : List Int) (w : World) (h : SB w s bs) (ht : IB w t zs) :
    Calls Try.prog 33 #[.agg #[.int .i64 v, s], t] w (RV (boolCode (clsF v bs zs).1 (clsF v bs zs).2) w) := by
  have hs := h.slice
  have hts : ∃ a c, t = .slice a zs.length c := by rcases ht.2 with ⟨a, c, rfl, rfl⟩ | ⟨b, off, cap, rfl, _⟩ <;> exact ⟨_, _, rfl⟩
  have HC := Lib.hid fun W (hb : Below w.heap.size w W) => l05Set_any v s bs t zs W (h.below hb (Nat.le_refl _)) (ht.below hb (Nat.le_refl _))
  have HD := Lib.hid fun (hk : nsCode v bs zs = 0) W (hb : Below w.heap.size w W) => l05Class_any v s bs t zs W (h.below hb (Nat.le_refl _)) (ht.below hb (Nat.le_refl _)) (ns_in hk).1 (ns_in hk).2
  have hp : clsF v bs zs = (clsB v (blksAt bs zs) && decide (nsCode v bs zs = 0), nsCode v bs zs) := setF_ns _ v bs zs
  rw [hp]
  obtain ⟨κ, hκ⟩ : ∃ κ, κ = nsCode v bs zs := ⟨_, rfl⟩
  rw [← hκ] at HC HD ⊢
  clear hκ h ht hp
  obtain ⟨a0, c0, rfl⟩ := hs
  obtain ⟨a1, c1, rfl⟩ := hts
  by_cases hk : κ = 0
  · have HD0 := Lib.hid (HD.out hk)
    have HG := Lib.hid (show (clsB v (blksAt bs zs) && decide (κ = 0)) = (clsB v (blksAt bs zs)) by rw [show decide (κ = 0) = true from decide_eq_true hk, Bool.and_true])
    rw [HG.out]
    subst hk
    clear HD
    go_enter Try.func33, Try.ntmps33
    go_wp2_with fail
    refine (HC.out _ ((Below.refl _ _).alloc (Nat.le_refl _) _)).mono ?_
    rintro e w1 ⟨rfl, hb1⟩
    have hb2 := below_new hb1
    have q0 := cell_new hb1 0 rfl
    have q1 := cell_new hb1 1 rfl
    have HB2 := Lib.hid hb2
    have hz := hb2.size
    clear hb1 hb2 HC
    go_wp2_with fail
    refine (HD0.out _ HB2.out).mono ?_
    rintro e w2 ⟨rfl, hb3⟩
    go_wp2
    go_ret2
    exact ⟨rfl, HB2.out.trans (hb3.mono hz)⟩
  · have HG := Lib.hid (show (clsB v (blksAt bs zs) && decide (κ = 0)) = false by rw [show decide (κ = 0) = false from decide_eq_false hk, Bool.and_false])
    have q1 : (κ != 0) = true := by simpa using hk
    rw [HG.out]
    clear HD
    go_enter Try.func33, Try.ntmps33
    go_wp2_with fail
    refine (HC.out _ ((Below.refl _ _).alloc (Nat.le_refl _) _)).mono ?_
    rintro e w1 ⟨rfl, hb1⟩
    have hb2 := below_new hb1
    clear hb1
    go_wp2
    go_ret2
    exact ⟨rfl, hb2⟩
end Go.Proofs.Ytlkjacgpjolbdaa

namespace Go.Proofs.Ytlkjacgpjolbdaa
open Go.RowKit Go.Maps
theorem infoRow : (Try.prog.info? 35).map (fun i => (i.zero, i.size, i.bytes)) = some (some (.slice none 0 0), 1, 24) := by kernel_rfl
def rowV (gs caps : Nat → Nat) (F : Nat → List Int) (k : Nat) : Value := .slice (some ⟨gs k, 0, none⟩) (F k).length (caps k)
/-- The value owns a slice of n rows, each in a block of its own. -/
structure AccS (w : World) (base : Nat) (u : Value) (n : Nat) (gs caps : Nat → Nat) (F : Nat → List Int) : Prop where
  own : w.ownsRow base 35 1 u n ((List.range n).map (rowV gs caps F))
  row : ∀ k, k < n → OwnAtI w (gs k) (F k)
  ne : ∀ k, k < n → u.ownBlock ≠ some (gs k)
  inc : ∀ j k, j < k → k < n → gs j ≠ gs k
  low : ∀ k, k < n → base ≤ gs k
theorem ownsRow_lt {w : World} {base : Nat} {e : TypeId} {size n : Nat} {u : Value} {xs : List Value} (h : w.ownsRow base e size u n xs) : ∀ r, u.ownBlock = some r → base ≤ r ∧ r < w.heap.size := fun r hr => by
  rcases h.2 with ⟨rfl, _⟩ | ⟨g, cap, cur, rfl, hb, hcur, _⟩
  · simp [Value.ownBlock] at hr
  · obtain rfl : g = r := by simpa [Value.ownBlock] using hr
    exact ⟨hb, (Array.getElem?_eq_some_iff.1 hcur).1⟩
theorem ownsRow_kept {w w' : World} {base : Nat} {e : TypeId} {size n : Nat} {u : Value} {xs : List Value} {row : Option Nat} (h : w.ownsRow base e size u n xs) (hg : w.grownBy w' row) (hr : row = none ∨ u.ownBlock ≠ row) : w'.ownsRow base e size u n xs := by
  obtain ⟨hl, h | ⟨g, cap, cur, rfl, hb, hcur, hrest⟩⟩ := h
  · exact ⟨hl, .inl h⟩
  · exact ⟨hl, .inr ⟨g, cap, cur, rfl, hb, (hg.block g (Array.getElem?_eq_some_iff.1 hcur).1 (fun e => by
      rcases hr with rfl | hr
      · cases e
      · exact hr (by rw [← e]; rfl))).trans hcur, hrest⟩⟩
section
variable {w w' : World} {base : Nat} {u : Value} {n : Nat} {gs caps : Nat → Nat} {F : Nat → List Int}
theorem AccS.kept (h : AccS w base u n gs caps F) {row : Option Nat} (hg : w.grownBy w' row) (hu : row = none ∨ u.ownBlock ≠ row) (hr : ∀ k, k < n → some (gs k) ≠ row) : AccS w' base u n gs caps F :=
  ⟨ownsRow_kept h.own hg hu, fun k hk => (h.row k hk).kept hg (hr k hk), h.ne, h.inc, h.low⟩
theorem AccS.below (h : AccS w base u n gs caps F) {B : Nat} (hb : Below B w w') (hB : w.heap.size ≤ B) : AccS w' base u n gs caps F :=
  h.kept (only_of_below (hb.mono hB) none) (.inl rfl) (by simp)
theorem AccS.nil (w : World) (base : Nat) (gs caps : Nat → Nat) (F : Nat → List Int) : AccS w base (.slice none 0 0) 0 gs caps F :=
  ⟨⟨rfl, .inl ⟨rfl, rfl⟩⟩, fun k hk => by omega, fun k hk => by omega, fun j k _ hk => by omega, fun k hk => by omega⟩
theorem AccS.ssr (h : AccS w base u n gs caps F) (hn : 0 < n) : ∃ G cap, u = .slice (some ⟨G, 0, none⟩) n cap ∧ base ≤ G ∧ SSR w base G gs caps n F := by
  obtain ⟨⟨hl, h1⟩, h2, h3, h4, h5⟩ := h
  rcases h1 with ⟨_, h0⟩ | ⟨g, cap, cur, rfl, hb, hcur, hn', hc, hsz, hx⟩
  · omega
  · refine ⟨g, cap, rfl, hb, ⟨fun k hk => ?_, h2, fun k hk e => h3 k hk (by rw [e]; rfl), h4, h5, (Array.getElem?_eq_some_iff.1 hcur).1⟩⟩
    have e : ((List.range n).map (rowV gs caps F))[k]? = some (rowV gs caps F k) := by simp [hk]
    rw [← hx, List.getElem?_take_of_lt (by omega)] at e
    simp [World.cell?, hcur]
    simpa [rowV] using e
end
theorem map_congr' {α β : Type} {f g : α → β} {l : List α} (h : ∀ x ∈ l, f x = g x) : l.map f = l.map g := List.map_congr_left h
theorem wpList_append_row {w : World} {ops : Array Oper} {rest : List Oper} {o : Oper} {a : Act} {Q : Exit → Act → World → Prop} (hgd : o.guard = none) (s x : Operand)
    (ho : o.op = .call { callee := .builtin .append, args := #[s, x], argTypes := #[45, 45] })
    (base : Nat) (v : Value) (n : Nat) (gs caps : Nat → Nat) (F : Nat → List Int) (hs : a.eval s = v) (hown : AccS w base v n gs caps F) (b0 c : Nat) (hx : a.eval x = .slice (some ⟨b0, 0, none⟩) 1 c) (g cg : Nat)
    (c1 : w.cell? ⟨b0, 0, none⟩ = some (.slice (some ⟨g, 0, none⟩) (F n).length cg)) (hrow : OwnAtI w g (F n)) (hgt : ∀ k, k < n → gs k < g) (hng : v.ownBlock ≠ some g) (hbg : base ≤ g) (hl : n ≤ 1100000) (hbase : base ≤ w.heap.size)
    (h : ∀ (G cap : Nat) (w' : World) (gs' caps' : Nat → Nat), AccS w' base (.slice (some ⟨G, 0, none⟩) (n + 1) cap) (n + 1) gs' caps' F → w.grownBy w' v.ownBlock → wpList Try.prog ops Q rest (a.put o.dst (.slice (some ⟨G, 0, none⟩) (n + 1) cap)) w') : wpList Try.prog ops Q (o :: rest) a w := by
  obtain ⟨i0, hi, hz0, hz1, hz2⟩ := info_parts infoRow
  refine wpList_append_own_at w hgd s x 45 ho base 35 i0 _ 1 24 Try.underlying45 hi hz0 hz1 hz2 rfl (by decide) v n _ hs hown.own ⟨b0, 0, none⟩ 1 c [.slice (some ⟨g, 0, none⟩) (F n).length cg] hx rfl ?_ ?_ (by unfold maxLen; omega) (by omega) hbase ?_
  · intro j u hj
    rw [addr_at, Nat.zero_add]
    match j, hj with
    | 0, hj => simp at hj; rw [← hj]; exact c1
    | j + 1, hj => simp at hj
  · intro u hu
    simp at hu
    rw [hu]
    rfl
  · intro v' w' hown' hg _ hob
    obtain ⟨G, cap, rfl⟩ := row_some hown'
    have hGg : G ≠ g := by
      rintro rfl
      rcases hob with e | e
      · exact hng (by rw [← e]; rfl)
      · simp [Value.ownBlock] at e
        have := hrow.lt
        omega
    refine h G cap w' (fun k => if k = n then g else gs k) (fun k => if k = n then cg else caps k) ⟨?_, fun k hk => ?_, fun k hk => ?_, fun j k hjk hk => ?_, fun k hk => ?_⟩ hg
    · rw [List.range_succ, List.map_append, List.map_singleton]
      have e1 : (List.range n).map (rowV (fun k => if k = n then g else gs k) (fun k => if k = n then cg else caps k) F) = (List.range n).map (rowV gs caps F) := map_congr' fun k hk => by
        have : k ≠ n := by have := List.mem_range.1 hk; omega
        simp [rowV, this]
      rw [e1]
      simpa [rowV] using hown'
    · split
      · subst k; exact hrow.kept hg (fun e => hng e.symm)
      · exact (hown.row k (by omega)).kept hg (fun e => hown.ne k (by omega) e.symm)
    · split
      · simpa [Value.ownBlock] using hGg
      · intro e
        have e' : G = gs k := by simpa [Value.ownBlock] using e
        rcases hob with e2 | e2
        · exact hown.ne k (by omega) (by rw [← e2, e])
        · simp [Value.ownBlock] at e2
          have := (hown.row k (by omega)).lt
          omega
    · rw [if_neg (by omega)]
      split
      · exact Nat.ne_of_lt (hgt j (by omega))
      · exact hown.inc j k hjk (by omega)
    · split
      · exact hbg
      · exact hown.low k (by omega)
/-- A slice of rows and a code. -/
def RSS (n : Nat) (F : Nat → List Int) (κ : Int) (w : World) (e : Ending) (w' : World) : Prop :=
  ∃ u G cap gs caps, e = .returned (.tuple #[u, .int .i64 κ]) ∧ Below w.heap.size w w' ∧ u = .slice (some ⟨G, 0, none⟩) n cap ∧ w.heap.size ≤ G ∧ SSR w' w.heap.size G gs caps n F
def hf (n s : Int) : Int := if (s % n) % 2 = 0 then (s % n) / 2 else if n % 2 = 0 then (s % n + n - 1) / 2 else (s % n + n) / 2
def rowP (n k : Nat) (j : Nat) : List Int := (List.range j).map fun (y : Nat) => hf n ((k : Int) + (y : Int))
def rowF (n k : Nat) : List Int := rowP n k n
theorem rowP_len (n k j : Nat) : (rowP n k j).length = j := by simp [rowP]
theorem rowP_succ (n k j : Nat) : rowP n k (j + 1) = rowP n k j ++ [hf n ((k : Int) + (j : Int))] := by simp [rowP, List.range_succ]
theorem rowP_next (n k j : Nat) (h : j < n) : (rowP n k j ++ List.replicate (n - j) 0).set j (hf n ((k : Int) + (j : Int))) = rowP n k (j + 1) ++ List.replicate (n - (j + 1)) 0 := by
  rw [rowP_succ, show n - j = (n - (j + 1)) + 1 by omega, List.replicate_succ, List.set_append_right _ _ (by rw [rowP_len]; omega), rowP_len, Nat.sub_self, List.set_cons_zero, List.append_assoc]
  rfl
theorem made_ints (w : World) (n : Nat) (T : TypeId) : OwnAtI (w.alloc (.cells (madeCells #[.int .i64 0] n) T)) w.heap.size (List.replicate n 0) := by
  refine ⟨by simp, fun k hk => ?_, fun o => by simp⟩
  rw [List.length_replicate] at hk
  rw [World.cell?_alloc_at _ _ _ _ rfl]
  simp [madeCells, hk, Nat.mod_one]
end Go.Proofs.Ytlkjacgpjolbdaa

namespace Go.Proofs.Ytlkjacgpjolbdaa
open Go.RowKit Go.Maps
theorem mkRow (n : Nat) (hn : n ≤ 1100000) (W : World) : (Instr.makeSlice 35 (.int .i64 (n : Int)) (.int .i64 (n : Int))).run Try.prog W = .ok (.slice (some ⟨W.heap.size, 0, none⟩) n n) (W.alloc (.cells (madeCells #[.int .i64 0] n) 2)) := by
  obtain ⟨i0, hi, hz0, hz1, hz2⟩ := info_parts infoInt64
  have hr := run_make (P := Try.prog) W 35 2 i0 (.int .i64 0) Try.underlying35 hi hz0 .i64 .i64 n n (by omega) (by omega) (by rw [hz2]; omega) (by omega)
  simp only [Int.toNat_natCast, hz1, Nat.mul_one] at hr
  exact hr
end Go.Proofs.Ytlkjacgpjolbdaa

namespace Go.Proofs.Ytlkjacgpjolbdaa
open Go.RowKit Go.Maps
theorem infoBoolT : (Try.prog.info? 4).map (fun i => (i.zero, i.size, i.bytes)) = some (some (.bool false), 1, 1) := by kernel_rfl
theorem mkBools (n : Nat) (hn : n ≤ 1100000) (W : World) : (Instr.makeSlice 86 (.int .i64 (n : Int)) (.int .i64 (n : Int))).run Try.prog W = .ok (.slice (some ⟨W.heap.size, 0, none⟩) n n) (W.alloc (.cells (madeCells #[.bool false] n) 4)) := by
  obtain ⟨i0, hi, hz0, hz1, hz2⟩ := info_parts infoBoolT
  have hr := run_make (P := Try.prog) W 86 4 i0 (.bool false) Try.underlying86 hi hz0 .i64 .i64 n n (by omega) (by omega) (by rw [hz2]; omega) (by omega)
  simp only [Int.toNat_natCast, hz1, Nat.mul_one] at hr
  exact hr
/-- A row of bools. -/
structure BoolsAt (w : World) (g n : Nat) (f : Nat → Bool) : Prop where
  lt : g < w.heap.size
  cell : ∀ q, q < n → w.cell? ⟨g, q, none⟩ = some (.bool (f q))
  free : ∀ o, w.frozen? ⟨g, o, none⟩ = false
theorem BoolsAt.made (w : World) (n : Nat) (T : TypeId) : BoolsAt (w.alloc (.cells (madeCells #[.bool false] n) T)) w.heap.size n (fun _ => false) := by
  refine ⟨by simp, fun k hk => ?_, fun o => by simp⟩
  rw [World.cell?_alloc_at _ _ _ _ rfl]
  simp [madeCells, hk, Nat.mod_one]
theorem BoolsAt.set {w : World} {g n : Nat} {f : Nat → Bool} (h : BoolsAt w g n f) {i : Nat} (hi : i < n) : BoolsAt (w.setCell ⟨g, i, none⟩ (.bool true)) g n (fun q => if q = i then true else f q) := by
  refine ⟨by simpa [World.setCell] using h.lt, fun q hq => ?_, fun o => by rw [World.frozen?_setCell]; exact h.free o⟩
  by_cases e : q = i
  · subst e
    rw [World.cell?_setCell_same' _ _ _ (by rw [h.cell q hq]; rfl)]
    simp
  · rw [World.cell?_setCell_other _ _ _ _ (by simp <;> omega), h.cell q hq, if_neg e]
theorem BoolsAt.congr {w : World} {g n : Nat} {f f' : Nat → Bool} (h : BoolsAt w g n f) (e : ∀ q, q < n → f q = f' q) : BoolsAt w g n f' := ⟨h.lt, fun q hq => by rw [← e q hq]; exact h.cell q hq, h.free⟩
theorem BoolsAt.kept {w w' : World} {g n : Nat} {f : Nat → Bool} {row : Option Nat} (h : BoolsAt w g n f) (hg : w.grownBy w' row) (hne : some g ≠ row) : BoolsAt w' g n f :=
  ⟨Nat.lt_of_lt_of_le h.lt hg.size, fun q hq => (World.cell?_of_block (w := w) (a := ⟨g, _, none⟩) (hg.block g h.lt hne)).trans (h.cell q hq), fun o => (World.frozen?_of_block (w := w) (a := ⟨g, o, none⟩) (hg.block g h.lt hne)).trans (h.free o)⟩
theorem take_snoc2 {l : List Int} {k : Nat} (h : k < l.length) : l.take (k + 1) = l.take k ++ [l[k]?.getD 0] := by
  rw [List.take_succ_eq_append_getElem h]; simp [h]
set_option maxRecDepth 100000 in
theorem l01Order_any (n : Nat) (hn0 : 1 ≤ n) (hn : n ≤ 1000) (s : Value) (p : List Int) (w : World) (h : IB w s p) :
    Calls Try.prog 96 #[s, .int .i64 (n : Int)] w (RV (.bool (rnGo (n : Int) [] p && decide ((p.length : Int) = (n : Int)))) w) := by
  obtain ⟨hlen, h3⟩ := h
  have hm := mkBools n (by omega)
  have HIN := Lib.hid fun a W => l01In_any a 0 ((n : Int) - 1) W
  rcases h3 with ⟨a, c, rfl, rfl⟩ | ⟨b, off, cap, rfl, hlt, hI⟩
  · have hval : (rnGo (n : Int) [] ([] : List Int) && decide ((([] : List Int).length : Int) = (n : Int))) = false := by
      have : ¬ ((0 : Nat) : Int) = (n : Int) := by omega
      simp only [rnGo, List.length_nil, Bool.true_and, decide_eq_false_iff_not]
      exact this
    rw [hval]
    clear hval
    go_enter Try.func96, Try.ntmps96
    go_wp2
    refine wp_loop_rounds 1 ?_
    rw [rounds_succ]
    go_wp2
    go_ret
    exact RV_of (bool_eq (by first | rfl | (simp; omega))) ((Below.refl _ _).alloc (Nat.le_refl _) _)
  · have HI := Lib.hid hI
    clear hI
    go_enter Try.func96, Try.ntmps96
    go_wp2
    go_loopw [6] (fun i wr => ∃ k : Nat, k ≤ p.length ∧ i = .int .i64 k ∧ BoolsAt wr w.heap.size n (fun q => decide ((q : Int) ∈ p.take k)) ∧ Below w.heap.size w wr ∧ Hid (rnGo (n : Int) [] p = rnGo (n : Int) (p.take k) (p.drop k))) (fun i _ => p.length - (intOf i).toNat)
    case atStart => exact ⟨0, Nat.zero_le _, rfl, (BoolsAt.made w n _).congr (fun q _ => by simp), (Below.refl _ _).alloc (Nat.le_refl _) _, Lib.hid (by simp)⟩
    case round =>
      obtain ⟨k, hk, rfl, hS, hB, HE⟩ := hrel
      have hsz := hB.size
      have hltB := hS.lt
      by_cases hkl : k < p.length
      · have c0 := (hB.cell (p := ⟨b, off + k, none⟩) hlt).trans (HI.out k hkl)
        have hts := take_snoc2 hkl
        have hdr : p.drop k = (p[k]?.getD 0) :: p.drop (k + 1) := by rw [List.drop_eq_getElem_cons hkl]; simp [hkl]
        obtain ⟨z, hz⟩ : ∃ z, z = p[k]?.getD 0 := ⟨_, rfl⟩
        rw [← hz] at c0 hts hdr
        rw [hdr] at HE
        have TS := Lib.hid hts
        have g0 : (0 : Int) ≤ (k : Int) := by omega
        have g1 : (k : Int) < (p.length : Int) := by omega
        clear hz hts hdr
        cases hin : inP (n : Int) z with
        | false =>
          have HIN2 := Lib.hid hin
          have hpt := HIN.out z
          have hb0 : (decide (0 ≤ z) && decide (z ≤ (n : Int) - 1)) = false := by
            unfold inP at hin
            simp only [Bool.and_eq_false_iff, decide_eq_false_iff_not] at hin ⊢
            omega
          rw [hb0] at hpt
          have HP1 := Lib.hid hpt
          clear hin hpt hb0
          go_wp2_with (go_at_call 67; refine (HP1.out _).mono ?_; rintro e w' ⟨rfl, rfl⟩)
          go_ret
          exact RV_of (bool_eq (by rw [HE.out, rnGo_bad HIN2.out]; rfl)) hB
        | true =>
          have HIN2 := Lib.hid hin
          have hpt := HIN.out z
          have hb0 : (decide (0 ≤ z) && decide (z ≤ (n : Int) - 1)) = true := by
            unfold inP at hin
            simp only [Bool.and_eq_true, decide_eq_true_eq] at hin ⊢
            omega
          rw [hb0] at hpt
          have HP1 := Lib.hid hpt
          obtain ⟨j, rfl⟩ : ∃ j : Nat, z = (j : Int) := by
            simp only [Bool.and_eq_true, decide_eq_true_eq] at hb0
            exact ⟨z.toNat, by omega⟩
          have hj : j < n := by simp only [Bool.and_eq_true, decide_eq_true_eq] at hb0; omega
          clear hin hpt hb0
          have cj := hS.cell j hj
          have fj := hS.free j
          have j0 : (0 : Int) ≤ (j : Int) := by omega
          have j1 : (j : Int) < (n : Int) := by omega
          by_cases hsn : (j : Int) ∈ p.take k
          · have HSN := Lib.hid hsn
            have hd : decide ((j : Int) ∈ p.take k) = true := by simpa using hsn
            rw [hd] at cj
            clear hsn hd
            go_wp2_with (go_at_call 67; refine (HP1.out _).mono ?_; rintro e w' ⟨rfl, rfl⟩)
            go_ret
            exact RV_of (bool_eq (by rw [HE.out, rnGo_dup HSN.out]; rfl)) hB
          · have HSN := Lib.hid hsn
            have hd : decide ((j : Int) ∈ p.take k) = false := by simpa using hsn
            rw [hd] at cj
            have hset := (hS.set hj).congr (f' := fun q => decide ((q : Int) ∈ p.take (k + 1))) (fun q _ => by
              rw [TS.out]
              by_cases e : q = j
              · simp [e]
              · have : ¬ (q : Int) = (j : Int) := by omega
                simp [e, this])
            have HSET := Lib.hid hset
            clear hsn hd hset
            go_wp2_with (go_at_call 67; refine (HP1.out _).mono ?_; rintro e w' ⟨rfl, rfl⟩)
            go_roundw
            case rel => exact ⟨k + 1, by omega, by go_num, HSET.out, hB.setCell (p := ⟨w.heap.size, j, none⟩) (Nat.le_refl _) _, Lib.hid (by rw [HE.out, rnGo_next HIN2.out HSN.out, TS.out])⟩
            case measure => simp [intOf]; omega
      · go_wp2
        go_ret
        exact RV_of (bool_eq (by rw [HE.out, List.drop_eq_nil_of_le (by omega), rnGo, Bool.true_and]; rw [Bool.eq_iff_iff]; simp)) hB
end Go.Proofs.Ytlkjacgpjolbdaa

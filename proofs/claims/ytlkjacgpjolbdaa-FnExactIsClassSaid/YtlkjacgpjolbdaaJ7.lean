
/- The model's points of blocks as digits, disjoint sets and classes. The program's isRenumbering. Places in a list: the program's and the model's. impl.columnOf. impl.checkedSquare. checkSets of the program. What the doors have in common. The door at bool. -/
import Derived.Test.YtlkjacgpjolbdaaJ6
import Derived.StillTailTactics
import Derived.WalkLawsBesides
import Derived.Defers
import Derived.Recover
import Derived.Laws.Pointers
namespace Go.Proofs.Ytlkjacgpjolbdaa
open Go.RowKit Go.Maps
theorem wrap_pow15 {t : Int} (h1 : 0 ≤ t) (h7 : t < 15) : IntKind.i64.wrap (2 ^ t.toNat) = ((2 ^ t.toNat : Nat) : Int) ∧ IntKind.u64.wrap t = t ∧ ((2 ^ t.toNat : Nat) : Int) ≤ 16384 := by
  have : t = 0 ∨ t = 1 ∨ t = 2 ∨ t = 3 ∨ t = 4 ∨ t = 5 ∨ t = 6 ∨ t = 7 ∨ t = 8 ∨ t = 9 ∨ t = 10 ∨ t = 11 ∨ t = 12 ∨ t = 13 ∨ t = 14 := by omega
  rcases this with rfl | rfl | rfl | rfl | rfl | rfl | rfl | rfl | rfl | rfl | rfl | rfl | rfl | rfl | rfl <;> decide
theorem l05Bits_any (x : Blk) (hx : okB x) (w : World) : Calls Try.prog 128 #[bv x] w (RV (.int .i64 (mkB x : Int)) w) := by
  obtain ⟨a, b, c⟩ := x
  obtain ⟨h1, h2, h3, h4⟩ := hx
  dsimp only at h1 h2 h3 h4
  obtain ⟨pa, qa, ra⟩ := wrap_pow15 (t := a) (by omega) (by omega)
  obtain ⟨pb, qb, rb⟩ := wrap_pow15 (t := b) (by omega) (by omega)
  obtain ⟨pc, qc, rc⟩ := wrap_pow15 (t := c) (by omega) (by omega)
  have HV := Lib.hid (show ((mkB ⟨a, b, c⟩ : Nat) : Int) = ((2 ^ a.toNat : Nat) : Int) + ((2 ^ b.toNat : Nat) : Int) + ((2 ^ c.toNat : Nat) : Int) by simp [mkB])
  have ga : 0 ≤ ((2 ^ a.toNat : Nat) : Int) := Int.natCast_nonneg _
  have gb : 0 ≤ ((2 ^ b.toNat : Nat) : Int) := Int.natCast_nonneg _
  have gc : 0 ≤ ((2 ^ c.toNat : Nat) : Int) := Int.natCast_nonneg _
  obtain ⟨A, hA⟩ : ∃ A, A = ((2 ^ a.toNat : Nat) : Int) := ⟨_, rfl⟩
  obtain ⟨B, hB⟩ : ∃ A, A = ((2 ^ b.toNat : Nat) : Int) := ⟨_, rfl⟩
  obtain ⟨C, hC⟩ : ∃ A, A = ((2 ^ c.toNat : Nat) : Int) := ⟨_, rfl⟩
  rw [← hA] at pa ra ga HV
  rw [← hB] at pb rb gb HV
  rw [← hC] at pc rc gc HV
  have b0 : 0 ≤ b := by omega
  have c0 : 0 ≤ c := by omega
  have a64 : a ≤ 64 := by omega
  have b64 : b ≤ 64 := by omega
  have c64 : c ≤ 64 := by omega
  clear hA hB hC h2 h3 h4
  unfold bv
  dsimp only
  go_enter Try.func128, Try.ntmps128
  go_wp2
  go_ret
  exact RV_of (int_eq (by rw [HV.out])) ((Below.refl _ _).alloc (Nat.le_refl _) _)
def RBM (good : Bool) (m : Nat) (w : World) (e : Ending) (w' : World) : Prop := ∃ p : Int, e = .returned (.tuple #[.bool good, .int .i64 p]) ∧ (good = true → p = (m : Int)) ∧ Below w.heap.size w w'
theorem sys_ok {v : Int} {bs : List Blk} (h : isSysImpl v bs = true) : ∀ x ∈ bs, okB x := fun x hx => by
  have hs := (sys_size h).2.1
  have := goodB_iff.1 (sys_good h x hx)
  exact ⟨this.1, this.2.1, this.2.2.1, by omega⟩
theorem blksAt_ok {bs : List Blk} {zs : List Int} (h : ∀ x ∈ bs, okB x) (hin : ∀ z ∈ zs, 0 ≤ z ∧ z < (bs.length : Int)) : ∀ x ∈ blksAt bs zs, okB x := fun x hx => by
  obtain ⟨z, hz, rfl⟩ := List.mem_map.1 hx
  have := hin z hz
  have hl : z.toNat < bs.length := by omega
  rw [List.getElem?_eq_getElem hl]
  exact h _ (List.getElem_mem hl)
theorem take_blksAt {bs : List Blk} {zs : List Int} {k : Nat} (hk : k < zs.length) : (blksAt bs zs).take (k + 1) = (blksAt bs zs).take k ++ [bs[(zs[k]?.getD 0).toNat]?.getD default] := by
  have h : k < (blksAt bs zs).length := by rw [blksAt_len]; exact hk
  rw [List.take_succ_eq_append_getElem h]
  simp [blksAt, hk]
theorem any_rev (L : List Blk) (p : Blk → Bool) : L.reverse.any p = L.any p := by simp
set_option maxRecDepth 100000 in
set_option maxHeartbeats 1000000 in
theorem l05Disjoint_any (v : Int) (s : Value) (bs : List Blk) (t : Value) (zs : List Int) (w : World) (h : SB w s bs) (ht : IB w t zs) (hin : ∀ z ∈ zs, 0 ≤ z ∧ z < (bs.length : Int)) (hok : ∀ x ∈ bs, okB x) :
    Calls Try.prog 80 #[.agg #[.int .i64 v, s], t] w (RBM (disGo [] (blksAt bs zs)) (dmk (blksAt bs zs)) w) := by
  have hs := h.slice
  have HSB := Lib.hid h
  have hlen := h.2.1
  have htl := ht.1
  have hts : ∃ a c, t = .slice a zs.length c := by rcases ht.2 with ⟨a, c, rfl, rfl⟩ | ⟨b, off, cap, rfl, _⟩ <;> exact ⟨_, _, rfl⟩
  have HT := Lib.hid ht
  have HIN := Lib.hid hin
  have HAL := Lib.hid (blksAt_ok hok hin)
  have HOK := Lib.hid hok
  clear h ht hin hok
  obtain ⟨a0, c0, rfl⟩ := hs
  obtain ⟨a1, c1, rfl⟩ := hts
  have hb0 : Below w.heap.size w (w.alloc (.cells #[.int .i64 v, .slice a0 bs.length c0] 28)) := (Below.refl _ _).alloc (Nat.le_refl _) _
  have HB0 := Lib.hid hb0
  clear hb0
  go_enter Try.func80, Try.ntmps80
  go_wp2
  go_loopw [6, 7] (fun p i wr => ∃ k : Nat, k ≤ zs.length ∧ i = .int .i64 k ∧ p = .int .i64 (dmk ((blksAt bs zs).take k) : Int) ∧ Below w.heap.size w wr ∧ w.heap.size < wr.heap.size ∧ wr.cell? ⟨w.heap.size, 1, none⟩ = some (.slice a0 bs.length c0) ∧ Hid (disGo [] (blksAt bs zs) = disGo (preB bs zs k) ((blksAt bs zs).drop k))) (fun _ i _ => zs.length - (intOf i).toNat)
  case atStart => exact ⟨0, Nat.zero_le _, rfl, rfl, HB0.out, by simp, by simp, Lib.hid rfl⟩
  case round =>
    obtain ⟨k, hk, rfl, rfl, hB, hlt, p1, HE⟩ := hrel
    by_cases hkl : k < zs.length
    · rcases HT.out.2 with ⟨_, _, hq, hnil⟩ | ⟨tb, toff, tcap, hq, htb, hI⟩
      · rw [hnil] at hkl; simp at hkl
      simp at hq
      obtain ⟨rfl, rfl⟩ := hq
      have cz := (hI.below hB htb) k hkl
      have hz2 := HIN.out _ (List.getElem_mem hkl)
      have hge : zs[k] = zs[k]?.getD 0 := by simp [hkl]
      rw [hge] at hz2
      have hsu := preB_succ (bs := bs) hkl
      have hdr := drop_blksAt (bs := bs) hkl
      have htk := take_blksAt (bs := bs) hkl
      obtain ⟨z, hz⟩ : ∃ z, z = zs[k]?.getD 0 := ⟨_, rfl⟩
      rw [← hz] at cz hz2 hsu hdr htk
      clear hz hge
      obtain ⟨j, rfl⟩ : ∃ j : Nat, z = (j : Int) := ⟨z.toNat, by omega⟩
      rw [Int.toNat_natCast] at hsu hdr htk
      have hj : j < bs.length := by omega
      rcases HSB.out.2.2 with ⟨_, _, _, hnil⟩ | ⟨b, off, cap, hv, hblt, hbl⟩
      · rw [hnil] at hj; simp at hj
      simp at hv
      obtain ⟨rfl, rfl⟩ := hv
      obtain ⟨x, hx, ex, x1, x2, x3⟩ := blks_at (hbl.below hB hblt) hj
      rw [show bs[j]?.getD default = x by rw [ex]; rfl] at hsu hdr htk
      have hxo : okB x := HOK.out x (List.mem_of_getElem? ex)
      have he := HE.out
      rw [hdr, disGo_cons] at he
      have hpre : (preB bs zs k).any (touch x) = ((blksAt bs zs).take k).any (touch x) := any_rev _ _
      have hst := dmk_step (L := (blksAt bs zs).take k) (fun y hy => HAL.out y (List.mem_of_mem_take hy)) hxo
      rw [← hpre, ← htk] at hst
      have HBI := Lib.hid fun W => l05Bits_any x hxo W
      have HSU := Lib.hid hsu
      obtain ⟨μ, hμ⟩ : ∃ μ, μ = (preB bs zs k).any (touch x) := ⟨_, rfl⟩
      rw [← hμ] at he hst
      have HE2 := Lib.hid he
      obtain ⟨o, ho⟩ : ∃ o : Int, o = (mkB x : Int) := ⟨_, rfl⟩
      obtain ⟨m, hm⟩ : ∃ m : Int, m = (dmk ((blksAt bs zs).take k) : Int) := ⟨_, rfl⟩
      rw [← ho, ← hm] at hst
      rw [← ho] at HBI
      rw [← hm]
      have h1 := hst.1
      have HO := Lib.hid hst.2
      have i0 : (0 : Int) ≤ (k : Int) := by omega
      have i1 : (k : Int) < (zs.length : Int) := by omega
      have j0 : (0 : Int) ≤ (j : Int) := by omega
      have j1 : (j : Int) < (bs.length : Int) := by omega
      have hz := hB.size
      clear hμ he hsu hdr htk hx ex hbl hI HE hpre hst ho hm hxo
      obtain ⟨xa, xb, xc⟩ := x
      unfold bv at HBI
      dsimp only at x1 x2 x3 HBI
      cases μ with
      | true =>
        go_wp2_with fail
        go_still_tail 8, (by kernel_rfl)
        repeat still_step
        change wpList _ _ _ _ _ wr.drew
        have HBd := Lib.hid (show Below w.heap.size w wr.drew from hB.drew)
        obtain ⟨w3, hw3⟩ : ∃ w3, w3 = wr.drew := ⟨_, rfl⟩
        rw [← hw3] at HBd ⊢
        have hz3 : w3.heap.size = wr.heap.size := by rw [hw3]; rfl
        clear hw3 p1 cz x1 x2 x3
        go_wp2_with fail
        refine (HBI.out _).mono ?_
        rintro e w4 ⟨rfl, hb4⟩
        go_wp2
        go_ret2
        exact ⟨_, by rw [HE2.out]; rfl, fun hc => by rw [HE2.out] at hc; simp at hc, HBd.out.trans (hb4.mono (by omega))⟩
      | false =>
        go_wp2_with fail
        go_still_tail 8, (by kernel_rfl)
        repeat still_step
        change wpList _ _ _ _ _ wr.drew
        have HBd := Lib.hid (show Below w.heap.size w wr.drew from hB.drew)
        obtain ⟨w3, hw3⟩ : ∃ w3, w3 = wr.drew := ⟨_, rfl⟩
        rw [← hw3] at HBd ⊢
        have hz3 : w3.heap.size = wr.heap.size := by rw [hw3]; rfl
        have p3 : w3.cell? ⟨w.heap.size, 1, none⟩ = some (.slice (some ⟨b, off, none⟩) bs.length c0) := by rw [hw3]; exact p1
        clear hw3 p1 cz x1 x2 x3
        go_wp2_with fail
        refine (HBI.out _).mono ?_
        rintro e w4 ⟨rfl, hb4⟩
        have hz4 := hb4.size
        have p4 := (hb4.cell (p := ⟨w.heap.size, 1, none⟩) (by show w.heap.size < _; omega)).trans p3
        go_wp2
        go_roundw
        case rel => exact ⟨k + 1, by omega, by go_num, by rw [HO.out], HBd.out.trans (hb4.mono (by omega)), by omega, p4, Lib.hid (by rw [HE2.out, HSU.out]; rfl)⟩
        case measure => simp [intOf]; omega
    · have he := HE.out
      rw [List.drop_eq_nil_of_le (by rw [blksAt_len]; omega), disGo_nil] at he
      have HE2 := Lib.hid he
      have HD := Lib.hid (show (blksAt bs zs).take k = blksAt bs zs from List.take_of_length_le (by rw [blksAt_len]; omega))
      clear he
      go_wp2
      go_ret2
      exact ⟨_, by rw [HE2.out]; rfl, fun _ => by rw [HD.out], hB⟩
end Go.Proofs.Ytlkjacgpjolbdaa

namespace Go.Proofs.Ytlkjacgpjolbdaa
open Go.RowKit Go.Maps
theorem intKeyed : Keyed Try.prog 2 := int_keyed Try.underlying2
theorem int_key {a : Int} (ha : WF a) : ∃ kl, keyOf Try.prog 2 (.int .i64 a) = some kl := ⟨_, keyOf_int_mk Try.underlying2 ha⟩
def iv (a : Int) : Value := .int .i64 a
theorem iv_inj {a b : Int} (h : iv a = iv b) : a = b := by simpa [iv] using h
theorem take_snoc' {l : List Int} {k : Nat} (h : k < l.length) : l.take (k + 1) = l.take k ++ [l[k]?.getD 0] := by
  rw [List.take_succ_eq_append_getElem h]; simp [h]
set_option maxRecDepth 100000 in
theorem isRenumbering_any (v : Int) (s : Value) (p : List Int) (w : World) (h : IB w s p) (hwf : ∀ z ∈ p, WF z) :
    Calls Try.prog 137 #[.int .i64 v, s] w (RV (.bool (isRen v p)) w) := by
  obtain ⟨hlen, h3⟩ := h
  have hmm := @run_makeMap Try.prog
  have HPT := Lib.hid fun a W => isPointI_any v a W
  obtain ⟨a0, c0, hs⟩ : ∃ a c, s = .slice a p.length c := by rcases h3 with ⟨a, c, rfl, rfl⟩ | ⟨b, off, cap, rfl, _⟩ <;> exact ⟨_, _, rfl⟩
  by_cases hv : (p.length : Int) = v
  · subst hv
    have hval : isRen (p.length : Int) p = rnGo (p.length : Int) [] p := by simp [isRen]
    rw [hval]
    have HW := Lib.hid hwf
    rcases h3 with ⟨a, c, rfl, rfl⟩ | ⟨b, off, cap, rfl, hlt, hI⟩
    · clear hs hval hwf
      go_enter Try.func137, Try.ntmps137
      go_wp2
      refine wp_loop_rounds 1 ?_
      rw [rounds_succ]
      go_wp2
      go_ret
      exact RV_of rfl ((Below.refl _ _).alloc (Nat.le_refl _) _)
    · clear hs hval hwf
      have HI := Lib.hid hI
      clear hI
      go_enter Try.func137, Try.ntmps137
      go_wp2
      go_loopw [15] (fun i wr => ∃ k : Nat, k ≤ p.length ∧ i = .int .i64 k ∧ BoolSet wr Try.prog 2 4 w.heap.size k ((p.take k).map iv) ∧ Below w.heap.size w wr ∧ Hid (rnGo (p.length : Int) [] p = rnGo (p.length : Int) (p.take k) (p.drop k))) (fun i _ => p.length - (intOf i).toNat)
      case atStart => exact ⟨0, Nat.zero_le _, rfl, BoolSet.made _ _ _ _, (Below.refl _ _).alloc (Nat.le_refl _) _, Lib.hid (by simp)⟩
      case round =>
        obtain ⟨k, hk, rfl, hS, hB, HE⟩ := hrel
        have hsz := hB.size
        have hltB := hS.lt
        by_cases hkl : k < p.length
        · have c0 := (hB.cell (p := ⟨b, off + k, none⟩) hlt).trans (HI.out k hkl)
          have hmem : (p[k]?.getD 0) ∈ p := by rw [List.getElem?_eq_getElem hkl]; exact List.getElem_mem hkl
          have hts := take_snoc' hkl
          have hdr : p.drop k = (p[k]?.getD 0) :: p.drop (k + 1) := by rw [List.drop_eq_getElem_cons hkl]; simp [hkl]
          obtain ⟨z, hz⟩ : ∃ z, z = p[k]?.getD 0 := ⟨_, rfl⟩
          rw [← hz] at c0 hmem hts hdr
          rw [hdr] at HE
          obtain ⟨k1, hk1⟩ := int_key (HW.out z hmem)
          have HK1 := Lib.hid hk1
          have TS := Lib.hid hts
          have g0 : (0 : Int) ≤ (k : Int) := by omega
          have g1 : (k : Int) < (p.length : Int) := by omega
          clear hz hts hdr hk1 hmem
          have hput : ∀ w', BoolSet w' Try.prog 2 4 w.heap.size (k + 1) ((p.take k).map iv ++ [iv z]) → BoolSet w' Try.prog 2 4 w.heap.size (k + 1) ((p.take (k + 1)).map iv) := fun w' h => by rw [TS.out, List.map_append]; exact h
          have HPUT := Lib.hid hput
          have hmm : ∀ β : Bool, Hid (β = true ↔ iv z ∈ (p.take k).map iv) → (β = true ↔ z ∈ p.take k) := fun β h => h.out.trans ⟨fun h => by obtain ⟨q, hq, e⟩ := List.mem_map.1 h; rw [← iv_inj e]; exact hq, fun h => List.mem_map.2 ⟨z, h, rfl⟩⟩
          have HM := Lib.hid hmm
          clear hput hmm
          cases hin : inP (p.length : Int) z with
          | false =>
            have HIN := Lib.hid hin
            have hpt := HPT.out z
            rw [hin] at hpt
            have HP1 := Lib.hid hpt
            clear hin hpt
            go_wp2_with (go_at_call 111; refine (HP1.out _).mono ?_; rintro e w' ⟨rfl, rfl⟩)
            go_ret
            exact RV_of (bool_eq (by rw [HE.out, rnGo_bad HIN.out])) hB
          | true =>
            have HIN := Lib.hid hin
            have hpt := HPT.out z
            rw [hin] at hpt
            have HP1 := Lib.hid hpt
            clear hin hpt
            obtain ⟨β1, hrun, hβ1⟩ : ∃ β : Bool, (Instr.lookup 145 (.map (some w.heap.size)) (.int .i64 z) false).run Try.prog wr = .ok (.bool β) wr ∧ (β = true ↔ iv z ∈ (p.take k).map iv) := hS.look intKeyed Try.underlying145 Try.underlying4 (zeroBool _) HK1.out
            have hb1 := HM.out β1 (Lib.hid hβ1)
            by_cases hsn : z ∈ p.take k
            · have HSN := Lib.hid hsn
              obtain rfl : β1 = true := hb1.2 hsn
              clear hsn hb1 hβ1
              go_wp2_with (go_at_call 111; refine (HP1.out _).mono ?_; rintro e w' ⟨rfl, rfl⟩)
              go_ret
              exact RV_of (bool_eq (by rw [HE.out, rnGo_dup HSN.out])) hB
            · have HSN := Lib.hid hsn
              obtain rfl : β1 = false := Bool.eq_false_iff.2 (fun h => hsn (hb1.1 h))
              clear hsn hb1 hβ1
              go_wp2_with (first | (go_at_call 111; refine (HP1.out _).mono ?_; rintro e w' ⟨rfl, rfl⟩) | (at_mapUpdate; refine wpList_put_set _ rfl _ _ _ 145 rfl 2 4 intKeyed Try.underlying145 Try.underlying4 w.heap.size k ((p.take k).map iv) rfl hS (by unfold maxLen; omega) (iv z) k1 rfl rfl HK1.out ?_; intro w3 hS3 hg3))
              have hB3 := hB.grown hg3 hsz (fun j e => by cases e; exact Nat.le_refl _)
              go_roundw
              case rel => exact ⟨k + 1, by omega, by go_num, HPUT.out _ hS3, hB3, Lib.hid (by rw [HE.out, rnGo_next HIN.out HSN.out, TS.out])⟩
              case measure => simp [intOf]; omega
        · go_wp2
          go_ret
          exact RV_of (bool_eq (by rw [HE.out, List.drop_eq_nil_of_le (by omega), rnGo])) hB
  · have hval : isRen v p = false := by simp [isRen, hv]
    rw [hval]
    have hd : ((p.length : Int) != v) = true := by simpa using hv
    subst hs
    clear hval h3 hv hwf
    go_enter Try.func137, Try.ntmps137
    go_wp2
    go_ret
    exact RV_of rfl (Below.refl _ _)
end Go.Proofs.Ytlkjacgpjolbdaa

namespace Go.Proofs.Ytlkjacgpjolbdaa
open Go.RowKit Go.Maps
theorem place_drop {zs : List Int} {x : Int} {k : Nat} (hk : k < zs.length) (h : place zs x = plGo x (zs.drop k) k) : (zs[k]?.getD 0 = x → place zs x = k) ∧ (zs[k]?.getD 0 ≠ x → place zs x = plGo x (zs.drop (k + 1)) (k + 1)) := by
  have hdr : zs.drop k = (zs[k]?.getD 0) :: zs.drop (k + 1) := by rw [List.drop_eq_getElem_cons hk]; simp [hk]
  rw [hdr] at h
  refine ⟨fun e => ?_, fun e => ?_⟩
  · rw [h, plGo, if_pos e]
  · rw [h, plGo, if_neg e]
set_option maxRecDepth 100000 in
theorem Idx_any (s : Value) (zs : List Int) (x : Int) (w : World) (h : IB w s zs) : Calls Try.prog 127 #[s, .int .i64 x] w (RS (.int .i64 (place zs x)) w) := by
  obtain ⟨hlen, h3⟩ := h
  rcases h3 with ⟨a0, c0, rfl, rfl⟩ | ⟨b, off, cap, rfl, hlt, hI⟩
  · go_enter Try.func127, Try.ntmps127
    go_wp2
    refine wp_loop_rounds 1 ?_
    rw [rounds_succ]
    go_wp2
    go_ret
    exact RS_of rfl
  · have HI := Lib.hid hI
    clear hI
    go_enter Try.func127, Try.ntmps127
    go_wp2
    go_loop [8] (fun i => ∃ k : Nat, k ≤ zs.length ∧ i = .int .i64 k ∧ Hid (place zs x = plGo x (zs.drop k) k)) (fun i => zs.length - (intOf i).toNat)
    case atStart => exact ⟨0, Nat.zero_le _, rfl, Lib.hid (by simp [place])⟩
    case round =>
      obtain ⟨k, hk, rfl, HE⟩ := hrel
      by_cases hkl : k < zs.length
      · have c0 := HI.out k hkl
        obtain ⟨d1, d2⟩ := place_drop hkl HE.out
        obtain ⟨z, hz⟩ : ∃ z, z = zs[k]?.getD 0 := ⟨_, rfl⟩
        rw [← hz] at c0 d1 d2
        have D1 := Lib.hid d1
        have D2 := Lib.hid d2
        have g0 : (0 : Int) ≤ (k : Int) := by omega
        have g1 : (k : Int) < (zs.length : Int) := by omega
        clear hz d1 d2
        by_cases e : z = x
        · have q1 : (x == z) = true := by simpa using e.symm
          have q2 : decide (x = z) = true := by simpa using e.symm
          have HZ := Lib.hid (D1.out e)
          clear e
          go_wp2
          go_ret
          exact RS_of (int_eq (by rw [HZ.out]))
        · have q1 : (x == z) = false := by simpa using fun h => e h.symm
          have q2 : decide (x = z) = false := by simpa using fun h => e h.symm
          have HZ := Lib.hid (D2.out e)
          clear e
          go_wp2
          go_round
          case rel => exact ⟨k + 1, by omega, by go_num, HZ⟩
          case measure => simp [intOf]; omega
      · go_wp2
        go_ret
        exact RS_of (int_eq (by rw [HE.out, List.drop_eq_nil_of_le (by omega), plGo]))
set_option maxRecDepth 100000 in
theorem l01Place_any (s : Value) (zs : List Int) (x : Int) (w : World) (h : IB w s zs) : Calls Try.prog 125 #[s, .int .i64 x] w (RS (.int .i64 (place zs x)) w) := by
  obtain ⟨hlen, h3⟩ := h
  rcases h3 with ⟨a0, c0, rfl, rfl⟩ | ⟨b, off, cap, rfl, hlt, hI⟩
  · go_enter Try.func125, Try.ntmps125
    go_wp2
    refine wp_loop_rounds 1 ?_
    rw [rounds_succ]
    go_wp2
    go_ret
    exact RS_of rfl
  · have HI := Lib.hid hI
    clear hI
    go_enter Try.func125, Try.ntmps125
    go_wp2
    go_loop [5] (fun i => ∃ k : Nat, k ≤ zs.length ∧ i = .int .i64 k ∧ Hid (place zs x = plGo x (zs.drop k) k)) (fun i => zs.length - (intOf i).toNat)
    case atStart => exact ⟨0, Nat.zero_le _, rfl, Lib.hid (by simp [place])⟩
    case round =>
      obtain ⟨k, hk, rfl, HE⟩ := hrel
      by_cases hkl : k < zs.length
      · have c0 := HI.out k hkl
        obtain ⟨d1, d2⟩ := place_drop hkl HE.out
        obtain ⟨z, hz⟩ : ∃ z, z = zs[k]?.getD 0 := ⟨_, rfl⟩
        rw [← hz] at c0 d1 d2
        have D1 := Lib.hid d1
        have D2 := Lib.hid d2
        have g0 : (0 : Int) ≤ (k : Int) := by omega
        have g1 : (k : Int) < (zs.length : Int) := by omega
        clear hz d1 d2
        by_cases e : z = x
        · have q1 : (z == x) = true := by simpa using e
          have q2 : decide (z = x) = true := by simpa using e
          have HZ := Lib.hid (D1.out e)
          clear e
          go_wp2
          go_ret
          exact RS_of (int_eq (by rw [HZ.out]))
        · have q1 : (z == x) = false := by simpa using e
          have q2 : decide (z = x) = false := by simpa using e
          have HZ := Lib.hid (D2.out e)
          clear e
          go_wp2
          go_round
          case rel => exact ⟨k + 1, by omega, by go_num, HZ⟩
          case measure => simp [intOf]; omega
      · go_wp2
        go_ret
        exact RS_of (int_eq (by rw [HE.out, List.drop_eq_nil_of_le (by omega), plGo]))
set_option maxRecDepth 100000 in
theorem isNumberSet_any (v : Int) (s : Value) (zs : List Int) (w : World) (h : IB w s zs) : Calls Try.prog 77 #[.int .i64 v, s] w (RS (.bool (ptGo v none zs)) w) := by
  obtain ⟨hlen, h3⟩ := h
  rcases h3 with ⟨a0, c0, rfl, rfl⟩ | ⟨b, off, cap, rfl, hlt, hI⟩
  · go_enter Try.func77, Try.ntmps77
    go_wp2
    refine wp_loop_rounds 1 ?_
    rw [rounds_succ]
    go_wp2
    go_ret
    exact RS_of rfl
  · have HI := Lib.hid hI
    clear hI
    go_enter Try.func77, Try.ntmps77
    go_wp2
    go_loop [9] (fun i => ∃ k : Nat, k ≤ zs.length ∧ i = .int .i64 k ∧ Hid (ptGo v none zs = ptGo v (if k = 0 then none else zs[k - 1]?) (zs.drop k))) (fun i => zs.length - (intOf i).toNat)
    case atStart => exact ⟨0, Nat.zero_le _, rfl, Lib.hid (by simp)⟩
    case round =>
      obtain ⟨k, hk, rfl, HE⟩ := hrel
      by_cases hkl : k < zs.length
      · have c0 := HI.out k hkl
        have hdr : zs.drop k = (zs[k]?.getD 0) :: zs.drop (k + 1) := by rw [List.drop_eq_getElem_cons hkl]; simp [hkl]
        have hkk : zs[k]? = some (zs[k]?.getD 0) := by simp [hkl]
        obtain ⟨z, hz⟩ : ∃ z, z = zs[k]?.getD 0 := ⟨_, rfl⟩
        rw [← hz] at c0 hdr hkk
        have he := HE.out
        rw [hdr] at he
        have HKK := Lib.hid hkk
        have g0 : (0 : Int) ≤ (k : Int) := by omega
        have g1 : (k : Int) < (zs.length : Int) := by omega
        clear hz hdr hkk HE
        cases hin : inP v z with
        | false =>
          have HV := Lib.hid (show ptGo v none zs = false by rw [he]; unfold ptGo; rw [hin]; rfl)
          have hor : z < 0 ∨ v ≤ z := by simp [inP] at hin; omega
          by_cases hz0 : z < 0
          · have q0 : decide (z < 0) = true := decide_eq_true hz0
            clear hin he hor
            go_wp2
            go_ret
            exact RS_of (bool_eq (by rw [HV.out]))
          · have q0 : decide (z < 0) = false := decide_eq_false hz0
            have q1 : decide (v ≤ z) = true := decide_eq_true (by omega)
            clear hin he hor hz0
            go_wp2
            go_ret
            exact RS_of (bool_eq (by rw [HV.out]))
        | true =>
          have hor : 0 ≤ z ∧ z < v := by simpa [inP] using hin
          have p0 : decide (z < 0) = false := decide_eq_false (by omega)
          have p1 : decide (v ≤ z) = false := decide_eq_false (by omega)
          by_cases hk0 : k = 0
          · subst hk0
            have HV := Lib.hid (show ptGo v none zs = ptGo v (some z) (zs.drop 1) by rw [he]; simp [ptGo, hin])
            have gd : decide ((0 : Int) < ((0 : Nat) : Int)) = false := by decide
            have c1 : w.cell? ⟨b, off, none⟩ = some (.int .i64 z) := by simpa using c0
            clear c0
            clear hin hor he
            go_wp2
            go_round
            case rel => exact ⟨1, by omega, by go_num, Lib.hid (by rw [HV.out]; simp; rw [← HKK.out])⟩
            case measure => simp [intOf]; omega
          · obtain ⟨j, rfl⟩ : ∃ j, k = j + 1 := ⟨k - 1, by omega⟩
            have cj := HI.out j (by omega)
            have hj : zs[j]? = some (zs[j]?.getD 0) := by simp [show j < zs.length by omega]
            obtain ⟨y, hy⟩ : ∃ y, y = zs[j]?.getD 0 := ⟨_, rfl⟩
            rw [← hy] at cj hj
            have he2 : ptGo v none zs = (decide (y < z) && ptGo v (some z) (zs.drop (j + 1 + 1))) := by
              rw [he]
              simp only [Nat.add_one_ne_zero, if_false, Nat.add_sub_cancel]
              rw [hj]
              simp [ptGo, hin]
            have HV := Lib.hid he2
            have gd : decide ((0 : Int) < ((j + 1 : Nat) : Int)) = true := by simp <;> omega
            have gi : (0 : Int) < (j : Int) + 1 := by omega
            have gj0 : (0 : Int) ≤ (j : Int) := by omega
            have gj1 : (j : Int) < (zs.length : Int) := by omega
            have ej : ((j + 1 : Nat) : Int) - 1 = (j : Int) := by omega
            clear hin hor he he2 hy hj
            by_cases hyz : y < z
            · have q1 : decide (z ≤ y) = false := by simp; omega
              have HW := Lib.hid (show ptGo v none zs = ptGo v (some z) (zs.drop (j + 1 + 1)) by rw [HV.out]; simp [hyz])
              go_wp2
              go_round
              case rel => exact ⟨j + 1 + 1, by omega, by go_num, Lib.hid (by rw [HW.out]; simp only [Nat.add_one_ne_zero, if_false, Nat.add_sub_cancel]; rw [← HKK.out])⟩
              case measure => simp [intOf]; omega
            · have q1 : decide (z ≤ y) = true := by simp; omega
              have q2 : z ≤ y := by omega
              have HW := Lib.hid (show ptGo v none zs = false by rw [HV.out]; simp [hyz])
              clear hyz
              go_wp2
              go_ret
              exact RS_of (bool_eq (by rw [HW.out]))
      · go_wp2
        go_ret
        exact RS_of (bool_eq (by rw [HE.out, List.drop_eq_nil_of_le (by omega), ptGo]))
end Go.Proofs.Ytlkjacgpjolbdaa

namespace Go.Proofs.Ytlkjacgpjolbdaa
open Go.RowKit Go.Maps
end Go.Proofs.Ytlkjacgpjolbdaa

namespace Go.Proofs.Ytlkjacgpjolbdaa
open Go.RowKit Go.Maps
/-- What a door of the program's recovers: a code. -/
def codeP (κ : Int) : PanicEntry := { v := .iface 114 (.int .i64 κ), recovered := false }
/-- The value, or the panic with a code; old memory stays. -/
def RP (good : Bool) (v : Value) (κ : Int) (w : World) (e : Ending) (w' : World) : Prop := (if good = true then e = .returned v else e = .panicked [codeP κ]) ∧ Below w.heap.size w w'
theorem RP_yes {good : Bool} {v : Value} {κ : Int} {w w' : World} (h : good = true) (hb : Below w.heap.size w w') : RP good v κ w (.returned v) w' := ⟨by rw [if_pos h], hb⟩
theorem RP_no {good : Bool} {v : Value} {κ : Int} {w w' : World} (h : good = false) (hb : Below w.heap.size w w') : RP good v κ w (.panicked [codeP κ]) w' := ⟨by rw [if_neg (by rw [h]; decide)], hb⟩
end Go.Proofs.Ytlkjacgpjolbdaa

namespace Go.Proofs.Ytlkjacgpjolbdaa
open Go.RowKit Go.Maps
def setsOk (m : Int) (n : Nat) (F : Nat → List Int) : Bool := (List.range n).all fun k => ptGo m none (F k)
theorem setsOk_succ (m : Int) (n : Nat) (F : Nat → List Int) : setsOk m (n + 1) F = (setsOk m n F && ptGo m none (F n)) := by simp [setsOk, List.range_succ]
theorem setsOk_false {m : Int} {n k : Nat} {F : Nat → List Int} (hk : k < n) (h : ptGo m none (F k) = false) : setsOk m n F = false := by
  unfold setsOk
  rw [List.all_eq_false]
  exact ⟨k, List.mem_range.2 hk, by rw [h]; decide⟩
def chkF (v : Int) (bs : List Blk) (n : Nat) (F : Nat → List Int) : Int := if isSysImpl v bs then (if setsOk (bs.length : Int) n F then 0 else 2) else 1
def RC (κ : Int) (w : World) (e : Ending) (w' : World) : Prop := (if κ = 0 then e = .returned (.tuple #[]) else e = .panicked [codeP κ]) ∧ Below w.heap.size w w'
theorem RC_yes {κ : Int} {w w' : World} (h : κ = 0) (hb : Below w.heap.size w w') : RC κ w (.returned (.tuple #[])) w' := ⟨by rw [if_pos h], hb⟩
theorem RC_no {κ c : Int} {w w' : World} (h : κ = c) (h0 : c ≠ 0) (hb : Below w.heap.size w w') : RC κ w (.panicked [codeP c]) w' := ⟨by rw [if_neg (by rw [h]; exact h0), h], hb⟩
set_option maxRecDepth 100000 in
set_option maxHeartbeats 1000000 in
theorem checkSets_any (v : Int) (s : Value) (bs : List Blk) (t : Value) (n : Nat) (F : Nat → List Int) (w : World) (h : SB w s bs) (ht : SSB w t n F) :
    Calls Try.prog 83 #[.agg #[.int .i64 v, s], t] w (RC (chkF v bs n F) w) := by
  have hs := h.slice
  have hn := ht.1
  have HI := Lib.hid fun W (hb : Below w.heap.size w W) => IsSystem_any v s bs W (h.below hb (Nat.le_refl _))
  have hlen := h.2.1
  obtain ⟨a, c, rfl⟩ := ht.slice
  have HROW := Lib.hid ht.rows
  clear h ht
  obtain ⟨a0, c0, rfl⟩ := hs
  cases hi : isSysImpl v bs with
  | false =>
    rw [hi] at HI
    have HV := Lib.hid (show chkF v bs n F = 1 by simp [chkF, hi])
    clear hi HROW
    go_enter Try.func83, Try.ntmps83
    go_wp2_with fail
    refine (HI.out _ ((Below.refl _ _).alloc (Nat.le_refl _) _)).mono ?_
    rintro e w1 ⟨rfl, hb1⟩
    have hb2 := below_new hb1
    go_wp2
    exact ⟨rfl, RC_no HV.out (by decide) hb2⟩
  | true =>
    rw [hi] at HI
    have HV := Lib.hid (show chkF v bs n F = if setsOk (bs.length : Int) n F then 0 else 2 by simp [chkF, hi])
    clear hi
    go_enter Try.func83, Try.ntmps83
    go_wp2_with fail
    refine (HI.out _ ((Below.refl _ _).alloc (Nat.le_refl _) _)).mono ?_
    rintro e w1 ⟨rfl, hb1⟩
    have hb2 := below_new hb1
    have p1 := cell_new hb1 1 rfl
    have hz1 := hb2.size
    have HB2 := Lib.hid hb2
    have hlt := block_lt_of_cell p1
    clear hb1 hb2 HI
    go_wp2_with fail
    go_loop [12] (fun i => ∃ k : Nat, k ≤ n ∧ i = .int .i64 k ∧ Hid (setsOk (bs.length : Int) k F = true)) (fun i => n - (intOf i).toNat)
    case atStart => exact ⟨0, Nat.zero_le _, rfl, Lib.hid rfl⟩
    case round =>
      obtain ⟨k, hk, rfl, HK⟩ := hrel
      by_cases hkl : k < n
      · obtain ⟨b, off, a', c', rfl, hlt', hc, hib⟩ := HROW.out k hkl
        have q := (HB2.out.cell (p := ⟨b, off + k, none⟩) hlt').trans hc
        have HR := Lib.hid (isNumberSet_any (bs.length : Int) _ (F k) _ (hib.below HB2.out (Nat.le_refl _)))
        clear hc hib
        cases hr : ptGo (bs.length : Int) none (F k) with
        | true =>
          rw [hr] at HR
          have HS := Lib.hid (show setsOk (bs.length : Int) (k + 1) F = true by rw [setsOk_succ, HK.out, hr]; rfl)
          clear hr
          go_wp2_with fail
          refine HR.out.mono ?_
          rintro e w2 ⟨rfl, rfl⟩
          go_wp2
          go_round
          case rel => exact ⟨k + 1, by omega, by go_num, HS⟩
          case measure => simp [intOf]; omega
        | false =>
          rw [hr] at HR
          have HS := Lib.hid (show chkF v bs n F = 2 by rw [HV.out, setsOk_false hkl hr]; rfl)
          clear hr
          go_wp2_with fail
          refine HR.out.mono ?_
          rintro e w2 ⟨rfl, rfl⟩
          go_wp2
          exact ⟨rfl, RC_no HS.out (by decide) HB2.out⟩
      · have e : k = n := by omega
        subst e
        have HS := Lib.hid (show chkF v bs k F = 0 by rw [HV.out, HK.out]; rfl)
        go_wp2
        exact bodyPost_ret (v := .tuple #[]) (by simp [results, Try.results83]) rfl (RC_yes HS.out HB2.out)
end Go.Proofs.Ytlkjacgpjolbdaa

namespace Go.Proofs.Ytlkjacgpjolbdaa
open Go.RowKit Go.Maps
theorem assert_nil (w : World) : Sem.run Try.prog (Instr.typeAssert .nilIface 20 114 true) w = .ok (.tuple #[.int .i64 0, .bool false]) w := by kernel_rfl
theorem assert_code (κ : Int) (w : World) : Sem.run Try.prog (Instr.typeAssert (.iface 114 (.int .i64 κ)) 20 114 true) w = .ok (.tuple #[.int .i64 κ, .bool true]) w := by kernel_rfl
/-- The world in which the door calls its builder. -/
def doorW (w : World) (zero : Array Value) (T : TypeId) : World := (w.alloc (.cells zero T)).alloc (.cells #[.int .i64 1] 2)
end Go.Proofs.Ytlkjacgpjolbdaa

namespace Go.Proofs.Ytlkjacgpjolbdaa
open Go.RowKit Go.Maps
set_option maxRecDepth 100000 in
theorem catchB_idle (p : Addr) (w : World) :
    CallsD Try.prog 129 #[.pointer (some p)] .returning w fun e u' w' => e = .returned (.tuple #[]) ∧ u' = .returning ∧ w' = w := by
  refine callsD_of_wpS Try.func129 rfl fun c₀ cs hu => ?_
  apply wpS_seq
  apply wpS_region
  simp [wpOpsS, go_sem, recoverD, hu, Try.ntmps129, Exit.thenS, assert_nil]
  apply wpS_seq
  apply wpS_region
  simp [wpOpsS, go_sem, Exit.thenS]
  refine wpS_cond (t := false) (by simp [Act.eval, Array.replicate]) ?_
  simp only [Bool.false_eq_true, if_false]
  refine wpS_of_wp (wp_skip ?_)
  cases c₀
  simp_all [bodyPostS, results, Try.results129]
set_option maxRecDepth 100000 in
theorem catchB_code (p : Addr) (x κ : Int) (older : List PanicEntry) (w : World) (hc : w.cell? p = some (.int .i64 x)) (hz : w.frozen? p = false) :
    CallsD Try.prog 129 #[.pointer (some p)] (.panicking (codeP κ :: older)) w fun e u' w' =>
      e = .returned (.tuple #[]) ∧ u' = .panicking ({ v := .iface 114 (.int .i64 κ), recovered := true } :: older) ∧ w' = w.setCell p (.int .i64 κ) := by
  refine callsD_of_wpS Try.func129 rfl fun c₀ cs hu => ?_
  apply wpS_seq
  apply wpS_region
  simp [wpOpsS, go_sem, recoverD, hu, codeP, Try.ntmps129, Exit.thenS, assert_code]
  apply wpS_seq
  apply wpS_region
  simp [wpOpsS, go_sem, Exit.thenS]
  refine wpS_cond (t := true) (by simp [Act.eval, Array.replicate]) ?_
  simp only [if_true]
  apply wpS_region
  simp [wpOpsS, go_sem, hc, hz, bodyPostS, results, Try.results129]
set_option maxRecDepth 100000 in
set_option maxHeartbeats 2000000 in
theorem doorAreDisjoint_no (caps : Array Value) (κ : Int) (w : World) (hc : Calls Try.prog 82 caps (w.alloc (.cells #[.int .i64 1] 2)) (fun e w' => e = .panicked [codeP κ] ∧ Below (w.heap.size + 1) (w.alloc (.cells #[.int .i64 1] 2)) w')) :
    Calls Try.prog 81 #[.func (.func 82) #[] caps] w (RV (.tuple #[.bool false, .int .i64 κ]) w) := by
  have hmf : ∀ (fn : Fn) (first cap : Array Value) (w : World), (Instr.makeFunc fn first cap).run Try.prog w = .ok (.func fn first cap) w := fun _ _ _ _ => rfl
  go_enter_defers Try.func81, Try.ntmps81
  go_wp2_with fail
  refine hc.mono ?_
  rintro e w' ⟨rfl, hb⟩
  have hz := hb.size
  have c2 : w'.cell? ⟨w.heap.size, 0, none⟩ = some (.int .i64 1) := (hb.cell (p := ⟨w.heap.size, 0, none⟩) (by simp)).trans (by simp)
  have f2 : w'.frozen? ⟨w.heap.size, 0, none⟩ = false := (hb.frozen (p := ⟨w.heap.size, 0, none⟩) (by simp)).trans (by simp)
  have d2 : (w'.setCell ⟨w.heap.size, 0, none⟩ (.int .i64 κ)).cell? ⟨w.heap.size, 0, none⟩ = some (.int .i64 κ) := World.cell?_setCell_same' _ _ _ (by rw [c2]; rfl)
  have hB : Below w.heap.size w (w'.setCell ⟨w.heap.size, 0, none⟩ (.int .i64 κ)) := (((Below.refl _ _).alloc (Nat.le_refl _) _).trans (hb.mono (by omega))).setCell (p := ⟨w.heap.size, 0, none⟩) (by simp) _
  go_wp2_with fail
  refine leaves_cons (f := 129) (args := #[.pointer (some ⟨w.heap.size, 0, none⟩)]) (by simp) (by simp [go_sem]) ?_
  refine (catchB_code ⟨w.heap.size, 0, none⟩ 1 κ [] _ c2 f2).mono ?_
  rintro e u' w'' ⟨rfl, rfl, rfl⟩
  simp [Leaves, settle, results, Try.results81, go_sem, d2, hB, RV]
set_option maxRecDepth 100000 in
set_option maxHeartbeats 2000000 in
theorem doorAreDisjoint_ok (caps : Array Value) (β : Bool) (w : World) (hc : Calls Try.prog 82 caps (w.alloc (.cells #[.int .i64 1] 2)) (fun e w' => e = .returned (.bool β) ∧ Below (w.heap.size + 1) (w.alloc (.cells #[.int .i64 1] 2)) w')) :
    Calls Try.prog 81 #[.func (.func 82) #[] caps] w (RV (.tuple #[.bool β, .int .i64 0]) w) := by
  have hmf : ∀ (fn : Fn) (first cap : Array Value) (w : World), (Instr.makeFunc fn first cap).run Try.prog w = .ok (.func fn first cap) w := fun _ _ _ _ => rfl
  go_enter_defers Try.func81, Try.ntmps81
  go_wp2_with fail
  refine hc.mono ?_
  rintro e w' ⟨rfl, hb⟩
  have hz := hb.size
  simp at hz
  have c2 : w'.cell? ⟨w.heap.size, 0, none⟩ = some (.int .i64 1) := (hb.cell (p := ⟨w.heap.size, 0, none⟩) (by simp)).trans (by simp)
  have f2 : w'.frozen? ⟨w.heap.size, 0, none⟩ = false := (hb.frozen (p := ⟨w.heap.size, 0, none⟩) (by simp)).trans (by simp)
  have hB : Below w.heap.size w (w'.setCell ⟨w.heap.size, 0, none⟩ (.int .i64 0)) := (((Below.refl _ _).alloc (Nat.le_refl _) _).trans (hb.mono (by omega))).setCell (p := ⟨w.heap.size, 0, none⟩) (by simp) _
  go_wp2_with fail
  refine leaves_cons (f := 129) (args := #[.pointer (some ⟨w.heap.size, 0, none⟩)]) (by simp) (by simp [go_sem]) ?_
  refine (catchB_idle ⟨w.heap.size, 0, none⟩ _).mono ?_
  rintro e u' w'' ⟨rfl, rfl, rfl⟩
  have k2 : (w'.setCell ⟨w.heap.size, 0, none⟩ (.int .i64 0)).cell? ⟨w.heap.size, 0, none⟩ = some (.int .i64 0) := World.cell?_setCell_same' _ _ _ (by rw [c2]; rfl)
  simp [Leaves, settle, results, Try.results81, go_sem, k2, hB, RV]
set_option maxRecDepth 100000 in
set_option maxHeartbeats 2000000 in
theorem doorIsClass_no (caps : Array Value) (κ : Int) (w : World) (hc : Calls Try.prog 86 caps (w.alloc (.cells #[.int .i64 1] 2)) (fun e w' => e = .panicked [codeP κ] ∧ Below (w.heap.size + 1) (w.alloc (.cells #[.int .i64 1] 2)) w')) :
    Calls Try.prog 81 #[.func (.func 86) #[] caps] w (RV (.tuple #[.bool false, .int .i64 κ]) w) := by
  have hmf : ∀ (fn : Fn) (first cap : Array Value) (w : World), (Instr.makeFunc fn first cap).run Try.prog w = .ok (.func fn first cap) w := fun _ _ _ _ => rfl
  go_enter_defers Try.func81, Try.ntmps81
  go_wp2_with fail
  refine hc.mono ?_
  rintro e w' ⟨rfl, hb⟩
  have hz := hb.size
  have c2 : w'.cell? ⟨w.heap.size, 0, none⟩ = some (.int .i64 1) := (hb.cell (p := ⟨w.heap.size, 0, none⟩) (by simp)).trans (by simp)
  have f2 : w'.frozen? ⟨w.heap.size, 0, none⟩ = false := (hb.frozen (p := ⟨w.heap.size, 0, none⟩) (by simp)).trans (by simp)
  have d2 : (w'.setCell ⟨w.heap.size, 0, none⟩ (.int .i64 κ)).cell? ⟨w.heap.size, 0, none⟩ = some (.int .i64 κ) := World.cell?_setCell_same' _ _ _ (by rw [c2]; rfl)
  have hB : Below w.heap.size w (w'.setCell ⟨w.heap.size, 0, none⟩ (.int .i64 κ)) := (((Below.refl _ _).alloc (Nat.le_refl _) _).trans (hb.mono (by omega))).setCell (p := ⟨w.heap.size, 0, none⟩) (by simp) _
  go_wp2_with fail
  refine leaves_cons (f := 129) (args := #[.pointer (some ⟨w.heap.size, 0, none⟩)]) (by simp) (by simp [go_sem]) ?_
  refine (catchB_code ⟨w.heap.size, 0, none⟩ 1 κ [] _ c2 f2).mono ?_
  rintro e u' w'' ⟨rfl, rfl, rfl⟩
  simp [Leaves, settle, results, Try.results81, go_sem, d2, hB, RV]
set_option maxRecDepth 100000 in
set_option maxHeartbeats 2000000 in
theorem doorIsClass_ok (caps : Array Value) (β : Bool) (w : World) (hc : Calls Try.prog 86 caps (w.alloc (.cells #[.int .i64 1] 2)) (fun e w' => e = .returned (.bool β) ∧ Below (w.heap.size + 1) (w.alloc (.cells #[.int .i64 1] 2)) w')) :
    Calls Try.prog 81 #[.func (.func 86) #[] caps] w (RV (.tuple #[.bool β, .int .i64 0]) w) := by
  have hmf : ∀ (fn : Fn) (first cap : Array Value) (w : World), (Instr.makeFunc fn first cap).run Try.prog w = .ok (.func fn first cap) w := fun _ _ _ _ => rfl
  go_enter_defers Try.func81, Try.ntmps81
  go_wp2_with fail
  refine hc.mono ?_
  rintro e w' ⟨rfl, hb⟩
  have hz := hb.size
  simp at hz
  have c2 : w'.cell? ⟨w.heap.size, 0, none⟩ = some (.int .i64 1) := (hb.cell (p := ⟨w.heap.size, 0, none⟩) (by simp)).trans (by simp)
  have f2 : w'.frozen? ⟨w.heap.size, 0, none⟩ = false := (hb.frozen (p := ⟨w.heap.size, 0, none⟩) (by simp)).trans (by simp)
  have hB : Below w.heap.size w (w'.setCell ⟨w.heap.size, 0, none⟩ (.int .i64 0)) := (((Below.refl _ _).alloc (Nat.le_refl _) _).trans (hb.mono (by omega))).setCell (p := ⟨w.heap.size, 0, none⟩) (by simp) _
  go_wp2_with fail
  refine leaves_cons (f := 129) (args := #[.pointer (some ⟨w.heap.size, 0, none⟩)]) (by simp) (by simp [go_sem]) ?_
  refine (catchB_idle ⟨w.heap.size, 0, none⟩ _).mono ?_
  rintro e u' w'' ⟨rfl, rfl, rfl⟩
  have k2 : (w'.setCell ⟨w.heap.size, 0, none⟩ (.int .i64 0)).cell? ⟨w.heap.size, 0, none⟩ = some (.int .i64 0) := World.cell?_setCell_same' _ _ _ (by rw [c2]; rfl)
  simp [Leaves, settle, results, Try.results81, go_sem, k2, hB, RV]
set_option maxRecDepth 100000 in
set_option maxHeartbeats 2000000 in
theorem doorIsResolution_no (caps : Array Value) (κ : Int) (w : World) (hc : Calls Try.prog 94 caps (w.alloc (.cells #[.int .i64 1] 2)) (fun e w' => e = .panicked [codeP κ] ∧ Below (w.heap.size + 1) (w.alloc (.cells #[.int .i64 1] 2)) w')) :
    Calls Try.prog 81 #[.func (.func 94) #[] caps] w (RV (.tuple #[.bool false, .int .i64 κ]) w) := by
  have hmf : ∀ (fn : Fn) (first cap : Array Value) (w : World), (Instr.makeFunc fn first cap).run Try.prog w = .ok (.func fn first cap) w := fun _ _ _ _ => rfl
  go_enter_defers Try.func81, Try.ntmps81
  go_wp2_with fail
  refine hc.mono ?_
  rintro e w' ⟨rfl, hb⟩
  have hz := hb.size
  have c2 : w'.cell? ⟨w.heap.size, 0, none⟩ = some (.int .i64 1) := (hb.cell (p := ⟨w.heap.size, 0, none⟩) (by simp)).trans (by simp)
  have f2 : w'.frozen? ⟨w.heap.size, 0, none⟩ = false := (hb.frozen (p := ⟨w.heap.size, 0, none⟩) (by simp)).trans (by simp)
  have d2 : (w'.setCell ⟨w.heap.size, 0, none⟩ (.int .i64 κ)).cell? ⟨w.heap.size, 0, none⟩ = some (.int .i64 κ) := World.cell?_setCell_same' _ _ _ (by rw [c2]; rfl)
  have hB : Below w.heap.size w (w'.setCell ⟨w.heap.size, 0, none⟩ (.int .i64 κ)) := (((Below.refl _ _).alloc (Nat.le_refl _) _).trans (hb.mono (by omega))).setCell (p := ⟨w.heap.size, 0, none⟩) (by simp) _
  go_wp2_with fail
  refine leaves_cons (f := 129) (args := #[.pointer (some ⟨w.heap.size, 0, none⟩)]) (by simp) (by simp [go_sem]) ?_
  refine (catchB_code ⟨w.heap.size, 0, none⟩ 1 κ [] _ c2 f2).mono ?_
  rintro e u' w'' ⟨rfl, rfl, rfl⟩
  simp [Leaves, settle, results, Try.results81, go_sem, d2, hB, RV]
set_option maxRecDepth 100000 in
set_option maxHeartbeats 2000000 in
theorem doorIsResolution_ok (caps : Array Value) (β : Bool) (w : World) (hc : Calls Try.prog 94 caps (w.alloc (.cells #[.int .i64 1] 2)) (fun e w' => e = .returned (.bool β) ∧ Below (w.heap.size + 1) (w.alloc (.cells #[.int .i64 1] 2)) w')) :
    Calls Try.prog 81 #[.func (.func 94) #[] caps] w (RV (.tuple #[.bool β, .int .i64 0]) w) := by
  have hmf : ∀ (fn : Fn) (first cap : Array Value) (w : World), (Instr.makeFunc fn first cap).run Try.prog w = .ok (.func fn first cap) w := fun _ _ _ _ => rfl
  go_enter_defers Try.func81, Try.ntmps81
  go_wp2_with fail
  refine hc.mono ?_
  rintro e w' ⟨rfl, hb⟩
  have hz := hb.size
  simp at hz
  have c2 : w'.cell? ⟨w.heap.size, 0, none⟩ = some (.int .i64 1) := (hb.cell (p := ⟨w.heap.size, 0, none⟩) (by simp)).trans (by simp)
  have f2 : w'.frozen? ⟨w.heap.size, 0, none⟩ = false := (hb.frozen (p := ⟨w.heap.size, 0, none⟩) (by simp)).trans (by simp)
  have hB : Below w.heap.size w (w'.setCell ⟨w.heap.size, 0, none⟩ (.int .i64 0)) := (((Below.refl _ _).alloc (Nat.le_refl _) _).trans (hb.mono (by omega))).setCell (p := ⟨w.heap.size, 0, none⟩) (by simp) _
  go_wp2_with fail
  refine leaves_cons (f := 129) (args := #[.pointer (some ⟨w.heap.size, 0, none⟩)]) (by simp) (by simp [go_sem]) ?_
  refine (catchB_idle ⟨w.heap.size, 0, none⟩ _).mono ?_
  rintro e u' w'' ⟨rfl, rfl, rfl⟩
  have k2 : (w'.setCell ⟨w.heap.size, 0, none⟩ (.int .i64 0)).cell? ⟨w.heap.size, 0, none⟩ = some (.int .i64 0) := World.cell?_setCell_same' _ _ _ (by rw [c2]; rfl)
  simp [Leaves, settle, results, Try.results81, go_sem, k2, hB, RV]
end Go.Proofs.Ytlkjacgpjolbdaa

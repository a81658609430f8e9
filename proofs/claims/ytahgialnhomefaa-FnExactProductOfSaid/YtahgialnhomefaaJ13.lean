
/- The model's l09Points, l09Product, ProductOf. The model's ProductOf. The law FnExactProductOf returns true. How the laws' arguments are read. The dump's head word by word, cheaply: what every row asks of it. -/
import Derived.Test.YtahgialnhomefaaJ12
import Derived.Deep.RegionWith
import Derived.Test.YtahgialnhomefaaRows
import Derived.ProofKit
import Derived.OpenShut
import Derived.Deep.Slices
import Derived.Lib.SmallJoins
import Derived.ChangeOld
namespace Go.Proofs.Ytahgialnhomefaa
open Go.RowKit Go.Maps
def ptsN (N v : Int) (bs : List Blk) (zs : List Int) : Int := if isSysImpl v bs then (if zs.any (fun z => !(inP N z)) then 2 else if fullB v bs then 0 else 5) else 1
theorem pcode_ptsN (κ : Nat) (v : Int) (bs : List Blk) (zs : List Int) : pcode κ v bs zs = ptsN (v + κ) v bs zs := rfl
set_option maxRecDepth 100000 in
set_option maxHeartbeats 1000000 in
theorem l09Points_any (N v : Int) (s : Value) (bs : List Blk) (t : Value) (zs : List Int) (w : World) (h : SB w s bs) (ht : IB w t zs) (hN : isSysImpl v bs = true → 0 ≤ N ∧ N ≤ 16) :
    Calls Try.prog 45 #[.agg #[.int .i64 v, s], .int .i64 N, t] w (RV (.int .i64 (ptsN N v bs zs)) w) := by
  have hs := h.slice
  have hlen := h.2.1
  have HTB := Lib.hid ht
  have hzl := ht.1
  have hbA : Below w.heap.size w (w.alloc (.cells #[.int .i64 v, s] 30)) := (Below.refl _ _).alloc (Nat.le_refl _) _
  have hc := l01Is_any v s bs (w.alloc (.cells #[.int .i64 v, s] 30)) (h.below hbA (Nat.le_refl _))
  obtain ⟨a0, c0, rfl⟩ := hs
  obtain ⟨a1, c1, rfl⟩ := ht.formG
  clear h ht
  cases hi : isSysImpl v bs with
  | false =>
    have HV := Lib.hid (show ptsN N v bs zs = 1 by simp [ptsN, hi])
    rw [HV.out]
    rw [hi] at hc
    have HC := Lib.hid hc
    clear hi HV HTB hc hN
    go_enter Try.func45, Try.ntmps45
    go_wp2_with fail
    refine HC.out.mono ?_
    rintro e w1 ⟨rfl, hb1⟩
    have hb2 := below_new hb1
    clear hb1 hbA
    go_wp2
    go_ret
    exact RV_of rfl hb2
  | true =>
    obtain ⟨hv3, hv15, _⟩ := sys_size hi
    obtain ⟨hN0, hN16⟩ := hN hi
    rw [hi] at hc
    have HC := Lib.hid hc
    have HFU := Lib.hid fun W => l01Full_any v (.slice a0 bs.length c0) bs W ⟨_, _, rfl⟩ hv3 hv15 hlen
    have HIN := Lib.hid fun z W => l01In_any z 0 (N - 1) W
    have hq : ∀ z : Int, (decide (0 ≤ z) && decide (z ≤ N - 1)) = inP N z := fun z => by rw [Bool.eq_iff_iff]; simp [inP]; omega
    simp only [hq] at HIN
    have HV := Lib.hid (show ptsN N v bs zs = if zs.any (fun z => !(inP N z)) then 2 else if fullB v bs then 0 else 5 by simp [ptsN, hi])
    have hwn : IntKind.i64.wrap (N - 1) = N - 1 := IntWalk.i64_in _ (by omega)
    clear hi hN hc hq hv3 hv15
    go_enter Try.func45, Try.ntmps45
    go_wp2_with fail
    refine HC.out.mono ?_
    rintro e w1 ⟨rfl, hb1⟩
    have hb2 := below_new hb1
    have q0 := cell_new hb1 0 rfl
    have q1 := cell_new hb1 1 rfl
    have HB1 := Lib.hid hb2
    have hl1 := block_lt_of_cell q0
    clear hb1 hbA hb2
    go_wp2
    go_loopw [7] (fun i wr => ∃ k : Nat, k ≤ zs.length ∧ i = .int .i64 k ∧ wr = w1 ∧ Hid ((zs.take k).any (fun z => !(inP N z)) = false)) (fun i _ => zs.length - (intOf i).toNat)
    case atStart => exact ⟨0, Nat.zero_le _, rfl, rfl, Lib.hid (by simp)⟩
    case round =>
      obtain ⟨k, hk, rfl, rfl, hA⟩ := hrel
      by_cases hkl : k < zs.length
      · obtain ⟨b, off, rfl, hblt, hcell⟩ := (HTB.out.below HB1.out (Nat.le_refl _)).get hkl
        have HT := Lib.hid (any_take (P := fun z => !(inP N z)) hkl hA.out)
        obtain ⟨z, hz⟩ : ∃ z, z = zs[k]?.getD 0 := ⟨_, rfl⟩
        rw [← hz] at hcell HT
        have HI := Lib.hid (HIN.out z)
        obtain ⟨β, hβ⟩ : ∃ β, β = inP N z := ⟨_, rfl⟩
        rw [← hβ] at HI HT
        have g0 : (0 : Int) ≤ (k : Int) := by omega
        have g1 : (k : Int) < (zs.length : Int) := by omega
        clear hz hβ hA
        cases β with
        | false =>
          have HE := Lib.hid (show ptsN N v bs zs = 2 by rw [HV.out, HT.out.1 (by simp)]; rfl)
          rw [HE.out]
          clear HT HE
          go_wp2_with fail
          refine (HI.out _).mono ?_
          rintro e w2 ⟨rfl, rfl⟩
          go_wp2
          go_ret
          exact RV_of rfl HB1.out
        | true =>
          have HE := Lib.hid (HT.out.2 (by simp))
          clear HT
          go_wp2_with fail
          refine (HI.out _).mono ?_
          rintro e w2 ⟨rfl, rfl⟩
          go_wp2
          go_roundw
          case rel => exact ⟨k + 1, by omega, by go_num, by first | rfl | trivial, HE⟩
          case measure => simp [intOf]; omega
      · have e : k = zs.length := by omega
        subst e
        rw [List.take_length] at hA
        have HE := Lib.hid (show ptsN N v bs zs = if fullB v bs then 0 else 5 by rw [HV.out, hA.out]; rfl)
        have HF := Lib.hid (HFU.out wr)
        obtain ⟨β, hβ⟩ : ∃ β, β = fullB v bs := ⟨_, rfl⟩
        rw [← hβ] at HF HE
        clear hA HV hβ
        cases β
        all_goals
          go_wp2_with fail
          refine HF.out.mono ?_
          rintro e w2 ⟨rfl, hb2⟩
          go_wp2
          go_ret
          exact RV_of (int_eq (by rw [HE.out]; rfl)) (HB1.out.trans (hb2.mono HB1.out.size))
/-- The two tables agree where the system is full. -/
theorem prd0_third {n : Nat} {bs : List Blk} (h : isSysImpl (n : Int) bs = true) (hf : fullB (n : Int) bs = true) {a b : Nat} (ha : a < n) (hb : b < n) : prd 0 n bs a b = if a = b then (a : Int) else third1 bs (a : Int) (b : Int) := by
  unfold prd
  rw [if_pos rfl]
  by_cases hab : a = b
  · rw [if_pos hab, if_pos hab]
  · rw [if_neg hab, if_neg hab]
    exact tab_third h hf (by omega) (by omega) (by omega)
theorem prd0_range {n : Nat} {bs : List Blk} (h : isSysImpl (n : Int) bs = true) (hf : fullB (n : Int) bs = true) {a b : Nat} (ha : a < n) (hb : b < n) : 0 ≤ prd 0 n bs a b ∧ prd 0 n bs a b < (n : Int) := by
  rw [prd0_third h hf ha hb]
  by_cases hab : a = b
  · rw [if_pos hab]; omega
  · rw [if_neg hab]
    exact (tri_third h hf (a := (a : Int)) (b := (b : Int)) (by omega) (by omega) (by omega)).range h
set_option maxRecDepth 100000 in
theorem l09Product_any (n : Nat) (s : Value) (bs : List Blk) (a b : Nat) (w : World) (h : SB w s bs) (hi : isSysImpl (n : Int) bs = true) (hf : fullB (n : Int) bs = true) (ha : a < n) (hb : b < n) :
    Calls Try.prog 46 #[.agg #[.int .i64 (n : Int), s], .int .i64 (a : Int), .int .i64 (b : Int)] w (RV (.int .i64 (prd 0 n bs a b)) w) := by
  have hs := h.slice
  have hv15 := (sys_size hi).2.1
  have hbA : Below w.heap.size w (w.alloc (.cells #[.int .i64 (n : Int), s] 30)) := (Below.refl _ _).alloc (Nat.le_refl _) _
  have HT := Lib.hid (l01Third_any (n : Int) s bs a b _ (h.below hbA (Nat.le_refl _)) (sys_good hi) (by omega) (by omega) (by omega) (by omega) (by omega))
  rw [prd0_third hi hf ha hb]
  clear h hi hf ha hb hv15
  obtain ⟨a0, c0, rfl⟩ := hs
  by_cases hab : a = b
  · subst hab
    have e : ((a : Int) == (a : Int)) = true := by simp
    rw [if_pos rfl]
    clear HT
    go_enter Try.func46, Try.ntmps46
    go_wp2
    go_ret
    exact RV_of rfl hbA
  · have e : ((a : Int) == (b : Int)) = false := by simp; omega
    rw [if_neg hab]
    clear hab
    go_enter Try.func46, Try.ntmps46
    go_wp2_with fail
    refine HT.out.mono ?_
    rintro e w1 ⟨rfl, hb1⟩
    have hb2 := below_new hb1
    go_wp2
    go_ret
    exact RV_of rfl hb2
end Go.Proofs.Ytahgialnhomefaa

namespace Go.Proofs.Ytahgialnhomefaa
open Go.RowKit Go.Maps
set_option maxRecDepth 100000 in
set_option maxHeartbeats 1000000 in
theorem specProductOf_any (v : Int) (s : Value) (bs : List Blk) (a b : Int) (w : World) (h : SB w s bs) :
    Calls Try.prog 15 #[.agg #[.int .i64 v, s], .int .i64 a, .int .i64 b] w (RV (prodV 0 v bs a b) w) := by
  have hs := h.slice
  have hc0 : ptsN v v bs [a, b] = pcode 0 v bs [a, b] := by rw [pcode_ptsN, show v + ((0 : Nat) : Int) = v by omega]
  have HPC := Lib.hid fun t W (hb : Below w.heap.size w W) ht => l09Points_any v v s bs t [a, b] W (h.below hb (Nat.le_refl _)) ht (fun hi => by have := sys_size hi; omega)
  rw [hc0] at HPC
  clear hc0
  by_cases hc : pcode 0 v bs [a, b] = 0
  · obtain ⟨hi, hf, hz⟩ := pcode_zero hc
    obtain ⟨hv3, hv15, _⟩ := sys_size hi
    obtain ⟨n, rfl⟩ : ∃ n : Nat, v = (n : Int) := ⟨v.toNat, by omega⟩
    have ha := hz a (by simp)
    have hb := hz b (by simp)
    obtain ⟨p, rfl⟩ : ∃ p : Nat, a = (p : Int) := ⟨a.toNat, by omega⟩
    obtain ⟨q, rfl⟩ : ∃ q : Nat, b = (q : Int) := ⟨b.toNat, by omega⟩
    have HV := Lib.hid (show prodV 0 (n : Int) bs (p : Int) (q : Int) = .tuple #[.int .i64 (prd 0 n bs p q), .int .i64 0] by
      unfold prodV prodF
      rw [if_pos hc]
      rfl)
    rw [HV.out]
    rw [hc] at HPC
    have HPT := Lib.hid fun W (hb : Below w.heap.size w W) => l09Product_any n s bs p q W (h.below hb (Nat.le_refl _)) hi hf (by omega) (by omega)
    clear h hc hi hf hz ha hb hv3 hv15 HV
    obtain ⟨a0, c0, rfl⟩ := hs
    have HPX := Lib.hid (HPC.out _ ((w.alloc (.cells #[.int .i64 (n : Int), .slice a0 bs.length c0] 30)).alloc (.cells #[.int .i64 (p : Int), .int .i64 (q : Int)] 2)) (((Below.refl _ _).alloc (Nat.le_refl _) _).alloc (by simp) _) (lit_ib2 (w.alloc (.cells #[.int .i64 (n : Int), .slice a0 bs.length c0] 30)) p q))
    rw [show ∀ o, (w.alloc o).heap.size = w.heap.size + 1 from fun o => by simp] at HPX
    clear HPC
    go_enter Try.func15, Try.ntmps15
    go_wp2_with fail
    refine HPX.out.mono ?_
    rintro e w1 ⟨rfl, hb1⟩
    have hB1 : Below w.heap.size w w1 := (((Below.refl _ _).alloc (Nat.le_refl _) _).alloc (by simp) _).trans (hb1.mono (by simp <;> omega))
    have d0 : w1.cell? ⟨w.heap.size, 0, none⟩ = some (.int .i64 (n : Int)) := (hb1.cell (p := ⟨w.heap.size, 0, none⟩) (by simp <;> omega)).trans (by simp [go_sem])
    have d1 : w1.cell? ⟨w.heap.size, 1, none⟩ = some (.slice a0 bs.length c0) := (hb1.cell (p := ⟨w.heap.size, 1, none⟩) (by simp <;> omega)).trans (by simp [go_sem])
    clear hb1
    go_wp2_with fail
    refine (HPT.out _ hB1).mono ?_
    rintro e w2 ⟨rfl, hb2⟩
    have hB2 := hB1.trans (hb2.mono hB1.size)
    clear hb2 hB1
    go_wp2
    go_ret2
    exact RV_of rfl hB2
  · have HV := Lib.hid (show prodV 0 v bs a b = .tuple #[.int .i64 0, .int .i64 (pcode 0 v bs [a, b])] by
      unfold prodV prodF
      rw [if_neg hc])
    rw [HV.out]
    obtain ⟨μ, hμ⟩ : ∃ μ, μ = pcode 0 v bs [a, b] := ⟨_, rfl⟩
    rw [← hμ] at hc HPC ⊢
    have q1 : (μ != 0) = true := by simpa using hc
    clear h hμ hc HV
    obtain ⟨a0, c0, rfl⟩ := hs
    have HPX := Lib.hid (HPC.out _ ((w.alloc (.cells #[.int .i64 v, .slice a0 bs.length c0] 30)).alloc (.cells #[.int .i64 a, .int .i64 b] 2)) (((Below.refl _ _).alloc (Nat.le_refl _) _).alloc (by simp) _) (lit_ib2 (w.alloc (.cells #[.int .i64 v, .slice a0 bs.length c0] 30)) a b))
    rw [show ∀ o, (w.alloc o).heap.size = w.heap.size + 1 from fun o => by simp] at HPX
    clear HPC
    go_enter Try.func15, Try.ntmps15
    go_wp2_with fail
    refine HPX.out.mono ?_
    rintro e w1 ⟨rfl, hb1⟩
    have hB1 : Below w.heap.size w w1 := (((Below.refl _ _).alloc (Nat.le_refl _) _).alloc (by simp) _).trans (hb1.mono (by simp <;> omega))
    clear hb1
    go_wp2
    go_ret2
    exact RV_of rfl hB1
end Go.Proofs.Ytahgialnhomefaa

namespace Go.Proofs.Ytahgialnhomefaa
open Go.RowKit Go.Maps
set_option maxRecDepth 100000 in
theorem FnExactProductOf_long (v : Int) (s : Value) (bs : List Blk) (pa pb : Int)  (w : World) (h : InB w s bs) (hl : ¬ bs.length ≤ 1048576) : Calls Try.prog 3 #[.agg #[.int .i64 v, s], .int .i64 pa, .int .i64 pb] w (RV (.bool true) w) := by
  have hsl := h.slice
  have hbd := h.2.1
  have hsz := szSystem_any v s bs.length hsl (by omega) 1048576 (by omega) (by omega)
  rw [if_pos (by omega)] at hsz
  have HSZ := Lib.hid hsz
  clear hsz h
  obtain ⟨a, c, rfl⟩ := hsl
  go_enter Try.func3, Try.ntmps3
  go_wp2_with (go_at_call 14; refine (HSZ.out _).mono ?_; rintro e w1 ⟨rfl, hb1⟩)
  go_ret
  exact RV_of rfl (((Below.refl _ _).alloc (Nat.le_refl _) _).trans (hb1.mono (by simp)))

set_option maxRecDepth 100000 in
set_option maxHeartbeats 1000000 in
theorem FnExactProductOf_main (v : Int) (s : Value) (bs : List Blk) (pa pb : Int)  (_h1 : WF pa) (_h2 : WF pb) (w : World) (h : InB w s bs) (hl : bs.length ≤ 1048576) : Calls Try.prog 3 #[.agg #[.int .i64 v, s], .int .i64 pa, .int .i64 pb] w (RV (.bool true) w) := by
  have hsl := h.slice
  have hbd := h.2.1
  have hsz := szSystem_any v s bs.length hsl (by omega) 1048576 (by omega) (by omega)
  have hsb := h.sb hl
  rw [if_neg (by omega)] at hsz
  obtain ⟨m, hm⟩ : ∃ m, m = (1048576 : Int) - (bs.length : Int) := ⟨_, rfl⟩
  rw [← hm] at hsz
  have hm0 : 0 ≤ m := by omega
  have HSZ := Lib.hid hsz
  have HSB := Lib.hid hsb
  have hwf := h.1
  have HWF := Lib.hid hwf
  have HBD := Lib.hid (show bs.length ≤ 1100000 by omega)
  clear hsz hsb hm h hl hbd hwf
  have hsp : ∀ (W : World) (t : Value), SB W t bs → Calls Try.prog 15 #[.agg #[.int .i64 v, t], .int .i64 pa, .int .i64 pb] W (RV (prodV 0 v bs pa pb) W) := fun W t ht => specProductOf_any v t bs pa pb W ht
  have him : ∀ (W : World) (t : Value), SB W t bs → Calls Try.prog 17 #[.agg #[.int .i64 v, t], .int .i64 pa, .int .i64 pb] W (RV (prodV 0 v bs pa pb) W) := fun W t ht => ProductOf_any v t bs pa pb W ht
  obtain ⟨η, κ, hval⟩ : ∃ η κ, prodV 0 v bs pa pb = .tuple #[.int .i64 η, .int .i64 κ] := by
    unfold prodV
    repeat (first | exact ⟨_, _, rfl⟩ | split)
  rw [hval] at hsp him
  have HSP := Lib.hid hsp
  have HIM := Lib.hid him
  clear hval hsp him
  have hne1 : (η != η) = false := by simp
  have hne2 : (κ != κ) = false := by simp
  obtain ⟨a, c, rfl⟩ := hsl
  go_enter Try.func3, Try.ntmps3
  go_wp2_with fail
  refine (HSZ.out _).mono ?_
  rintro e w1 ⟨rfl, hb1⟩
  have p0 := cell_new hb1 0 rfl
  have p1 := cell_new hb1 1 rfl
  have hz1 := hb1.size
  simp at hz1
  have hbw : Below w.heap.size w w1 := ((Below.refl _ _).alloc (Nat.le_refl _) _).trans (hb1.mono (by simp))
  clear hb1
  go_wp2_with fail
  refine (toSystem_any v _ bs _ (HSB.out.below hbw (Nat.le_refl _))).mono ?_
  rintro e w2 ⟨s2, rfl, ho2, hb2⟩
  have hsb2 := ho2.sb HWF.out HBD.out
  go_wp2_with fail
  refine (HSP.out _ _ hsb2).mono ?_
  rintro e w3 ⟨rfl, hb3⟩
  have hb13 := hb2.trans (hb3.mono hb2.size)
  have p0' := (hb13.cell (p := ⟨w.heap.size, 0, none⟩) (by show w.heap.size < _; omega)).trans p0
  have p1' := (hb13.cell (p := ⟨w.heap.size, 1, none⟩) (by show w.heap.size < _; omega)).trans p1
  have hz3 := hb13.size
  have hbw3 := hbw.trans (hb13.mono (by omega))
  clear p0 p1 hb2 hb3 hb13 ho2 hsb2 hbw
  go_wp2_with fail
  refine (toSystem_any v _ bs _ (HSB.out.below hbw3 (Nat.le_refl _))).mono ?_
  rintro e w4 ⟨s4, rfl, ho4, hb4⟩
  obtain ⟨g, cap, hs4, h41, h42, h43, h44⟩ := id ho4
  subst hs4
  have p0 := (hb4.cell (p := ⟨w.heap.size, 0, none⟩) (by show w.heap.size < _; omega)).trans p0'
  have p1 := (hb4.cell (p := ⟨w.heap.size, 1, none⟩) (by show w.heap.size < _; omega)).trans p1'
  have hz4 := hb4.size
  have hbw4 := hbw3.trans (hb4.mono (by omega))
  have hsb4 := ho4.sb HWF.out HBD.out
  clear p0' p1' hb4 hbw3 h41 h43 h44 ho4
  go_wp2_with fail
  refine (HIM.out _ _ (hsb4.below ((Below.refl _ _).alloc (Nat.le_refl _) _) (Nat.le_refl _))).mono ?_
  rintro e w5 ⟨rfl, hb5⟩
  have q0 := cell_new hb5 0 rfl
  have q1 := cell_new hb5 1 rfl
  have p0' := (hb5.cell (p := ⟨w.heap.size, 0, none⟩) (by simp; omega)).trans (cell_past p0 (by omega))
  have p1' := (hb5.cell (p := ⟨w.heap.size, 1, none⟩) (by simp; omega)).trans (cell_past p1 (by omega))
  have hz5 := hb5.size
  simp at hz5
  have hbw5 := (hbw4.alloc hbw4.size _).trans (hb5.mono (by simp; omega))
  have hsb5 := hsb4.below (((Below.refl _ _).alloc (Nat.le_refl _) _).trans (hb5.mono (by simp))) (Nat.le_refl _)
  clear p0 p1 hb5 hbw4 hsb4
  go_wp2
  go_region_with (first | (go_at_call 16; refine (toSystem_any v _ bs _ ?_).mono ?_; (exact HSB.out.below hbw5.drew (Nat.le_refl _)); rintro e w6 ⟨s6, rfl, ho6, hb6⟩; obtain ⟨g6, cap6, hs6, h61, h62, h63, h64⟩ := id ho6; subst hs6; have hsb6 := ho6.sb HWF.out HBD.out; have hsb56 := hsb5.below (Below.trans (Below.refl _ _).drew hb6) (Nat.le_refl _); have r0 := (hb6.cell (p := ⟨w4.heap.size, 0, none⟩) (by show w4.heap.size < _; simp; omega)).trans q0; have r1 := (hb6.cell (p := ⟨w4.heap.size, 1, none⟩) (by show w4.heap.size < _; simp; omega)).trans q1) | (go_at_call 18; refine (eqSystem_same v _ _ bs _ ?_ ?_).mono ?_; (exact hsb56); (exact hsb6); rintro e w7 ⟨rfl, hb7⟩))
  all_goals go_wp2
  all_goals go_ret
  all_goals exact RV_of rfl (hbw5.drew.trans ((hb6.mono (by simp; omega)).trans (hb7.mono (by have := hb6.size; simp at this; omega))))

theorem FnExactProductOf_any (v : Int) (s : Value) (bs : List Blk) (pa pb : Int)  (_h1 : WF pa) (_h2 : WF pb) (w : World) (h : InB w s bs) : Calls Try.prog 3 #[.agg #[.int .i64 v, s], .int .i64 pa, .int .i64 pb] w (RV (.bool true) w) := by
  by_cases hl : bs.length ≤ 1048576
  · exact FnExactProductOf_main v s bs pa pb  _h1 _h2 w h hl
  · exact FnExactProductOf_long v s bs pa pb  w h hl
end Go.Proofs.Ytahgialnhomefaa

namespace Go.Proofs.Ytahgialnhomefaa
open Go.ChangeShapes Go.WideShapes Go.ChangeAt Go.RowKit Go.Deep Go.Joins
theorem ownKnobs : ownKnob Try.prog.godebug = none := by kernel_rfl
section
variable {H : Type} {enc : TypeId × Value → H} {W : World} {base : Nat} {held : Bool}
theorem arrCells : Try.prog.cellsOf 83 = 3 := by kernel_rfl
set_option maxRecDepth 100000 in
theorem open_arr3 {fuel : Nat} {cs : List Value} {x : DataW H × List MemPlace} (h : DataW.trod enc Try.prog W base (fun _ => true) held fuel 83 cs = some x) :
    ∃ a b c : Int, cs = [.int .i64 a, .int .i64 b, .int .i64 c] ∧ (Lit.int .i64 a).wf = true ∧ (Lit.int .i64 b).wf = true ∧ (Lit.int .i64 c).wf = true := by
  obtain ⟨xs, m, rfl, rfl, hl, hx, hat⟩ := DataW.trod_array Try.underlying83 h
  rw [arrCells] at hl
  match cs, hl with
  | [c0, c1, c2], _ =>
    match xs, hx with
    | [x0, x1, x2], _ =>
      have h0 := hat 0 (by omega)
      have h1 := hat 1 (by omega)
      have h2 := hat 2 (by omega)
      rw [int64Cells] at h0 h1 h2
      simp at h0 h1 h2
      obtain ⟨a, ha, _, wa⟩ := DataW.trod_int Try.underlying2 h0
      obtain ⟨b, hb, _, wb⟩ := DataW.trod_int Try.underlying2 h1
      obtain ⟨c, hc, _, wc⟩ := DataW.trod_int Try.underlying2 h2
      simp at ha hb hc
      exact ⟨a, b, c, by rw [ha, hb, hc], wa, wb, wc⟩
theorem add_at (b off i : Nat) : (⟨b, off, none⟩ : Addr).add i = ⟨b, off + i, none⟩ := by
  unfold Addr.add
  split
  · subst_vars; rfl
  · rfl
set_option maxRecDepth 100000 in
theorem open_arrs {fuel : Nat} {s : Value} {x : DataW H × List MemPlace} (h : DataW.trod enc Try.prog W base (fun _ => true) held fuel 22 [s] = some x) : ∃ bs, InB W s bs := by
  rcases open_slice Try.underlying22 h with ⟨hcs, _⟩ | ⟨a, len, cap, m, n, D, Pl, hcs, hb, hl, hm, hmm, hx, hi⟩
  · simp at hcs
    exact ⟨[], by simp, by simp, .inl ⟨none, 0, hcs, rfl⟩⟩
  · simp at hcs
    subst hcs
    simp at hmm
    subst hmm
    have hm' : m ≤ 9223372036854775807 := by unfold maxLen at hm; exact hm
    by_cases h0 : len = 0
    · subst h0
      exact ⟨[], by simp, by simp, .inl ⟨_, _, rfl, rfl⟩⟩
    · have cell : ∀ i, i < m → ∃ y : Blk, WFB y ∧ ∀ j (v : Value), [Value.int .i64 y.a, Value.int .i64 y.b, Value.int .i64 y.c][j]? = some v → W.cell? (a.add (i * 3 + j)) = some v := fun i him => by
        obtain ⟨cs', hc, ht⟩ := hi i him
        obtain ⟨p, q, r, rfl, wp, wq, wr⟩ := open_arr3 ht
        rw [arrCells] at hc
        obtain ⟨_, _, hat⟩ := World.cells?_some hc
        refine ⟨⟨p, q, r⟩, ⟨wp, wq, wr⟩, fun j v hv => ?_⟩
        have hj : j < 3 := by
          have := (List.getElem?_eq_some_iff.1 hv).1
          simpa using this
        rw [← Go.Deep.add_add, hat j hj]
        exact hv
      obtain ⟨F, hF⟩ := choose_lt (α := Blk) cell
      obtain ⟨b, off, spot⟩ := a
      have hc0 := (hF 0 (by omega)).2 0 _ rfl
      have hspot : spot = none := by simpa [Addr.add] using World.cell?_spot hc0
      subst hspot
      refine ⟨(List.range len).map F, ?_, by simp; omega, .inr ⟨b, off, m, by simp, ?_, ?_⟩⟩
      · intro y hy
        obtain ⟨i, hi', rfl⟩ := List.mem_map.1 hy
        exact (hF i (by have := List.mem_range.1 hi'; omega)).1
      · exact block_lt_of_cell hc0
      · intro k hk
        simp at hk
        have e : ((List.range len).map F)[k]?.getD default = F k := by simp [hk]
        rw [e]
        have := (hF k (by omega)).2
        refine ⟨?_, ?_, ?_⟩
        · have h0 := this 0 _ rfl
          rw [add_at] at h0
          exact h0
        · have h1 := this 1 _ rfl
          rw [add_at, ← Nat.add_assoc] at h1
          exact h1
        · have h2 := this 2 _ rfl
          rw [add_at, ← Nat.add_assoc] at h2
          exact h2
theorem isSys : ∃ f0 f1 : Field, Try.prog.underlying 24 = some (.struct #[f0, f1]) ∧ f0.type = 2 ∧ f1.type = 22 ∧ oneCellFields Try.prog #[f0, f1] = true :=
  ⟨_, _, Try.underlying24, rfl, rfl, by kernel_rfl⟩
theorem sysCells : Try.prog.cellsOf 24 = 2 := by kernel_rfl
set_option maxRecDepth 100000 in
theorem open_system {r : Reach} {b0 : Nat} {v : Value} {d : DataW H} {p : List MemPlace} (hv : Value.okWide Try.prog W r b0 24 v) (h : DataW.Trod enc Try.prog W base (fun _ => true) held 24 v d p) :
    ∃ (n : Int) (s : Value) (bs : List Blk), v = .agg #[.int .i64 n, s] ∧ WF n ∧ InB W s bs := by
  obtain ⟨f0, f1, hu, e0, e1, hone⟩ := isSys
  obtain ⟨v0, v1, y0, y1, n, rfl, _, _, h0, h1⟩ := open_agg2 hu hone sysCells hv h
  rw [e0] at h0
  rw [e1] at h1
  obtain ⟨k, hk, _, wk⟩ := DataW.trod_int Try.underlying2 h0
  simp at hk
  subst hk
  obtain ⟨bs, hbs⟩ := open_arrs h1
  exact ⟨k, v1, bs, rfl, wk, hbs⟩
end
end Go.Proofs.Ytahgialnhomefaa

namespace Go.Proofs.Ytahgialnhomefaa
set_option maxRecDepth 100000 in
noncomputable def iniP : { L : List Char // Try.prog.initOrder = String.ofList L } := ⟨_, by unfold Try.prog; rfl⟩
theorem iniL : Try.prog.initOrder.toList = iniP.1 := (congrArg String.toList iniP.2).trans String.toList_ofList
theorem words_cons (c : Char) (r : List Char) (h : c ≠ Char.ofNat 32) : wordsSigns (c :: r) = match wordsSigns r with | w :: ws => (c :: w) :: ws | [] => [[c]] := by
  rw [wordsSigns]
  all_goals first | rfl | exact h | (intro e; exact h e)
theorem words_word : ∀ (a b : List Char), (a.all fun c => c != Char.ofNat 32) = true → wordsSigns (a ++ Char.ofNat 32 :: b) = a :: wordsSigns b
  | [], b, _ => rfl
  | c :: a, b, h => by
    simp only [List.all_cons, Bool.and_eq_true, bne_iff_ne, ne_eq] at h
    rw [List.cons_append, words_cons _ _ h.1, words_word a b (by simpa using h.2)]
set_option maxRecDepth 100000 in
theorem split1 : iniP.1 = iniP.1.take 7 ++ Char.ofNat 32 :: iniP.1.drop 8 := by kernel_rfl
set_option maxRecDepth 100000 in
theorem split2 : iniP.1.drop 8 = (iniP.1.drop 8).take 64 ++ Char.ofNat 32 :: iniP.1.drop 73 := by kernel_rfl
set_option maxRecDepth 100000 in
theorem split3 : iniP.1.drop 73 = (iniP.1.drop 73).take 3 ++ Char.ofNat 32 :: iniP.1.drop 77 := by kernel_rfl
theorem isCut : (iniP.1.drop 73).take 3 = "cut".toList := by kernel_rfl
set_option maxRecDepth 100000 in
theorem isHead : ((iniP.1.take 7 == "harness".toList || iniP.1.take 7 == "ownmain".toList) && isSumSigns ((iniP.1.drop 8).take 64)) = true := by kernel_rfl
theorem wordsL : wordsSigns iniP.1 = iniP.1.take 7 :: (iniP.1.drop 8).take 64 :: "cut".toList :: wordsSigns (iniP.1.drop 77) := by
  rw [← isCut]
  conv => lhs; rw [split1]
  rw [words_word _ _ (by kernel_rfl)]
  conv => lhs; rw [split2]
  rw [words_word _ _ (by kernel_rfl)]
  conv => lhs; rw [split3]
  rw [words_word _ _ (by kernel_rfl)]
theorem behindL : behindMainWord (wordsSigns Try.prog.initOrder.toList) = "cut".toList :: wordsSigns (iniP.1.drop 77) := by
  rw [iniL, wordsL]
  unfold behindMainWord
  simp only [isHead, if_true]
theorem stripL (ws : List (List Char)) : stripLifts liftWords ("cut".toList :: ws) = ([], "cut".toList :: ws) := by kernel_rfl
section
variable (P : Program) (ws : List (List Char)) (h : behindMainWord (wordsSigns P.initOrder.toList) = "cut".toList :: ws)
include h
theorem head_of : P.headLifts = [] := by
  unfold Program.headLifts
  rw [h]
  simp only [stripL]
  kernel_rfl
theorem make_of : P.make = some .cut := by
  unfold Program.make
  rw [h, head_of P ws h]
  kernel_rfl
theorem lifts_of : P.liftsFinal = false := by
  unfold Program.liftsFinal
  rw [h, head_of P ws h]
  kernel_rfl
theorem enter_of (h1 : P.laysLater = false) (h2 : P.bearsReflect = false) (h3 : P.doorFits [] = true) : P.mayEnter = true := by
  unfold Program.mayEnter
  rw [h]
  simp only [stripL]
  rw [h1, h2, h3]
  kernel_rfl
end
theorem mayE : Try.pinned.checked.prog.mayEnter = true := enter_of _ _ behindL (by kernel_rfl) (by kernel_rfl) (by kernel_rfl)
theorem liftsF : Try.pinned.checked.prog.liftsFinal = false := lifts_of _ _ behindL
theorem makeF : Try.pinned.checked.prog.make = some .cut := make_of _ _ behindL
theorem both {a b : Bool} (h : a = true) (k : b = true) : (a && b) = true := by rw [h, k]; rfl
end Go.Proofs.Ytahgialnhomefaa


/- The model's first renumbering. The program's first renumbering. The memory of a law across a drawn statement that makes a variable for a system. A drawn statement whose result is a list of numbers. How the laws' arguments are read. How the laws' other arguments are read: slices of integers, slices of blocks, a block, rows. What a law over one system whose result is a system knows of the memory between two of its steps. -/
import Derived.Test.YtoicdfdfajfopaaJ17
import Derived.Deep.RegionHeld3
import Derived.Test.YtoicdfdfajfopaaRows
import Derived.ProofKit
import Derived.OpenShut
import Derived.Deep.Slices
import Derived.Lib.SmallJoins
import Derived.ChangeOld
namespace Go.Proofs.Ytoicdfdfajfopaa
open Go.RowKit Go.Maps
def finF (v1 : Int) (bs1 : List Blk) (v2 : Int) (bs2 : List Blk) : List Int × Int := if code2 v1 bs1 v2 bs2 = 0 then (if v1 = v2 then (match isoL v1.toNat (T3 bs1) (T3 bs2) with
    | [] => ([], 4)
    | z :: _ => (z, 0)) else ([], 4)) else ([], code2 v1 bs1 v2 bs2)
theorem isoL_row {n : Nat} {T1 T2 : Nat → Nat → Nat} (h1 : Thd n T1) (h2 : Thd n T2) {z : List Int} (hz : z ∈ isoL n T1 T2) : ∃ f, IsoR n T1 T2 f ∧ z = castN (lisN n f) := by
  obtain ⟨x, hx, rfl⟩ := List.mem_map.1 hz
  obtain ⟨f, hf, _, rfl⟩ := (goM_mem h1 h2 n [] (by simp) ⟨by simp, by simp, by simp⟩ x).1 hx
  exact ⟨f, hf, rfl⟩
theorem isoL_rowlen {n : Nat} {T1 T2 : Nat → Nat → Nat} (h1 : Thd n T1) (h2 : Thd n T2) {z : List Int} (hz : z ∈ isoL n T1 T2) : z.length = n := by
  obtain ⟨f, _, rfl⟩ := isoL_row h1 h2 hz
  simp [castN, lisN]
theorem goS_first {n : Nat} {T1 T2 : Nat → Nat → Nat} : (goS n T1 T2 (fun _ => true) 1 n [] []).map castN = (isoL n T1 T2).take 1 := by
  rw [goS_one, List.filter_eq_self.2 (fun _ _ => rfl), isoL, List.map_take]
set_option maxRecDepth 100000 in
set_option maxHeartbeats 4000000 in
theorem specFind_any (v1 v2 : Int) (s1 s2 : Value) (bs1 bs2 : List Blk) (w : World) (h1 : SB w s1 bs1) (h2 : SB w s2 bs2) : Calls Try.prog 22 #[.agg #[.int .i64 v1, s1], .agg #[.int .i64 v2, s2]] w (RJ (finF v1 bs1 v2 bs2) w) := by
  have hfc := fun W hb B c0 c1 c2 c3 => l06Code_two B v1 v2 s1 s2 bs1 bs2 W (h1.below (w' := W) hb (Nat.le_refl _)) (h2.below (w' := W) hb (Nat.le_refl _)) c0 c1 c2 c3
  obtain ⟨W1, hW1⟩ : ∃ W1, W1 = ((w.alloc (.cells #[.int .i64 v1, s1] 31)).alloc (.cells #[.int .i64 v2, s2] 31)).alloc (.cells #[.int .i64 v1, s1, .int .i64 v2, s2] 31) := ⟨_, rfl⟩
  have hB1 : Below w.heap.size w W1 := by rw [hW1]; exact (((Below.refl _ _).alloc (Nat.le_refl _) _).alloc (by simp) _).alloc (by simp <;> omega) _
  obtain ⟨a1, c1, rfl⟩ := h1.slice
  obtain ⟨a2, c2, rfl⟩ := h2.slice
  have q0 : W1.cell? ⟨w.heap.size, 0, none⟩ = some (.int .i64 v1) := by rw [hW1]; simp [go_sem]
  have q1 : W1.cell? ⟨w.heap.size, 1, none⟩ = some (.slice a1 bs1.length c1) := by rw [hW1]; simp [go_sem]
  have r0 : W1.cell? ⟨w.heap.size + 1, 0, none⟩ = some (.int .i64 v2) := by rw [hW1]; simp [go_sem]
  have r1 : W1.cell? ⟨w.heap.size + 1, 1, none⟩ = some (.slice a2 bs2.length c2) := by rw [hW1]; simp [go_sem]
  have hz1 : W1.heap.size = w.heap.size + 1 + 1 + 1 := by rw [hW1]; simp
  have hcall := hfc W1 hB1 (w.heap.size + 1 + 1) (by rw [hW1]; simp [go_sem]) (by rw [hW1]; simp [go_sem]) (by rw [hW1]; simp [go_sem]) (by rw [hW1]; simp [go_sem])
  clear hfc
  by_cases hc : code2 v1 bs1 v2 bs2 = 0
  · obtain ⟨i1, f1, i2, f2⟩ := code2_ok hc
    rw [hc] at hcall
    have HCL := Lib.hid hcall
    by_cases hv : v1 = v2
    · subst hv
      obtain ⟨n, rfl⟩ : ∃ n : Nat, v1 = (n : Int) := ⟨v1.toNat, by have := (sys_size i1).1; omega⟩
      have hn3 := (sys_size i1).1
      have hn15 := (sys_size i1).2.1
      have hbt := fun W (hb : Below w.heap.size w W) => l06Between_any n 1 (.slice a1 bs1.length c1) (.slice a2 bs2.length c2) bs1 bs2 false (fun _ => true) W (h1.below hb (Nat.le_refl _)) (h2.below hb (Nat.le_refl _)) i1 f1 i2 f2 (by omega) (by omega) (.inl ⟨rfl, fun _ => rfl⟩)
      have hgl : (goS n (T3 bs1) (T3 bs2) (fun _ => true) 1 n [] []).length = ((isoL n (T3 bs1) (T3 bs2)).take 1).length := by rw [← goS_first, List.length_map]
      rw [goS_first, hgl] at hbt
      have HBT := Lib.hid hbt
      have hrl : ∀ z ∈ isoL n (T3 bs1) (T3 bs2), z.length = n := fun z hz => isoL_rowlen (thdS i1 f1) (thdS i2 f2) hz
      have hval : finF (n : Int) bs1 (n : Int) bs2 = (match isoL n (T3 bs1) (T3 bs2) with | [] => ([], 4) | z :: _ => (z, 0)) := by
        unfold finF
        rw [if_pos hc, if_pos rfl, Int.toNat_natCast]
      rw [hval]
      clear hval hcall hbt hgl i1 f1 i2 f2 h1 h2 hc
      generalize isoL n (T3 bs1) (T3 bs2) = L at HBT hrl
      cases L with
      | nil =>
        show Calls _ _ _ _ (RJ ([], 4) w)
        clear hrl
        go_enter Try.func22, Try.ntmps22
        go_wp2_with fail
        rw [← hW1]
        refine HCL.out.mono ?_
        rintro e w2 ⟨rfl, hb2⟩
        have hB2 := hB1.trans (hb2.mono hB1.size)
        have q0 := (hb2.cell (p := ⟨w.heap.size, 0, none⟩) (show w.heap.size < W1.heap.size by omega)).trans q0
        have q1 := (hb2.cell (p := ⟨w.heap.size, 1, none⟩) (show w.heap.size < W1.heap.size by omega)).trans q1
        have r0 := (hb2.cell (p := ⟨w.heap.size + 1, 0, none⟩) (show w.heap.size + 1 < W1.heap.size by omega)).trans r0
        have r1 := (hb2.cell (p := ⟨w.heap.size + 1, 1, none⟩) (show w.heap.size + 1 < W1.heap.size by omega)).trans r1
        clear hb2 hW1 hB1 HCL
        go_wp2_with fail
        refine (HBT.out _ hB2).mono ?_
        rintro e w3 ⟨u, us, rfl, hT, hu, hb3⟩
        obtain ⟨a5, c5, rfl⟩ := hu
        have hB3 := hB2.trans (hb3.mono hB2.size)
        clear hT hb3 HBT
        go_wp2
        go_ret2
        exact ⟨_, rfl, OwnJ.nil _ _, hB3⟩
      | cons z L =>
        show Calls _ _ _ _ (RJ (z, 0) w)
        have hzl := hrl z (by simp)
        have HZ := Lib.hid hzl
        clear hrl hzl
        go_enter Try.func22, Try.ntmps22
        go_wp2_with fail
        rw [← hW1]
        refine HCL.out.mono ?_
        rintro e w2 ⟨rfl, hb2⟩
        have hB2 := hB1.trans (hb2.mono hB1.size)
        have q0 := (hb2.cell (p := ⟨w.heap.size, 0, none⟩) (show w.heap.size < W1.heap.size by omega)).trans q0
        have q1 := (hb2.cell (p := ⟨w.heap.size, 1, none⟩) (show w.heap.size < W1.heap.size by omega)).trans q1
        have r0 := (hb2.cell (p := ⟨w.heap.size + 1, 0, none⟩) (show w.heap.size + 1 < W1.heap.size by omega)).trans r0
        have r1 := (hb2.cell (p := ⟨w.heap.size + 1, 1, none⟩) (show w.heap.size + 1 < W1.heap.size by omega)).trans r1
        clear hb2 hW1 hB1 HCL
        go_wp2_with fail
        refine (HBT.out _ hB2).mono ?_
        rintro e w3 ⟨u, us, rfl, hT, -, hb3⟩
        have hB3 := hB2.trans (hb3.mono hB2.size)
        have hb2z := hB2.size
        obtain ⟨G, c, g, cap, rfl, e1, e2, e3, e4, e5, e6⟩ := hT.at_ (k := 0) (by simp) (by simp [HZ.out]; omega) (by simp [HZ.out]; omega)
        have ho := hT.row 0 _ e4
        simp only [List.take_succ_cons, List.take_zero, List.getElem?_cons_zero, Option.getD_some, List.length_cons, List.length_nil] at e2 e4 e5 ho ⊢
        have HOZ := Lib.hid (ho.baseP (b' := w.heap.size) (by omega))
        clear hT hb3 HBT ho e5 e4
        go_wp2
        go_ret2
        exact ⟨_, rfl, HOZ.out, hB3⟩
    · have hval : finF v1 bs1 v2 bs2 = ([], 4) := by
        unfold finF
        rw [if_pos hc, if_neg hv]
      rw [hval]
      have hne : (v1 != v2) = true := by simpa using hv
      clear hval hcall i1 f1 i2 f2 h1 h2 hc
      go_enter Try.func22, Try.ntmps22
      go_wp2_with fail
      rw [← hW1]
      refine HCL.out.mono ?_
      rintro e w2 ⟨rfl, hb2⟩
      have hB2 := hB1.trans (hb2.mono hB1.size)
      have q0 := (hb2.cell (p := ⟨w.heap.size, 0, none⟩) (show w.heap.size < W1.heap.size by omega)).trans q0
      have r0 := (hb2.cell (p := ⟨w.heap.size + 1, 0, none⟩) (show w.heap.size + 1 < W1.heap.size by omega)).trans r0
      clear hb2 hW1 hB1 HCL
      go_wp2
      go_ret2
      exact ⟨_, rfl, OwnJ.nil _ _, hB2⟩
  · have hval : finF v1 bs1 v2 bs2 = ([], code2 v1 bs1 v2 bs2) := by
      unfold finF
      rw [if_neg hc]
    rw [hval]
    obtain ⟨k, hk⟩ : ∃ k, k = code2 v1 bs1 v2 bs2 := ⟨_, rfl⟩
    rw [← hk] at hcall hc ⊢
    have HCL := Lib.hid hcall
    have hk1 : (k != 0) = true := by simpa using hc
    clear hval hcall h1 h2 hk q0 q1 r0 r1
    go_enter Try.func22, Try.ntmps22
    go_wp2_with fail
    rw [← hW1]
    refine HCL.out.mono ?_
    rintro e w2 ⟨rfl, hb2⟩
    have hB2 := hB1.trans (hb2.mono hB1.size)
    clear hb2 hW1 hB1 HCL
    go_wp2
    go_ret2
    exact ⟨_, rfl, OwnJ.nil _ _, hB2⟩
theorem finF_len (v1 : Int) (bs1 : List Blk) (v2 : Int) (bs2 : List Blk) : (finF v1 bs1 v2 bs2).1.length ≤ 15 := by
  unfold finF
  split
  · rename_i hc
    split
    · rename_i hv
      subst hv
      obtain ⟨i1, f1, i2, f2⟩ := code2_ok hc
      obtain ⟨n, rfl⟩ : ∃ n : Nat, v1 = (n : Int) := ⟨v1.toNat, by have := (sys_size i1).1; omega⟩
      have hn15 := (sys_size i1).2.1
      rw [Int.toNat_natCast]
      have hl : ∀ z ∈ isoL n (T3 bs1) (T3 bs2), z.length = n := fun z hz => isoL_rowlen (thdS i1 f1) (thdS i2 f2) hz
      cases hL : isoL n (T3 bs1) (T3 bs2) with
      | nil => simp
      | cons z L =>
        have := hl z (by rw [hL]; simp)
        show z.length ≤ 15
        omega
    · simp
  · simp
/-- What the model says of being isomorphic. -/
def isoF (v1 : Int) (bs1 : List Blk) (v2 : Int) (bs2 : List Blk) : Bool × Int := if code2 v1 bs1 v2 bs2 = 0 then (decide (v1 = v2) && !(isoL v1.toNat (T3 bs1) (T3 bs2)).isEmpty, 0) else (false, code2 v1 bs1 v2 bs2)
theorem isoF_find (v1 : Int) (bs1 : List Blk) (v2 : Int) (bs2 : List Blk) : isoF v1 bs1 v2 bs2 = if (finF v1 bs1 v2 bs2).2 = 4 then (false, 0) else (decide ((finF v1 bs1 v2 bs2).2 = 0), (finF v1 bs1 v2 bs2).2) := by
  unfold isoF finF
  rcases code2_or v1 bs1 v2 bs2 with h | h | h
  · rw [if_pos h, if_pos h]
    by_cases hv : v1 = v2
    · rw [if_pos hv]
      cases isoL v1.toNat (T3 bs1) (T3 bs2) <;> simp [hv]
    · rw [if_neg hv]
      simp [hv]
  · simp [h]
  · simp [h]
set_option maxRecDepth 100000 in
set_option maxHeartbeats 4000000 in
theorem specIso_any (v1 v2 : Int) (s1 s2 : Value) (bs1 bs2 : List Blk) (w : World) (h1 : SB w s1 bs1) (h2 : SB w s2 bs2) : Calls Try.prog 27 #[.agg #[.int .i64 v1, s1], .agg #[.int .i64 v2, s2]] w (RV (boolCode (isoF v1 bs1 v2 bs2).1 (isoF v1 bs1 v2 bs2).2) w) := by
  have hfc := fun W hb B c0 c1 c2 c3 => l06Code_two B v1 v2 s1 s2 bs1 bs2 W (h1.below (w' := W) hb (Nat.le_refl _)) (h2.below (w' := W) hb (Nat.le_refl _)) c0 c1 c2 c3
  obtain ⟨W1, hW1⟩ : ∃ W1, W1 = ((w.alloc (.cells #[.int .i64 v1, s1] 31)).alloc (.cells #[.int .i64 v2, s2] 31)).alloc (.cells #[.int .i64 v1, s1, .int .i64 v2, s2] 31) := ⟨_, rfl⟩
  have hB1 : Below w.heap.size w W1 := by rw [hW1]; exact (((Below.refl _ _).alloc (Nat.le_refl _) _).alloc (by simp) _).alloc (by simp <;> omega) _
  obtain ⟨a1, c1, rfl⟩ := h1.slice
  obtain ⟨a2, c2, rfl⟩ := h2.slice
  have q0 : W1.cell? ⟨w.heap.size, 0, none⟩ = some (.int .i64 v1) := by rw [hW1]; simp [go_sem]
  have q1 : W1.cell? ⟨w.heap.size, 1, none⟩ = some (.slice a1 bs1.length c1) := by rw [hW1]; simp [go_sem]
  have r0 : W1.cell? ⟨w.heap.size + 1, 0, none⟩ = some (.int .i64 v2) := by rw [hW1]; simp [go_sem]
  have r1 : W1.cell? ⟨w.heap.size + 1, 1, none⟩ = some (.slice a2 bs2.length c2) := by rw [hW1]; simp [go_sem]
  have hz1 : W1.heap.size = w.heap.size + 1 + 1 + 1 := by rw [hW1]; simp
  have hcall := hfc W1 hB1 (w.heap.size + 1 + 1) (by rw [hW1]; simp [go_sem]) (by rw [hW1]; simp [go_sem]) (by rw [hW1]; simp [go_sem]) (by rw [hW1]; simp [go_sem])
  clear hfc
  by_cases hc : code2 v1 bs1 v2 bs2 = 0
  · obtain ⟨i1, f1, i2, f2⟩ := code2_ok hc
    rw [hc] at hcall
    have HCL := Lib.hid hcall
    by_cases hv : v1 = v2
    · subst hv
      obtain ⟨n, rfl⟩ : ∃ n : Nat, v1 = (n : Int) := ⟨v1.toNat, by have := (sys_size i1).1; omega⟩
      have hn3 := (sys_size i1).1
      have hn15 := (sys_size i1).2.1
      have hbt := fun W (hb : Below w.heap.size w W) => l06Between_any n 1 (.slice a1 bs1.length c1) (.slice a2 bs2.length c2) bs1 bs2 false (fun _ => true) W (h1.below hb (Nat.le_refl _)) (h2.below hb (Nat.le_refl _)) i1 f1 i2 f2 (by omega) (by omega) (.inl ⟨rfl, fun _ => rfl⟩)
      have hgl : (goS n (T3 bs1) (T3 bs2) (fun _ => true) 1 n [] []).length = ((isoL n (T3 bs1) (T3 bs2)).take 1).length := by rw [← goS_first, List.length_map]
      rw [hgl] at hbt
      have HBT := Lib.hid hbt
      have hval : isoF (n : Int) bs1 (n : Int) bs2 = (!(isoL n (T3 bs1) (T3 bs2)).isEmpty, 0) := by
        unfold isoF
        rw [if_pos hc, Int.toNat_natCast]
        simp
      rw [hval]
      obtain ⟨m, hm⟩ : ∃ m, m = ((isoL n (T3 bs1) (T3 bs2)).take 1).length := ⟨_, rfl⟩
      have hm1 : m ≤ 1 := by rw [hm, List.length_take]; omega
      have hme : (!(isoL n (T3 bs1) (T3 bs2)).isEmpty) = decide (0 < m) := by
        rw [hm]
        cases isoL n (T3 bs1) (T3 bs2) <;> simp
      rw [hme]
      rw [← hm] at HBT
      unfold boolCode
      clear hval hcall hbt hgl i1 f1 i2 f2 h1 h2 hc hm hme
      have hdec : decide ((m : Int) > 0) = decide (0 < m) := by simp
      obtain ⟨β, hβ⟩ : ∃ β, β = decide (0 < m) := ⟨_, rfl⟩
      rw [← hβ] at hdec ⊢
      clear hβ
      go_enter Try.func27, Try.ntmps27
      go_wp2_with fail
      rw [← hW1]
      refine HCL.out.mono ?_
      rintro e w2 ⟨rfl, hb2⟩
      have hB2 := hB1.trans (hb2.mono hB1.size)
      have q0 := (hb2.cell (p := ⟨w.heap.size, 0, none⟩) (show w.heap.size < W1.heap.size by omega)).trans q0
      have q1 := (hb2.cell (p := ⟨w.heap.size, 1, none⟩) (show w.heap.size < W1.heap.size by omega)).trans q1
      have r0 := (hb2.cell (p := ⟨w.heap.size + 1, 0, none⟩) (show w.heap.size + 1 < W1.heap.size by omega)).trans r0
      have r1 := (hb2.cell (p := ⟨w.heap.size + 1, 1, none⟩) (show w.heap.size + 1 < W1.heap.size by omega)).trans r1
      clear hb2 hW1 hB1 HCL
      go_wp2_with fail
      refine (HBT.out _ hB2).mono ?_
      rintro e w3 ⟨u, us, rfl, hT, hu, hb3⟩
      obtain ⟨a5, c5, rfl⟩ := hu
      have hB3 := hB2.trans (hb3.mono hB2.size)
      clear hT hb3 HBT
      go_wp2
      go_ret2
      first
        | exact RV_of rfl hB3
        | (refine RV_of ?_ hB3; simp_all)
    · have hval : isoF v1 bs1 v2 bs2 = (false, 0) := by
        unfold isoF
        rw [if_pos hc]
        simp [hv]
      rw [hval]
      unfold boolCode
      have hne : (v1 == v2) = false := by simpa using hv
      clear hval hcall i1 f1 i2 f2 h1 h2 hc
      go_enter Try.func27, Try.ntmps27
      go_wp2_with fail
      rw [← hW1]
      refine HCL.out.mono ?_
      rintro e w2 ⟨rfl, hb2⟩
      have hB2 := hB1.trans (hb2.mono hB1.size)
      have q0 := (hb2.cell (p := ⟨w.heap.size, 0, none⟩) (show w.heap.size < W1.heap.size by omega)).trans q0
      have r0 := (hb2.cell (p := ⟨w.heap.size + 1, 0, none⟩) (show w.heap.size + 1 < W1.heap.size by omega)).trans r0
      clear hb2 hW1 hB1 HCL
      go_wp2
      go_ret2
      exact RV_of rfl hB2
  · have hval : isoF v1 bs1 v2 bs2 = (false, code2 v1 bs1 v2 bs2) := by
      unfold isoF
      rw [if_neg hc]
    rw [hval]
    unfold boolCode
    obtain ⟨k, hk⟩ : ∃ k, k = code2 v1 bs1 v2 bs2 := ⟨_, rfl⟩
    rw [← hk] at hcall hc ⊢
    have HCL := Lib.hid hcall
    have hk1 : (k != 0) = true := by simpa using hc
    clear hval hcall h1 h2 hk q0 q1 r0 r1
    go_enter Try.func27, Try.ntmps27
    go_wp2_with fail
    rw [← hW1]
    refine HCL.out.mono ?_
    rintro e w2 ⟨rfl, hb2⟩
    have hB2 := hB1.trans (hb2.mono hB1.size)
    clear hb2 hW1 hB1 HCL
    go_wp2
    go_ret2
    exact RV_of rfl hB2
end Go.Proofs.Ytoicdfdfajfopaa

namespace Go.Proofs.Ytoicdfdfajfopaa
open Go.RowKit Go.Maps Go.Shelf
attribute [local go_sem] Oper.semAt_some
theorem boxed_put {W : World} {B D : Nat} {t : TypeId} {v : Value} {q : Option (List Deferred)} (o : Obj) (h : Boxed W B t v) (hk : W.heap[D]? = some (.deferred q)) : Boxed (W.putObj D o) B t v := by
  have hne : B ≠ D := fun e => by
    subst e
    unfold Boxed at h
    rw [hk] at h
    cases h
  exact (World.putObj_heap_other (by first | exact hne | exact hne.symm)).trans h
theorem renL_head {n : Nat} {T1 T2 : Nat → Nat → Nat} (h1 : Thd n T1) (h2 : Thd n T2) {x : List (Option Nat)} {r : List (List (Option Nat))} (h : x :: r <+: renL n T1 T2) : ∃ L, isoL n T1 T2 = encM x :: L := by
  obtain ⟨s, hs⟩ := h
  rw [← renL_enc h1 h2, ← hs]
  exact ⟨_, rfl⟩
def firR (xs : List (List (Option Nat))) : List Int × Int := match xs with
  | [] => ([], 4)
  | x :: _ => (encM x, 0)
set_option maxRecDepth 100000 in
set_option maxHeartbeats 4000000 in
theorem Find_core (v1 v2 : Int) (s1 s2 : Value) (bs1 bs2 : List Blk) (w : World) (h1 : SB w s1 bs1) (h2 : SB w s2 bs2) (hc0 : code2 v1 bs1 v2 bs2 = 0) (gf : Nat) (eg : ∀ args w, (callFunc gf args).run Try.prog w = .ok (.enter gf args) w) (xs : List (List (Option Nat)))
    (hA : ∀ W, Below w.heap.size w W → Calls Try.prog 67 #[.agg #[.int .i64 v1, s1], .agg #[.int .i64 v2, s2]] W (fun e w' => ∃ lb, e = .returned (.func (.func gf) #[] lb) ∧ (∀ E : Nat → Prop, (∀ i, E i → i < W.heap.size) → ∀ W', Below w'.heap.size w' W' → SeqR Fence.wide (9 - 1) Try.prog gf lb (RowE E) E (fun ys => ys = xs) (fun pre => pre <+: xs) xs.length W.heap.size W') ∧ Below W.heap.size W w')) :
    Calls Try.prog 23 #[.agg #[.int .i64 v1, s1], .agg #[.int .i64 v2, s2]] w (RJ (firR xs) w) := by
  obtain ⟨W1, hW1⟩ : ∃ W1, W1 = ((((w.alloc (.cells #[.int .i64 v1, s1] 31)).alloc (.cells #[.int .i64 v2, s2] 31)).alloc (.cells #[.slice none 0 0] 25)).alloc (.cells #[.int .i64 0] 2)).alloc (.cells #[.int .i64 v1, s1, .int .i64 v2, s2] 31) := ⟨_, rfl⟩
  have hB1 : Below w.heap.size w W1 := by rw [hW1]; exact (((((Below.refl _ _).alloc (Nat.le_refl _) _).alloc (by simp) _).alloc (by simp <;> omega) _).alloc (by simp <;> omega) _).alloc (by simp <;> omega) _
  have hfc := fun W hb B c0 c1 c2 c3 => fullCode_two B v1 v2 s1 s2 bs1 bs2 W (h1.below (w' := W) hb (Nat.le_refl _)) (h2.below (w' := W) hb (Nat.le_refl _)) c0 c1 c2 c3
  have HA := Lib.hid hA
  obtain ⟨a1, c1, rfl⟩ := h1.slice
  obtain ⟨a2, c2, rfl⟩ := h2.slice
  have q0 : W1.cell? ⟨w.heap.size, 0, none⟩ = some (.int .i64 v1) := by rw [hW1]; simp [go_sem]
  have q1 : W1.cell? ⟨w.heap.size, 1, none⟩ = some (.slice a1 bs1.length c1) := by rw [hW1]; simp [go_sem]
  have r0 : W1.cell? ⟨w.heap.size + 1, 0, none⟩ = some (.int .i64 v2) := by rw [hW1]; simp [go_sem]
  have r1 : W1.cell? ⟨w.heap.size + 1, 1, none⟩ = some (.slice a2 bs2.length c2) := by rw [hW1]; simp [go_sem]
  have b4 : Boxed W1 (w.heap.size + 1 + 1) 25 (.slice none 0 0) := by
    have := ((Boxed.new ((w.alloc (.cells #[.int .i64 v1, .slice a1 bs1.length c1] 31)).alloc (.cells #[.int .i64 v2, .slice a2 bs2.length c2] 31)) 25 (.slice none 0 0)).alloc (.cells #[.int .i64 0] 2)).alloc (.cells #[.int .i64 v1, .slice a1 bs1.length c1, .int .i64 v2, .slice a2 bs2.length c2] 31)
    simp only [World.size_alloc] at this
    rw [hW1]
    exact this
  have b5 : Boxed W1 (w.heap.size + 1 + 1 + 1) 2 (.int .i64 0) := by
    have := (Boxed.new (((w.alloc (.cells #[.int .i64 v1, .slice a1 bs1.length c1] 31)).alloc (.cells #[.int .i64 v2, .slice a2 bs2.length c2] 31)).alloc (.cells #[.slice none 0 0] 25)) 2 (.int .i64 0)).alloc (.cells #[.int .i64 v1, .slice a1 bs1.length c1, .int .i64 v2, .slice a2 bs2.length c2] 31)
    simp only [World.size_alloc] at this
    rw [hW1]
    exact this
  have hz1 : W1.heap.size = w.heap.size + 1 + 1 + 1 + 1 + 1 := by rw [hW1]; simp
  have hcall := hfc W1 hB1 (w.heap.size + 1 + 1 + 1 + 1) (by rw [hW1]; simp [go_sem]) (by rw [hW1]; simp [go_sem]) (by rw [hW1]; simp [go_sem]) (by rw [hW1]; simp [go_sem])
  rw [hc0] at hcall
  have HCL := Lib.hid hcall
  obtain ⟨rr, hrr⟩ : ∃ rr : List Int × Int, rr = firR xs := ⟨_, rfl⟩
  rw [← hrr]
  have HRR := Lib.hid hrr
  clear hfc hcall hc0 h1 h2 hrr hA
  have hro : Fence.wide.round = none := rfl
  refine (callsIn_wide (n := 9)).1 ?_
  refine callsIn_of_wp_marks Try.func23 rfl trivial ?_ hro
  simp only [Try.ntmps23, List.size_toArray, List.length_cons, List.length_nil, Nat.reduceAdd, Nat.reduceSub, Array.replicate_succ, Array.replicate_zero, List.push_toArray, List.append_toArray, List.nil_append, List.cons_append]
  gi_wp2_with (first | fail)
  rw [← hW1]
  refine ⟨trivial, (callsIn_wide.2 HCL.out).mono ?_⟩
  rintro e w2 ⟨rfl, hb2⟩
  have hB2 := hB1.trans (hb2.mono hB1.size)
  have q0 := (hb2.cell (p := ⟨w.heap.size, 0, none⟩) (show w.heap.size < W1.heap.size by omega)).trans q0
  have q1 := (hb2.cell (p := ⟨w.heap.size, 1, none⟩) (show w.heap.size < W1.heap.size by omega)).trans q1
  have r0 := (hb2.cell (p := ⟨w.heap.size + 1, 0, none⟩) (show w.heap.size + 1 < W1.heap.size by omega)).trans r0
  have r1 := (hb2.cell (p := ⟨w.heap.size + 1, 1, none⟩) (show w.heap.size + 1 < W1.heap.size by omega)).trans r1
  have b4 : Boxed w2 _ _ _ := (hb2.block (w.heap.size + 1 + 1) (by omega)).trans b4
  have b5 : Boxed w2 _ _ _ := (hb2.block (w.heap.size + 1 + 1 + 1) (by omega)).trans b5
  have hz2 := hb2.size
  clear hb2 hW1 hB1 HCL
  obtain ⟨Br, hBr⟩ : ∃ Br, Br = w.heap.size + 1 + 1 := ⟨_, rfl⟩
  obtain ⟨Bc, hBc⟩ : ∃ Bc, Bc = w.heap.size + 1 + 1 + 1 := ⟨_, rfl⟩
  rw [← hBc] at b5 ⊢
  rw [← hBr] at b4 ⊢
  have hbr1 : w.heap.size ≤ Br := by omega
  have hbr2 : Br < w2.heap.size := by omega
  have hbc1 : w.heap.size ≤ Bc := by omega
  have hbc2 : Bc < w2.heap.size := by omega
  have hbne : Br ≠ Bc := by omega
  clear hBr hBc hz1
  gi_wp2_with (first | fail)
  refine ⟨trivial, (callsIn_wide.2 (HA.out w2 hB2)).mono ?_⟩
  rintro e w3 ⟨lb, rfl, hD, hb3⟩
  have hB3 := hB2.trans (hb3.mono hB2.size)
  have hz3 := hb3.size
  have b4 : Boxed w3 _ _ _ := (hb3.block Br hbr2).trans b4
  have b5 : Boxed w3 _ _ _ := (hb3.block Bc hbc2).trans b5
  have HSQ := Lib.hid (hD (fun i => i = Br ∨ i = Bc) (fun i e => by rcases e with rfl | rfl <;> omega))
  have hzz2 := hB2.size
  clear hD hb3 HA hB2 q0 q1 r0 r1
  gi_wp2
  refine wpIn_rangeFunc_R hro (by omega) (gf := gf) (lb := lb) rfl trivial eg rfl (fun i e => by rcases e with rfl | rfl <;> omega) HSQ.out
    (fun pre k W => k = w2.heap.size ∧ pre = [] ∧ Boxed W Br 25 (.slice none 0 0) ∧ Boxed W Bc 2 (.int .i64 0) ∧ Below w.heap.size w W)
    (fun c pre k W => c = .ret ∧ ∃ x vx, pre = [x] ∧ Boxed W Br 25 vx ∧ Boxed W Bc 2 (.int .i64 0) ∧ OwnJ W w.heap.size vx (encM x) ∧ Below w.heap.size w W)
    (fun pre k u X Y row hs hg hr => ⟨hs.1, hs.2.1, hs.2.2.1.kept hg (fun e => by have := (hr _ e.symm).1; omega), hs.2.2.2.1.kept hg (fun e => by have := (hr _ e.symm).1; omega), hs.2.2.2.2.grown hg hs.2.2.2.2.size (fun r e => by have := (hr r e).1; omega)⟩)
    (fun c pre k u X Y row hs hg hr => by
      obtain ⟨e1, x, vx, e2, e3, e4, e5, e6⟩ := hs
      exact ⟨e1, x, vx, e2, e3.kept hg (fun e => by have := (hr _ e.symm).1; omega), e4.kept hg (fun e => by have := (hr _ e.symm).1; omega), ownJ_own w.heap.size vx (encM x) X Y row e5 hg (fun r e => (hr r e).2), e6.grown hg e6.size (fun r e => by have := (hr r e).1; omega)⟩)
    ⟨rfl, rfl, b4, b5, hB3⟩
    (fun x k vx a' W' => (∃ (y0 y1 y2 y3 y6 y8 y9 y10 y11 y12 y13 y14 y15 y16 y17 y18 y19 : Value), a' = { tmps := #[y0, y1, y2, y3, .pointer (some ⟨Br, 0, none⟩), .pointer (some ⟨Bc, 0, none⟩), y6, vx, y8, y9, y10, y11, y12, y13, y14, y15, y16, y17, y18, y19], defers := [] }) ∧ RowE (fun i => i = Br ∨ i = Bc) x k vx W')
    (fun x k vx a' u X Y row hs hg hr => ⟨hs.1, OwnE.ck hs.2 (CK.of_grown hg fun r e => (hr r e).2)⟩) ?assign ?body ?done ?stop
  case assign =>
    intro l' pre x k vx W' K hi hRx hK
    obtain ⟨a9, c9, rfl⟩ := OwnJ.formS hRx.1
    simp only [List.zip_toArray, List.zip_cons_cons, List.zip_nil_right, List.size_toArray, List.length_cons, List.length_nil, List.foldl_toArray', List.foldl_cons, List.foldl_nil, List.setIfInBounds_toArray, List.set_cons_succ, List.set_cons_zero]
    gi_wp2
    exact hK _ _ (Kept.refl _ _ _) hi ⟨⟨_, _, _, _, _, _, _, _, _, _, _, _, _, _, _, _, _, rfl⟩, hRx⟩
  case body =>
    rintro l' pre x k vx a' W' hl' hloop ⟨rfl, rfl, i3, i4, i5⟩ ⟨⟨y0, y1, y2, y3, y6, y8, y9, y10, y11, y12, y13, y14, y15, y16, y17, y18, y19, rfl⟩, hRx⟩ hlen
    obtain ⟨a9, c9, rfl⟩ := OwnJ.formS hRx.1
    have x1 := i3.cell
    have x2 := i3.frozen
    have x3 := i4.cell
    have x4 := i4.frozen
    obtain ⟨V, hV⟩ : ∃ V, V = (W'.setCell ⟨Br, 0, none⟩ (.slice a9 (encM x).length c9)).setCell ⟨Bc, 0, none⟩ (.int .i64 0) := ⟨_, rfl⟩
    have g1 := set_gb W' Br 0 (.slice a9 (encM x).length c9)
    have g2 := set_gb (W'.setCell ⟨Br, 0, none⟩ (.slice a9 (encM x).length c9)) Bc 0 (.int .i64 0)
    have hck : CK (fun i => i = Br ∨ i = Bc) W' V := by
      rw [hV]
      exact (CK.of_grownBy g1 (fun r e => by cases e; exact .inl rfl)).trans (CK.of_grownBy g2 (fun r e => by cases e; exact .inr rfl))
    have hkk : Kept w3.heap.size (fun i => i = Br ∨ i = Bc) W' V := by
      rw [hV]
      exact (Kept.grown g1 (fun r e => by cases e; exact .inl rfl)).trans (Kept.grown g2 (fun r e => by cases e; exact .inr rfl))
    have hix : Boxed V Br 25 (.slice a9 (encM x).length c9) ∧ Boxed V Bc 2 (.int .i64 0) ∧ OwnJ V w.heap.size (.slice a9 (encM x).length c9) (encM x) ∧ Below w.heap.size w V := by
      refine ⟨?_, ?_, (OwnE.ck hRx hck).1.baseD hzz2, ?_⟩
      · rw [hV]
        exact (i3.set _).kept g2 (fun e => hbne (by cases e; rfl))
      · rw [hV]
        exact (i4.kept g1 (fun e => hbne (by cases e; rfl))).set _
      · rw [hV]
        exact (i5.setCell (p := ⟨Br, 0, none⟩) hbr1 _).setCell (p := ⟨Bc, 0, none⟩) hbc1 _
    have x5 : (W'.setCell ⟨Br, 0, none⟩ (.slice a9 (encM x).length c9)).cell? ⟨Bc, 0, none⟩ = some (.int .i64 0) := (i4.kept g1 (fun e => hbne (by cases e; rfl))).cell
    have x6 : (W'.setCell ⟨Br, 0, none⟩ (.slice a9 (encM x).length c9)).frozen? ⟨Bc, 0, none⟩ = false := (i4.kept g1 (fun e => hbne (by cases e; rfl))).frozen
    have HIX := Lib.hid hix
    have HKK := Lib.hid hkk
    have HV := Lib.hid hV
    clear hix hkk hck hV g1 g2 hRx i3 i4 i5 HSQ b4 b5 hB3
    gi_wp2
    rw [← HV.out]
    exact ⟨HKK.out, rfl, x, _, rfl, HIX.out⟩
  case done =>
    rintro D ys k W' hD hys ⟨-, rfl, i3, i4, i5⟩ hK
    have hrr : rr = ([], 4) := by rw [HRR.out, ← hys]; rfl
    subst hrr
    have x1 := i3.cell
    have x2 := i3.frozen
    obtain ⟨V, hV⟩ : ∃ V, V = (W'.setCell ⟨Br, 0, none⟩ (.slice none 0 0)).setCell ⟨Bc, 0, none⟩ (.int .i64 4) := ⟨_, rfl⟩
    have g1 := set_gb W' Br 0 (.slice none 0 0)
    have g2 := set_gb (W'.setCell ⟨Br, 0, none⟩ (.slice none 0 0)) Bc 0 (.int .i64 4)
    have x5 : (W'.setCell ⟨Br, 0, none⟩ (.slice none 0 0)).cell? ⟨Bc, 0, none⟩ = some (.int .i64 0) := (i4.kept g1 (fun e => hbne (by cases e; rfl))).cell
    have x6 : (W'.setCell ⟨Br, 0, none⟩ (.slice none 0 0)).frozen? ⟨Bc, 0, none⟩ = false := (i4.kept g1 (fun e => hbne (by cases e; rfl))).frozen
    have hk2 : V.heap[D]? = some (.deferred (some [])) := by
      rw [hV]
      have hlt := (Array.getElem?_eq_some_iff.1 hK).1
      exact (g2.block D (Nat.lt_of_lt_of_le hlt g1.size) (fun e => by have : D = Bc := by cases e; rfl
                                                                      omega)).trans ((g1.block D hlt (fun e => by have : D = Br := by cases e; rfl
                                                                                                                  omega)).trans hK)
    have hix : Boxed V Br 25 (.slice none 0 0) ∧ Boxed V Bc 2 (.int .i64 4) ∧ Below w.heap.size w V := by
      refine ⟨?_, ?_, ?_⟩
      · rw [hV]
        exact (i3.set _).kept g2 (fun e => hbne (by cases e; rfl))
      · rw [hV]
        exact (i4.kept g1 (fun e => hbne (by cases e; rfl))).set _
      · rw [hV]
        exact (i5.setCell (p := ⟨Br, 0, none⟩) hbr1 _).setCell (p := ⟨Bc, 0, none⟩) hbc1 _
    have hM5 : Marks w.heap.size V V.heap.size [{ target := .collected D, args := #[] }] := ⟨D, rfl, by omega, (Array.getElem?_eq_some_iff.1 hk2).1, hk2, trivial⟩
    have HIX := Lib.hid hix
    have HM5 := Lib.hid hM5
    have HV := Lib.hid hV
    clear hix hV g1 g2 i3 i4 i5 HSQ b4 b5 hB3 hM5 hk2 hK HRR
    gi_wp2
    rw [← HV.out]
    refine leaves_marks (n0 := w.heap.size) (fun W => Boxed W Br 25 (.slice none 0 0) ∧ Boxed W Bc 2 (.int .i64 4) ∧ Below w.heap.size w W) ?_ ?_ _ V.heap.size V HM5.out HIX.out
    · rintro W D ⟨e1, e2, e3⟩ hD hK
      exact ⟨boxed_put _ e1 hK, boxed_put _ e2 hK, e3.trans (belowK_b (w := w) (Nat.le_refl _) W D _ _ hD hK rfl rfl)⟩
    · rintro W ⟨e1, e2, e3⟩
      have y1 := e1.cell
      have y2 := e2.cell
      exact ⟨_, by simp [results, Try.f23, go_sem, y1, y2], _, rfl, OwnJ.nil _ _, e3⟩
  case stop =>
    rintro D c pre k W' hD hSp ⟨rfl, x, vx, rfl, e3, e4, e5, e6⟩ hK
    have hrr : rr = (encM x, 0) := by
      obtain ⟨L, hL⟩ := hSp
      rw [HRR.out, ← hL]
      rfl
    subst hrr
    have hM5 : Marks w.heap.size W' W'.heap.size [{ target := .collected D, args := #[] }] := ⟨D, rfl, by omega, (Array.getElem?_eq_some_iff.1 hK).1, hK, trivial⟩
    clear HSQ b4 b5 hB3 hK HRR hSp
    gi_wp2
    refine leaves_marks (n0 := w.heap.size) (fun W => Boxed W Br 25 vx ∧ Boxed W Bc 2 (.int .i64 0) ∧ OwnJ W w.heap.size vx (encM x) ∧ Below w.heap.size w W) ?_ ?_ _ W'.heap.size W' hM5 ⟨e3, e4, e5, e6⟩
    · rintro W D ⟨e1, e2, e3, e4⟩ hD hK
      exact ⟨boxed_put _ e1 hK, boxed_put _ e2 hK, (ownJ_own w.heap.size vx).putObj _ e3 hK rfl, e4.trans (belowK_b (w := w) (Nat.le_refl _) W D _ _ hD hK rfl rfl)⟩
    · rintro W ⟨e1, e2, e3, e4⟩
      have y1 := e1.cell
      have y2 := e2.cell
      exact ⟨_, by simp [results, Try.f23, go_sem, y1, y2], _, rfl, e3, e4⟩
set_option maxRecDepth 100000 in
theorem renumberings_ne (v1 v2 : Int) (s1 s2 : Value) (n1 n2 : Nat) (w : World) (hs1 : ∃ a c, s1 = .slice a n1 c) (hs2 : ∃ a c, s2 = .slice a n2 c) (hv : v1 ≠ v2) : Calls Try.prog 67 #[.agg #[.int .i64 v1, s1], .agg #[.int .i64 v2, s2]] w (fun e w' => e = .returned (.func (.func 100) #[] #[]) ∧ Below w.heap.size w w') := by
  obtain ⟨a1, c1, rfl⟩ := hs1
  obtain ⟨a2, c2, rfl⟩ := hs2
  have hne : (v1 != v2) = true := by simpa using hv
  have hb : Below w.heap.size w ((w.alloc (.cells #[.int .i64 v1, .slice a1 n1 c1] 31)).alloc (.cells #[.int .i64 v2, .slice a2 n2 c2] 31)) := ((Below.refl _ _).alloc (Nat.le_refl _) _).alloc (by simp) _
  go_enter Try.func67, Try.ntmps67
  go_wp2
  go_ret
  exact ⟨rfl, hb⟩
theorem none_seq (R : List (Option Nat) → Nat → Value → World → Prop) (E : Nat → Prop) (k b : Nat) (W : World) : SeqR Fence.wide k Try.prog 100 #[] R E (fun ys => ys = []) (fun pre => pre <+: []) 0 b W := fun l J Jx _ _ _ h0 => by
  refine callsIn_wide.2 ?_
  show Calls Try.prog 100 #[.func (.yield l) #[] #[]] W _
  have H0 := Lib.hid h0
  clear h0
  go_enter Try.func100, Try.ntmps100
  go_wp2
  refine bodyPost_end (results_none rfl _ _ _) rfl ?_
  exact ⟨⟨_, rfl⟩, .inl ⟨_, _, rfl, H0.out⟩⟩
theorem Find_any (v1 v2 : Int) (s1 s2 : Value) (bs1 bs2 : List Blk) (w : World) (h1 : SB w s1 bs1) (h2 : SB w s2 bs2) : Calls Try.prog 23 #[.agg #[.int .i64 v1, s1], .agg #[.int .i64 v2, s2]] w (RJ (finF v1 bs1 v2 bs2) w) := by
  by_cases hc : code2 v1 bs1 v2 bs2 = 0
  · by_cases hv : v1 = v2
    · subst hv
      obtain ⟨i1, f1, i2, f2⟩ := code2_ok hc
      obtain ⟨n, rfl⟩ : ∃ n : Nat, v1 = (n : Int) := ⟨v1.toNat, by have := (sys_size i1).1; omega⟩
      have hn3 := (sys_size i1).1
      have hn15 := (sys_size i1).2.1
      have hT1 := thdS i1 f1
      have hT2 := thdS i2 f2
      have key := Find_core (n : Int) (n : Int) s1 s2 bs1 bs2 w h1 h2 hc 121 (enters_of Try.func121 (by kernel_rfl) rfl) (renL n (T3 bs1) (T3 bs2)) (fun W hb => (renumberings_any n s1 s2 bs1 bs2 W (h1.below hb (Nat.le_refl _)) (h2.below hb (Nat.le_refl _)) i1 f1 i2 f2).mono fun e w' ⟨Bi, Bt, Bf, v, he, hD, hb'⟩ => ⟨_, he, fun E hE W' hW' => (hD.seq hT1 hT2 (by omega) (by omega) hE hb'.size (9 - 1) W' hW').weaker (fun _ _ _ _ h => h.1), hb'⟩)
      have hval : finF (n : Int) bs1 (n : Int) bs2 = firR (renL n (T3 bs1) (T3 bs2)) := by
        unfold finF
        rw [if_pos hc, if_pos rfl, Int.toNat_natCast, ← renL_enc hT1 hT2]
        cases renL n (T3 bs1) (T3 bs2) <;> rfl
      rw [hval]
      exact key
    · have key := Find_core v1 v2 s1 s2 bs1 bs2 w h1 h2 hc 100 (enters_of Try.func100 (by kernel_rfl) rfl) [] (fun W hb => (renumberings_ne v1 v2 s1 s2 bs1.length bs2.length W h1.slice h2.slice hv).mono fun e w' ⟨he, hb'⟩ => ⟨_, he, fun E _ W' _ => none_seq _ _ _ _ _, hb'⟩)
      have hval : finF v1 bs1 v2 bs2 = ([], 4) := by
        unfold finF
        rw [if_pos hc, if_neg hv]
      rw [hval]
      exact key
  · have hval : finF v1 bs1 v2 bs2 = ([], code2 v1 bs1 v2 bs2) := by
      unfold finF
      rw [if_neg hc]
    rw [hval]
    have hfc := fun W hb B c0 c1 c2 c3 => fullCode_two B v1 v2 s1 s2 bs1 bs2 W (h1.below (w' := W) hb (Nat.le_refl _)) (h2.below (w' := W) hb (Nat.le_refl _)) c0 c1 c2 c3
    obtain ⟨W1, hW1⟩ : ∃ W1, W1 = ((((w.alloc (.cells #[.int .i64 v1, s1] 31)).alloc (.cells #[.int .i64 v2, s2] 31)).alloc (.cells #[.slice none 0 0] 25)).alloc (.cells #[.int .i64 0] 2)).alloc (.cells #[.int .i64 v1, s1, .int .i64 v2, s2] 31) := ⟨_, rfl⟩
    have hB1 : Below w.heap.size w W1 := by rw [hW1]; exact (((((Below.refl _ _).alloc (Nat.le_refl _) _).alloc (by simp) _).alloc (by simp <;> omega) _).alloc (by simp <;> omega) _).alloc (by simp <;> omega) _
    obtain ⟨a1, c1, rfl⟩ := h1.slice
    obtain ⟨a2, c2, rfl⟩ := h2.slice
    have b4 : Boxed W1 (w.heap.size + 1 + 1) 25 (.slice none 0 0) := by
      have := ((Boxed.new ((w.alloc (.cells #[.int .i64 v1, .slice a1 bs1.length c1] 31)).alloc (.cells #[.int .i64 v2, .slice a2 bs2.length c2] 31)) 25 (.slice none 0 0)).alloc (.cells #[.int .i64 0] 2)).alloc (.cells #[.int .i64 v1, .slice a1 bs1.length c1, .int .i64 v2, .slice a2 bs2.length c2] 31)
      simp only [World.size_alloc] at this
      rw [hW1]
      exact this
    have b5 : Boxed W1 (w.heap.size + 1 + 1 + 1) 2 (.int .i64 0) := by
      have := (Boxed.new (((w.alloc (.cells #[.int .i64 v1, .slice a1 bs1.length c1] 31)).alloc (.cells #[.int .i64 v2, .slice a2 bs2.length c2] 31)).alloc (.cells #[.slice none 0 0] 25)) 2 (.int .i64 0)).alloc (.cells #[.int .i64 v1, .slice a1 bs1.length c1, .int .i64 v2, .slice a2 bs2.length c2] 31)
      simp only [World.size_alloc] at this
      rw [hW1]
      exact this
    have hz1 : W1.heap.size = w.heap.size + 1 + 1 + 1 + 1 + 1 := by rw [hW1]; simp
    have hcall := hfc W1 hB1 (w.heap.size + 1 + 1 + 1 + 1) (by rw [hW1]; simp [go_sem]) (by rw [hW1]; simp [go_sem]) (by rw [hW1]; simp [go_sem]) (by rw [hW1]; simp [go_sem])
    obtain ⟨k, hk⟩ : ∃ k, k = code2 v1 bs1 v2 bs2 := ⟨_, rfl⟩
    rw [← hk] at hcall hc ⊢
    have HCL := Lib.hid hcall
    have hk1 : (k != 0) = true := by simpa using hc
    clear hval hfc hcall hk h1 h2
    have hro : Fence.wide.round = none := rfl
    refine (callsIn_wide (n := 9)).1 ?_
    refine callsIn_of_wp_marks Try.func23 rfl trivial ?_ hro
    simp only [Try.ntmps23, List.size_toArray, List.length_cons, List.length_nil, Nat.reduceAdd, Nat.reduceSub, Array.replicate_succ, Array.replicate_zero, List.push_toArray, List.append_toArray, List.nil_append, List.cons_append]
    gi_wp2_with (first | fail)
    rw [← hW1]
    refine ⟨trivial, (callsIn_wide.2 HCL.out).mono ?_⟩
    rintro e w2 ⟨rfl, hb2⟩
    have hB2 := hB1.trans (hb2.mono hB1.size)
    have b4 : Boxed w2 _ _ _ := (hb2.block (w.heap.size + 1 + 1) (by omega)).trans b4
    have b5 : Boxed w2 _ _ _ := (hb2.block (w.heap.size + 1 + 1 + 1) (by omega)).trans b5
    clear hb2 hW1 hB1 HCL
    obtain ⟨Br, hBr⟩ : ∃ Br, Br = w.heap.size + 1 + 1 := ⟨_, rfl⟩
    obtain ⟨Bc, hBc⟩ : ∃ Bc, Bc = w.heap.size + 1 + 1 + 1 := ⟨_, rfl⟩
    rw [← hBc] at b5 ⊢
    rw [← hBr] at b4 ⊢
    have hbr1 : w.heap.size ≤ Br := by omega
    have hbc1 : w.heap.size ≤ Bc := by omega
    have hbne : Br ≠ Bc := by omega
    clear hBr hBc hz1
    have x1 := b4.cell
    have x2 := b4.frozen
    have g1 := set_gb w2 Br 0 (.slice none 0 0)
    have g2 := set_gb (w2.setCell ⟨Br, 0, none⟩ (.slice none 0 0)) Bc 0 (.int .i64 k)
    have x5 : (w2.setCell ⟨Br, 0, none⟩ (.slice none 0 0)).cell? ⟨Bc, 0, none⟩ = some (.int .i64 0) := (b5.kept g1 (fun e => hbne (by cases e; rfl))).cell
    have x6 : (w2.setCell ⟨Br, 0, none⟩ (.slice none 0 0)).frozen? ⟨Bc, 0, none⟩ = false := (b5.kept g1 (fun e => hbne (by cases e; rfl))).frozen
    obtain ⟨V, hV⟩ : ∃ V, V = (w2.setCell ⟨Br, 0, none⟩ (.slice none 0 0)).setCell ⟨Bc, 0, none⟩ (.int .i64 k) := ⟨_, rfl⟩
    have y1 : Boxed V Br 25 (.slice none 0 0) := by
      rw [hV]
      exact (b4.set _).kept g2 (fun e => hbne (by cases e; rfl))
    have y2 : Boxed V Bc 2 (.int .i64 k) := by
      rw [hV]
      exact (b5.kept g1 (fun e => hbne (by cases e; rfl))).set _
    have y3 : Below w.heap.size w V := by
      rw [hV]
      exact (hB2.setCell (p := ⟨Br, 0, none⟩) hbr1 _).setCell (p := ⟨Bc, 0, none⟩) hbc1 _
    have HV := Lib.hid hV
    have Y1 := Lib.hid y1
    have Y2 := Lib.hid y2
    have Y3 := Lib.hid y3
    clear g1 g2 b4 b5 hB2 hV y1 y2 y3
    gi_wp2
    rw [← HV.out]
    refine leaves_marks (n0 := w.heap.size) (fun W => Boxed W Br 25 (.slice none 0 0) ∧ Boxed W Bc 2 (.int .i64 k) ∧ Below w.heap.size w W) ?_ ?_ [] 0 V trivial ⟨Y1.out, Y2.out, Y3.out⟩
    · rintro W D ⟨e1, e2, e3⟩ hD hK
      exact ⟨boxed_put _ e1 hK, boxed_put _ e2 hK, e3.trans (belowK_b (w := w) (Nat.le_refl _) W D _ _ hD hK rfl rfl)⟩
    · rintro W ⟨e1, e2, e3⟩
      have y1 := e1.cell
      have y2 := e2.cell
      exact ⟨_, by simp [results, Try.f23, go_sem, y1, y2], _, rfl, OwnJ.nil _ _, e3⟩
theorem finF_code (v1 : Int) (bs1 : List Blk) (v2 : Int) (bs2 : List Blk) : (finF v1 bs1 v2 bs2).2 = 0 ∨ (finF v1 bs1 v2 bs2).2 = 1 ∨ (finF v1 bs1 v2 bs2).2 = 4 ∨ (finF v1 bs1 v2 bs2).2 = 5 := by
  unfold finF
  rcases code2_or v1 bs1 v2 bs2 with h | h | h
  · rw [if_pos h]
    split
    · split <;> simp
    · simp
  · simp [h]
  · simp [h]
set_option maxRecDepth 100000 in
set_option maxHeartbeats 4000000 in
theorem Iso_any (v1 v2 : Int) (s1 s2 : Value) (bs1 bs2 : List Blk) (w : World) (h1 : SB w s1 bs1) (h2 : SB w s2 bs2) : Calls Try.prog 28 #[.agg #[.int .i64 v1, s1], .agg #[.int .i64 v2, s2]] w (RV (boolCode (isoF v1 bs1 v2 bs2).1 (isoF v1 bs1 v2 bs2).2) w) := by
  have HF := Lib.hid fun W (hb : Below w.heap.size w W) => Find_any v1 v2 s1 s2 bs1 bs2 W (h1.below hb (Nat.le_refl _)) (h2.below hb (Nat.le_refl _))
  have hfl := finF_len v1 bs1 v2 bs2
  have hfc := finF_code v1 bs1 v2 bs2
  rw [isoF_find]
  obtain ⟨r, hr⟩ : ∃ r, r = finF v1 bs1 v2 bs2 := ⟨_, rfl⟩
  rw [← hr] at HF hfl hfc ⊢
  obtain ⟨a1, c1, rfl⟩ := h1.slice
  obtain ⟨a2, c2, rfl⟩ := h2.slice
  clear h1 h2 hr
  obtain ⟨L, κ⟩ := r
  dsimp only at hfl hfc HF ⊢
  unfold boolCode
  rcases hfc with rfl | rfl | rfl | rfl
  all_goals
    simp only [Int.reduceEq, if_false, if_true, decide_true, decide_false, reduceCtorEq]
    go_enter Try.func28, Try.ntmps28
    go_wp2_with fail
    refine (HF.out _ (((Below.refl _ _).alloc (Nat.le_refl _) _).alloc (by simp) _)).mono ?_
    rintro e w1 ⟨u, rfl, hO, hb1⟩
    obtain ⟨a5, c5, rfl⟩ := OwnJ.formS hO
    have hB1 := (((Below.refl w.heap.size w).alloc (Nat.le_refl _) (.cells #[.int .i64 v1, .slice a1 bs1.length c1] 31)).alloc (by simp) (.cells #[.int .i64 v2, .slice a2 bs2.length c2] 31)).trans (hb1.mono (by simp <;> omega))
    clear hO hb1 HF
    go_wp2
    go_ret2
    exact RV_of rfl hB1
end Go.Proofs.Ytoicdfdfajfopaa

namespace Go.Proofs.Ytoicdfdfajfopaa
open Go.RowKit Go.Maps
/-- A variable for a system that has been made and not yet been stored into. -/
structure ZBox (W : World) (X : Nat) : Prop where
  c0 : W.cell? ⟨X, 0, none⟩ = some (.int .i64 0)
  c1 : W.cell? ⟨X, 1, none⟩ = some (.slice none 0 0)
  f0 : W.frozen? ⟨X, 0, none⟩ = false
  f1 : W.frozen? ⟨X, 1, none⟩ = false
def zeroSys : Obj := .cells #[.int .i64 0, .slice none 0 0] 31
theorem ZBox.fresh (W : World) : ZBox (W.alloc (.cells #[.int .i64 0, .slice none 0 0] 31)) W.heap.size := by constructor <;> simp [go_sem]
theorem ZBox.kept {W W' : World} {X : Nat} (h : ZBox W X) (hg : W.grownBy W' none) : ZBox W' X := by
  have hb := hg.block X (World.block_lt_of_cell? W ⟨X, 0, none⟩ h.c0) (by simp)
  exact ⟨hg.cell h.c0 (by simp), hg.cell h.c1 (by simp), (World.frozen?_of_block (a := ⟨X, 0, none⟩) hb).trans h.f0, (World.frozen?_of_block (a := ⟨X, 1, none⟩) hb).trans h.f1⟩
theorem ZBox.lt {W : World} {X : Nat} (h : ZBox W X) : X < W.heap.size := World.block_lt_of_cell? W ⟨X, 0, none⟩ h.c0
theorem gb_tr {a b c : World} (h : a.grownBy b none) (k : b.grownBy c none) : a.grownBy c none := gb_trans h k
section
variable {w W0 Wp W : World} {I : List Item} {X lo : Nat} {p : Int} {s : Value} {L : List Blk}
/-- The variable was made ahead of the result: W0 before the statement, Wp where the result's call begins, W behind it; X the variable. -/
theorem Mem.early (h : Mem w I W0) (g0 : W0.grownBy Wp none) (hX0 : W0.heap.size ≤ X) (hX : X < Wp.heap.size) (hz : ZBox Wp X) (hb : Below Wp.heap.size Wp W) (hr : ResR W Wp.heap.size W.heap.size s L) :
    Mem w (iVar X p s :: iBlks Wp.heap.size W.heap.size s L :: I) ((W.setCell ⟨X, 0, none⟩ (.int .i64 p)).setCell ⟨X, 1, none⟩ s) := by
  have h1 : Mem w (iVar X 0 (.slice none 0 0) :: I) Wp := h.push g0 (iVar X 0 (.slice none 0 0)) hX0 (Nat.le_succ _) hX (iVar_ok _ _ _) ⟨hX, hz.c0, hz.c1⟩
  have h2 := h1.pushB hb hr
  have hz2 := hz.kept (gb_below hb)
  have hgs := gb_set2 W X (.int .i64 p) s
  have h3 := h2.mark 1 rfl (OnlyIn.of_grown (lo := X) (hi := X + 1) hgs (fun r e => by cases e; omega)) (P' := fun W => VarB W X p s) (iVar_ok X p s) ⟨by simpa [World.setCell] using hz2.lt, ?_, ?_⟩
  · exact h3.swap
  · rw [World.cell?_setCell_other _ _ _ _ (by simp), World.cell?_setCell_same' _ _ _ (by rw [hz2.c0]; rfl)]
  · rw [World.cell?_setCell_same' _ _ _ (by rw [World.cell?_setCell_other _ _ _ _ (by simp), hz2.c1]; rfl)]
/-- The variable was made behind the result. -/
theorem Mem.late (h : Mem w I W0) (g0 : W0.grownBy Wp none) (hb : Below Wp.heap.size Wp W) (hr : ResR W Wp.heap.size W.heap.size s L) :
    Mem w (iVar W.heap.size p s :: iBlks Wp.heap.size W.heap.size s L :: I) (W.alloc (.cells #[.int .i64 p, s] 31)) :=
  ((h.step g0).pushB hb hr).pushVar p s _
theorem Mem.drew (h : Mem w I W) : Mem w I W.drew := h.step (gb_drew1 _)
end
/-- Behind a drawn statement whose result is a system and a code. -/
def SysRel {w W0 : World} {I : List Item} (_ : Mem w I W0) (p : Int) (L : List Blk) (κ : Int) (bx kv : Value) (wx : World) : Prop :=
  ∃ X lo hi a n, bx = .pointer (some ⟨X, 0, none⟩) ∧ kv = .int .i64 κ ∧ Mem w (iVar X p (.slice a L.length n) :: iBlks lo hi (.slice a L.length n) L :: I) wx
section
variable {w W0 Wp W : World} {I : List Item} {X : Nat} {p κ : Int} {L : List Blk} {a : Option Addr} {n : Nat}
theorem SysRel.early (h : Mem w I W0) (g0 : W0.grownBy Wp none) (hX0 : W0.heap.size ≤ X) (hz : ZBox Wp X) (hb : Below Wp.heap.size Wp W) (hr : ResR W Wp.heap.size W.heap.size (.slice a L.length n) L) :
    SysRel h p L κ (.pointer (some ⟨X, 0, none⟩)) (.int .i64 κ) ((W.setCell ⟨X, 0, none⟩ (.int .i64 p)).setCell ⟨X, 1, none⟩ (.slice a L.length n)) :=
  ⟨X, _, _, a, n, rfl, rfl, h.early g0 hX0 hz.lt hz hb hr⟩
theorem SysRel.late (h : Mem w I W0) (g0 : W0.grownBy Wp none) (hb : Below Wp.heap.size Wp W) (hr : ResR W Wp.heap.size W.heap.size (.slice a L.length n) L) :
    SysRel h p L κ (.pointer (some ⟨W.heap.size, 0, none⟩)) (.int .i64 κ) (W.alloc (.cells #[.int .i64 p, .slice a L.length n] 31)) :=
  ⟨W.heap.size, _, _, a, n, rfl, rfl, h.late g0 hb hr⟩
theorem SysRel.drew {h : Mem w I W0} {bx kv : Value} (k : SysRel h p L κ bx kv W) : SysRel h p L κ bx kv W.drew := by
  obtain ⟨X, lo, hi, a, n, h1, h2, h3⟩ := k
  exact ⟨X, lo, hi, a, n, h1, h2, h3.step (gb_drew1 _)⟩
end
theorem keepset {W : World} {X q o : Nat} {u a b : Value} (h : W.cell? ⟨q, o, none⟩ = some u) (hq : q < X) : ((W.setCell ⟨X, 0, none⟩ a).setCell ⟨X, 1, none⟩ b).cell? ⟨q, o, none⟩ = some u :=
  (gb_set2 W X a b).cell h (by simp; omega)
end Go.Proofs.Ytoicdfdfajfopaa

namespace Go.Proofs.Ytoicdfdfajfopaa
open Go.RowKit Go.Maps
def IntRel {w W0 : World} {I : List Item} (_ : Mem w I W0) (L : List Int) (κ : Int) (bx kv : Value) (wx : World) : Prop :=
  ∃ lo hi a n, bx = .slice a L.length n ∧ kv = .int .i64 κ ∧ Mem w (iInts lo hi (.slice a L.length n) L :: I) wx
theorem IntRel.mk' {w W0 W1 W : World} {I : List Item} {κ : Int} {L : List Int} {a : Option Addr} {n : Nat} {h0 : Mem w I W0} (h : Mem w I W1) (hb : Below W1.heap.size W1 W) (hr : ResI W W1.heap.size W.heap.size (.slice a L.length n) L) : IntRel h0 L κ (.slice a L.length n) (.int .i64 κ) W :=
  ⟨_, _, a, n, rfl, rfl, h.pushI hb hr⟩
theorem IntRel.drew {w W0 W : World} {I : List Item} {κ : Int} {L : List Int} {bx kv : Value} {h0 : Mem w I W0} (h : IntRel h0 L κ bx kv W) : IntRel h0 L κ bx kv W.drew := by
  obtain ⟨lo, hi, a, n, e1, e2, hm⟩ := h
  exact ⟨lo, hi, a, n, e1, e2, hm.step (gb_drew1 _)⟩
end Go.Proofs.Ytoicdfdfajfopaa

namespace Go.Proofs.Ytoicdfdfajfopaa
open Go.ChangeShapes Go.WideShapes Go.ChangeAt Go.RowKit Go.Deep Go.Joins
theorem ownKnobs : ownKnob Try.prog.godebug = none := by kernel_rfl
section
variable {H : Type} {enc : TypeId × Value → H} {W : World} {base : Nat} {held : Bool}
theorem arrCells : Try.prog.cellsOf 70 = 3 := by kernel_rfl
set_option maxRecDepth 100000 in
theorem open_arr3 {fuel : Nat} {cs : List Value} {x : DataW H × List MemPlace} (h : DataW.trod enc Try.prog W base (fun _ => true) held fuel 70 cs = some x) :
    ∃ a b c : Int, cs = [.int .i64 a, .int .i64 b, .int .i64 c] ∧ (Lit.int .i64 a).wf = true ∧ (Lit.int .i64 b).wf = true ∧ (Lit.int .i64 c).wf = true := by
  obtain ⟨xs, m, rfl, rfl, hl, hx, hat⟩ := DataW.trod_array Try.underlying70 h
  rw [arrCells] at hl
  match cs, hl with
  | [c0, c1, c2], _ =>
    match xs, hx with
    | [x0, x1, x2], _ =>
      have h0 := hat 0 (by omega)
      have h1 := hat 1 (by omega)
      have h2 := hat 2 (by omega)
      rw [int64Cells] at h0 h1 h2
      simp at h0 h1 h2
      obtain ⟨a, ha, _, wa⟩ := DataW.trod_int Try.underlying2 h0
      obtain ⟨b, hb, _, wb⟩ := DataW.trod_int Try.underlying2 h1
      obtain ⟨c, hc, _, wc⟩ := DataW.trod_int Try.underlying2 h2
      simp at ha hb hc
      exact ⟨a, b, c, by rw [ha, hb, hc], wa, wb, wc⟩
theorem add_at (b off i : Nat) : (⟨b, off, none⟩ : Addr).add i = ⟨b, off + i, none⟩ := by
  unfold Addr.add
  split
  · subst_vars; rfl
  · rfl
set_option maxRecDepth 100000 in
theorem open_arrs {fuel : Nat} {s : Value} {x : DataW H × List MemPlace} (h : DataW.trod enc Try.prog W base (fun _ => true) held fuel 22 [s] = some x) : ∃ bs, InB W s bs := by
  rcases open_slice Try.underlying22 h with ⟨hcs, _⟩ | ⟨a, len, cap, m, n, D, Pl, hcs, hb, hl, hm, hmm, hx, hi⟩
  · simp at hcs
    exact ⟨[], by simp, by simp, .inl ⟨none, 0, hcs, rfl⟩⟩
  · simp at hcs
    subst hcs
    simp at hmm
    subst hmm
    have hm' : m ≤ 9223372036854775807 := by unfold maxLen at hm; exact hm
    by_cases h0 : len = 0
    · subst h0
      exact ⟨[], by simp, by simp, .inl ⟨_, _, rfl, rfl⟩⟩
    · have cell : ∀ i, i < m → ∃ y : Blk, WFB y ∧ ∀ j (v : Value), [Value.int .i64 y.a, Value.int .i64 y.b, Value.int .i64 y.c][j]? = some v → W.cell? (a.add (i * 3 + j)) = some v := fun i him => by
        obtain ⟨cs', hc, ht⟩ := hi i him
        obtain ⟨p, q, r, rfl, wp, wq, wr⟩ := open_arr3 ht
        rw [arrCells] at hc
        obtain ⟨_, _, hat⟩ := World.cells?_some hc
        refine ⟨⟨p, q, r⟩, ⟨wp, wq, wr⟩, fun j v hv => ?_⟩
        have hj : j < 3 := by
          have := (List.getElem?_eq_some_iff.1 hv).1
          simpa using this
        rw [← Go.Deep.add_add, hat j hj]
        exact hv
      obtain ⟨F, hF⟩ := choose_lt (α := Blk) cell
      obtain ⟨b, off, spot⟩ := a
      have hc0 := (hF 0 (by omega)).2 0 _ rfl
      have hspot : spot = none := by simpa [Addr.add] using World.cell?_spot hc0
      subst hspot
      refine ⟨(List.range len).map F, ?_, by simp; omega, .inr ⟨b, off, m, by simp, ?_, ?_⟩⟩
      · intro y hy
        obtain ⟨i, hi', rfl⟩ := List.mem_map.1 hy
        exact (hF i (by have := List.mem_range.1 hi'; omega)).1
      · exact block_lt_of_cell hc0
      · intro k hk
        simp at hk
        have e : ((List.range len).map F)[k]?.getD default = F k := by simp [hk]
        rw [e]
        have := (hF k (by omega)).2
        refine ⟨?_, ?_, ?_⟩
        · have h0 := this 0 _ rfl
          rw [add_at] at h0
          exact h0
        · have h1 := this 1 _ rfl
          rw [add_at, ← Nat.add_assoc] at h1
          exact h1
        · have h2 := this 2 _ rfl
          rw [add_at, ← Nat.add_assoc] at h2
          exact h2
theorem isSys : ∃ f0 f1 : Field, Try.prog.underlying 24 = some (.struct #[f0, f1]) ∧ f0.type = 2 ∧ f1.type = 22 ∧ oneCellFields Try.prog #[f0, f1] = true :=
  ⟨_, _, Try.underlying24, rfl, rfl, by kernel_rfl⟩
theorem sysCells : Try.prog.cellsOf 24 = 2 := by kernel_rfl
set_option maxRecDepth 100000 in
theorem open_system {r : Reach} {b0 : Nat} {v : Value} {d : DataW H} {p : List MemPlace} (hv : Value.okWide Try.prog W r b0 24 v) (h : DataW.Trod enc Try.prog W base (fun _ => true) held 24 v d p) :
    ∃ (n : Int) (s : Value) (bs : List Blk), v = .agg #[.int .i64 n, s] ∧ WF n ∧ InB W s bs := by
  obtain ⟨f0, f1, hu, e0, e1, hone⟩ := isSys
  obtain ⟨v0, v1, y0, y1, n, rfl, _, _, h0, h1⟩ := open_agg2 hu hone sysCells hv h
  rw [e0] at h0
  rw [e1] at h1
  obtain ⟨k, hk, _, wk⟩ := DataW.trod_int Try.underlying2 h0
  simp at hk
  subst hk
  obtain ⟨bs, hbs⟩ := open_arrs h1
  exact ⟨k, v1, bs, rfl, wk, hbs⟩
end
end Go.Proofs.Ytoicdfdfajfopaa

namespace Go.Proofs.Ytoicdfdfajfopaa
open Go.ChangeShapes Go.WideShapes Go.ChangeAt Go.RowKit Go.Deep Go.Joins
/-- The value is a slice of just these integers, however many. -/
def InZ (w : World) (s : Value) (zs : List Int) : Prop :=
  (∀ z ∈ zs, WF z) ∧ zs.length ≤ 9223372036854775807 ∧ ((∃ a c, s = .slice a 0 c ∧ zs = []) ∨ ∃ b off cap, s = .slice (some ⟨b, off, none⟩) zs.length cap ∧ b < w.heap.size ∧ Ints w b off zs)
theorem InZ.slice {w : World} {s : Value} {zs : List Int} (h : InZ w s zs) : ∃ a c, s = .slice a zs.length c := by
  rcases h.2.2 with ⟨a, c, rfl, rfl⟩ | ⟨b, off, cap, rfl, _⟩ <;> exact ⟨_, _, rfl⟩
theorem InZ.ib {w : World} {s : Value} {zs : List Int} (h : InZ w s zs) (hl : zs.length ≤ 1048576) : IB w s zs := ⟨by omega, h.2.2⟩
/-- The value is a slice of just these rows, however many. -/
def InSS (w : World) (s : Value) (n : Nat) (F : Nat → List Int) : Prop :=
  n ≤ 9223372036854775807 ∧ ((n = 0 ∧ ∃ a c, s = .slice a 0 c) ∨ ∃ b off cap, s = .slice (some ⟨b, off, none⟩) n cap ∧ b < w.heap.size ∧ ∀ k, k < n → ∃ u, w.cell? ⟨b, off + k, none⟩ = some u ∧ InZ w u (F k))
theorem okWide_array {P : Program} {w : World} {r : Reach} {base : Nat} {t : TypeId} {v : Value} {n : Nat} {e : TypeId} (ht : P.underlying t = some (.array n e)) (h : Value.okWide P w r base t v) : ∃ cs, v = .agg cs ∧ cs.size = P.cellsOf t := by
  simp only [Value.okWide, ht] at h
  obtain ⟨cs, h1, h2, _⟩ := h
  exact ⟨cs, h1, h2⟩
section
variable {H : Type} {enc : TypeId × Value → H} {W : World} {base : Nat} {held : Bool}
set_option maxRecDepth 100000 in
theorem open_zs {fuel : Nat} {s : Value} {x : DataW H × List MemPlace} (h : DataW.trod enc Try.prog W base (fun _ => true) held fuel 25 [s] = some x) : ∃ zs, InZ W s zs := by
  rcases open_slice1 Try.underlying25 int64Cells h with ⟨hcs, _⟩ | ⟨a, len, cap, m, n, V, D, Pl, hcs, hb, hl, hm, hmm, hx, hi⟩
  · simp at hcs
    exact ⟨[], by simp, by simp, .inl ⟨none, 0, hcs, rfl⟩⟩
  · simp at hcs
    subst hcs
    simp at hmm
    subst hmm
    have hm' : m ≤ 9223372036854775807 := by unfold maxLen at hm; exact hm
    by_cases h0 : len = 0
    · subst h0
      exact ⟨[], by simp, by simp, .inl ⟨_, _, rfl, rfl⟩⟩
    · have cell : ∀ i, i < m → ∃ y : Int, WF y ∧ W.cell? (a.add i) = some (.int .i64 y) := fun i him => by
        obtain ⟨hc, ht⟩ := hi i him
        obtain ⟨k, hk, _, wk⟩ := DataW.trod_int Try.underlying2 ht
        simp at hk
        exact ⟨k, wk, by rw [hc, hk]⟩
      obtain ⟨F, hF⟩ := choose_lt (α := Int) cell
      obtain ⟨b, off, spot⟩ := a
      have hc0 := (hF 0 (by omega)).2
      have hspot : spot = none := by simpa [Addr.add] using World.cell?_spot hc0
      subst hspot
      refine ⟨(List.range len).map F, ?_, by simp; omega, .inr ⟨b, off, m, by simp, ?_, ?_⟩⟩
      · intro y hy
        obtain ⟨i, hi', rfl⟩ := List.mem_map.1 hy
        exact (hF i (by have := List.mem_range.1 hi'; omega)).1
      · exact block_lt_of_cell hc0
      · intro k hk
        simp at hk
        have e : ((List.range len).map F)[k]?.getD 0 = F k := by simp [hk]
        rw [e]
        have h1 := (hF k (by omega)).2
        rw [add_at] at h1
        exact h1
set_option maxRecDepth 100000 in
theorem open_ints64 {r : Reach} {b0 : Nat} {v : Value} {d : DataW H} {p : List MemPlace} (hv : Value.okWide Try.prog W r b0 25 v) (h : DataW.Trod enc Try.prog W base (fun _ => true) held 25 v d p) : ∃ zs, InZ W v zs := by
  obtain ⟨a, len, cap, rfl⟩ := okWide_slice Try.underlying25 hv
  obtain ⟨fuel, hf⟩ := h
  exact open_zs hf
set_option maxRecDepth 100000 in
theorem open_blocks {r : Reach} {b0 : Nat} {v : Value} {d : DataW H} {p : List MemPlace} (hv : Value.okWide Try.prog W r b0 22 v) (h : DataW.Trod enc Try.prog W base (fun _ => true) held 22 v d p) : ∃ bs, InB W v bs := by
  obtain ⟨a, len, cap, rfl⟩ := okWide_slice Try.underlying22 hv
  obtain ⟨fuel, hf⟩ := h
  exact open_arrs hf
theorem sliceCells : Try.prog.cellsOf 25 = 1 := by kernel_rfl
set_option maxRecDepth 100000 in
theorem open_rows {r : Reach} {b0 : Nat} {v : Value} {d : DataW H} {p : List MemPlace} (hv : Value.okWide Try.prog W r b0 46 v) (h : DataW.Trod enc Try.prog W base (fun _ => true) held 46 v d p) : ∃ n F, InSS W v n F := by
  obtain ⟨A0, L0, C0, rfl⟩ := okWide_slice Try.underlying46 hv
  obtain ⟨fuel, hf⟩ := h
  have hf' : DataW.trod enc Try.prog W base (fun _ => true) held fuel 46 [.slice A0 L0 C0] = some (d, p) := hf
  rcases open_slice1 Try.underlying46 sliceCells hf' with ⟨hcs, _⟩ | ⟨a, len, cap, m, n, V, D, Pl, hcs, hb, hl, hm, hmm, hx, hi⟩
  · simp at hcs
    obtain ⟨rfl, rfl, rfl⟩ := hcs
    exact ⟨0, fun _ => [], by omega, .inl ⟨rfl, _, _, rfl⟩⟩
  · simp at hcs
    obtain ⟨e1, e2, e3⟩ := hcs
    subst e1
    subst e2
    subst e3
    simp at hmm
    subst hmm
    have hm' : m ≤ 9223372036854775807 := by unfold maxLen at hm; exact hm
    by_cases h0 : L0 = 0
    · subst h0
      exact ⟨0, fun _ => [], by omega, .inl ⟨rfl, _, _, rfl⟩⟩
    · have cell : ∀ i, i < m → ∃ y : List Int, ∃ u, W.cell? (a.add i) = some u ∧ InZ W u y := fun i him => by
        obtain ⟨hc, ht⟩ := hi i him
        obtain ⟨zs, hz⟩ := open_zs ht
        exact ⟨zs, _, hc, hz⟩
      obtain ⟨F, hF⟩ := choose_lt (α := List Int) cell
      obtain ⟨b, off, spot⟩ := a
      obtain ⟨u0, hc0, _⟩ := hF 0 (by omega)
      have hspot : spot = none := by simpa [Addr.add] using World.cell?_spot hc0
      subst hspot
      refine ⟨L0, F, by omega, .inr ⟨b, off, m, rfl, block_lt_of_cell hc0, fun k hk => ?_⟩⟩
      obtain ⟨u, h1, h2⟩ := hF k (by omega)
      rw [add_at] at h1
      exact ⟨u, h1, h2⟩
set_option maxRecDepth 100000 in
theorem open_blk {r : Reach} {b0 : Nat} {v : Value} {d : DataW H} {p : List MemPlace} (hv : Value.okWide Try.prog W r b0 70 v) (h : DataW.Trod enc Try.prog W base (fun _ => true) held 70 v d p) : ∃ x, v = bv x ∧ WFB x := by
  obtain ⟨cs, rfl, hsz⟩ := okWide_array Try.underlying70 hv
  obtain ⟨fuel, hf⟩ := h
  obtain ⟨a, b, c, e, wa, wb, wc⟩ := open_arr3 hf
  have : cs.toList = [.int .i64 a, .int .i64 b, .int .i64 c] := e
  refine ⟨⟨a, b, c⟩, ?_, wa, wb, wc⟩
  unfold bv
  rw [← this]
end
end Go.Proofs.Ytoicdfdfajfopaa

namespace Go.Proofs.Ytoicdfdfajfopaa
open Go.RowKit Go.Maps
structure CS (w : World) (v p : Int) (s sW s8 sG : Value) (XW X XG i0 i1 j1 j2 k1 k2 : Nat) (LW L8 LG : List Blk) (W : World) : Prop where
  st : St1 w v s W
  o0 : w.heap.size < i0
  o1 : i0 ≤ i1
  o2 : i1 ≤ XW
  o3 : XW < j1
  o4 : j1 ≤ j2
  o5 : j2 ≤ X
  o6 : X < k1
  o7 : k1 ≤ k2
  o8 : k2 ≤ XG
  rW : ResR W i0 i1 sW LW
  vW : VarB W XW p sW
  r8 : ResR W j1 j2 s8 L8
  vX : VarB W X v s8
  rG : ResR W k1 k2 sG LG
  vG : VarB W XG p sG
section
variable {w : World} {v p : Int} {s sW s8 sG : Value} {XW X XG i0 i1 j1 j2 k1 k2 : Nat} {LW L8 LG : List Blk} {W W' : World}
theorem CS.step (h : CS w v p s sW s8 sG XW X XG i0 i1 j1 j2 k1 k2 LW L8 LG W) (hg : W.grownBy W' none) : CS w v p s sW s8 sG XW X XG i0 i1 j1 j2 k1 k2 LW L8 LG W' :=
  ⟨h.st.step hg (by simp), h.o0, h.o1, h.o2, h.o3, h.o4, h.o5, h.o6, h.o7, h.o8, h.rW.kept hg (by simp), h.vW.step hg (by simp), h.r8.kept hg (by simp), h.vX.step hg (by simp), h.rG.kept hg (by simp), h.vG.step hg (by simp)⟩
theorem CS.mark8 (h : CS w v p s sW s8 sG XW X XG i0 i1 j1 j2 k1 k2 LW L8 LG W) {row : Option Nat} (hg : W.grownBy W' row) (hr : ∀ r, row = some r → j1 ≤ r ∧ r < j2) {L : List Blk} (hn : ResR W' j1 j2 s8 L) :
    CS w v p s sW s8 sG XW X XG i0 i1 j1 j2 k1 k2 LW L LG W' := by
  obtain ⟨st, o0, o1, o2, o3, o4, o5, o6, o7, o8, rW, vW, r8, vX, rG, vG⟩ := h
  exact ⟨st.step hg (fun r e => by have := hr r e; omega), o0, o1, o2, o3, o4, o5, o6, o7, o8, rW.kept hg (fun r e => by have := hr r e; omega), vW.step hg (fun e => by have := hr _ e; omega), hn, vX.step hg (fun e => by have := hr _ e; omega), rG.kept hg (fun r e => by have := hr r e; omega), vG.step hg (fun e => by have := hr _ e; omega)⟩
theorem CS.markG (h : CS w v p s sW s8 sG XW X XG i0 i1 j1 j2 k1 k2 LW L8 LG W) {row : Option Nat} (hg : W.grownBy W' row) (hr : ∀ r, row = some r → k1 ≤ r ∧ r < k2) {L : List Blk} (hn : ResR W' k1 k2 sG L) :
    CS w v p s sW s8 sG XW X XG i0 i1 j1 j2 k1 k2 LW L8 L W' := by
  obtain ⟨st, o0, o1, o2, o3, o4, o5, o6, o7, o8, rW, vW, r8, vX, rG, vG⟩ := h
  exact ⟨st.step hg (fun r e => by have := hr r e; omega), o0, o1, o2, o3, o4, o5, o6, o7, o8, rW.kept hg (fun r e => by have := hr r e; omega), vW.step hg (fun e => by have := hr _ e; omega), r8.kept hg (fun r e => by have := hr r e; omega), vX.step hg (fun e => by have := hr _ e; omega), hn, vG.step hg (fun e => by have := hr _ e; omega)⟩
end
end Go.Proofs.Ytoicdfdfajfopaa


/- The model's first renumbering. The model's stabiliser number. The model's stabiliser number: the walk. oneIf. The program's stabiliser number. The law FnExactStabiliserNumber returns true. How the laws' arguments are read. The dump's head word by word, cheaply: what every row asks of it. -/
import Derived.Test.YtoicdfdfajfopaaJ17
import Derived.Deep.RegionWith
import Derived.Test.YtoicdfdfajfopaaRows
import Derived.ProofKit
import Derived.OpenShut
import Derived.Deep.Slices
import Derived.Lib.SmallJoins
import Derived.ChangeOld
namespace Go.Proofs.Ytoicdfdfajfopaa
open Go.RowKit Go.Maps
def finF (v1 : Int) (bs1 : List Blk) (v2 : Int) (bs2 : List Blk) : List Int × Int := if code2 v1 bs1 v2 bs2 = 0 then (if v1 = v2 then (match isoL v1.toNat (T3 bs1) (T3 bs2) with
    | [] => ([], 4)
    | z :: _ => (z, 0)) else ([], 4)) else ([], code2 v1 bs1 v2 bs2)
theorem isoL_row {n : Nat} {T1 T2 : Nat → Nat → Nat} (h1 : Thd n T1) (h2 : Thd n T2) {z : List Int} (hz : z ∈ isoL n T1 T2) : ∃ f, IsoR n T1 T2 f ∧ z = castN (lisN n f) := by
  obtain ⟨x, hx, rfl⟩ := List.mem_map.1 hz
  obtain ⟨f, hf, _, rfl⟩ := (goM_mem h1 h2 n [] (by simp) ⟨by simp, by simp, by simp⟩ x).1 hx
  exact ⟨f, hf, rfl⟩
theorem isoL_rowlen {n : Nat} {T1 T2 : Nat → Nat → Nat} (h1 : Thd n T1) (h2 : Thd n T2) {z : List Int} (hz : z ∈ isoL n T1 T2) : z.length = n := by
  obtain ⟨f, _, rfl⟩ := isoL_row h1 h2 hz
  simp [castN, lisN]
theorem goS_first {n : Nat} {T1 T2 : Nat → Nat → Nat} : (goS n T1 T2 (fun _ => true) 1 n [] []).map castN = (isoL n T1 T2).take 1 := by
  rw [goS_one, List.filter_eq_self.2 (fun _ _ => rfl), isoL, List.map_take]
set_option maxRecDepth 100000 in
set_option maxHeartbeats 4000000 in
theorem specFind_any (v1 v2 : Int) (s1 s2 : Value) (bs1 bs2 : List Blk) (w : World) (h1 : SB w s1 bs1) (h2 : SB w s2 bs2) : Calls Try.prog 22 #[.agg #[.int .i64 v1, s1], .agg #[.int .i64 v2, s2]] w (RJ (finF v1 bs1 v2 bs2) w) := by
  have hfc := fun W hb B c0 c1 c2 c3 => l06Code_two B v1 v2 s1 s2 bs1 bs2 W (h1.below (w' := W) hb (Nat.le_refl _)) (h2.below (w' := W) hb (Nat.le_refl _)) c0 c1 c2 c3
  obtain ⟨W1, hW1⟩ : ∃ W1, W1 = ((w.alloc (.cells #[.int .i64 v1, s1] 31)).alloc (.cells #[.int .i64 v2, s2] 31)).alloc (.cells #[.int .i64 v1, s1, .int .i64 v2, s2] 31) := ⟨_, rfl⟩
  have hB1 : Below w.heap.size w W1 := by rw [hW1]; exact (((Below.refl _ _).alloc (Nat.le_refl _) _).alloc (by simp) _).alloc (by simp <;> omega) _
  obtain ⟨a1, c1, rfl⟩ := h1.slice
  obtain ⟨a2, c2, rfl⟩ := h2.slice
  have q0 : W1.cell? ⟨w.heap.size, 0, none⟩ = some (.int .i64 v1) := by rw [hW1]; simp [go_sem]
  have q1 : W1.cell? ⟨w.heap.size, 1, none⟩ = some (.slice a1 bs1.length c1) := by rw [hW1]; simp [go_sem]
  have r0 : W1.cell? ⟨w.heap.size + 1, 0, none⟩ = some (.int .i64 v2) := by rw [hW1]; simp [go_sem]
  have r1 : W1.cell? ⟨w.heap.size + 1, 1, none⟩ = some (.slice a2 bs2.length c2) := by rw [hW1]; simp [go_sem]
  have hz1 : W1.heap.size = w.heap.size + 1 + 1 + 1 := by rw [hW1]; simp
  have hcall := hfc W1 hB1 (w.heap.size + 1 + 1) (by rw [hW1]; simp [go_sem]) (by rw [hW1]; simp [go_sem]) (by rw [hW1]; simp [go_sem]) (by rw [hW1]; simp [go_sem])
  clear hfc
  by_cases hc : code2 v1 bs1 v2 bs2 = 0
  · obtain ⟨i1, f1, i2, f2⟩ := code2_ok hc
    rw [hc] at hcall
    have HCL := Lib.hid hcall
    by_cases hv : v1 = v2
    · subst hv
      obtain ⟨n, rfl⟩ : ∃ n : Nat, v1 = (n : Int) := ⟨v1.toNat, by have := (sys_size i1).1; omega⟩
      have hn3 := (sys_size i1).1
      have hn15 := (sys_size i1).2.1
      have hbt := fun W (hb : Below w.heap.size w W) => l06Between_any n 1 (.slice a1 bs1.length c1) (.slice a2 bs2.length c2) bs1 bs2 false (fun _ => true) W (h1.below hb (Nat.le_refl _)) (h2.below hb (Nat.le_refl _)) i1 f1 i2 f2 (by omega) (by omega) (.inl ⟨rfl, fun _ => rfl⟩)
      have hgl : (goS n (T3 bs1) (T3 bs2) (fun _ => true) 1 n [] []).length = ((isoL n (T3 bs1) (T3 bs2)).take 1).length := by rw [← goS_first, List.length_map]
      rw [goS_first, hgl] at hbt
      have HBT := Lib.hid hbt
      have hrl : ∀ z ∈ isoL n (T3 bs1) (T3 bs2), z.length = n := fun z hz => isoL_rowlen (thdS i1 f1) (thdS i2 f2) hz
      have hval : finF (n : Int) bs1 (n : Int) bs2 = (match isoL n (T3 bs1) (T3 bs2) with | [] => ([], 4) | z :: _ => (z, 0)) := by
        unfold finF
        rw [if_pos hc, if_pos rfl, Int.toNat_natCast]
      rw [hval]
      clear hval hcall hbt hgl i1 f1 i2 f2 h1 h2 hc
      generalize isoL n (T3 bs1) (T3 bs2) = L at HBT hrl
      cases L with
      | nil =>
        show Calls _ _ _ _ (RJ ([], 4) w)
        clear hrl
        go_enter Try.func22, Try.ntmps22
        go_wp2_with fail
        rw [← hW1]
        refine HCL.out.mono ?_
        rintro e w2 ⟨rfl, hb2⟩
        have hB2 := hB1.trans (hb2.mono hB1.size)
        have q0 := (hb2.cell (p := ⟨w.heap.size, 0, none⟩) (show w.heap.size < W1.heap.size by omega)).trans q0
        have q1 := (hb2.cell (p := ⟨w.heap.size, 1, none⟩) (show w.heap.size < W1.heap.size by omega)).trans q1
        have r0 := (hb2.cell (p := ⟨w.heap.size + 1, 0, none⟩) (show w.heap.size + 1 < W1.heap.size by omega)).trans r0
        have r1 := (hb2.cell (p := ⟨w.heap.size + 1, 1, none⟩) (show w.heap.size + 1 < W1.heap.size by omega)).trans r1
        clear hb2 hW1 hB1 HCL
        go_wp2_with fail
        refine (HBT.out _ hB2).mono ?_
        rintro e w3 ⟨u, us, rfl, hT, hu, hb3⟩
        obtain ⟨a5, c5, rfl⟩ := hu
        have hB3 := hB2.trans (hb3.mono hB2.size)
        clear hT hb3 HBT
        go_wp2
        go_ret2
        exact ⟨_, rfl, OwnJ.nil _ _, hB3⟩
      | cons z L =>
        show Calls _ _ _ _ (RJ (z, 0) w)
        have hzl := hrl z (by simp)
        have HZ := Lib.hid hzl
        clear hrl hzl
        go_enter Try.func22, Try.ntmps22
        go_wp2_with fail
        rw [← hW1]
        refine HCL.out.mono ?_
        rintro e w2 ⟨rfl, hb2⟩
        have hB2 := hB1.trans (hb2.mono hB1.size)
        have q0 := (hb2.cell (p := ⟨w.heap.size, 0, none⟩) (show w.heap.size < W1.heap.size by omega)).trans q0
        have q1 := (hb2.cell (p := ⟨w.heap.size, 1, none⟩) (show w.heap.size < W1.heap.size by omega)).trans q1
        have r0 := (hb2.cell (p := ⟨w.heap.size + 1, 0, none⟩) (show w.heap.size + 1 < W1.heap.size by omega)).trans r0
        have r1 := (hb2.cell (p := ⟨w.heap.size + 1, 1, none⟩) (show w.heap.size + 1 < W1.heap.size by omega)).trans r1
        clear hb2 hW1 hB1 HCL
        go_wp2_with fail
        refine (HBT.out _ hB2).mono ?_
        rintro e w3 ⟨u, us, rfl, hT, -, hb3⟩
        have hB3 := hB2.trans (hb3.mono hB2.size)
        have hb2z := hB2.size
        obtain ⟨G, c, g, cap, rfl, e1, e2, e3, e4, e5, e6⟩ := hT.at_ (k := 0) (by simp) (by simp [HZ.out]; omega) (by simp [HZ.out]; omega)
        have ho := hT.row 0 _ e4
        simp only [List.take_succ_cons, List.take_zero, List.getElem?_cons_zero, Option.getD_some, List.length_cons, List.length_nil] at e2 e4 e5 ho ⊢
        have HOZ := Lib.hid (ho.baseP (b' := w.heap.size) (by omega))
        clear hT hb3 HBT ho e5 e4
        go_wp2
        go_ret2
        exact ⟨_, rfl, HOZ.out, hB3⟩
    · have hval : finF v1 bs1 v2 bs2 = ([], 4) := by
        unfold finF
        rw [if_pos hc, if_neg hv]
      rw [hval]
      have hne : (v1 != v2) = true := by simpa using hv
      clear hval hcall i1 f1 i2 f2 h1 h2 hc
      go_enter Try.func22, Try.ntmps22
      go_wp2_with fail
      rw [← hW1]
      refine HCL.out.mono ?_
      rintro e w2 ⟨rfl, hb2⟩
      have hB2 := hB1.trans (hb2.mono hB1.size)
      have q0 := (hb2.cell (p := ⟨w.heap.size, 0, none⟩) (show w.heap.size < W1.heap.size by omega)).trans q0
      have r0 := (hb2.cell (p := ⟨w.heap.size + 1, 0, none⟩) (show w.heap.size + 1 < W1.heap.size by omega)).trans r0
      clear hb2 hW1 hB1 HCL
      go_wp2
      go_ret2
      exact ⟨_, rfl, OwnJ.nil _ _, hB2⟩
  · have hval : finF v1 bs1 v2 bs2 = ([], code2 v1 bs1 v2 bs2) := by
      unfold finF
      rw [if_neg hc]
    rw [hval]
    obtain ⟨k, hk⟩ : ∃ k, k = code2 v1 bs1 v2 bs2 := ⟨_, rfl⟩
    rw [← hk] at hcall hc ⊢
    have HCL := Lib.hid hcall
    have hk1 : (k != 0) = true := by simpa using hc
    clear hval hcall h1 h2 hk q0 q1 r0 r1
    go_enter Try.func22, Try.ntmps22
    go_wp2_with fail
    rw [← hW1]
    refine HCL.out.mono ?_
    rintro e w2 ⟨rfl, hb2⟩
    have hB2 := hB1.trans (hb2.mono hB1.size)
    clear hb2 hW1 hB1 HCL
    go_wp2
    go_ret2
    exact ⟨_, rfl, OwnJ.nil _ _, hB2⟩
theorem finF_len (v1 : Int) (bs1 : List Blk) (v2 : Int) (bs2 : List Blk) : (finF v1 bs1 v2 bs2).1.length ≤ 15 := by
  unfold finF
  split
  · rename_i hc
    split
    · rename_i hv
      subst hv
      obtain ⟨i1, f1, i2, f2⟩ := code2_ok hc
      obtain ⟨n, rfl⟩ : ∃ n : Nat, v1 = (n : Int) := ⟨v1.toNat, by have := (sys_size i1).1; omega⟩
      have hn15 := (sys_size i1).2.1
      rw [Int.toNat_natCast]
      have hl : ∀ z ∈ isoL n (T3 bs1) (T3 bs2), z.length = n := fun z hz => isoL_rowlen (thdS i1 f1) (thdS i2 f2) hz
      cases hL : isoL n (T3 bs1) (T3 bs2) with
      | nil => simp
      | cons z L =>
        have := hl z (by rw [hL]; simp)
        show z.length ≤ 15
        omega
    · simp
  · simp
/-- What the model says of being isomorphic. -/
def isoF (v1 : Int) (bs1 : List Blk) (v2 : Int) (bs2 : List Blk) : Bool × Int := if code2 v1 bs1 v2 bs2 = 0 then (decide (v1 = v2) && !(isoL v1.toNat (T3 bs1) (T3 bs2)).isEmpty, 0) else (false, code2 v1 bs1 v2 bs2)
theorem isoF_find (v1 : Int) (bs1 : List Blk) (v2 : Int) (bs2 : List Blk) : isoF v1 bs1 v2 bs2 = if (finF v1 bs1 v2 bs2).2 = 4 then (false, 0) else (decide ((finF v1 bs1 v2 bs2).2 = 0), (finF v1 bs1 v2 bs2).2) := by
  unfold isoF finF
  rcases code2_or v1 bs1 v2 bs2 with h | h | h
  · rw [if_pos h, if_pos h]
    by_cases hv : v1 = v2
    · rw [if_pos hv]
      cases isoL v1.toNat (T3 bs1) (T3 bs2) <;> simp [hv]
    · rw [if_neg hv]
      simp [hv]
  · simp [h]
  · simp [h]
set_option maxRecDepth 100000 in
set_option maxHeartbeats 4000000 in
theorem specIso_any (v1 v2 : Int) (s1 s2 : Value) (bs1 bs2 : List Blk) (w : World) (h1 : SB w s1 bs1) (h2 : SB w s2 bs2) : Calls Try.prog 27 #[.agg #[.int .i64 v1, s1], .agg #[.int .i64 v2, s2]] w (RV (boolCode (isoF v1 bs1 v2 bs2).1 (isoF v1 bs1 v2 bs2).2) w) := by
  have hfc := fun W hb B c0 c1 c2 c3 => l06Code_two B v1 v2 s1 s2 bs1 bs2 W (h1.below (w' := W) hb (Nat.le_refl _)) (h2.below (w' := W) hb (Nat.le_refl _)) c0 c1 c2 c3
  obtain ⟨W1, hW1⟩ : ∃ W1, W1 = ((w.alloc (.cells #[.int .i64 v1, s1] 31)).alloc (.cells #[.int .i64 v2, s2] 31)).alloc (.cells #[.int .i64 v1, s1, .int .i64 v2, s2] 31) := ⟨_, rfl⟩
  have hB1 : Below w.heap.size w W1 := by rw [hW1]; exact (((Below.refl _ _).alloc (Nat.le_refl _) _).alloc (by simp) _).alloc (by simp <;> omega) _
  obtain ⟨a1, c1, rfl⟩ := h1.slice
  obtain ⟨a2, c2, rfl⟩ := h2.slice
  have q0 : W1.cell? ⟨w.heap.size, 0, none⟩ = some (.int .i64 v1) := by rw [hW1]; simp [go_sem]
  have q1 : W1.cell? ⟨w.heap.size, 1, none⟩ = some (.slice a1 bs1.length c1) := by rw [hW1]; simp [go_sem]
  have r0 : W1.cell? ⟨w.heap.size + 1, 0, none⟩ = some (.int .i64 v2) := by rw [hW1]; simp [go_sem]
  have r1 : W1.cell? ⟨w.heap.size + 1, 1, none⟩ = some (.slice a2 bs2.length c2) := by rw [hW1]; simp [go_sem]
  have hz1 : W1.heap.size = w.heap.size + 1 + 1 + 1 := by rw [hW1]; simp
  have hcall := hfc W1 hB1 (w.heap.size + 1 + 1) (by rw [hW1]; simp [go_sem]) (by rw [hW1]; simp [go_sem]) (by rw [hW1]; simp [go_sem]) (by rw [hW1]; simp [go_sem])
  clear hfc
  by_cases hc : code2 v1 bs1 v2 bs2 = 0
  · obtain ⟨i1, f1, i2, f2⟩ := code2_ok hc
    rw [hc] at hcall
    have HCL := Lib.hid hcall
    by_cases hv : v1 = v2
    · subst hv
      obtain ⟨n, rfl⟩ : ∃ n : Nat, v1 = (n : Int) := ⟨v1.toNat, by have := (sys_size i1).1; omega⟩
      have hn3 := (sys_size i1).1
      have hn15 := (sys_size i1).2.1
      have hbt := fun W (hb : Below w.heap.size w W) => l06Between_any n 1 (.slice a1 bs1.length c1) (.slice a2 bs2.length c2) bs1 bs2 false (fun _ => true) W (h1.below hb (Nat.le_refl _)) (h2.below hb (Nat.le_refl _)) i1 f1 i2 f2 (by omega) (by omega) (.inl ⟨rfl, fun _ => rfl⟩)
      have hgl : (goS n (T3 bs1) (T3 bs2) (fun _ => true) 1 n [] []).length = ((isoL n (T3 bs1) (T3 bs2)).take 1).length := by rw [← goS_first, List.length_map]
      rw [hgl] at hbt
      have HBT := Lib.hid hbt
      have hval : isoF (n : Int) bs1 (n : Int) bs2 = (!(isoL n (T3 bs1) (T3 bs2)).isEmpty, 0) := by
        unfold isoF
        rw [if_pos hc, Int.toNat_natCast]
        simp
      rw [hval]
      obtain ⟨m, hm⟩ : ∃ m, m = ((isoL n (T3 bs1) (T3 bs2)).take 1).length := ⟨_, rfl⟩
      have hm1 : m ≤ 1 := by rw [hm, List.length_take]; omega
      have hme : (!(isoL n (T3 bs1) (T3 bs2)).isEmpty) = decide (0 < m) := by
        rw [hm]
        cases isoL n (T3 bs1) (T3 bs2) <;> simp
      rw [hme]
      rw [← hm] at HBT
      unfold boolCode
      clear hval hcall hbt hgl i1 f1 i2 f2 h1 h2 hc hm hme
      have hdec : decide ((m : Int) > 0) = decide (0 < m) := by simp
      obtain ⟨β, hβ⟩ : ∃ β, β = decide (0 < m) := ⟨_, rfl⟩
      rw [← hβ] at hdec ⊢
      clear hβ
      go_enter Try.func27, Try.ntmps27
      go_wp2_with fail
      rw [← hW1]
      refine HCL.out.mono ?_
      rintro e w2 ⟨rfl, hb2⟩
      have hB2 := hB1.trans (hb2.mono hB1.size)
      have q0 := (hb2.cell (p := ⟨w.heap.size, 0, none⟩) (show w.heap.size < W1.heap.size by omega)).trans q0
      have q1 := (hb2.cell (p := ⟨w.heap.size, 1, none⟩) (show w.heap.size < W1.heap.size by omega)).trans q1
      have r0 := (hb2.cell (p := ⟨w.heap.size + 1, 0, none⟩) (show w.heap.size + 1 < W1.heap.size by omega)).trans r0
      have r1 := (hb2.cell (p := ⟨w.heap.size + 1, 1, none⟩) (show w.heap.size + 1 < W1.heap.size by omega)).trans r1
      clear hb2 hW1 hB1 HCL
      go_wp2_with fail
      refine (HBT.out _ hB2).mono ?_
      rintro e w3 ⟨u, us, rfl, hT, hu, hb3⟩
      obtain ⟨a5, c5, rfl⟩ := hu
      have hB3 := hB2.trans (hb3.mono hB2.size)
      clear hT hb3 HBT
      go_wp2
      go_ret2
      first
        | exact RV_of rfl hB3
        | (refine RV_of ?_ hB3; simp_all)
    · have hval : isoF v1 bs1 v2 bs2 = (false, 0) := by
        unfold isoF
        rw [if_pos hc]
        simp [hv]
      rw [hval]
      unfold boolCode
      have hne : (v1 == v2) = false := by simpa using hv
      clear hval hcall i1 f1 i2 f2 h1 h2 hc
      go_enter Try.func27, Try.ntmps27
      go_wp2_with fail
      rw [← hW1]
      refine HCL.out.mono ?_
      rintro e w2 ⟨rfl, hb2⟩
      have hB2 := hB1.trans (hb2.mono hB1.size)
      have q0 := (hb2.cell (p := ⟨w.heap.size, 0, none⟩) (show w.heap.size < W1.heap.size by omega)).trans q0
      have r0 := (hb2.cell (p := ⟨w.heap.size + 1, 0, none⟩) (show w.heap.size + 1 < W1.heap.size by omega)).trans r0
      clear hb2 hW1 hB1 HCL
      go_wp2
      go_ret2
      exact RV_of rfl hB2
  · have hval : isoF v1 bs1 v2 bs2 = (false, code2 v1 bs1 v2 bs2) := by
      unfold isoF
      rw [if_neg hc]
    rw [hval]
    unfold boolCode
    obtain ⟨k, hk⟩ : ∃ k, k = code2 v1 bs1 v2 bs2 := ⟨_, rfl⟩
    rw [← hk] at hcall hc ⊢
    have HCL := Lib.hid hcall
    have hk1 : (k != 0) = true := by simpa using hc
    clear hval hcall h1 h2 hk q0 q1 r0 r1
    go_enter Try.func27, Try.ntmps27
    go_wp2_with fail
    rw [← hW1]
    refine HCL.out.mono ?_
    rintro e w2 ⟨rfl, hb2⟩
    have hB2 := hB1.trans (hb2.mono hB1.size)
    clear hb2 hW1 hB1 HCL
    go_wp2
    go_ret2
    exact RV_of rfl hB2
end Go.Proofs.Ytoicdfdfajfopaa

namespace Go.Proofs.Ytoicdfdfajfopaa
open Go.RowKit Go.Maps
def stCode (v : Int) (bs : List Blk) (p : Int) : Int := if isSysImpl v bs then (if inP v p then (if fullB v bs then 0 else 5) else 2) else 1
/-- How many of these lists keep the place q. -/
def stN (L : List (List Int)) (q : Nat) : Nat := L.countP fun z => z[q]?.getD 0 == (q : Int)
def stV (v : Int) (bs : List Blk) (p : Int) : Value := if stCode v bs p = 0 then .tuple #[.int .i64 (stN (autL v.toNat bs) p.toNat : Int), .int .i64 0] else .tuple #[.int .i64 0, .int .i64 (stCode v bs p)]
theorem stN_snoc (L : List (List Int)) (z : List Int) (q : Nat) : stN (L ++ [z]) q = stN L q + if z[q]?.getD 0 == (q : Int) then 1 else 0 := by
  unfold stN
  rw [List.countP_append, List.countP_singleton]
theorem stN_le (L : List (List Int)) (q : Nat) : stN L q ≤ L.length := List.countP_le_length
end Go.Proofs.Ytoicdfdfajfopaa

namespace Go.Proofs.Ytoicdfdfajfopaa
open Go.RowKit Go.Maps
theorem stN_take {L : List (List Int)} {k : Nat} (h : k < L.length) (q : Nat) : stN (L.take (k + 1)) q = stN (L.take k) q + if (L[k]?.getD [])[q]?.getD 0 == (q : Int) then 1 else 0 := by
  rw [List.take_add_one, List.getElem?_eq_getElem h, Option.toList_some, stN_snoc, Option.getD_some]
set_option maxRecDepth 100000 in
set_option maxHeartbeats 4000000 in
theorem specSta_any (v : Int) (s : Value) (bs : List Blk) (p : Int) (w : World) (h : SB w s bs) : Calls Try.prog 40 #[.agg #[.int .i64 v, s], .int .i64 p] w (RV (stV v bs p) w) := by
  have HC := Lib.hid fun W (hb : Below w.heap.size w W) => l01Is_any v s bs W (h.below hb (Nat.le_refl _))
  have hlen := h.2.1
  obtain ⟨a0, c0, rfl⟩ := h.slice
  have hb0 := (Below.refl w.heap.size w).alloc (Nat.le_refl _) (.cells #[.int .i64 v, .slice a0 bs.length c0] 31)
  cases hi : isSysImpl v bs with
  | false =>
    have hv : stV v bs p = .tuple #[.int .i64 0, .int .i64 1] := by simp [stV, stCode, hi]
    rw [hv]
    rw [hi] at HC
    clear hv hi h
    go_enter Try.func40, Try.ntmps40
    go_wp2_with fail
    refine (HC.out _ hb0).mono ?_
    rintro e w1 ⟨rfl, hb1⟩
    have hbw := below_new hb1
    clear hb1
    go_wp2
    go_ret2
    exact RV_of rfl hbw
  | true =>
    obtain ⟨v3, v15, _⟩ := sys_size hi
    have HL := Lib.hid fun W => l01In_any p 0 (v - 1) W
    have hin : (decide (0 ≤ p) && decide (p ≤ v - 1)) = inP v p := by
      unfold inP
      congr 1
      rw [decide_eq_decide]
      omega
    rw [hin] at HL
    rw [hi] at HC
    cases hp : inP v p with
    | false =>
      have hv : stV v bs p = .tuple #[.int .i64 0, .int .i64 2] := by simp [stV, stCode, hi, hp]
      rw [hv]
      rw [hp] at HL
      clear hv hi h hp hin
      go_enter Try.func40, Try.ntmps40
      go_wp2_with fail
      refine (HC.out _ hb0).mono ?_
      rintro e w1 ⟨rfl, hb1⟩
      have q0 := cell_new hb1 0 rfl
      have hbw := below_new hb1
      clear hb1
      go_wp2_with fail
      refine (HL.out _).mono ?_
      rintro e w2 ⟨rfl, rfl⟩
      go_wp2
      go_ret2
      exact RV_of rfl hbw
    | true =>
      have HFL := Lib.hid fun W => l01Full_any v (.slice a0 bs.length c0) bs W ⟨_, _, rfl⟩ v3 v15 hlen
      rw [hp] at HL
      cases hf : fullB v bs with
      | false =>
        have hv : stV v bs p = .tuple #[.int .i64 0, .int .i64 5] := by simp [stV, stCode, hi, hp, hf]
        rw [hv]
        rw [hf] at HFL
        clear hv hi h hp hin hf
        go_enter Try.func40, Try.ntmps40
        go_wp2_with fail
        refine (HC.out _ hb0).mono ?_
        rintro e w1 ⟨rfl, hb1⟩
        have q0 := cell_new hb1 0 rfl
        have q1 := cell_new hb1 1 rfl
        have hbw := below_new hb1
        clear hb1
        go_wp2_with fail
        refine (HL.out _).mono ?_
        rintro e w2 ⟨rfl, rfl⟩
        go_wp2_with fail
        refine (HFL.out _).mono ?_
        rintro e w3 ⟨rfl, hb3⟩
        have hbw3 := hbw.trans (hb3.mono hbw.size)
        clear hb3
        go_wp2
        go_ret2
        exact RV_of rfl hbw3
      | true =>
        obtain ⟨n, rfl⟩ : ∃ n : Nat, v = (n : Int) := ⟨v.toNat, by omega⟩
        have hp2 : 0 ≤ p ∧ p < (n : Int) := by simpa [inP] using hp
        obtain ⟨q, rfl⟩ : ∃ q : Nat, p = (q : Int) := ⟨p.toNat, by omega⟩
        have hqn : q < n := by omega
        have HA := Lib.hid fun W (hb : Below w.heap.size w W) => l06All_any n (.slice a0 bs.length c0) bs W (h.below hb (Nat.le_refl _)) hi hf
        have hrow : ∀ z ∈ autL n bs, z.length = n := fun z hz => isoL_rowlen (thdS hi hf) (thdS hi hf) hz
        have hv : stV (n : Int) bs (q : Int) = .tuple #[.int .i64 (stN (autL n bs) q : Int), .int .i64 0] := by simp [stV, stCode, hi, hp, hf]
        rw [hv]
        obtain ⟨L, hL⟩ : ∃ L, L = autL n bs := ⟨_, rfl⟩
        rw [← hL] at HA hrow ⊢
        obtain ⟨t, ht⟩ : ∃ t, t = stN L q := ⟨_, rfl⟩
        rw [← ht]
        have HTT := Lib.hid ht
        have HR := Lib.hid hrow
        rw [hf] at HFL
        clear hv hi h hp hin hf hp2 hL hrow ht
        go_enter Try.func40, Try.ntmps40
        go_wp2_with fail
        refine (HC.out _ hb0).mono ?_
        rintro e w1 ⟨rfl, hb1⟩
        have q0 := cell_new hb1 0 rfl
        have q1 := cell_new hb1 1 rfl
        have hbw := below_new hb1
        have hlt1 := lt_new hb1
        clear hb1
        go_wp2_with fail
        refine (HL.out _).mono ?_
        rintro e w2 ⟨rfl, rfl⟩
        go_wp2_with fail
        refine (HFL.out _).mono ?_
        rintro e w3 ⟨rfl, hb3⟩
        have q0 := (hb3.cell (p := ⟨w.heap.size, 0, none⟩) hlt1).trans q0
        have q1 := (hb3.cell (p := ⟨w.heap.size, 1, none⟩) hlt1).trans q1
        have hbw3 := hbw.trans (hb3.mono hbw.size)
        clear hb3
        go_wp2_with fail
        refine (HA.out _ hbw3).mono ?_
        rintro e w4 ⟨u, us, rfl, hT, hu, hle, hb4⟩
        obtain ⟨a5, c5, rfl⟩ := hu
        have hbw4 := hbw3.trans (hb4.mono hbw3.size)
        have HT := Lib.hid hT
        clear hT hb4 HA HFL HC HL hb0 q0 q1
        go_wp2
        go_loop [7, 8] (fun c i => ∃ k : Nat, k ≤ L.length ∧ i = .int .i64 k ∧ c = .int .i64 (stN (L.take k) q : Int)) (fun c i => L.length - (intOf i).toNat)
        case atStart => exact ⟨0, Nat.zero_le _, rfl, rfl⟩
        case round =>
          obtain ⟨k, hk, rfl, rfl⟩ := hrel
          by_cases hlt : k < L.length
          · have hzl : (L[k]?.getD []).length = n := by rw [List.getElem?_eq_getElem hlt]; exact HR.out _ (List.getElem_mem _)
            obtain ⟨G, c, g, cap, hu, e2, e3, e4, e5, e6, e7⟩ := HT.out.at_ hlt (by rw [hzl]; omega) (by rw [hzl]; omega)
            obtain ⟨rfl, rfl⟩ : a5 = some ⟨G, 0, none⟩ ∧ c5 = c := by simpa using hu
            rw [hzl] at e3
            have z1 := e6.at_ q (by rw [hzl]; exact hqn)
            rw [Nat.zero_add] at z1
            have HS := Lib.hid (stN_take hlt q)
            have hsl : stN (L.take k) q ≤ 60000 := Nat.le_trans (stN_le _ _) (by rw [List.length_take]; omega)
            obtain ⟨z, hz⟩ : ∃ z, z = (L[k]?.getD [])[q]?.getD 0 := ⟨_, rfl⟩
            rw [← hz] at z1 HS
            obtain ⟨m, hm⟩ : ∃ m, m = stN (L.take k) q := ⟨_, rfl⟩
            rw [← hm] at hsl HS ⊢
            clear e4 e5 e6 e7 hu hz hm hzl
            by_cases hzq : z = (q : Int)
            · subst hzq
              have hsn : stN (L.take (k + 1)) q = m + 1 := by rw [HS.out]; simp
              go_wp2
              go_round
              case rel => exact ⟨k + 1, hlt, by go_num, by rw [hsn]; go_num⟩
              case measure => simp [intOf]; omega
            · have hzb : (z == (q : Int)) = false := by simpa using hzq
              have hsn : stN (L.take (k + 1)) q = m := by rw [HS.out, hzb]; simp
              go_wp2
              go_round
              case rel => exact ⟨k + 1, hlt, by go_num, by rw [hsn]⟩
              case measure => simp [intOf]; omega
          · obtain rfl : k = L.length := by omega
            rw [List.take_length, ← HTT.out]
            go_wp2
            go_ret2
            exact RV_of rfl hbw4
end Go.Proofs.Ytoicdfdfajfopaa

namespace Go.Proofs.Ytoicdfdfajfopaa
open Go.RowKit Go.Maps
theorem oneIf_any (b : Bool) (w : World) : Calls Try.prog 78 #[.bool b] w (RS (.int .i64 (if b then 1 else 0)) w) := by
  cases b with
  | false =>
    go_enter Try.func78, Try.ntmps78
    go_wp2
    go_ret
    exact RS_of rfl
  | true =>
    go_enter Try.func78, Try.ntmps78
    go_wp2
    go_ret
    exact RS_of rfl
end Go.Proofs.Ytoicdfdfajfopaa

namespace Go.Proofs.Ytoicdfdfajfopaa
open Go.RowKit Go.Maps Go.Shelf
attribute [local go_sem] Oper.semAt_some
theorem encM_lis {n : Nat} (f : Nat → Nat) : encM (lisR n f) = castN (lisN n f) := by rw [encM_R, enc_cast]
theorem castN_at {n : Nat} (f : Nat → Nat) {q : Nat} (h : q < n) : (castN (lisN n f))[q]?.getD 0 = (f q : Int) := by simp [castN, lisN, h]
theorem castN_lisl (n : Nat) (f : Nat → Nat) : (castN (lisN n f)).length = n := by simp [castN, lisN]
set_option maxRecDepth 100000 in
set_option maxHeartbeats 4000000 in
theorem Sta_main (n : Nat) (s : Value) (bs : List Blk) (q : Nat) (w : World) (h : SB w s bs) (hi : isSysImpl (n : Int) bs = true) (hf : fullB (n : Int) bs = true) (hqn : q < n) : Calls Try.prog 41 #[.agg #[.int .i64 (n : Int), s], .int .i64 (q : Int)] w (RV (.tuple #[.int .i64 (stN (autL n bs) q : Int), .int .i64 0]) w) := by
  have h3 := (sys_size hi).1
  have h15 := (sys_size hi).2.1
  have HA := Lib.hid fun W (hb : Below w.heap.size w W) => automorphisms_any n s bs W (h.below hb (Nat.le_refl _)) hi hf
  have hc0 : fullC (n : Int) bs = 0 := by simp [fullC, hi, hf]
  have hfc := fun W hb B c0 c1 => fullCode_one B (n : Int) s bs W (h.below (w' := W) hb (Nat.le_refl _)) c0 c1
  rw [hc0] at hfc
  have HT := Lib.hid (thdS hi hf)
  have HP := Lib.hid fun W => isPointI_any (n : Int) (q : Int) W
  rw [show inP (n : Int) (q : Int) = true by simp [inP]; omega] at HP
  have HO := Lib.hid oneIf_any
  obtain ⟨X, hX⟩ : ∃ X, X = renL n (T3 bs) (T3 bs) := ⟨_, rfl⟩
  have hXm : autL n bs = X.map encM := by rw [hX, renL_aut hi hf]
  rw [hXm]
  have hXl : X.length ≤ 50625 := by
    have := isoL_len (T1 := T3 bs) (T2 := T3 bs) (thdS hi hf) (thdS hi hf) (n := n) (by omega) (by omega)
    rw [← renL_enc (thdS hi hf) (thdS hi hf), List.length_map, ← hX] at this
    exact this
  obtain ⟨m, hm⟩ : ∃ m, m = stN (X.map encM) q := ⟨_, rfl⟩
  rw [← hm]
  have HM := Lib.hid hm
  have HX := Lib.hid hX
  obtain ⟨a0, c0, rfl⟩ := h.slice
  obtain ⟨W1, hW1⟩ : ∃ W1, W1 = ((w.alloc (.cells #[.int .i64 (n : Int), .slice a0 bs.length c0] 31)).alloc (.cells #[.int .i64 (q : Int)] 2)).alloc (.cells #[.int .i64 (n : Int), .slice a0 bs.length c0] 31) := ⟨_, rfl⟩
  have hB1 : Below w.heap.size w W1 := by rw [hW1]; exact (((Below.refl _ _).alloc (Nat.le_refl _) _).alloc (by simp) _).alloc (by simp <;> omega) _
  have hz1 : W1.heap.size = w.heap.size + 1 + 1 + 1 := by rw [hW1]; simp
  have q0 : W1.cell? ⟨w.heap.size, 0, none⟩ = some (.int .i64 n) := by rw [hW1]; simp [go_sem]
  have q1 : W1.cell? ⟨w.heap.size, 1, none⟩ = some (.slice a0 bs.length c0) := by rw [hW1]; simp [go_sem]
  have bp : Boxed W1 (w.heap.size + 1) 2 (.int .i64 (q : Int)) := by
    have := (Boxed.new (w.alloc (.cells #[.int .i64 (n : Int), .slice a0 bs.length c0] 31)) 2 (.int .i64 (q : Int))).alloc (.cells #[.int .i64 (n : Int), .slice a0 bs.length c0] 31)
    simp only [World.size_alloc] at this
    rw [hW1]
    exact this
  have HFI := Lib.hid (hfc W1 hB1 (w.heap.size + 1 + 1) (by rw [hW1]; simp [go_sem]) (by rw [hW1]; simp [go_sem]))
  clear h hi hf hfc hc0 hm hX hXm
  have hro : Fence.wide.round = none := rfl
  refine (callsIn_wide (n := 9)).1 ?_
  refine callsIn_of_wp_marks Try.func41 rfl trivial ?_ hro
  simp only [Try.ntmps41, List.size_toArray, List.length_cons, List.length_nil, Nat.reduceAdd, Nat.reduceSub, Array.replicate_succ, Array.replicate_zero, List.push_toArray, List.append_toArray, List.nil_append, List.cons_append]
  gi_wp2_with (first | fail)
  rw [← hW1]
  refine ⟨trivial, (callsIn_wide.2 HFI.out).mono ?_⟩
  rintro e w2 ⟨rfl, hb2⟩
  have hB2 := hB1.trans (hb2.mono hB1.size)
  have q0 := (hb2.cell (p := ⟨w.heap.size, 0, none⟩) (show w.heap.size < W1.heap.size by omega)).trans q0
  have q1 := (hb2.cell (p := ⟨w.heap.size, 1, none⟩) (show w.heap.size < W1.heap.size by omega)).trans q1
  have bp : Boxed w2 _ _ _ := (hb2.block (w.heap.size + 1) (by omega)).trans bp
  have hz2 := hb2.size
  have x0 := bp.cell
  have hlt2 : w.heap.size < w2.heap.size := by omega
  clear hb2 hW1 hB1 HFI
  gi_wp2_with (first
    | (refine ⟨trivial, ?_⟩; gi_at_call 77; refine (callsIn_wide.2 (HP.out _)).mono ?_; rintro e w1 ⟨rfl, rfl⟩))
  obtain ⟨Bp, hBp⟩ : ∃ Bp, Bp = w.heap.size + 1 := ⟨_, rfl⟩
  rw [← hBp] at bp ⊢
  have hbp1 : w.heap.size ≤ Bp := by omega
  have hbp2 : Bp < w2.heap.size := by omega
  obtain ⟨w3, hw3⟩ : ∃ w3, w3 = w2.alloc (.cells #[.int .i64 0] 2) := ⟨_, rfl⟩
  have hB3 : Below w.heap.size w w3 := by rw [hw3]; exact hB2.alloc hB2.size _
  have hx3 : Boxed w3 w2.heap.size 2 (.int .i64 0) := by rw [hw3]; exact Boxed.new w2 _ _
  have bp : Boxed w3 Bp 2 (.int .i64 (q : Int)) := by rw [hw3]; exact bp.alloc _
  have hz3 : w3.heap.size = w2.heap.size + 1 := by rw [hw3]; simp
  have hww := hB2.size
  rw [← hw3]
  clear hw3 hB2 q0 q1 x0 hBp hz1
  refine ⟨trivial, (callsIn_wide.2 (HA.out w3 hB3)).mono ?_⟩
  rintro e w4 ⟨Bi, Bt, Bf, v, rfl, hD, hb4⟩
  have hx4 : Boxed w4 w2.heap.size 2 (.int .i64 0) := (hb4.block w2.heap.size (by omega)).trans hx3
  have bp : Boxed w4 Bp 2 (.int .i64 (q : Int)) := (hb4.block Bp (by omega)).trans bp
  have hB4 := hB3.trans (hb4.mono hB3.size)
  have hz4 := hb4.size
  clear hx3 hB3 HA
  have HSQ := Lib.hid (hD.seq (E := fun i => i = w2.heap.size) HT.out HT.out (by omega) (by omega) (fun i e => by omega) hz4 (9 - 1))
  rw [← HX.out] at HSQ
  clear hD hb4 HT
  gi_wp2
  refine wpIn_rangeFunc_R hro (by omega) (gf := 121) (lb := #[.pointer (some ⟨Bi, 0, none⟩), .pointer (some ⟨Bt, 0, none⟩), .pointer (some ⟨Bf, 0, none⟩)]) rfl trivial (enters_of Try.func121 (by kernel_rfl) rfl) rfl (fun i e => by omega) HSQ.out
    (fun pre _ W => Boxed W w2.heap.size 2 (.int .i64 (stN (pre.map encM) q : Int)) ∧ Boxed W Bp 2 (.int .i64 (q : Int)) ∧ Below w.heap.size w W)
    (fun _ _ _ _ => False)
    (fun pre k u X Y row hs hg hr => ⟨hs.1.kept hg (fun e => by have := (hr _ e.symm).1; omega), hs.2.1.kept hg (fun e => by have := (hr _ e.symm).1; omega), hs.2.2.grown hg hs.2.2.size (fun r e => by have := (hr r e).1; omega)⟩)
    (fun _ _ _ _ _ _ _ hs _ _ => hs)
    ⟨hx4, bp, hB4⟩
    (fun x k vx a' W' => (∃ (y0 y1 y2 y4 y5 y6 y9 y10 y11 y12 y13 y14 y15 y16 y17 y18 y19 y20 y21 y22 y23 y24 y25 y26 y27 y28 y29 y30 y31 y32 y33 y34 y35 y36 : Value), a' = { tmps := #[y0, y1, y2, .pointer (some ⟨Bp, 0, none⟩), y4, y5, y6, .pointer (some ⟨w2.heap.size, 0, none⟩), vx, y9, y10, y11, y12, y13, y14, y15, y16, y17, y18, y19, y20, y21, y22, y23, y24, y25, y26, y27, y28, y29, y30, y31, y32, y33, y34, y35, y36], defers := [] }) ∧ RenR (fun i => i = w2.heap.size) n (T3 bs) (T3 bs) x k vx W')
    (fun x k vx a' u X Y row hs hg hr => ⟨hs.1, OwnE.ck hs.2.1 (CK.of_grown hg fun r e => (hr r e).2), hs.2.2⟩) ?assign ?body ?done ?stop
  case assign =>
    intro l' pre x k vx W' K hi hRx hK
    obtain ⟨a9, c9, rfl⟩ := OwnJ.formS hRx.1.1
    simp only [List.zip_toArray, List.zip_cons_cons, List.zip_nil_right, List.size_toArray, List.length_cons, List.length_nil, List.foldl_toArray', List.foldl_cons, List.foldl_nil, List.setIfInBounds_toArray, List.set_cons_succ, List.set_cons_zero]
    gi_wp2
    exact hK _ _ (Kept.refl _ _ _) hi ⟨⟨_, _, _, _, _, _, _, _, _, _, _, _, _, _, _, _, _, _, _, _, _, _, _, _, _, _, _, _, _, _, _, _, _, _, rfl⟩, hRx⟩
  case body =>
    rintro l' pre x k vx a' W' hl' hloop ⟨i1, i2, i3⟩ ⟨⟨y0, y1, y2, y4, y5, y6, y9, y10, y11, y12, y13, y14, y15, y16, y17, y18, y19, y20, y21, y22, y23, y24, y25, y26, y27, y28, y29, y30, y31, y32, y33, y34, y35, y36, rfl⟩, hRx⟩ hlen
    obtain ⟨hRo, f, hfi, rfl⟩ := hRx
    rw [encM_lis] at hRo
    have hlx := castN_lisl n f
    obtain ⟨g9, c9, rfl⟩ := hRo.1.someR (by rw [hlx]; omega)
    have z1 := hRo.1.cellJ (i := q) (by rw [hlx]; exact hqn)
    rw [castN_at f hqn] at z1
    rw [hlx]
    have x1 := i1.cell
    have x2 := i1.frozen
    have x3 := i2.cell
    have hsn := stN_snoc (pre.map encM) (encM (lisR n f)) q
    rw [encM_lis, castN_at f hqn] at hsn
    have hmp : stN (pre.map encM) q ≤ 60000 := Nat.le_trans (stN_le _ _) (by rw [List.length_map]; omega)
    obtain ⟨mm, hmm⟩ : ∃ mm, mm = stN (pre.map encM) q := ⟨_, rfl⟩
    have hmap : (pre ++ [lisR n f]).map encM = pre.map encM ++ [castN (lisN n f)] := by rw [List.map_append, List.map_cons, List.map_nil, encM_lis]
    rw [← hmm] at x1 hsn hmp i1
    obtain ⟨zz, hzz⟩ : ∃ zz, zz = f q := ⟨_, rfl⟩
    rw [← hzz] at z1 hsn
    have fin : ∀ (t : Nat), stN (pre.map encM ++ [castN (lisN n f)]) q = t → Kept w4.heap.size (fun i => i = w2.heap.size) W' (W'.setCell ⟨w2.heap.size, 0, none⟩ (.int .i64 (t : Int))) ∧ Boxed (W'.setCell ⟨w2.heap.size, 0, none⟩ (.int .i64 (t : Int))) w2.heap.size 2 (.int .i64 (stN ((pre ++ [lisR n f]).map encM) q : Int)) ∧ Boxed (W'.setCell ⟨w2.heap.size, 0, none⟩ (.int .i64 (t : Int))) Bp 2 (.int .i64 (q : Int)) ∧ Below w.heap.size w (W'.setCell ⟨w2.heap.size, 0, none⟩ (.int .i64 (t : Int))) := fun t ht => by
      have g1 := set_gb W' w2.heap.size 0 (.int .i64 (t : Int))
      refine ⟨Kept.grown g1 (fun r e => by cases e; rfl), ?_, i2.kept g1 (fun e => by have : Bp = w2.heap.size := by cases e; rfl
                                                                                      omega), i3.setCell (p := ⟨w2.heap.size, 0, none⟩) hww _⟩
      rw [hmap, ht]
      exact i1.set _
    have HFN := Lib.hid fin
    obtain ⟨β, hβ⟩ : ∃ β, β = ((zz : Int) == (q : Int)) := ⟨_, rfl⟩
    obtain ⟨t, ht⟩ : ∃ t : Nat, t = if β = true then 1 else 0 := ⟨_, rfl⟩
    have ht1 : t ≤ 1 := by rw [ht]; split <;> omega
    rw [← hβ, ← ht] at hsn
    have hO1 := fun W => HO.out β W
    rw [show ((if β = true then 1 else 0 : Int)) = (t : Int) by rw [ht]; cases β <;> rfl] at hO1
    have HO1 := Lib.hid hO1
    have HF1 := Lib.hid (HFN.out (mm + t) hsn)
    have hwr : IntKind.i64.wrap ((mm : Int) + (t : Int)) = (mm : Int) + (t : Int) := IntWalk.i64_in _ (by omega)
    have hzb : ((zz : Int) == (q : Int)) = β := hβ.symm
    have hmix : Try.prog.follows .mixedOrders = true := by kernel_rfl
    clear fin hRo hmap hlx hmm hzz HSQ hx4 bp hB4 i1 i2 i3 hlen HFN hsn ht hβ hO1 HO HP HM HX
    gi_wp2
    gi_region_with_o (refine ⟨trivial, ?_⟩; gi_at_call 78; refine (CallsIn.inRound l' (callsIn_wide.2 (HO1.out _))).mono ?_; rintro e w' ⟨rfl, rfl⟩)
    all_goals
      gi_wp2
      rw [show (mm : Int) + (t : Int) = ((mm + t : Nat) : Int) by omega]
      first | exact HF1.out | exact ⟨HF1.out.1, HF1.out.2.1, HF1.out.2.2.1, HF1.out.2.2.2.drew⟩
  case done =>
    rintro D ys k W' hD hys ⟨i1, i2, i3⟩ hK
    have x1 := i1.cell
    rw [hys, ← HM.out] at x1
    have hM5 : Marks w.heap.size W' W'.heap.size [{ target := .collected D, args := #[] }] := ⟨D, rfl, by omega, (Array.getElem?_eq_some_iff.1 hK).1, hK, trivial⟩
    clear HSQ hx4 bp hB4 i1 i2 hK
    gi_wp2
    refine leaves_marks (n0 := w.heap.size) (fun W => Below w.heap.size w W) ?_ ?_ _ W'.heap.size W' hM5 i3
    · rintro W D h2 hD hK
      exact h2.trans (belowK_b (w := w) (Nat.le_refl _) W D _ _ hD hK rfl rfl)
    · rintro W h2
      exact ⟨_, by simp [results, Try.f41, go_sem], RV_of rfl h2⟩
  case stop =>
    rintro D c pre k W' hD hSp h hK
    exact h.elim
set_option maxRecDepth 100000 in
set_option maxHeartbeats 2000000 in
theorem Sta_any (v : Int) (s : Value) (bs : List Blk) (p : Int) (w : World) (h : SB w s bs) : Calls Try.prog 41 #[.agg #[.int .i64 v, s], .int .i64 p] w (RV (stV v bs p) w) := by
  by_cases hc : stCode v bs p = 0
  · have hv : stV v bs p = .tuple #[.int .i64 (stN (autL v.toNat bs) p.toNat : Int), .int .i64 0] := by simp [stV, hc]
    rw [hv]
    unfold stCode at hc
    cases hi : isSysImpl v bs <;> cases hp : inP v p <;> cases hf : fullB v bs <;> simp [hi, hp, hf] at hc
    have h3 := (sys_size hi).1
    have hp2 : 0 ≤ p ∧ p < v := by simpa [inP] using hp
    obtain ⟨n, rfl⟩ : ∃ n : Nat, v = (n : Int) := ⟨v.toNat, by omega⟩
    obtain ⟨q, rfl⟩ : ∃ q : Nat, p = (q : Int) := ⟨p.toNat, by omega⟩
    rw [Int.toNat_natCast, Int.toNat_natCast]
    exact Sta_main n s bs q w h hi hf (by omega)
  · have hv : stV v bs p = .tuple #[.int .i64 0, .int .i64 (stCode v bs p)] := by simp [stV, hc]
    rw [hv]
    have hk : stCode v bs p = if fullC v bs = 1 then 1 else if inP v p then fullC v bs else 2 := by
      unfold stCode fullC
      cases isSysImpl v bs <;> cases inP v p <;> cases fullB v bs <;> simp
    have HFC := Lib.hid fun (B : Nat) W (hb : Below w.heap.size w W) c0 c1 => fullCode_one B v s bs W (h.below hb (Nat.le_refl _)) c0 c1
    have HP := Lib.hid fun W => isPointI_any v p W
    have hor := fullC_or v bs
    obtain ⟨κ, hκ⟩ : ∃ κ, κ = fullC v bs := ⟨_, rfl⟩
    obtain ⟨β, hβ⟩ : ∃ β, β = inP v p := ⟨_, rfl⟩
    obtain ⟨c, hcc⟩ : ∃ c, c = stCode v bs p := ⟨_, rfl⟩
    rw [← hκ] at HFC hk hor
    rw [← hβ] at HP hk
    rw [← hcc] at hk hc ⊢
    obtain ⟨a0, c0, rfl⟩ := h.slice
    have hb0 : Below w.heap.size w (((w.alloc (.cells #[.int .i64 v, .slice a0 bs.length c0] 31)).alloc (.cells #[.int .i64 p] 2)).alloc (.cells #[.int .i64 v, .slice a0 bs.length c0] 31)) := (((Below.refl _ _).alloc (Nat.le_refl _) _).alloc (by simp) _).alloc (by simp <;> omega) _
    have HFI := Lib.hid (HFC.out (w.heap.size + 1 + 1) _ hb0 (by simp [go_sem]) (by simp [go_sem]))
    clear h hκ hβ hcc hv HFC
    rcases hor with rfl | rfl | rfl <;> cases β <;> simp at hk <;> (try (exact absurd hk hc)) <;> subst hk
    all_goals
      go_enter Try.func41, Try.ntmps41
      go_wp2_with fail
      refine HFI.out.mono ?_
      rintro e w1 ⟨rfl, hb1⟩
      have hbw := hb0.trans (hb1.mono (by simp <;> omega))
      have q0 := (hb1.cell (p := ⟨w.heap.size, 0, none⟩) (by simp <;> omega)).trans (by simp [go_sem] : _ = some (Value.int .i64 v))
      have q2 := (hb1.cell (p := ⟨w.heap.size + 1, 0, none⟩) (by simp <;> omega)).trans (by simp [go_sem] : _ = some (Value.int .i64 p))
      clear hb1 HFI
      go_wp2_with (go_at_call 77; refine (HP.out _).mono ?_; rintro e w2 ⟨rfl, rfl⟩)
      go_ret2
      exact RV_of rfl hbw
end Go.Proofs.Ytoicdfdfajfopaa

namespace Go.Proofs.Ytoicdfdfajfopaa
open Go.RowKit Go.Maps
set_option maxRecDepth 100000 in
theorem FnExactStabiliserNumber_long (v : Int) (s : Value) (bs : List Blk) (pk : Int) (w : World) (h : InB w s bs) (hl : ¬ bs.length ≤ 1048576) : Calls Try.prog 10 #[.agg #[.int .i64 v, s], .int .i64 pk] w (RV (.bool true) w) := by
  have hsl := h.slice
  have hbd := h.2.1
  have hsz := szSystem_any v s bs.length hsl (by omega) 1048576 (by omega) (by omega)
  rw [if_pos (by omega)] at hsz
  have HSZ := Lib.hid hsz
  clear hsz h
  obtain ⟨a, c, rfl⟩ := hsl
  go_enter Try.func10, Try.ntmps10
  go_wp2_with (go_at_call 15; refine (HSZ.out _).mono ?_; rintro e w1 ⟨rfl, hb1⟩)
  go_ret
  exact RV_of rfl (((Below.refl _ _).alloc (Nat.le_refl _) _).trans (hb1.mono (by simp)))

set_option maxRecDepth 100000 in
set_option maxHeartbeats 1000000 in
theorem FnExactStabiliserNumber_main (v : Int) (s : Value) (bs : List Blk) (pk : Int) (_h1 : WF pk) (w : World) (h : InB w s bs) (hl : bs.length ≤ 1048576) : Calls Try.prog 10 #[.agg #[.int .i64 v, s], .int .i64 pk] w (RV (.bool true) w) := by
  have hsl := h.slice
  have hbd := h.2.1
  have hsz := szSystem_any v s bs.length hsl (by omega) 1048576 (by omega) (by omega)
  have hsb := h.sb hl
  rw [if_neg (by omega)] at hsz
  obtain ⟨m, hm⟩ : ∃ m, m = (1048576 : Int) - (bs.length : Int) := ⟨_, rfl⟩
  rw [← hm] at hsz
  have hm0 : 0 ≤ m := by omega
  have HSZ := Lib.hid hsz
  have HSB := Lib.hid hsb
  have hwf := h.1
  have HWF := Lib.hid hwf
  have HBD := Lib.hid (show bs.length ≤ 1100000 by omega)
  clear hsz hsb hm h hl hbd hwf
  have hsp : ∀ (W : World) (t : Value), SB W t bs → Calls Try.prog 40 #[.agg #[.int .i64 v, t], .int .i64 pk] W (RV (stV v bs pk) W) := fun W t ht => specSta_any v t bs pk W ht
  have him : ∀ (W : World) (t : Value), SB W t bs → Calls Try.prog 41 #[.agg #[.int .i64 v, t], .int .i64 pk] W (RV (stV v bs pk) W) := fun W t ht => Sta_any v t bs pk W ht
  obtain ⟨η, κ, hval⟩ : ∃ η κ, stV v bs pk = .tuple #[.int .i64 η, .int .i64 κ] := by
    unfold stV
    repeat (first | exact ⟨_, _, rfl⟩ | split)
  rw [hval] at hsp him
  have HSP := Lib.hid hsp
  have HIM := Lib.hid him
  clear hval hsp him
  have hne1 : (η != η) = false := by simp
  have hne2 : (κ != κ) = false := by simp
  obtain ⟨a, c, rfl⟩ := hsl
  go_enter Try.func10, Try.ntmps10
  go_wp2_with fail
  refine (HSZ.out _).mono ?_
  rintro e w1 ⟨rfl, hb1⟩
  have p0 := cell_new hb1 0 rfl
  have p1 := cell_new hb1 1 rfl
  have hz1 := hb1.size
  simp at hz1
  have hbw : Below w.heap.size w w1 := ((Below.refl _ _).alloc (Nat.le_refl _) _).trans (hb1.mono (by simp))
  clear hb1
  go_wp2_with fail
  refine (toSystem_any v _ bs _ (HSB.out.below hbw (Nat.le_refl _))).mono ?_
  rintro e w2 ⟨s2, rfl, ho2, hb2⟩
  have hsb2 := ho2.sb HWF.out HBD.out
  go_wp2_with fail
  refine (HSP.out _ _ hsb2).mono ?_
  rintro e w3 ⟨rfl, hb3⟩
  have hb13 := hb2.trans (hb3.mono hb2.size)
  have p0' := (hb13.cell (p := ⟨w.heap.size, 0, none⟩) (by show w.heap.size < _; omega)).trans p0
  have p1' := (hb13.cell (p := ⟨w.heap.size, 1, none⟩) (by show w.heap.size < _; omega)).trans p1
  have hz3 := hb13.size
  have hbw3 := hbw.trans (hb13.mono (by omega))
  clear p0 p1 hb2 hb3 hb13 ho2 hsb2 hbw
  go_wp2_with fail
  refine (toSystem_any v _ bs _ (HSB.out.below hbw3 (Nat.le_refl _))).mono ?_
  rintro e w4 ⟨s4, rfl, ho4, hb4⟩
  obtain ⟨g, cap, hs4, h41, h42, h43, h44⟩ := id ho4
  subst hs4
  have p0 := (hb4.cell (p := ⟨w.heap.size, 0, none⟩) (by show w.heap.size < _; omega)).trans p0'
  have p1 := (hb4.cell (p := ⟨w.heap.size, 1, none⟩) (by show w.heap.size < _; omega)).trans p1'
  have hz4 := hb4.size
  have hbw4 := hbw3.trans (hb4.mono (by omega))
  have hsb4 := ho4.sb HWF.out HBD.out
  clear p0' p1' hb4 hbw3 h41 h43 h44 ho4
  go_wp2_with fail
  refine (HIM.out _ _ (hsb4.below ((Below.refl _ _).alloc (Nat.le_refl _) _) (Nat.le_refl _))).mono ?_
  rintro e w5 ⟨rfl, hb5⟩
  have q0 := cell_new hb5 0 rfl
  have q1 := cell_new hb5 1 rfl
  have p0' := (hb5.cell (p := ⟨w.heap.size, 0, none⟩) (by simp; omega)).trans (cell_past p0 (by omega))
  have p1' := (hb5.cell (p := ⟨w.heap.size, 1, none⟩) (by simp; omega)).trans (cell_past p1 (by omega))
  have hz5 := hb5.size
  simp at hz5
  have hbw5 := (hbw4.alloc hbw4.size _).trans (hb5.mono (by simp; omega))
  have hsb5 := hsb4.below (((Below.refl _ _).alloc (Nat.le_refl _) _).trans (hb5.mono (by simp))) (Nat.le_refl _)
  clear p0 p1 hb5 hbw4 hsb4
  go_wp2
  go_region_with (first | (go_at_call 17; refine (toSystem_any v _ bs _ ?_).mono ?_; (exact HSB.out.below hbw5.drew (Nat.le_refl _)); rintro e w6 ⟨s6, rfl, ho6, hb6⟩; obtain ⟨g6, cap6, hs6, h61, h62, h63, h64⟩ := id ho6; subst hs6; have hsb6 := ho6.sb HWF.out HBD.out; have hsb56 := hsb5.below (Below.trans (Below.refl _ _).drew hb6) (Nat.le_refl _); have r0 := (hb6.cell (p := ⟨w4.heap.size, 0, none⟩) (by show w4.heap.size < _; simp; omega)).trans q0; have r1 := (hb6.cell (p := ⟨w4.heap.size, 1, none⟩) (by show w4.heap.size < _; simp; omega)).trans q1) | (go_at_call 20; refine (eqSystem_same v _ _ bs _ ?_ ?_).mono ?_; (exact hsb56); (exact hsb6); rintro e w7 ⟨rfl, hb7⟩))
  all_goals go_wp2
  all_goals go_ret
  all_goals exact RV_of rfl (hbw5.drew.trans ((hb6.mono (by simp; omega)).trans (hb7.mono (by have := hb6.size; simp at this; omega))))

theorem FnExactStabiliserNumber_any (v : Int) (s : Value) (bs : List Blk) (pk : Int) (_h1 : WF pk) (w : World) (h : InB w s bs) : Calls Try.prog 10 #[.agg #[.int .i64 v, s], .int .i64 pk] w (RV (.bool true) w) := by
  by_cases hl : bs.length ≤ 1048576
  · exact FnExactStabiliserNumber_main v s bs pk _h1 w h hl
  · exact FnExactStabiliserNumber_long v s bs pk w h hl
end Go.Proofs.Ytoicdfdfajfopaa

namespace Go.Proofs.Ytoicdfdfajfopaa
open Go.ChangeShapes Go.WideShapes Go.ChangeAt Go.RowKit Go.Deep Go.Joins
theorem ownKnobs : ownKnob Try.prog.godebug = none := by kernel_rfl
section
variable {H : Type} {enc : TypeId × Value → H} {W : World} {base : Nat} {held : Bool}
theorem arrCells : Try.prog.cellsOf 70 = 3 := by kernel_rfl
set_option maxRecDepth 100000 in
theorem open_arr3 {fuel : Nat} {cs : List Value} {x : DataW H × List MemPlace} (h : DataW.trod enc Try.prog W base (fun _ => true) held fuel 70 cs = some x) :
    ∃ a b c : Int, cs = [.int .i64 a, .int .i64 b, .int .i64 c] ∧ (Lit.int .i64 a).wf = true ∧ (Lit.int .i64 b).wf = true ∧ (Lit.int .i64 c).wf = true := by
  obtain ⟨xs, m, rfl, rfl, hl, hx, hat⟩ := DataW.trod_array Try.underlying70 h
  rw [arrCells] at hl
  match cs, hl with
  | [c0, c1, c2], _ =>
    match xs, hx with
    | [x0, x1, x2], _ =>
      have h0 := hat 0 (by omega)
      have h1 := hat 1 (by omega)
      have h2 := hat 2 (by omega)
      rw [int64Cells] at h0 h1 h2
      simp at h0 h1 h2
      obtain ⟨a, ha, _, wa⟩ := DataW.trod_int Try.underlying2 h0
      obtain ⟨b, hb, _, wb⟩ := DataW.trod_int Try.underlying2 h1
      obtain ⟨c, hc, _, wc⟩ := DataW.trod_int Try.underlying2 h2
      simp at ha hb hc
      exact ⟨a, b, c, by rw [ha, hb, hc], wa, wb, wc⟩
theorem add_at (b off i : Nat) : (⟨b, off, none⟩ : Addr).add i = ⟨b, off + i, none⟩ := by
  unfold Addr.add
  split
  · subst_vars; rfl
  · rfl
set_option maxRecDepth 100000 in
theorem open_arrs {fuel : Nat} {s : Value} {x : DataW H × List MemPlace} (h : DataW.trod enc Try.prog W base (fun _ => true) held fuel 22 [s] = some x) : ∃ bs, InB W s bs := by
  rcases open_slice Try.underlying22 h with ⟨hcs, _⟩ | ⟨a, len, cap, m, n, D, Pl, hcs, hb, hl, hm, hmm, hx, hi⟩
  · simp at hcs
    exact ⟨[], by simp, by simp, .inl ⟨none, 0, hcs, rfl⟩⟩
  · simp at hcs
    subst hcs
    simp at hmm
    subst hmm
    have hm' : m ≤ 9223372036854775807 := by unfold maxLen at hm; exact hm
    by_cases h0 : len = 0
    · subst h0
      exact ⟨[], by simp, by simp, .inl ⟨_, _, rfl, rfl⟩⟩
    · have cell : ∀ i, i < m → ∃ y : Blk, WFB y ∧ ∀ j (v : Value), [Value.int .i64 y.a, Value.int .i64 y.b, Value.int .i64 y.c][j]? = some v → W.cell? (a.add (i * 3 + j)) = some v := fun i him => by
        obtain ⟨cs', hc, ht⟩ := hi i him
        obtain ⟨p, q, r, rfl, wp, wq, wr⟩ := open_arr3 ht
        rw [arrCells] at hc
        obtain ⟨_, _, hat⟩ := World.cells?_some hc
        refine ⟨⟨p, q, r⟩, ⟨wp, wq, wr⟩, fun j v hv => ?_⟩
        have hj : j < 3 := by
          have := (List.getElem?_eq_some_iff.1 hv).1
          simpa using this
        rw [← Go.Deep.add_add, hat j hj]
        exact hv
      obtain ⟨F, hF⟩ := choose_lt (α := Blk) cell
      obtain ⟨b, off, spot⟩ := a
      have hc0 := (hF 0 (by omega)).2 0 _ rfl
      have hspot : spot = none := by simpa [Addr.add] using World.cell?_spot hc0
      subst hspot
      refine ⟨(List.range len).map F, ?_, by simp; omega, .inr ⟨b, off, m, by simp, ?_, ?_⟩⟩
      · intro y hy
        obtain ⟨i, hi', rfl⟩ := List.mem_map.1 hy
        exact (hF i (by have := List.mem_range.1 hi'; omega)).1
      · exact block_lt_of_cell hc0
      · intro k hk
        simp at hk
        have e : ((List.range len).map F)[k]?.getD default = F k := by simp [hk]
        rw [e]
        have := (hF k (by omega)).2
        refine ⟨?_, ?_, ?_⟩
        · have h0 := this 0 _ rfl
          rw [add_at] at h0
          exact h0
        · have h1 := this 1 _ rfl
          rw [add_at, ← Nat.add_assoc] at h1
          exact h1
        · have h2 := this 2 _ rfl
          rw [add_at, ← Nat.add_assoc] at h2
          exact h2
theorem isSys : ∃ f0 f1 : Field, Try.prog.underlying 24 = some (.struct #[f0, f1]) ∧ f0.type = 2 ∧ f1.type = 22 ∧ oneCellFields Try.prog #[f0, f1] = true :=
  ⟨_, _, Try.underlying24, rfl, rfl, by kernel_rfl⟩
theorem sysCells : Try.prog.cellsOf 24 = 2 := by kernel_rfl
set_option maxRecDepth 100000 in
theorem open_system {r : Reach} {b0 : Nat} {v : Value} {d : DataW H} {p : List MemPlace} (hv : Value.okWide Try.prog W r b0 24 v) (h : DataW.Trod enc Try.prog W base (fun _ => true) held 24 v d p) :
    ∃ (n : Int) (s : Value) (bs : List Blk), v = .agg #[.int .i64 n, s] ∧ WF n ∧ InB W s bs := by
  obtain ⟨f0, f1, hu, e0, e1, hone⟩ := isSys
  obtain ⟨v0, v1, y0, y1, n, rfl, _, _, h0, h1⟩ := open_agg2 hu hone sysCells hv h
  rw [e0] at h0
  rw [e1] at h1
  obtain ⟨k, hk, _, wk⟩ := DataW.trod_int Try.underlying2 h0
  simp at hk
  subst hk
  obtain ⟨bs, hbs⟩ := open_arrs h1
  exact ⟨k, v1, bs, rfl, wk, hbs⟩
end
end Go.Proofs.Ytoicdfdfajfopaa

namespace Go.Proofs.Ytoicdfdfajfopaa
set_option maxRecDepth 100000 in
noncomputable def iniP : { L : List Char // Try.prog.initOrder = String.ofList L } := ⟨_, by unfold Try.prog; rfl⟩
theorem iniL : Try.prog.initOrder.toList = iniP.1 := (congrArg String.toList iniP.2).trans String.toList_ofList
theorem words_cons (c : Char) (r : List Char) (h : c ≠ Char.ofNat 32) : wordsSigns (c :: r) = match wordsSigns r with | w :: ws => (c :: w) :: ws | [] => [[c]] := by
  rw [wordsSigns]
  all_goals first | rfl | exact h | (intro e; exact h e)
theorem words_word : ∀ (a b : List Char), (a.all fun c => c != Char.ofNat 32) = true → wordsSigns (a ++ Char.ofNat 32 :: b) = a :: wordsSigns b
  | [], b, _ => rfl
  | c :: a, b, h => by
    simp only [List.all_cons, Bool.and_eq_true, bne_iff_ne, ne_eq] at h
    rw [List.cons_append, words_cons _ _ h.1, words_word a b (by simpa using h.2)]
set_option maxRecDepth 100000 in
theorem split1 : iniP.1 = iniP.1.take 7 ++ Char.ofNat 32 :: iniP.1.drop 8 := by kernel_rfl
set_option maxRecDepth 100000 in
theorem split2 : iniP.1.drop 8 = (iniP.1.drop 8).take 64 ++ Char.ofNat 32 :: iniP.1.drop 73 := by kernel_rfl
set_option maxRecDepth 100000 in
theorem split3 : iniP.1.drop 73 = (iniP.1.drop 73).take 3 ++ Char.ofNat 32 :: iniP.1.drop 77 := by kernel_rfl
theorem isCut : (iniP.1.drop 73).take 3 = "cut".toList := by kernel_rfl
set_option maxRecDepth 100000 in
theorem isHead : ((iniP.1.take 7 == "harness".toList || iniP.1.take 7 == "ownmain".toList) && isSumSigns ((iniP.1.drop 8).take 64)) = true := by kernel_rfl
theorem wordsL : wordsSigns iniP.1 = iniP.1.take 7 :: (iniP.1.drop 8).take 64 :: "cut".toList :: wordsSigns (iniP.1.drop 77) := by
  rw [← isCut]
  conv => lhs; rw [split1]
  rw [words_word _ _ (by kernel_rfl)]
  conv => lhs; rw [split2]
  rw [words_word _ _ (by kernel_rfl)]
  conv => lhs; rw [split3]
  rw [words_word _ _ (by kernel_rfl)]
theorem behindL : behindMainWord (wordsSigns Try.prog.initOrder.toList) = "cut".toList :: wordsSigns (iniP.1.drop 77) := by
  rw [iniL, wordsL]
  unfold behindMainWord
  simp only [isHead, if_true]
theorem stripL (ws : List (List Char)) : stripLifts liftWords ("cut".toList :: ws) = ([], "cut".toList :: ws) := by kernel_rfl
section
variable (P : Program) (ws : List (List Char)) (h : behindMainWord (wordsSigns P.initOrder.toList) = "cut".toList :: ws)
include h
theorem head_of : P.headLifts = [] := by
  unfold Program.headLifts
  rw [h]
  simp only [stripL]
  kernel_rfl
theorem make_of : P.make = some .cut := by
  unfold Program.make
  rw [h, head_of P ws h]
  kernel_rfl
theorem lifts_of : P.liftsFinal = false := by
  unfold Program.liftsFinal
  rw [h, head_of P ws h]
  kernel_rfl
theorem enter_of (h1 : P.laysLater = false) (h2 : P.bearsReflect = false) (h3 : P.doorFits [] = true) : P.mayEnter = true := by
  unfold Program.mayEnter
  rw [h]
  simp only [stripL]
  rw [h1, h2, h3]
  kernel_rfl
end
theorem mayE : Try.pinned.checked.prog.mayEnter = true := enter_of _ _ behindL (by kernel_rfl) (by kernel_rfl) (by kernel_rfl)
theorem liftsF : Try.pinned.checked.prog.liftsFinal = false := lifts_of _ _ behindL
theorem makeF : Try.pinned.checked.prog.make = some .cut := make_of _ _ behindL
theorem both {a b : Bool} (h : a = true) (k : b = true) : (a && b) = true := by rw [h, k]; rfl
end Go.Proofs.Ytoicdfdfajfopaa

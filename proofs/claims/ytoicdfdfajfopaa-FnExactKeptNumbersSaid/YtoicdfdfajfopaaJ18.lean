
/- The model's first renumbering. The model's stabiliser number. The model's stabiliser number: the walk. oneIf. The program's stabiliser number. Kept points, plain, and the program's count of them. The model's numbers of automorphisms by kept points. -/
import Derived.Test.YtoicdfdfajfopaaJ17
import Derived.Deep.RegionWith
import Derived.Deep.RegionHeld3
import Derived.Deep.Cut
import Derived.Deep.DeepCutAuto
namespace Go.Proofs.Ytoicdfdfajfopaa
open Go.RowKit Go.Maps
def finF (v1 : Int) (bs1 : List Blk) (v2 : Int) (bs2 : List Blk) : List Int × Int := if code2 v1 bs1 v2 bs2 = 0 then (if v1 = v2 then (match isoL v1.toNat (T3 bs1) (T3 bs2) with
    | [] => ([], 4)
    | z :: _ => (z, 0)) else ([], 4)) else ([], code2 v1 bs1 v2 bs2)
theorem isoL_row {n : Nat} {T1 T2 : Nat → Nat → Nat} (h1 : Thd n T1) (h2 : Thd n T2) {z : List Int} (hz : z ∈ isoL n T1 T2) : ∃ f, IsoR n T1 T2 f ∧ z = castN (lisN n f) := by
  obtain ⟨x, hx, rfl⟩ := List.mem_map.1 hz
  obtain ⟨f, hf, _, rfl⟩ := (goM_mem h1 h2 n [] (by simp) ⟨by simp, by simp, by simp⟩ x).1 hx
  exact ⟨f, hf, rfl⟩
theorem isoL_rowlen {n : Nat} {T1 T2 : Nat → Nat → Nat} (h1 : Thd n T1) (h2 : Thd n T2) {z : List Int} (hz : z ∈ isoL n T1 T2) : z.length = n := by
  obtain ⟨f, _, rfl⟩ := isoL_row h1 h2 hz
  simp [castN, lisN]
theorem goS_first {n : Nat} {T1 T2 : Nat → Nat → Nat} : (goS n T1 T2 (fun _ => true) 1 n [] []).map castN = (isoL n T1 T2).take 1 := by
  rw [goS_one, List.filter_eq_self.2 (fun _ _ => rfl), isoL, List.map_take]
set_option maxRecDepth 100000 in
set_option maxHeartbeats 4000000 in
theorem specFind_any (v1 v2 : Int) (s1 s2 : Value) (bs1 bs2 : List Blk) (w : World) (h1 : SB w s1 bs1) (h2 : SB w s2 bs2) : Calls Try.prog 22 #[.agg #[.int .i64 v1, s1], .agg #[.int .i64 v2, s2]] w (RJ (finF v1 bs1 v2 bs2) w) := by
  have hfc := fun W hb B c0 c1 c2 c3 => l06Code_two B v1 v2 s1 s2 bs1 bs2 W (h1.below (w' := W) hb (Nat.le_refl _)) (h2.below (w' := W) hb (Nat.le_refl _)) c0 c1 c2 c3
  obtain ⟨W1, hW1⟩ : ∃ W1, W1 = ((w.alloc (.cells #[.int .i64 v1, s1] 31)).alloc (.cells #[.int .i64 v2, s2] 31)).alloc (.cells #[.int .i64 v1, s1, .int .i64 v2, s2] 31) := ⟨_, rfl⟩
  have hB1 : Below w.heap.size w W1 := by rw [hW1]; exact (((Below.refl _ _).alloc (Nat.le_refl _) _).alloc (by simp) _).alloc (by simp <;> omega) _
  obtain ⟨a1, c1, rfl⟩ := h1.slice
  obtain ⟨a2, c2, rfl⟩ := h2.slice
  have q0 : W1.cell? ⟨w.heap.size, 0, none⟩ = some (.int .i64 v1) := by rw [hW1]; simp [go_sem]
  have q1 : W1.cell? ⟨w.heap.size, 1, none⟩ = some (.slice a1 bs1.length c1) := by rw [hW1]; simp [go_sem]
  have r0 : W1.cell? ⟨w.heap.size + 1, 0, none⟩ = some (.int .i64 v2) := by rw [hW1]; simp [go_sem]
  have r1 : W1.cell? ⟨w.heap.size + 1, 1, none⟩ = some (.slice a2 bs2.length c2) := by rw [hW1]; simp [go_sem]
  have hz1 : W1.heap.size = w.heap.size + 1 + 1 + 1 := by rw [hW1]; simp
  have hcall := hfc W1 hB1 (w.heap.size + 1 + 1) (by rw [hW1]; simp [go_sem]) (by rw [hW1]; simp [go_sem]) (by rw [hW1]; simp [go_sem]) (by rw [hW1]; simp [go_sem])
  clear hfc
  by_cases hc : code2 v1 bs1 v2 bs2 = 0
  · obtain ⟨i1, f1, i2, f2⟩ := code2_ok hc
    rw [hc] at hcall
    have HCL := Lib.hid hcall
    by_cases hv : v1 = v2
    · subst hv
      obtain ⟨n, rfl⟩ : ∃ n : Nat, v1 = (n : Int) := ⟨v1.toNat, by have := (sys_size i1).1; omega⟩
      have hn3 := (sys_size i1).1
      have hn15 := (sys_size i1).2.1
      have hbt := fun W (hb : Below w.heap.size w W) => l06Between_any n 1 (.slice a1 bs1.length c1) (.slice a2 bs2.length c2) bs1 bs2 false (fun _ => true) W (h1.below hb (Nat.le_refl _)) (h2.below hb (Nat.le_refl _)) i1 f1 i2 f2 (by omega) (by omega) (.inl ⟨rfl, fun _ => rfl⟩)
      have hgl : (goS n (T3 bs1) (T3 bs2) (fun _ => true) 1 n [] []).length = ((isoL n (T3 bs1) (T3 bs2)).take 1).length := by rw [← goS_first, List.length_map]
      rw [goS_first, hgl] at hbt
      have HBT := Lib.hid hbt
      have hrl : ∀ z ∈ isoL n (T3 bs1) (T3 bs2), z.length = n := fun z hz => isoL_rowlen (thdS i1 f1) (thdS i2 f2) hz
      have hval : finF (n : Int) bs1 (n : Int) bs2 = (match isoL n (T3 bs1) (T3 bs2) with | [] => ([], 4) | z :: _ => (z, 0)) := by
        unfold finF
        rw [if_pos hc, if_pos rfl, Int.toNat_natCast]
      rw [hval]
      clear hval hcall hbt hgl i1 f1 i2 f2 h1 h2 hc
      generalize isoL n (T3 bs1) (T3 bs2) = L at HBT hrl
      cases L with
      | nil =>
        show Calls _ _ _ _ (RJ ([], 4) w)
        clear hrl
        go_enter Try.func22, Try.ntmps22
        go_wp2_with fail
        rw [← hW1]
        refine HCL.out.mono ?_
        rintro e w2 ⟨rfl, hb2⟩
        have hB2 := hB1.trans (hb2.mono hB1.size)
        have q0 := (hb2.cell (p := ⟨w.heap.size, 0, none⟩) (show w.heap.size < W1.heap.size by omega)).trans q0
        have q1 := (hb2.cell (p := ⟨w.heap.size, 1, none⟩) (show w.heap.size < W1.heap.size by omega)).trans q1
        have r0 := (hb2.cell (p := ⟨w.heap.size + 1, 0, none⟩) (show w.heap.size + 1 < W1.heap.size by omega)).trans r0
        have r1 := (hb2.cell (p := ⟨w.heap.size + 1, 1, none⟩) (show w.heap.size + 1 < W1.heap.size by omega)).trans r1
        clear hb2 hW1 hB1 HCL
        go_wp2_with fail
        refine (HBT.out _ hB2).mono ?_
        rintro e w3 ⟨u, us, rfl, hT, hu, hb3⟩
        obtain ⟨a5, c5, rfl⟩ := hu
        have hB3 := hB2.trans (hb3.mono hB2.size)
        clear hT hb3 HBT
        go_wp2
        go_ret2
        exact ⟨_, rfl, OwnJ.nil _ _, hB3⟩
      | cons z L =>
        show Calls _ _ _ _ (RJ (z, 0) w)
        have hzl := hrl z (by simp)
        have HZ := Lib.hid hzl
        clear hrl hzl
        go_enter Try.func22, Try.ntmps22
        go_wp2_with fail
        rw [← hW1]
        refine HCL.out.mono ?_
        rintro e w2 ⟨rfl, hb2⟩
        have hB2 := hB1.trans (hb2.mono hB1.size)
        have q0 := (hb2.cell (p := ⟨w.heap.size, 0, none⟩) (show w.heap.size < W1.heap.size by omega)).trans q0
        have q1 := (hb2.cell (p := ⟨w.heap.size, 1, none⟩) (show w.heap.size < W1.heap.size by omega)).trans q1
        have r0 := (hb2.cell (p := ⟨w.heap.size + 1, 0, none⟩) (show w.heap.size + 1 < W1.heap.size by omega)).trans r0
        have r1 := (hb2.cell (p := ⟨w.heap.size + 1, 1, none⟩) (show w.heap.size + 1 < W1.heap.size by omega)).trans r1
        clear hb2 hW1 hB1 HCL
        go_wp2_with fail
        refine (HBT.out _ hB2).mono ?_
        rintro e w3 ⟨u, us, rfl, hT, -, hb3⟩
        have hB3 := hB2.trans (hb3.mono hB2.size)
        have hb2z := hB2.size
        obtain ⟨G, c, g, cap, rfl, e1, e2, e3, e4, e5, e6⟩ := hT.at_ (k := 0) (by simp) (by simp [HZ.out]; omega) (by simp [HZ.out]; omega)
        have ho := hT.row 0 _ e4
        simp only [List.take_succ_cons, List.take_zero, List.getElem?_cons_zero, Option.getD_some, List.length_cons, List.length_nil] at e2 e4 e5 ho ⊢
        have HOZ := Lib.hid (ho.baseP (b' := w.heap.size) (by omega))
        clear hT hb3 HBT ho e5 e4
        go_wp2
        go_ret2
        exact ⟨_, rfl, HOZ.out, hB3⟩
    · have hval : finF v1 bs1 v2 bs2 = ([], 4) := by
        unfold finF
        rw [if_pos hc, if_neg hv]
      rw [hval]
      have hne : (v1 != v2) = true := by simpa using hv
      clear hval hcall i1 f1 i2 f2 h1 h2 hc
      go_enter Try.func22, Try.ntmps22
      go_wp2_with fail
      rw [← hW1]
      refine HCL.out.mono ?_
      rintro e w2 ⟨rfl, hb2⟩
      have hB2 := hB1.trans (hb2.mono hB1.size)
      have q0 := (hb2.cell (p := ⟨w.heap.size, 0, none⟩) (show w.heap.size < W1.heap.size by omega)).trans q0
      have r0 := (hb2.cell (p := ⟨w.heap.size + 1, 0, none⟩) (show w.heap.size + 1 < W1.heap.size by omega)).trans r0
      clear hb2 hW1 hB1 HCL
      go_wp2
      go_ret2
      exact ⟨_, rfl, OwnJ.nil _ _, hB2⟩
  · have hval : finF v1 bs1 v2 bs2 = ([], code2 v1 bs1 v2 bs2) := by
      unfold finF
      rw [if_neg hc]
    rw [hval]
    obtain ⟨k, hk⟩ : ∃ k, k = code2 v1 bs1 v2 bs2 := ⟨_, rfl⟩
    rw [← hk] at hcall hc ⊢
    have HCL := Lib.hid hcall
    have hk1 : (k != 0) = true := by simpa using hc
    clear hval hcall h1 h2 hk q0 q1 r0 r1
    go_enter Try.func22, Try.ntmps22
    go_wp2_with fail
    rw [← hW1]
    refine HCL.out.mono ?_
    rintro e w2 ⟨rfl, hb2⟩
    have hB2 := hB1.trans (hb2.mono hB1.size)
    clear hb2 hW1 hB1 HCL
    go_wp2
    go_ret2
    exact ⟨_, rfl, OwnJ.nil _ _, hB2⟩
theorem finF_len (v1 : Int) (bs1 : List Blk) (v2 : Int) (bs2 : List Blk) : (finF v1 bs1 v2 bs2).1.length ≤ 15 := by
  unfold finF
  split
  · rename_i hc
    split
    · rename_i hv
      subst hv
      obtain ⟨i1, f1, i2, f2⟩ := code2_ok hc
      obtain ⟨n, rfl⟩ : ∃ n : Nat, v1 = (n : Int) := ⟨v1.toNat, by have := (sys_size i1).1; omega⟩
      have hn15 := (sys_size i1).2.1
      rw [Int.toNat_natCast]
      have hl : ∀ z ∈ isoL n (T3 bs1) (T3 bs2), z.length = n := fun z hz => isoL_rowlen (thdS i1 f1) (thdS i2 f2) hz
      cases hL : isoL n (T3 bs1) (T3 bs2) with
      | nil => simp
      | cons z L =>
        have := hl z (by rw [hL]; simp)
        show z.length ≤ 15
        omega
    · simp
  · simp
/-- What the model says of being isomorphic. -/
def isoF (v1 : Int) (bs1 : List Blk) (v2 : Int) (bs2 : List Blk) : Bool × Int := if code2 v1 bs1 v2 bs2 = 0 then (decide (v1 = v2) && !(isoL v1.toNat (T3 bs1) (T3 bs2)).isEmpty, 0) else (false, code2 v1 bs1 v2 bs2)
theorem isoF_find (v1 : Int) (bs1 : List Blk) (v2 : Int) (bs2 : List Blk) : isoF v1 bs1 v2 bs2 = if (finF v1 bs1 v2 bs2).2 = 4 then (false, 0) else (decide ((finF v1 bs1 v2 bs2).2 = 0), (finF v1 bs1 v2 bs2).2) := by
  unfold isoF finF
  rcases code2_or v1 bs1 v2 bs2 with h | h | h
  · rw [if_pos h, if_pos h]
    by_cases hv : v1 = v2
    · rw [if_pos hv]
      cases isoL v1.toNat (T3 bs1) (T3 bs2) <;> simp [hv]
    · rw [if_neg hv]
      simp [hv]
  · simp [h]
  · simp [h]
set_option maxRecDepth 100000 in
set_option maxHeartbeats 4000000 in
theorem specIso_any (v1 v2 : Int) (s1 s2 : Value) (bs1 bs2 : List Blk) (w : World) (h1 : SB w s1 bs1) (h2 : SB w s2 bs2) : Calls Try.prog 27 #[.agg #[.int .i64 v1, s1], .agg #[.int .i64 v2, s2]] w (RV (boolCode (isoF v1 bs1 v2 bs2).1 (isoF v1 bs1 v2 bs2).2) w) := by
  have hfc := fun W hb B c0 c1 c2 c3 => l06Code_two B v1 v2 s1 s2 bs1 bs2 W (h1.below (w' := W) hb (Nat.le_refl _)) (h2.below (w' := W) hb (Nat.le_refl _)) c0 c1 c2 c3
  obtain ⟨W1, hW1⟩ : ∃ W1, W1 = ((w.alloc (.cells #[.int .i64 v1, s1] 31)).alloc (.cells #[.int .i64 v2, s2] 31)).alloc (.cells #[.int .i64 v1, s1, .int .i64 v2, s2] 31) := ⟨_, rfl⟩
  have hB1 : Below w.heap.size w W1 := by rw [hW1]; exact (((Below.refl _ _).alloc (Nat.le_refl _) _).alloc (by simp) _).alloc (by simp <;> omega) _
  obtain ⟨a1, c1, rfl⟩ := h1.slice
  obtain ⟨a2, c2, rfl⟩ := h2.slice
  have q0 : W1.cell? ⟨w.heap.size, 0, none⟩ = some (.int .i64 v1) := by rw [hW1]; simp [go_sem]
  have q1 : W1.cell? ⟨w.heap.size, 1, none⟩ = some (.slice a1 bs1.length c1) := by rw [hW1]; simp [go_sem]
  have r0 : W1.cell? ⟨w.heap.size + 1, 0, none⟩ = some (.int .i64 v2) := by rw [hW1]; simp [go_sem]
  have r1 : W1.cell? ⟨w.heap.size + 1, 1, none⟩ = some (.slice a2 bs2.length c2) := by rw [hW1]; simp [go_sem]
  have hz1 : W1.heap.size = w.heap.size + 1 + 1 + 1 := by rw [hW1]; simp
  have hcall := hfc W1 hB1 (w.heap.size + 1 + 1) (by rw [hW1]; simp [go_sem]) (by rw [hW1]; simp [go_sem]) (by rw [hW1]; simp [go_sem]) (by rw [hW1]; simp [go_sem])
  clear hfc
  by_cases hc : code2 v1 bs1 v2 bs2 = 0
  · obtain ⟨i1, f1, i2, f2⟩ := code2_ok hc
    rw [hc] at hcall
    have HCL := Lib.hid hcall
    by_cases hv : v1 = v2
    · subst hv
      obtain ⟨n, rfl⟩ : ∃ n : Nat, v1 = (n : Int) := ⟨v1.toNat, by have := (sys_size i1).1; omega⟩
      have hn3 := (sys_size i1).1
      have hn15 := (sys_size i1).2.1
      have hbt := fun W (hb : Below w.heap.size w W) => l06Between_any n 1 (.slice a1 bs1.length c1) (.slice a2 bs2.length c2) bs1 bs2 false (fun _ => true) W (h1.below hb (Nat.le_refl _)) (h2.below hb (Nat.le_refl _)) i1 f1 i2 f2 (by omega) (by omega) (.inl ⟨rfl, fun _ => rfl⟩)
      have hgl : (goS n (T3 bs1) (T3 bs2) (fun _ => true) 1 n [] []).length = ((isoL n (T3 bs1) (T3 bs2)).take 1).length := by rw [← goS_first, List.length_map]
      rw [hgl] at hbt
      have HBT := Lib.hid hbt
      have hval : isoF (n : Int) bs1 (n : Int) bs2 = (!(isoL n (T3 bs1) (T3 bs2)).isEmpty, 0) := by
        unfold isoF
        rw [if_pos hc, Int.toNat_natCast]
        simp
      rw [hval]
      obtain ⟨m, hm⟩ : ∃ m, m = ((isoL n (T3 bs1) (T3 bs2)).take 1).length := ⟨_, rfl⟩
      have hm1 : m ≤ 1 := by rw [hm, List.length_take]; omega
      have hme : (!(isoL n (T3 bs1) (T3 bs2)).isEmpty) = decide (0 < m) := by
        rw [hm]
        cases isoL n (T3 bs1) (T3 bs2) <;> simp
      rw [hme]
      rw [← hm] at HBT
      unfold boolCode
      clear hval hcall hbt hgl i1 f1 i2 f2 h1 h2 hc hm hme
      have hdec : decide ((m : Int) > 0) = decide (0 < m) := by simp
      obtain ⟨β, hβ⟩ : ∃ β, β = decide (0 < m) := ⟨_, rfl⟩
      rw [← hβ] at hdec ⊢
      clear hβ
      go_enter Try.func27, Try.ntmps27
      go_wp2_with fail
      rw [← hW1]
      refine HCL.out.mono ?_
      rintro e w2 ⟨rfl, hb2⟩
      have hB2 := hB1.trans (hb2.mono hB1.size)
      have q0 := (hb2.cell (p := ⟨w.heap.size, 0, none⟩) (show w.heap.size < W1.heap.size by omega)).trans q0
      have q1 := (hb2.cell (p := ⟨w.heap.size, 1, none⟩) (show w.heap.size < W1.heap.size by omega)).trans q1
      have r0 := (hb2.cell (p := ⟨w.heap.size + 1, 0, none⟩) (show w.heap.size + 1 < W1.heap.size by omega)).trans r0
      have r1 := (hb2.cell (p := ⟨w.heap.size + 1, 1, none⟩) (show w.heap.size + 1 < W1.heap.size by omega)).trans r1
      clear hb2 hW1 hB1 HCL
      go_wp2_with fail
      refine (HBT.out _ hB2).mono ?_
      rintro e w3 ⟨u, us, rfl, hT, hu, hb3⟩
      obtain ⟨a5, c5, rfl⟩ := hu
      have hB3 := hB2.trans (hb3.mono hB2.size)
      clear hT hb3 HBT
      go_wp2
      go_ret2
      first
        | exact RV_of rfl hB3
        | (refine RV_of ?_ hB3; simp_all)
    · have hval : isoF v1 bs1 v2 bs2 = (false, 0) := by
        unfold isoF
        rw [if_pos hc]
        simp [hv]
      rw [hval]
      unfold boolCode
      have hne : (v1 == v2) = false := by simpa using hv
      clear hval hcall i1 f1 i2 f2 h1 h2 hc
      go_enter Try.func27, Try.ntmps27
      go_wp2_with fail
      rw [← hW1]
      refine HCL.out.mono ?_
      rintro e w2 ⟨rfl, hb2⟩
      have hB2 := hB1.trans (hb2.mono hB1.size)
      have q0 := (hb2.cell (p := ⟨w.heap.size, 0, none⟩) (show w.heap.size < W1.heap.size by omega)).trans q0
      have r0 := (hb2.cell (p := ⟨w.heap.size + 1, 0, none⟩) (show w.heap.size + 1 < W1.heap.size by omega)).trans r0
      clear hb2 hW1 hB1 HCL
      go_wp2
      go_ret2
      exact RV_of rfl hB2
  · have hval : isoF v1 bs1 v2 bs2 = (false, code2 v1 bs1 v2 bs2) := by
      unfold isoF
      rw [if_neg hc]
    rw [hval]
    unfold boolCode
    obtain ⟨k, hk⟩ : ∃ k, k = code2 v1 bs1 v2 bs2 := ⟨_, rfl⟩
    rw [← hk] at hcall hc ⊢
    have HCL := Lib.hid hcall
    have hk1 : (k != 0) = true := by simpa using hc
    clear hval hcall h1 h2 hk q0 q1 r0 r1
    go_enter Try.func27, Try.ntmps27
    go_wp2_with fail
    rw [← hW1]
    refine HCL.out.mono ?_
    rintro e w2 ⟨rfl, hb2⟩
    have hB2 := hB1.trans (hb2.mono hB1.size)
    clear hb2 hW1 hB1 HCL
    go_wp2
    go_ret2
    exact RV_of rfl hB2
end Go.Proofs.Ytoicdfdfajfopaa

namespace Go.Proofs.Ytoicdfdfajfopaa
open Go.RowKit Go.Maps
def stCode (v : Int) (bs : List Blk) (p : Int) : Int := if isSysImpl v bs then (if inP v p then (if fullB v bs then 0 else 5) else 2) else 1
/-- How many of these lists keep the place q. -/
def stN (L : List (List Int)) (q : Nat) : Nat := L.countP fun z => z[q]?.getD 0 == (q : Int)
def stV (v : Int) (bs : List Blk) (p : Int) : Value := if stCode v bs p = 0 then .tuple #[.int .i64 (stN (autL v.toNat bs) p.toNat : Int), .int .i64 0] else .tuple #[.int .i64 0, .int .i64 (stCode v bs p)]
theorem stN_snoc (L : List (List Int)) (z : List Int) (q : Nat) : stN (L ++ [z]) q = stN L q + if z[q]?.getD 0 == (q : Int) then 1 else 0 := by
  unfold stN
  rw [List.countP_append, List.countP_singleton]
theorem stN_le (L : List (List Int)) (q : Nat) : stN L q ≤ L.length := List.countP_le_length
end Go.Proofs.Ytoicdfdfajfopaa

namespace Go.Proofs.Ytoicdfdfajfopaa
open Go.RowKit Go.Maps
theorem stN_take {L : List (List Int)} {k : Nat} (h : k < L.length) (q : Nat) : stN (L.take (k + 1)) q = stN (L.take k) q + if (L[k]?.getD [])[q]?.getD 0 == (q : Int) then 1 else 0 := by
  rw [List.take_add_one, List.getElem?_eq_getElem h, Option.toList_some, stN_snoc, Option.getD_some]
set_option maxRecDepth 100000 in
set_option maxHeartbeats 4000000 in
theorem specSta_any (v : Int) (s : Value) (bs : List Blk) (p : Int) (w : World) (h : SB w s bs) : Calls Try.prog 40 #[.agg #[.int .i64 v, s], .int .i64 p] w (RV (stV v bs p) w) := by
  have HC := Lib.hid fun W (hb : Below w.heap.size w W) => l01Is_any v s bs W (h.below hb (Nat.le_refl _))
  have hlen := h.2.1
  obtain ⟨a0, c0, rfl⟩ := h.slice
  have hb0 := (Below.refl w.heap.size w).alloc (Nat.le_refl _) (.cells #[.int .i64 v, .slice a0 bs.length c0] 31)
  cases hi : isSysImpl v bs with
  | false =>
    have hv : stV v bs p = .tuple #[.int .i64 0, .int .i64 1] := by simp [stV, stCode, hi]
    rw [hv]
    rw [hi] at HC
    clear hv hi h
    go_enter Try.func40, Try.ntmps40
    go_wp2_with fail
    refine (HC.out _ hb0).mono ?_
    rintro e w1 ⟨rfl, hb1⟩
    have hbw := below_new hb1
    clear hb1
    go_wp2
    go_ret2
    exact RV_of rfl hbw
  | true =>
    obtain ⟨v3, v15, _⟩ := sys_size hi
    have HL := Lib.hid fun W => l01In_any p 0 (v - 1) W
    have hin : (decide (0 ≤ p) && decide (p ≤ v - 1)) = inP v p := by
      unfold inP
      congr 1
      rw [decide_eq_decide]
      omega
    rw [hin] at HL
    rw [hi] at HC
    cases hp : inP v p with
    | false =>
      have hv : stV v bs p = .tuple #[.int .i64 0, .int .i64 2] := by simp [stV, stCode, hi, hp]
      rw [hv]
      rw [hp] at HL
      clear hv hi h hp hin
      go_enter Try.func40, Try.ntmps40
      go_wp2_with fail
      refine (HC.out _ hb0).mono ?_
      rintro e w1 ⟨rfl, hb1⟩
      have q0 := cell_new hb1 0 rfl
      have hbw := below_new hb1
      clear hb1
      go_wp2_with fail
      refine (HL.out _).mono ?_
      rintro e w2 ⟨rfl, rfl⟩
      go_wp2
      go_ret2
      exact RV_of rfl hbw
    | true =>
      have HFL := Lib.hid fun W => l01Full_any v (.slice a0 bs.length c0) bs W ⟨_, _, rfl⟩ v3 v15 hlen
      rw [hp] at HL
      cases hf : fullB v bs with
      | false =>
        have hv : stV v bs p = .tuple #[.int .i64 0, .int .i64 5] := by simp [stV, stCode, hi, hp, hf]
        rw [hv]
        rw [hf] at HFL
        clear hv hi h hp hin hf
        go_enter Try.func40, Try.ntmps40
        go_wp2_with fail
        refine (HC.out _ hb0).mono ?_
        rintro e w1 ⟨rfl, hb1⟩
        have q0 := cell_new hb1 0 rfl
        have q1 := cell_new hb1 1 rfl
        have hbw := below_new hb1
        clear hb1
        go_wp2_with fail
        refine (HL.out _).mono ?_
        rintro e w2 ⟨rfl, rfl⟩
        go_wp2_with fail
        refine (HFL.out _).mono ?_
        rintro e w3 ⟨rfl, hb3⟩
        have hbw3 := hbw.trans (hb3.mono hbw.size)
        clear hb3
        go_wp2
        go_ret2
        exact RV_of rfl hbw3
      | true =>
        obtain ⟨n, rfl⟩ : ∃ n : Nat, v = (n : Int) := ⟨v.toNat, by omega⟩
        have hp2 : 0 ≤ p ∧ p < (n : Int) := by simpa [inP] using hp
        obtain ⟨q, rfl⟩ : ∃ q : Nat, p = (q : Int) := ⟨p.toNat, by omega⟩
        have hqn : q < n := by omega
        have HA := Lib.hid fun W (hb : Below w.heap.size w W) => l06All_any n (.slice a0 bs.length c0) bs W (h.below hb (Nat.le_refl _)) hi hf
        have hrow : ∀ z ∈ autL n bs, z.length = n := fun z hz => isoL_rowlen (thdS hi hf) (thdS hi hf) hz
        have hv : stV (n : Int) bs (q : Int) = .tuple #[.int .i64 (stN (autL n bs) q : Int), .int .i64 0] := by simp [stV, stCode, hi, hp, hf]
        rw [hv]
        obtain ⟨L, hL⟩ : ∃ L, L = autL n bs := ⟨_, rfl⟩
        rw [← hL] at HA hrow ⊢
        obtain ⟨t, ht⟩ : ∃ t, t = stN L q := ⟨_, rfl⟩
        rw [← ht]
        have HTT := Lib.hid ht
        have HR := Lib.hid hrow
        rw [hf] at HFL
        clear hv hi h hp hin hf hp2 hL hrow ht
        go_enter Try.func40, Try.ntmps40
        go_wp2_with fail
        refine (HC.out _ hb0).mono ?_
        rintro e w1 ⟨rfl, hb1⟩
        have q0 := cell_new hb1 0 rfl
        have q1 := cell_new hb1 1 rfl
        have hbw := below_new hb1
        have hlt1 := lt_new hb1
        clear hb1
        go_wp2_with fail
        refine (HL.out _).mono ?_
        rintro e w2 ⟨rfl, rfl⟩
        go_wp2_with fail
        refine (HFL.out _).mono ?_
        rintro e w3 ⟨rfl, hb3⟩
        have q0 := (hb3.cell (p := ⟨w.heap.size, 0, none⟩) hlt1).trans q0
        have q1 := (hb3.cell (p := ⟨w.heap.size, 1, none⟩) hlt1).trans q1
        have hbw3 := hbw.trans (hb3.mono hbw.size)
        clear hb3
        go_wp2_with fail
        refine (HA.out _ hbw3).mono ?_
        rintro e w4 ⟨u, us, rfl, hT, hu, hle, hb4⟩
        obtain ⟨a5, c5, rfl⟩ := hu
        have hbw4 := hbw3.trans (hb4.mono hbw3.size)
        have HT := Lib.hid hT
        clear hT hb4 HA HFL HC HL hb0 q0 q1
        go_wp2
        go_loop [7, 8] (fun c i => ∃ k : Nat, k ≤ L.length ∧ i = .int .i64 k ∧ c = .int .i64 (stN (L.take k) q : Int)) (fun c i => L.length - (intOf i).toNat)
        case atStart => exact ⟨0, Nat.zero_le _, rfl, rfl⟩
        case round =>
          obtain ⟨k, hk, rfl, rfl⟩ := hrel
          by_cases hlt : k < L.length
          · have hzl : (L[k]?.getD []).length = n := by rw [List.getElem?_eq_getElem hlt]; exact HR.out _ (List.getElem_mem _)
            obtain ⟨G, c, g, cap, hu, e2, e3, e4, e5, e6, e7⟩ := HT.out.at_ hlt (by rw [hzl]; omega) (by rw [hzl]; omega)
            obtain ⟨rfl, rfl⟩ : a5 = some ⟨G, 0, none⟩ ∧ c5 = c := by simpa using hu
            rw [hzl] at e3
            have z1 := e6.at_ q (by rw [hzl]; exact hqn)
            rw [Nat.zero_add] at z1
            have HS := Lib.hid (stN_take hlt q)
            have hsl : stN (L.take k) q ≤ 60000 := Nat.le_trans (stN_le _ _) (by rw [List.length_take]; omega)
            obtain ⟨z, hz⟩ : ∃ z, z = (L[k]?.getD [])[q]?.getD 0 := ⟨_, rfl⟩
            rw [← hz] at z1 HS
            obtain ⟨m, hm⟩ : ∃ m, m = stN (L.take k) q := ⟨_, rfl⟩
            rw [← hm] at hsl HS ⊢
            clear e4 e5 e6 e7 hu hz hm hzl
            by_cases hzq : z = (q : Int)
            · subst hzq
              have hsn : stN (L.take (k + 1)) q = m + 1 := by rw [HS.out]; simp
              go_wp2
              go_round
              case rel => exact ⟨k + 1, hlt, by go_num, by rw [hsn]; go_num⟩
              case measure => simp [intOf]; omega
            · have hzb : (z == (q : Int)) = false := by simpa using hzq
              have hsn : stN (L.take (k + 1)) q = m := by rw [HS.out, hzb]; simp
              go_wp2
              go_round
              case rel => exact ⟨k + 1, hlt, by go_num, by rw [hsn]⟩
              case measure => simp [intOf]; omega
          · obtain rfl : k = L.length := by omega
            rw [List.take_length, ← HTT.out]
            go_wp2
            go_ret2
            exact RV_of rfl hbw4
end Go.Proofs.Ytoicdfdfajfopaa

namespace Go.Proofs.Ytoicdfdfajfopaa
open Go.RowKit Go.Maps
theorem oneIf_any (b : Bool) (w : World) : Calls Try.prog 78 #[.bool b] w (RS (.int .i64 (if b then 1 else 0)) w) := by
  cases b with
  | false =>
    go_enter Try.func78, Try.ntmps78
    go_wp2
    go_ret
    exact RS_of rfl
  | true =>
    go_enter Try.func78, Try.ntmps78
    go_wp2
    go_ret
    exact RS_of rfl
end Go.Proofs.Ytoicdfdfajfopaa

namespace Go.Proofs.Ytoicdfdfajfopaa
open Go.RowKit Go.Maps Go.Shelf
attribute [local go_sem] Oper.semAt_some
theorem encM_lis {n : Nat} (f : Nat → Nat) : encM (lisR n f) = castN (lisN n f) := by rw [encM_R, enc_cast]
theorem castN_at {n : Nat} (f : Nat → Nat) {q : Nat} (h : q < n) : (castN (lisN n f))[q]?.getD 0 = (f q : Int) := by simp [castN, lisN, h]
theorem castN_lisl (n : Nat) (f : Nat → Nat) : (castN (lisN n f)).length = n := by simp [castN, lisN]
set_option maxRecDepth 100000 in
set_option maxHeartbeats 4000000 in
theorem Sta_main (n : Nat) (s : Value) (bs : List Blk) (q : Nat) (w : World) (h : SB w s bs) (hi : isSysImpl (n : Int) bs = true) (hf : fullB (n : Int) bs = true) (hqn : q < n) : Calls Try.prog 41 #[.agg #[.int .i64 (n : Int), s], .int .i64 (q : Int)] w (RV (.tuple #[.int .i64 (stN (autL n bs) q : Int), .int .i64 0]) w) := by
  have h3 := (sys_size hi).1
  have h15 := (sys_size hi).2.1
  have HA := Lib.hid fun W (hb : Below w.heap.size w W) => automorphisms_any n s bs W (h.below hb (Nat.le_refl _)) hi hf
  have hc0 : fullC (n : Int) bs = 0 := by simp [fullC, hi, hf]
  have hfc := fun W hb B c0 c1 => fullCode_one B (n : Int) s bs W (h.below (w' := W) hb (Nat.le_refl _)) c0 c1
  rw [hc0] at hfc
  have HT := Lib.hid (thdS hi hf)
  have HP := Lib.hid fun W => isPointI_any (n : Int) (q : Int) W
  rw [show inP (n : Int) (q : Int) = true by simp [inP]; omega] at HP
  have HO := Lib.hid oneIf_any
  obtain ⟨X, hX⟩ : ∃ X, X = renL n (T3 bs) (T3 bs) := ⟨_, rfl⟩
  have hXm : autL n bs = X.map encM := by rw [hX, renL_aut hi hf]
  rw [hXm]
  have hXl : X.length ≤ 50625 := by
    have := isoL_len (T1 := T3 bs) (T2 := T3 bs) (thdS hi hf) (thdS hi hf) (n := n) (by omega) (by omega)
    rw [← renL_enc (thdS hi hf) (thdS hi hf), List.length_map, ← hX] at this
    exact this
  obtain ⟨m, hm⟩ : ∃ m, m = stN (X.map encM) q := ⟨_, rfl⟩
  rw [← hm]
  have HM := Lib.hid hm
  have HX := Lib.hid hX
  obtain ⟨a0, c0, rfl⟩ := h.slice
  obtain ⟨W1, hW1⟩ : ∃ W1, W1 = ((w.alloc (.cells #[.int .i64 (n : Int), .slice a0 bs.length c0] 31)).alloc (.cells #[.int .i64 (q : Int)] 2)).alloc (.cells #[.int .i64 (n : Int), .slice a0 bs.length c0] 31) := ⟨_, rfl⟩
  have hB1 : Below w.heap.size w W1 := by rw [hW1]; exact (((Below.refl _ _).alloc (Nat.le_refl _) _).alloc (by simp) _).alloc (by simp <;> omega) _
  have hz1 : W1.heap.size = w.heap.size + 1 + 1 + 1 := by rw [hW1]; simp
  have q0 : W1.cell? ⟨w.heap.size, 0, none⟩ = some (.int .i64 n) := by rw [hW1]; simp [go_sem]
  have q1 : W1.cell? ⟨w.heap.size, 1, none⟩ = some (.slice a0 bs.length c0) := by rw [hW1]; simp [go_sem]
  have bp : Boxed W1 (w.heap.size + 1) 2 (.int .i64 (q : Int)) := by
    have := (Boxed.new (w.alloc (.cells #[.int .i64 (n : Int), .slice a0 bs.length c0] 31)) 2 (.int .i64 (q : Int))).alloc (.cells #[.int .i64 (n : Int), .slice a0 bs.length c0] 31)
    simp only [World.size_alloc] at this
    rw [hW1]
    exact this
  have HFI := Lib.hid (hfc W1 hB1 (w.heap.size + 1 + 1) (by rw [hW1]; simp [go_sem]) (by rw [hW1]; simp [go_sem]))
  clear h hi hf hfc hc0 hm hX hXm
  have hro : Fence.wide.round = none := rfl
  refine (callsIn_wide (n := 9)).1 ?_
  refine callsIn_of_wp_marks Try.func41 rfl trivial ?_ hro
  simp only [Try.ntmps41, List.size_toArray, List.length_cons, List.length_nil, Nat.reduceAdd, Nat.reduceSub, Array.replicate_succ, Array.replicate_zero, List.push_toArray, List.append_toArray, List.nil_append, List.cons_append]
  gi_wp2_with (first | fail)
  rw [← hW1]
  refine ⟨trivial, (callsIn_wide.2 HFI.out).mono ?_⟩
  rintro e w2 ⟨rfl, hb2⟩
  have hB2 := hB1.trans (hb2.mono hB1.size)
  have q0 := (hb2.cell (p := ⟨w.heap.size, 0, none⟩) (show w.heap.size < W1.heap.size by omega)).trans q0
  have q1 := (hb2.cell (p := ⟨w.heap.size, 1, none⟩) (show w.heap.size < W1.heap.size by omega)).trans q1
  have bp : Boxed w2 _ _ _ := (hb2.block (w.heap.size + 1) (by omega)).trans bp
  have hz2 := hb2.size
  have x0 := bp.cell
  have hlt2 : w.heap.size < w2.heap.size := by omega
  clear hb2 hW1 hB1 HFI
  gi_wp2_with (first
    | (refine ⟨trivial, ?_⟩; gi_at_call 77; refine (callsIn_wide.2 (HP.out _)).mono ?_; rintro e w1 ⟨rfl, rfl⟩))
  obtain ⟨Bp, hBp⟩ : ∃ Bp, Bp = w.heap.size + 1 := ⟨_, rfl⟩
  rw [← hBp] at bp ⊢
  have hbp1 : w.heap.size ≤ Bp := by omega
  have hbp2 : Bp < w2.heap.size := by omega
  obtain ⟨w3, hw3⟩ : ∃ w3, w3 = w2.alloc (.cells #[.int .i64 0] 2) := ⟨_, rfl⟩
  have hB3 : Below w.heap.size w w3 := by rw [hw3]; exact hB2.alloc hB2.size _
  have hx3 : Boxed w3 w2.heap.size 2 (.int .i64 0) := by rw [hw3]; exact Boxed.new w2 _ _
  have bp : Boxed w3 Bp 2 (.int .i64 (q : Int)) := by rw [hw3]; exact bp.alloc _
  have hz3 : w3.heap.size = w2.heap.size + 1 := by rw [hw3]; simp
  have hww := hB2.size
  rw [← hw3]
  clear hw3 hB2 q0 q1 x0 hBp hz1
  refine ⟨trivial, (callsIn_wide.2 (HA.out w3 hB3)).mono ?_⟩
  rintro e w4 ⟨Bi, Bt, Bf, v, rfl, hD, hb4⟩
  have hx4 : Boxed w4 w2.heap.size 2 (.int .i64 0) := (hb4.block w2.heap.size (by omega)).trans hx3
  have bp : Boxed w4 Bp 2 (.int .i64 (q : Int)) := (hb4.block Bp (by omega)).trans bp
  have hB4 := hB3.trans (hb4.mono hB3.size)
  have hz4 := hb4.size
  clear hx3 hB3 HA
  have HSQ := Lib.hid (hD.seq (E := fun i => i = w2.heap.size) HT.out HT.out (by omega) (by omega) (fun i e => by omega) hz4 (9 - 1))
  rw [← HX.out] at HSQ
  clear hD hb4 HT
  gi_wp2
  refine wpIn_rangeFunc_R hro (by omega) (gf := 121) (lb := #[.pointer (some ⟨Bi, 0, none⟩), .pointer (some ⟨Bt, 0, none⟩), .pointer (some ⟨Bf, 0, none⟩)]) rfl trivial (enters_of Try.func121 (by kernel_rfl) rfl) rfl (fun i e => by omega) HSQ.out
    (fun pre _ W => Boxed W w2.heap.size 2 (.int .i64 (stN (pre.map encM) q : Int)) ∧ Boxed W Bp 2 (.int .i64 (q : Int)) ∧ Below w.heap.size w W)
    (fun _ _ _ _ => False)
    (fun pre k u X Y row hs hg hr => ⟨hs.1.kept hg (fun e => by have := (hr _ e.symm).1; omega), hs.2.1.kept hg (fun e => by have := (hr _ e.symm).1; omega), hs.2.2.grown hg hs.2.2.size (fun r e => by have := (hr r e).1; omega)⟩)
    (fun _ _ _ _ _ _ _ hs _ _ => hs)
    ⟨hx4, bp, hB4⟩
    (fun x k vx a' W' => (∃ (y0 y1 y2 y4 y5 y6 y9 y10 y11 y12 y13 y14 y15 y16 y17 y18 y19 y20 y21 y22 y23 y24 y25 y26 y27 y28 y29 y30 y31 y32 y33 y34 y35 y36 : Value), a' = { tmps := #[y0, y1, y2, .pointer (some ⟨Bp, 0, none⟩), y4, y5, y6, .pointer (some ⟨w2.heap.size, 0, none⟩), vx, y9, y10, y11, y12, y13, y14, y15, y16, y17, y18, y19, y20, y21, y22, y23, y24, y25, y26, y27, y28, y29, y30, y31, y32, y33, y34, y35, y36], defers := [] }) ∧ RenR (fun i => i = w2.heap.size) n (T3 bs) (T3 bs) x k vx W')
    (fun x k vx a' u X Y row hs hg hr => ⟨hs.1, OwnE.ck hs.2.1 (CK.of_grown hg fun r e => (hr r e).2), hs.2.2⟩) ?assign ?body ?done ?stop
  case assign =>
    intro l' pre x k vx W' K hi hRx hK
    obtain ⟨a9, c9, rfl⟩ := OwnJ.formS hRx.1.1
    simp only [List.zip_toArray, List.zip_cons_cons, List.zip_nil_right, List.size_toArray, List.length_cons, List.length_nil, List.foldl_toArray', List.foldl_cons, List.foldl_nil, List.setIfInBounds_toArray, List.set_cons_succ, List.set_cons_zero]
    gi_wp2
    exact hK _ _ (Kept.refl _ _ _) hi ⟨⟨_, _, _, _, _, _, _, _, _, _, _, _, _, _, _, _, _, _, _, _, _, _, _, _, _, _, _, _, _, _, _, _, _, _, rfl⟩, hRx⟩
  case body =>
    rintro l' pre x k vx a' W' hl' hloop ⟨i1, i2, i3⟩ ⟨⟨y0, y1, y2, y4, y5, y6, y9, y10, y11, y12, y13, y14, y15, y16, y17, y18, y19, y20, y21, y22, y23, y24, y25, y26, y27, y28, y29, y30, y31, y32, y33, y34, y35, y36, rfl⟩, hRx⟩ hlen
    obtain ⟨hRo, f, hfi, rfl⟩ := hRx
    rw [encM_lis] at hRo
    have hlx := castN_lisl n f
    obtain ⟨g9, c9, rfl⟩ := hRo.1.someR (by rw [hlx]; omega)
    have z1 := hRo.1.cellJ (i := q) (by rw [hlx]; exact hqn)
    rw [castN_at f hqn] at z1
    rw [hlx]
    have x1 := i1.cell
    have x2 := i1.frozen
    have x3 := i2.cell
    have hsn := stN_snoc (pre.map encM) (encM (lisR n f)) q
    rw [encM_lis, castN_at f hqn] at hsn
    have hmp : stN (pre.map encM) q ≤ 60000 := Nat.le_trans (stN_le _ _) (by rw [List.length_map]; omega)
    obtain ⟨mm, hmm⟩ : ∃ mm, mm = stN (pre.map encM) q := ⟨_, rfl⟩
    have hmap : (pre ++ [lisR n f]).map encM = pre.map encM ++ [castN (lisN n f)] := by rw [List.map_append, List.map_cons, List.map_nil, encM_lis]
    rw [← hmm] at x1 hsn hmp i1
    obtain ⟨zz, hzz⟩ : ∃ zz, zz = f q := ⟨_, rfl⟩
    rw [← hzz] at z1 hsn
    have fin : ∀ (t : Nat), stN (pre.map encM ++ [castN (lisN n f)]) q = t → Kept w4.heap.size (fun i => i = w2.heap.size) W' (W'.setCell ⟨w2.heap.size, 0, none⟩ (.int .i64 (t : Int))) ∧ Boxed (W'.setCell ⟨w2.heap.size, 0, none⟩ (.int .i64 (t : Int))) w2.heap.size 2 (.int .i64 (stN ((pre ++ [lisR n f]).map encM) q : Int)) ∧ Boxed (W'.setCell ⟨w2.heap.size, 0, none⟩ (.int .i64 (t : Int))) Bp 2 (.int .i64 (q : Int)) ∧ Below w.heap.size w (W'.setCell ⟨w2.heap.size, 0, none⟩ (.int .i64 (t : Int))) := fun t ht => by
      have g1 := set_gb W' w2.heap.size 0 (.int .i64 (t : Int))
      refine ⟨Kept.grown g1 (fun r e => by cases e; rfl), ?_, i2.kept g1 (fun e => by have : Bp = w2.heap.size := by cases e; rfl
                                                                                      omega), i3.setCell (p := ⟨w2.heap.size, 0, none⟩) hww _⟩
      rw [hmap, ht]
      exact i1.set _
    have HFN := Lib.hid fin
    obtain ⟨β, hβ⟩ : ∃ β, β = ((zz : Int) == (q : Int)) := ⟨_, rfl⟩
    obtain ⟨t, ht⟩ : ∃ t : Nat, t = if β = true then 1 else 0 := ⟨_, rfl⟩
    have ht1 : t ≤ 1 := by rw [ht]; split <;> omega
    rw [← hβ, ← ht] at hsn
    have hO1 := fun W => HO.out β W
    rw [show ((if β = true then 1 else 0 : Int)) = (t : Int) by rw [ht]; cases β <;> rfl] at hO1
    have HO1 := Lib.hid hO1
    have HF1 := Lib.hid (HFN.out (mm + t) hsn)
    have hwr : IntKind.i64.wrap ((mm : Int) + (t : Int)) = (mm : Int) + (t : Int) := IntWalk.i64_in _ (by omega)
    have hzb : ((zz : Int) == (q : Int)) = β := hβ.symm
    have hmix : Try.prog.follows .mixedOrders = true := by kernel_rfl
    clear fin hRo hmap hlx hmm hzz HSQ hx4 bp hB4 i1 i2 i3 hlen HFN hsn ht hβ hO1 HO HP HM HX
    gi_wp2
    gi_region_with_o (refine ⟨trivial, ?_⟩; gi_at_call 78; refine (CallsIn.inRound l' (callsIn_wide.2 (HO1.out _))).mono ?_; rintro e w' ⟨rfl, rfl⟩)
    all_goals
      gi_wp2
      rw [show (mm : Int) + (t : Int) = ((mm + t : Nat) : Int) by omega]
      first | exact HF1.out | exact ⟨HF1.out.1, HF1.out.2.1, HF1.out.2.2.1, HF1.out.2.2.2.drew⟩
  case done =>
    rintro D ys k W' hD hys ⟨i1, i2, i3⟩ hK
    have x1 := i1.cell
    rw [hys, ← HM.out] at x1
    have hM5 : Marks w.heap.size W' W'.heap.size [{ target := .collected D, args := #[] }] := ⟨D, rfl, by omega, (Array.getElem?_eq_some_iff.1 hK).1, hK, trivial⟩
    clear HSQ hx4 bp hB4 i1 i2 hK
    gi_wp2
    refine leaves_marks (n0 := w.heap.size) (fun W => Below w.heap.size w W) ?_ ?_ _ W'.heap.size W' hM5 i3
    · rintro W D h2 hD hK
      exact h2.trans (belowK_b (w := w) (Nat.le_refl _) W D _ _ hD hK rfl rfl)
    · rintro W h2
      exact ⟨_, by simp [results, Try.f41, go_sem], RV_of rfl h2⟩
  case stop =>
    rintro D c pre k W' hD hSp h hK
    exact h.elim
set_option maxRecDepth 100000 in
set_option maxHeartbeats 2000000 in
theorem Sta_any (v : Int) (s : Value) (bs : List Blk) (p : Int) (w : World) (h : SB w s bs) : Calls Try.prog 41 #[.agg #[.int .i64 v, s], .int .i64 p] w (RV (stV v bs p) w) := by
  by_cases hc : stCode v bs p = 0
  · have hv : stV v bs p = .tuple #[.int .i64 (stN (autL v.toNat bs) p.toNat : Int), .int .i64 0] := by simp [stV, hc]
    rw [hv]
    unfold stCode at hc
    cases hi : isSysImpl v bs <;> cases hp : inP v p <;> cases hf : fullB v bs <;> simp [hi, hp, hf] at hc
    have h3 := (sys_size hi).1
    have hp2 : 0 ≤ p ∧ p < v := by simpa [inP] using hp
    obtain ⟨n, rfl⟩ : ∃ n : Nat, v = (n : Int) := ⟨v.toNat, by omega⟩
    obtain ⟨q, rfl⟩ : ∃ q : Nat, p = (q : Int) := ⟨p.toNat, by omega⟩
    rw [Int.toNat_natCast, Int.toNat_natCast]
    exact Sta_main n s bs q w h hi hf (by omega)
  · have hv : stV v bs p = .tuple #[.int .i64 0, .int .i64 (stCode v bs p)] := by simp [stV, hc]
    rw [hv]
    have hk : stCode v bs p = if fullC v bs = 1 then 1 else if inP v p then fullC v bs else 2 := by
      unfold stCode fullC
      cases isSysImpl v bs <;> cases inP v p <;> cases fullB v bs <;> simp
    have HFC := Lib.hid fun (B : Nat) W (hb : Below w.heap.size w W) c0 c1 => fullCode_one B v s bs W (h.below hb (Nat.le_refl _)) c0 c1
    have HP := Lib.hid fun W => isPointI_any v p W
    have hor := fullC_or v bs
    obtain ⟨κ, hκ⟩ : ∃ κ, κ = fullC v bs := ⟨_, rfl⟩
    obtain ⟨β, hβ⟩ : ∃ β, β = inP v p := ⟨_, rfl⟩
    obtain ⟨c, hcc⟩ : ∃ c, c = stCode v bs p := ⟨_, rfl⟩
    rw [← hκ] at HFC hk hor
    rw [← hβ] at HP hk
    rw [← hcc] at hk hc ⊢
    obtain ⟨a0, c0, rfl⟩ := h.slice
    have hb0 : Below w.heap.size w (((w.alloc (.cells #[.int .i64 v, .slice a0 bs.length c0] 31)).alloc (.cells #[.int .i64 p] 2)).alloc (.cells #[.int .i64 v, .slice a0 bs.length c0] 31)) := (((Below.refl _ _).alloc (Nat.le_refl _) _).alloc (by simp) _).alloc (by simp <;> omega) _
    have HFI := Lib.hid (HFC.out (w.heap.size + 1 + 1) _ hb0 (by simp [go_sem]) (by simp [go_sem]))
    clear h hκ hβ hcc hv HFC
    rcases hor with rfl | rfl | rfl <;> cases β <;> simp at hk <;> (try (exact absurd hk hc)) <;> subst hk
    all_goals
      go_enter Try.func41, Try.ntmps41
      go_wp2_with fail
      refine HFI.out.mono ?_
      rintro e w1 ⟨rfl, hb1⟩
      have hbw := hb0.trans (hb1.mono (by simp <;> omega))
      have q0 := (hb1.cell (p := ⟨w.heap.size, 0, none⟩) (by simp <;> omega)).trans (by simp [go_sem] : _ = some (Value.int .i64 v))
      have q2 := (hb1.cell (p := ⟨w.heap.size + 1, 0, none⟩) (by simp <;> omega)).trans (by simp [go_sem] : _ = some (Value.int .i64 p))
      clear hb1 HFI
      go_wp2_with (go_at_call 77; refine (HP.out _).mono ?_; rintro e w2 ⟨rfl, rfl⟩)
      go_ret2
      exact RV_of rfl hbw
end Go.Proofs.Ytoicdfdfajfopaa

namespace Go.Proofs.Ytoicdfdfajfopaa
open Go.RowKit Go.Maps
/-- How many of the first k places hold themselves. -/
def keptK (z : List Int) (k : Nat) : Nat := (List.range k).countP fun (a : Nat) => z[a]?.getD 0 == (a : Int)
def keptN (z : List Int) : Nat := keptK z z.length
theorem keptK_succ (z : List Int) (k : Nat) : keptK z (k + 1) = keptK z k + if z[k]?.getD 0 == (k : Int) then 1 else 0 := by
  unfold keptK
  rw [List.range_succ, List.countP_append, List.countP_singleton]
theorem keptK_le (z : List Int) (k : Nat) : keptK z k ≤ k := Nat.le_trans List.countP_le_length (by simp)
/-- By kept points, from 0 to n. -/
def kpR (L : List (List Int)) (n : Nat) : List Int := (List.range (n + 1)).map fun k => ((L.countP fun z => keptN z == k : Nat) : Int)
theorem kpR_len (L : List (List Int)) (n : Nat) : (kpR L n).length = n + 1 := by simp [kpR]
theorem kpR_nil (n : Nat) : kpR [] n = List.replicate (n + 1) 0 := by
  apply List.ext_getElem
  · simp [kpR]
  · intro i h1 h2
    simp [kpR]
theorem kpR_at (L : List (List Int)) {n k : Nat} (h : k ≤ n) : (kpR L n)[k]?.getD 0 = ((L.countP fun z => keptN z == k : Nat) : Int) := by
  simp [kpR, show k < n + 1 by omega]
theorem kpR_snoc (L : List (List Int)) (z : List Int) {n : Nat} (_h : keptN z ≤ n) : kpR (L ++ [z]) n = (kpR L n).set (keptN z) (((L.countP fun y => keptN y == keptN z : Nat) : Int) + 1) := by
  apply List.ext_getElem
  · simp [kpR]
  · intro i h1 h2
    rw [List.getElem_set]
    by_cases e : keptN z = i
    · subst e
      simp [kpR, List.countP_append]
    · have : (keptN z == i) = false := by simpa using e
      simp [kpR, List.countP_append, e]
theorem kpR_small (L : List (List Int)) (k : Nat) : (L.countP fun z => keptN z == k) ≤ L.length := List.countP_le_length
set_option maxRecDepth 100000 in
set_option maxHeartbeats 2000000 in
theorem countKept_any (b cap : Nat) (zs : List Int) (w : World) (h : Ints w b 0 zs) (hl : zs.length ≤ 1000) : Calls Try.prog 79 #[.slice (some ⟨b, 0, none⟩) zs.length cap] w (RS (.int .i64 (keptN zs : Int)) w) := by
  have H := Lib.hid h
  have HO := Lib.hid oneIf_any
  clear h
  obtain ⟨r0, hr0⟩ : ∃ r0, r0 = keptN zs := ⟨_, rfl⟩
  rw [← hr0]
  have HR := Lib.hid hr0
  clear hr0
  go_enter Try.func79, Try.ntmps79
  go_wp2
  go_loop [3, 8] (fun c i => ∃ k : Nat, k ≤ zs.length ∧ i = .int .i64 k ∧ c = .int .i64 (keptK zs k : Int)) (fun c i => zs.length - (intOf i).toNat)
  case atStart => exact ⟨0, Nat.zero_le _, rfl, rfl⟩
  case round =>
    obtain ⟨k, hk, rfl, rfl⟩ := hrel
    by_cases hlt : k < zs.length
    · have z1 := H.out k hlt
      rw [Nat.zero_add] at z1
      have HS := keptK_succ zs k
      obtain ⟨z, hz⟩ : ∃ z, z = zs[k]?.getD 0 := ⟨_, rfl⟩
      rw [← hz] at z1 HS
      have hkl := keptK_le zs k
      obtain ⟨m, hm⟩ : ∃ m, m = keptK zs k := ⟨_, rfl⟩
      rw [← hm] at HS hkl ⊢
      have HS := Lib.hid HS
      clear hz hm
      by_cases hzq : z = (k : Int)
      · subst hzq
        have hzb : ((k : Int) == (k : Int)) = true := by simp
        have hsn : keptK zs (k + 1) = m + 1 := by rw [HS.out]; simp
        have HO1 := Lib.hid fun W => HO.out true W
        go_wp2_with (go_at_call 78; refine (HO1.out _).mono ?_; rintro e w1 ⟨rfl, rfl⟩)
        go_round
        case rel => exact ⟨k + 1, hlt, by go_num, by first | (rw [hsn]; go_num) | rw [hsn]⟩
        case measure => simp [intOf]; omega
      · have hzb : ((k : Int) == z) = false := by rw [beq_eq_false_iff_ne]; omega
        have hzb2 : (z == (k : Int)) = false := by rw [beq_eq_false_iff_ne]; omega
        have hsn : keptK zs (k + 1) = m := by rw [HS.out, hzb2]; simp
        have HO1 := Lib.hid fun W => HO.out false W
        go_wp2_with (go_at_call 78; refine (HO1.out _).mono ?_; rintro e w1 ⟨rfl, rfl⟩)
        go_round
        case rel => exact ⟨k + 1, hlt, by go_num, by first | (rw [hsn]; go_num) | rw [hsn]⟩
        case measure => simp [intOf]; omega
    · obtain rfl : k = zs.length := by omega
      rw [show keptK zs zs.length = r0 from HR.out.symm]
      go_wp2
      go_ret
      exact RS_of rfl
end Go.Proofs.Ytoicdfdfajfopaa

namespace Go.Proofs.Ytoicdfdfajfopaa
open Go.RowKit Go.Maps
/-- By kept points, with the code. -/
def kpF (v : Int) (bs : List Blk) : List Int × Int := if fullC v bs = 0 then (kpR (autL v.toNat bs) v.toNat, 0) else ([], fullC v bs)
theorem kpF_len (v : Int) (bs : List Blk) : (kpF v bs).1.length ≤ 16 := by
  unfold kpF
  split
  · rename_i hc
    have := (sys_size (fullC_ok hc).1).2.1
    rw [kpR_len]
    omega
  · simp
def KB (w : World) (n : Nat) (L : List (List Int)) (t o : Value) (wx : World) : Prop :=
  ∃ us Go, o = .slice (some ⟨Go, 0, none⟩) (n + 1) (n + 1) ∧ TabL wx w.heap.size t us L ∧ (∃ a c, t = .slice a L.length c) ∧ OwnJ wx w.heap.size (.slice (some ⟨Go, 0, none⟩) (n + 1) (n + 1)) (kpR [] n) ∧ (∀ r, t.ownBlock = some r → r ≠ Go) ∧ (∀ x ∈ us, ∀ r, x.ownBlock = some r → r ≠ Go) ∧ Below w.heap.size w wx
theorem TabL.rowP {W : World} {lo : Nat} {u : Value} {us : List Value} {Rs : List (List Int)} (h : TabL W lo u us Rs) : ∀ x ∈ us, ∀ r, x.ownBlock = some r → lo ≤ r ∧ r < W.heap.size := fun x hx r e => by
  obtain ⟨k, hk⟩ := List.getElem?_of_mem hx
  exact (h.row k x hk).blkP r e
theorem KB.after {w w3 w4 : World} {n : Nat} {L : List (List Int)} {u : Value} {us : List Value} (hn : n ≤ 15) (hT : TabL w4 w3.heap.size u us L) (hu : ∃ a c, u = .slice a L.length c) (hb4 : Below w3.heap.size w3 w4) (hb3 : Below w.heap.size w w3) :
    KB w n L u (.slice (some ⟨w4.heap.size, 0, none⟩) (n + 1) (n + 1)) (w4.alloc (.cells (madeCells #[.int .i64 0] (n + 1)) 2)) := by
  have hz := hb3.size
  refine ⟨us, w4.heap.size, rfl, (hT.below ((Below.refl _ _).alloc (Nat.le_refl _) _)).base hz, hu, ?_, fun r e => ?_, fun x hx r e => ?_, (hb3.trans (hb4.mono hz)).alloc (Nat.le_trans hz hb4.size) _⟩
  · rw [kpR_nil]
    exact OwnJ.made0 w4 (n + 1) (by omega) (Nat.le_trans hz hb4.size)
  · have := (hT.own.blkP r e).2
    omega
  · have := (hT.rowP x hx r e).2
    omega
theorem KB.before {w w2 w3 w4 : World} {n : Nat} {L : List (List Int)} {u : Value} {us : List Value} (hn : n ≤ 15) (h3 : w3.heap = (w2.alloc (.cells (madeCells #[.int .i64 0] (n + 1)) 2)).heap) (hT : TabL w4 w3.heap.size u us L) (hu : ∃ a c, u = .slice a L.length c) (hb4 : Below w3.heap.size w3 w4) (hb3 : Below w.heap.size w w3) (hz : w.heap.size ≤ w2.heap.size) :
    KB w n L u (.slice (some ⟨w2.heap.size, 0, none⟩) (n + 1) (n + 1)) w4 := by
  have hz3 : w3.heap.size = w2.heap.size + 1 := by rw [h3]; simp
  refine ⟨us, w2.heap.size, rfl, hT.base (by omega), hu, ?_, fun r e => ?_, fun x hx r e => ?_, hb3.trans (hb4.mono hb3.size)⟩
  · rw [kpR_nil]
    have := OwnJ.made0 w2 (n + 1) (by omega) (Nat.le_refl _)
    have h' : OwnJ w3 w2.heap.size (.slice (some ⟨w2.heap.size, 0, none⟩) (n + 1) (n + 1)) (List.replicate (n + 1) 0) := by
      unfold OwnJ World.ownsRow at this ⊢
      rw [h3]
      exact this
    exact OwnJ.baseP (h'.below hb4 (Nat.le_refl _)) hz
  · have := (hT.own.blkP r e).1
    omega
  · have := (hT.rowP x hx r e).1
    omega
theorem KB.drew {w wx : World} {n : Nat} {L : List (List Int)} {t o : Value} (h : KB w n L t o wx) : KB w n L t o wx.drew := by
  obtain ⟨us, Go, h1, h2, h3, h4, h5, h6, h7⟩ := h
  exact ⟨us, Go, h1, h2.below ((Below.refl _ _).drew), h3, h4, h5, h6, h7.drew⟩
set_option maxRecDepth 100000 in
set_option maxHeartbeats 4000000 in
theorem specKep_main (n : Nat) (s : Value) (bs : List Blk) (w : World) (h : SB w s bs) (hi : isSysImpl (n : Int) bs = true) (hf : fullB (n : Int) bs = true) : Calls Try.prog 42 #[.agg #[.int .i64 (n : Int), s]] w (RJ (kpR (autL n bs) n, 0) w) := by
  have h3 := (sys_size hi).1
  have h15 := (sys_size hi).2.1
  have hfc := fun (B : Nat) W (hb : Below w.heap.size w W) c0 c1 => l06Code_one B (n : Int) s bs W (h.below hb (Nat.le_refl _)) c0 c1
  rw [show fullC (n : Int) bs = 0 by simp [fullC, hi, hf]] at hfc
  have HA := Lib.hid fun W (hb : Below w.heap.size w W) => l06All_any n s bs W (h.below hb (Nat.le_refl _)) hi hf
  have hrow : ∀ z ∈ autL n bs, z.length = n := fun z hz => isoL_rowlen (thdS hi hf) (thdS hi hf) hz
  have hLle : (autL n bs).length ≤ 50625 := isoL_len (thdS hi hf) (thdS hi hf) (by omega) (by omega)
  obtain ⟨L, hL⟩ : ∃ L, L = autL n bs := ⟨_, rfl⟩
  rw [← hL] at HA hrow hLle ⊢
  have HR := Lib.hid hrow
  have hmk := mkRowD (n + 1) (by omega)
  rw [show ((n + 1 : Nat) : Int) = (n : Int) + 1 by omega] at hmk
  obtain ⟨a0, c0, rfl⟩ := h.slice
  have hb0 : Below w.heap.size w ((w.alloc (.cells #[.int .i64 (n : Int), .slice a0 bs.length c0] 31)).alloc (.cells #[.int .i64 (n : Int), .slice a0 bs.length c0] 31)) := ((Below.refl _ _).alloc (Nat.le_refl _) _).alloc (by simp) _
  have HFI := Lib.hid (hfc (w.heap.size + 1) _ hb0 (by simp [go_sem]) (by simp [go_sem]))
  clear hfc h hi hf hL hrow
  go_enter Try.func42, Try.ntmps42
  go_wp2_with fail
  refine HFI.out.mono ?_
  rintro e w2 ⟨rfl, hb2⟩
  have q0 := (hb2.cell (p := ⟨w.heap.size, 0, none⟩) (by simp <;> omega)).trans (by simp [go_sem] : _ = some (Value.int .i64 (n : Int)))
  have q1 := (hb2.cell (p := ⟨w.heap.size, 1, none⟩) (by simp <;> omega)).trans (by simp [go_sem] : _ = some (Value.slice a0 bs.length c0))
  have hlt2 : w.heap.size < w2.heap.size := by have := hb2.size; simp at this; omega
  have hB2 := hb0.trans (hb2.mono (by simp <;> omega))
  have HB2 := Lib.hid hB2
  clear hb2 HFI hb0 hB2
  have hwr : IntKind.i64.wrap ((n : Int) + 1) = (n : Int) + 1 := IntWalk.i64_in _ (by omega)
  go_upto_region 4 with fail
  go_cut [5, 6] (fun t o wx => KB w n L t o wx)
  case first =>
    have q0a := (((Below.refl w2.heap.size w2).alloc (Nat.le_refl _) (.cells (madeCells #[.int .i64 0] (n + 1)) 2)).cell (p := ⟨w.heap.size, 0, none⟩) hlt2).trans q0
    have q1a := (((Below.refl w2.heap.size w2).alloc (Nat.le_refl _) (.cells (madeCells #[.int .i64 0] (n + 1)) 2)).cell (p := ⟨w.heap.size, 1, none⟩) hlt2).trans q1
    go_region_held3 (fun w' => w'.cell? ⟨w.heap.size, 0, none⟩ = some (.int .i64 (n : Int)) ∧ w'.cell? ⟨w.heap.size, 1, none⟩ = some (.slice a0 bs.length c0))
      (first | exact ⟨by assumption, by assumption⟩ | go_keep)
      (first
        | (go_at_call 69; refine (HA.out _ (by first | exact HB2.out | exact HB2.out.drew | exact HB2.out.alloc HB2.out.size _ | exact HB2.out.drew.alloc HB2.out.size _)).mono ?_; rintro e w4 ⟨u, us, rfl, hT4, hu4, hle, hb4⟩; obtain ⟨a5, c5, hu5⟩ := id hu4; subst hu5; have HT4 := Lib.hid hT4; have HU4 := Lib.hid hu4; have HB4 := Lib.hid hb4; have f0 := (show w4.cell? ⟨w.heap.size, 0, none⟩ = some (.int .i64 (n : Int)) from (hb4.cell (p := ⟨w.heap.size, 0, none⟩) (by first | exact hlt2 | (simp; omega))).trans (by first | exact q0 | exact q0a)); have f1 := (show w4.cell? ⟨w.heap.size, 1, none⟩ = some (.slice a0 bs.length c0) from (hb4.cell (p := ⟨w.heap.size, 1, none⟩) (by first | exact hlt2 | (simp; omega))).trans (by first | exact q1 | exact q1a)); clear hT4 hu4 hb4))
    all_goals
      go_wp2_with fail
      go_meet
      first
        | exact KB.after (by omega) HT4.out HU4.out HB4.out (by first | exact HB2.out | exact HB2.out.drew)
        | exact (KB.after (by omega) HT4.out HU4.out HB4.out (by first | exact HB2.out | exact HB2.out.drew)).drew
        | exact KB.before (by omega) (by rfl) HT4.out HU4.out HB4.out (by first | exact HB2.out.alloc HB2.out.size _ | exact (HB2.out.alloc HB2.out.size _).drew | exact HB2.out.drew.alloc HB2.out.size _) HB2.out.size
        | exact (KB.before (by omega) (by rfl) HT4.out HU4.out HB4.out (by first | exact HB2.out.alloc HB2.out.size _ | exact (HB2.out.alloc HB2.out.size _).drew | exact HB2.out.drew.alloc HB2.out.size _) HB2.out.size).drew
  case rest =>
    obtain ⟨us, Go, rfl, hT, hu, hO, hne1, hne2, hB⟩ := hcut
    have HTT := Lib.hid hT
    have HN1 := Lib.hid hne1
    have HN2 := Lib.hid hne2
    obtain ⟨a5, c5, rfl⟩ := hu
    have hg0 := hO.atR (i := 0) (by rw [kpR_len]; omega)
    have hgo1 := hg0.2.1
    have hgo2 := hg0.2.2.1
    have HBC := Lib.hid hB
    obtain ⟨w5, hw5⟩ : ∃ w5, w5 = wc := ⟨_, rfl⟩
    rw [← hw5] at HTT HBC hgo2 hO ⊢
    have HO5 := Lib.hid hO
    clear hw5 hT hne1 hne2 hB hO hg0 HB2 HA q0 q1 hmk hwr
    go_wp2
    go_loopw [7] (fun i wr => ∃ k : Nat, k ≤ L.length ∧ i = .int .i64 k ∧ w5.grownBy wr (some Go) ∧ OwnJ wr w.heap.size (.slice (some ⟨Go, 0, none⟩) (n + 1) (n + 1)) (kpR (L.take k) n)) (fun i _ => L.length - (intOf i).toNat)
    case atStart => exact ⟨0, Nat.zero_le _, rfl, only_refl _ _, HO5.out⟩
    case round =>
      obtain ⟨k, hk, rfl, hgr, hO⟩ := hrel
      clear HO5
      by_cases hlt : k < L.length
      · have hzl : (L[k]?.getD []).length = n := by rw [List.getElem?_eq_getElem hlt]; exact HR.out _ (List.getElem_mem _)
        obtain ⟨G, c, g, cap, hu, e2, e3, e4, e5, e6, e7⟩ := HTT.out.at_ hlt (by rw [hzl]; omega) (by rw [hzl]; omega)
        obtain ⟨rfl, rfl⟩ : a5 = some ⟨G, 0, none⟩ ∧ c5 = c := by simpa using hu
        have hG : G ≠ Go := HN1.out G rfl
        have hg : g ≠ Go := HN2.out _ (List.mem_of_getElem? e5) g rfl
        rw [hzl] at e3
        have htake : kpR (L.take (k + 1)) n = kpR (L.take k ++ [L[k]?.getD []]) n := by rw [List.take_add_one, List.getElem?_eq_getElem hlt, Option.toList_some, Option.getD_some]
        have hcs : ∀ j, ((L.take k).countP fun y => keptN y == j) ≤ 60000 := fun j => Nat.le_trans (kpR_small _ _) (by rw [List.length_take]; omega)
        obtain ⟨z, hz⟩ : ∃ z, z = L[k]?.getD [] := ⟨_, rfl⟩
        rw [← hz] at hzl e6 htake
        have z0 := hgr.cell e3 (fun e => hG (by cases e; rfl))
        have HZ := Lib.hid fun (a : Nat) (ha : a < n) => (show wr.cell? ⟨g, a, none⟩ = some (.int .i64 (z[a]?.getD 0)) from by
          have := hgr.cell (e6.at_ a (by rw [hzl]; exact ha)) (fun e => hg (by cases e; rfl))
          rw [Nat.zero_add] at this
          exact this)
        have hkn : keptN z ≤ n := Nat.le_trans (keptK_le z z.length) (Nat.le_of_eq hzl)
        have HSN := Lib.hid (htake.trans (kpR_snoc (L.take k) z hkn))
        have hat := kpR_at (L.take k) hkn
        have hcs := hcs (keptN z)
        have hkz : keptK z n = keptN z := by rw [keptN, hzl]
        have HKZ := Lib.hid hkz
        obtain ⟨kk, hkk⟩ : ∃ kk, kk = keptN z := ⟨_, rfl⟩
        rw [← hkk] at hkn hat hcs HSN HKZ
        obtain ⟨cc, hcc⟩ : ∃ cc, cc = ((L.take k).countP fun y => keptN y == kk) := ⟨_, rfl⟩
        rw [← hcc] at hat hcs HSN
        obtain ⟨y1, y2, y3, y4, y5⟩ := hO.atR (i := kk) (by rw [kpR_len]; omega)
        rw [hat] at y1
        have hset := hO.setR (i := kk) (x := (cc : Int) + 1) (by rw [kpR_len]; omega)
        rw [← HSN.out] at hset
        have HF := Lib.hid (And.intro (hgr.trans hset.2) hset.1)
        clear e2 e3 e4 e5 e6 e7 hu htake hkz hkk hcc hat hset hO hgr hz hzl HSN y2 y4
        go_wp2
        go_loop [8, 9] (fun c j => ∃ a : Nat, a ≤ n ∧ j = .int .i64 a ∧ c = .int .i64 (keptK z a : Int)) (fun c j => n - (intOf j).toNat)
        case atStart => exact ⟨0, Nat.zero_le _, rfl, rfl⟩
        case round =>
          obtain ⟨a, ha, rfl, rfl⟩ := hrel
          by_cases han : a < n
          · have z1 := HZ.out a han
            have HS := keptK_succ z a
            have hkl := keptK_le z a
            obtain ⟨x, hx⟩ : ∃ x, x = z[a]?.getD 0 := ⟨_, rfl⟩
            rw [← hx] at z1 HS
            obtain ⟨m, hm⟩ : ∃ m, m = keptK z a := ⟨_, rfl⟩
            rw [← hm] at HS hkl ⊢
            have HS := Lib.hid HS
            clear hx hm
            by_cases hxa : x = (a : Int)
            · subst hxa
              have hsn : keptK z (a + 1) = m + 1 := by rw [HS.out]; simp
              go_wp2
              go_round
              case rel => exact ⟨a + 1, han, by go_num, by first | (rw [hsn]; go_num) | rw [hsn]⟩
              case measure => simp [intOf]; omega
            · have hxb : (x == (a : Int)) = false := by rw [beq_eq_false_iff_ne]; omega
              have hsn : keptK z (a + 1) = m := by rw [HS.out, hxb]; simp
              go_wp2
              go_round
              case rel => exact ⟨a + 1, han, by go_num, by first | (rw [hsn]; go_num) | rw [hsn]⟩
              case measure => simp [intOf]; omega
          · obtain rfl : a = n := by omega
            rw [HKZ.out]
            go_wp2
            go_roundw
            case rel => exact ⟨k + 1, hlt, by go_num, HF.out.1, HF.out.2⟩
            case measure => simp [intOf]; omega
      · obtain rfl : k = L.length := by omega
        rw [List.take_length] at hO
        have HOZ := Lib.hid hO
        have HBZ := Lib.hid (HBC.out.grown hgr HBC.out.size (fun r e => by cases e; exact hgo1))
        clear hgr hO
        go_wp2
        go_ret2
        exact ⟨_, rfl, HOZ.out, HBZ.out⟩
set_option maxRecDepth 100000 in
theorem specKep_any (v : Int) (s : Value) (bs : List Blk) (w : World) (h : SB w s bs) : Calls Try.prog 42 #[.agg #[.int .i64 v, s]] w (RJ (kpF v bs) w) := by
  by_cases hc : fullC v bs = 0
  · obtain ⟨hi, hf⟩ := fullC_ok hc
    obtain ⟨n, rfl⟩ : ∃ n : Nat, v = (n : Int) := ⟨v.toNat, by have := (sys_size hi).1; omega⟩
    have := specKep_main n s bs w h hi hf
    unfold kpF
    rw [if_pos hc, Int.toNat_natCast]
    exact this
  · have HV := Lib.hid (show kpF v bs = ([], fullC v bs) by simp [kpF, hc])
    rw [HV.out]
    have HFC := Lib.hid fun (B : Nat) W (hb : Below w.heap.size w W) c0 c1 => l06Code_one B v s bs W (h.below hb (Nat.le_refl _)) c0 c1
    have hb0 : Below w.heap.size w ((w.alloc (.cells #[.int .i64 v, s] 31)).alloc (.cells #[.int .i64 v, s] 31)) := ((Below.refl _ _).alloc (Nat.le_refl _) _).alloc (by simp) _
    obtain ⟨k, hk⟩ : ∃ k, k = fullC v bs := ⟨_, rfl⟩
    rw [← hk] at HFC hc ⊢
    have hk0 : (k == 0) = false := by simpa using hc
    have hk1 : (k != 0) = true := by simpa using hc
    obtain ⟨a0, c0, rfl⟩ := h.slice
    clear h hk
    have HFI := Lib.hid (HFC.out (w.heap.size + 1) _ hb0 (by simp [go_sem]) (by simp [go_sem]))
    go_enter Try.func42, Try.ntmps42
    go_wp2_with fail
    refine HFI.out.mono ?_
    rintro e w1 ⟨rfl, hb1⟩
    have hbw := hb0.trans (hb1.mono (by simp <;> omega))
    clear hb1 HFI
    go_wp2
    go_ret2
    exact ⟨_, rfl, OwnJ.nil _ _, hbw⟩
end Go.Proofs.Ytoicdfdfajfopaa


/- The model's first renumbering. The program's first renumbering. The model's stabiliser number. The model's stabiliser number: the walk. oneIf. The program's stabiliser number. -/
import Derived.Test.YtoicdfdfajfopaaJ18
namespace Go.Proofs.Ytoicdfdfajfopaa
open Go.RowKit Go.Maps
def finF (v1 : Int) (bs1 : List Blk) (v2 : Int) (bs2 : List Blk) : List Int × Int := if code2 v1 bs1 v2 bs2 = 0 then (if v1 = v2 then (match isoL v1.toNat (T3 bs1) (T3 bs2) with
    | [] => ([], 4)
    | z :: _ => (z, 0)) else ([], 4)) else ([], code2 v1 bs1 v2 bs2)
theorem isoL_row {n : Nat} {T1 T2 : Nat → Nat → Nat} (h1 : Thd n T1) (h2 : Thd n T2) {z : List Int} (hz : z ∈ isoL n T1 T2) : ∃ f, IsoR n T1 T2 f ∧ z = castN (lisN n f) := by
  obtain ⟨x, hx, rfl⟩ := List.mem_map.1 hz
  obtain ⟨f, hf, _, rfl⟩ := (goM_mem h1 h2 n [] (by simp) ⟨by simp, by simp, by simp⟩ x).1 hx
  exact ⟨f, hf, rfl⟩
theorem isoL_rowlen {n : Nat} {T1 T2 : Nat → Nat → Nat} (h1 : Thd n T1) (h2 : Thd n T2) {z : List Int} (hz : z ∈ isoL n T1 T2) : z.length = n := by
  obtain ⟨f, _, rfl⟩ := isoL_row h1 h2 hz
  simp [castN, lisN]
theorem goS_first {n : Nat} {T1 T2 : Nat → Nat → Nat} : (goS n T1 T2 (fun _ => true) 1 n [] []).map castN = (isoL n T1 T2).take 1 := by
  rw [goS_one, List.filter_eq_self.2 (fun _ _ => rfl), isoL, List.map_take]
set_option maxRecDepth 100000 in
set_option maxHeartbeats 4000000 in
theorem specFind_any (v1 v2 : Int) (s1 s2 : Value) (bs1 bs2 : List Blk) (w : World) (h1 : SB w s1 bs1) (h2 : SB w s2 bs2) : Calls Try.prog 22 #[.agg #[.int .i64 v1, s1], .agg #[.int .i64 v2, s2]] w (RJ (finF v1 bs1 v2 bs2) w) := by
  have hfc := fun W hb B c0 c1 c2 c3 => l06Code_two B v1 v2 s1 s2 bs1 bs2 W (h1.below (w' := W) hb (Nat.le_refl _)) (h2.below (w' := W) hb (Nat.le_refl _)) c0 c1 c2 c3
  obtain ⟨W1, hW1⟩ : ∃ W1, W1 = ((w.alloc (.cells #[.int .i64 v1, s1] 31)).alloc (.cells #[.int .i64 v2, s2] 31)).alloc (.cells #[.int .i64 v1, s1, .int .i64 v2, s2] 31) := ⟨_, rfl⟩
  have hB1 : Below w.heap.size w W1 := by rw [hW1]; exact (((Below.refl _ _).alloc (Nat.le_refl _) _).alloc (by simp) _).alloc (by simp <;> omega) _
  obtain ⟨a1, c1, rfl⟩ := h1.slice
  obtain ⟨a2, c2, rfl⟩ := h2.slice
  have q0 : W1.cell? ⟨w.heap.size, 0, none⟩ = some (.int .i64 v1) := by rw [hW1]; simp [go_sem]
  have q1 : W1.cell? ⟨w.heap.size, 1, none⟩ = some (.slice a1 bs1.length c1) := by rw [hW1]; simp [go_sem]
  have r0 : W1.cell? ⟨w.heap.size + 1, 0, none⟩ = some (.int .i64 v2) := by rw [hW1]; simp [go_sem]
  have r1 : W1.cell? ⟨w.heap.size + 1, 1, none⟩ = some (.slice a2 bs2.length c2) := by rw [hW1]; simp [go_sem]
  have hz1 : W1.heap.size = w.heap.size + 1 + 1 + 1 := by rw [hW1]; simp
  have hcall := hfc W1 hB1 (w.heap.size + 1 + 1) (by rw [hW1]; simp [go_sem]) (by rw [hW1]; simp [go_sem]) (by rw [hW1]; simp [go_sem]) (by rw [hW1]; simp [go_sem])
  clear hfc
  by_cases hc : code2 v1 bs1 v2 bs2 = 0
  · obtain ⟨i1, f1, i2, f2⟩ := code2_ok hc
    rw [hc] at hcall
    have HCL := Lib.hid hcall
    by_cases hv : v1 = v2
    · subst hv
      obtain ⟨n, rfl⟩ : ∃ n : Nat, v1 = (n : Int) := ⟨v1.toNat, by have := (sys_size i1).1; omega⟩
      have hn3 := (sys_size i1).1
      have hn15 := (sys_size i1).2.1
      have hbt := fun W (hb : Below w.heap.size w W) => l06Between_any n 1 (.slice a1 bs1.length c1) (.slice a2 bs2.length c2) bs1 bs2 false (fun _ => true) W (h1.below hb (Nat.le_refl _)) (h2.below hb (Nat.le_refl _)) i1 f1 i2 f2 (by omega) (by omega) (.inl ⟨rfl, fun _ => rfl⟩)
      have hgl : (goS n (T3 bs1) (T3 bs2) (fun _ => true) 1 n [] []).length = ((isoL n (T3 bs1) (T3 bs2)).take 1).length := by rw [← goS_first, List.length_map]
      rw [goS_first, hgl] at hbt
      have HBT := Lib.hid hbt
      have hrl : ∀ z ∈ isoL n (T3 bs1) (T3 bs2), z.length = n := fun z hz => isoL_rowlen (thdS i1 f1) (thdS i2 f2) hz
      have hval : finF (n : Int) bs1 (n : Int) bs2 = (match isoL n (T3 bs1) (T3 bs2) with | [] => ([], 4) | z :: _ => (z, 0)) := by
        unfold finF
        rw [if_pos hc, if_pos rfl, Int.toNat_natCast]
      rw [hval]
      clear hval hcall hbt hgl i1 f1 i2 f2 h1 h2 hc
      generalize isoL n (T3 bs1) (T3 bs2) = L at HBT hrl
      cases L with
      | nil =>
        show Calls _ _ _ _ (RJ ([], 4) w)
        clear hrl
        go_enter Try.func22, Try.ntmps22
        go_wp2_with fail
        rw [← hW1]
        refine HCL.out.mono ?_
        rintro e w2 ⟨rfl, hb2⟩
        have hB2 := hB1.trans (hb2.mono hB1.size)
        have q0 := (hb2.cell (p := ⟨w.heap.size, 0, none⟩) (show w.heap.size < W1.heap.size by omega)).trans q0
        have q1 := (hb2.cell (p := ⟨w.heap.size, 1, none⟩) (show w.heap.size < W1.heap.size by omega)).trans q1
        have r0 := (hb2.cell (p := ⟨w.heap.size + 1, 0, none⟩) (show w.heap.size + 1 < W1.heap.size by omega)).trans r0
        have r1 := (hb2.cell (p := ⟨w.heap.size + 1, 1, none⟩) (show w.heap.size + 1 < W1.heap.size by omega)).trans r1
        clear hb2 hW1 hB1 HCL
        go_wp2_with fail
        refine (HBT.out _ hB2).mono ?_
        rintro e w3 ⟨u, us, rfl, hT, hu, hb3⟩
        obtain ⟨a5, c5, rfl⟩ := hu
        have hB3 := hB2.trans (hb3.mono hB2.size)
        clear hT hb3 HBT
        go_wp2
        go_ret2
        exact ⟨_, rfl, OwnJ.nil _ _, hB3⟩
      | cons z L =>
        show Calls _ _ _ _ (RJ (z, 0) w)
        have hzl := hrl z (by simp)
        have HZ := Lib.hid hzl
        clear hrl hzl
        go_enter Try.func22, Try.ntmps22
        go_wp2_with fail
        rw [← hW1]
        refine HCL.out.mono ?_
        rintro e w2 ⟨rfl, hb2⟩
        have hB2 := hB1.trans (hb2.mono hB1.size)
        have q0 := (hb2.cell (p := ⟨w.heap.size, 0, none⟩) (show w.heap.size < W1.heap.size by omega)).trans q0
        have q1 := (hb2.cell (p := ⟨w.heap.size, 1, none⟩) (show w.heap.size < W1.heap.size by omega)).trans q1
        have r0 := (hb2.cell (p := ⟨w.heap.size + 1, 0, none⟩) (show w.heap.size + 1 < W1.heap.size by omega)).trans r0
        have r1 := (hb2.cell (p := ⟨w.heap.size + 1, 1, none⟩) (show w.heap.size + 1 < W1.heap.size by omega)).trans r1
        clear hb2 hW1 hB1 HCL
        go_wp2_with fail
        refine (HBT.out _ hB2).mono ?_
        rintro e w3 ⟨u, us, rfl, hT, -, hb3⟩
        have hB3 := hB2.trans (hb3.mono hB2.size)
        have hb2z := hB2.size
        obtain ⟨G, c, g, cap, rfl, e1, e2, e3, e4, e5, e6⟩ := hT.at_ (k := 0) (by simp) (by simp [HZ.out]; omega) (by simp [HZ.out]; omega)
        have ho := hT.row 0 _ e4
        simp only [List.take_succ_cons, List.take_zero, List.getElem?_cons_zero, Option.getD_some, List.length_cons, List.length_nil] at e2 e4 e5 ho ⊢
        have HOZ := Lib.hid (ho.baseP (b' := w.heap.size) (by omega))
        clear hT hb3 HBT ho e5 e4
        go_wp2
        go_ret2
        exact ⟨_, rfl, HOZ.out, hB3⟩
    · have hval : finF v1 bs1 v2 bs2 = ([], 4) := by
        unfold finF
        rw [if_pos hc, if_neg hv]
      rw [hval]
      have hne : (v1 != v2) = true := by simpa using hv
      clear hval hcall i1 f1 i2 f2 h1 h2 hc
      go_enter Try.func22, Try.ntmps22
      go_wp2_with fail
      rw [← hW1]
      refine HCL.out.mono ?_
      rintro e w2 ⟨rfl, hb2⟩
      have hB2 := hB1.trans (hb2.mono hB1.size)
      have q0 := (hb2.cell (p := ⟨w.heap.size, 0, none⟩) (show w.heap.size < W1.heap.size by omega)).trans q0
      have r0 := (hb2.cell (p := ⟨w.heap.size + 1, 0, none⟩) (show w.heap.size + 1 < W1.heap.size by omega)).trans r0
      clear hb2 hW1 hB1 HCL
      go_wp2
      go_ret2
      exact ⟨_, rfl, OwnJ.nil _ _, hB2⟩
  · have hval : finF v1 bs1 v2 bs2 = ([], code2 v1 bs1 v2 bs2) := by
      unfold finF
      rw [if_neg hc]
    rw [hval]
    obtain ⟨k, hk⟩ : ∃ k, k = code2 v1 bs1 v2 bs2 := ⟨_, rfl⟩
    rw [← hk] at hcall hc ⊢
    have HCL := Lib.hid hcall
    have hk1 : (k != 0) = true := by simpa using hc
    clear hval hcall h1 h2 hk q0 q1 r0 r1
    go_enter Try.func22, Try.ntmps22
    go_wp2_with fail
    rw [← hW1]
    refine HCL.out.mono ?_
    rintro e w2 ⟨rfl, hb2⟩
    have hB2 := hB1.trans (hb2.mono hB1.size)
    clear hb2 hW1 hB1 HCL
    go_wp2
    go_ret2
    exact ⟨_, rfl, OwnJ.nil _ _, hB2⟩
theorem finF_len (v1 : Int) (bs1 : List Blk) (v2 : Int) (bs2 : List Blk) : (finF v1 bs1 v2 bs2).1.length ≤ 15 := by
  unfold finF
  split
  · rename_i hc
    split
    · rename_i hv
      subst hv
      obtain ⟨i1, f1, i2, f2⟩ := code2_ok hc
      obtain ⟨n, rfl⟩ : ∃ n : Nat, v1 = (n : Int) := ⟨v1.toNat, by have := (sys_size i1).1; omega⟩
      have hn15 := (sys_size i1).2.1
      rw [Int.toNat_natCast]
      have hl : ∀ z ∈ isoL n (T3 bs1) (T3 bs2), z.length = n := fun z hz => isoL_rowlen (thdS i1 f1) (thdS i2 f2) hz
      cases hL : isoL n (T3 bs1) (T3 bs2) with
      | nil => simp
      | cons z L =>
        have := hl z (by rw [hL]; simp)
        show z.length ≤ 15
        omega
    · simp
  · simp
/-- What the model says of being isomorphic. -/
def isoF (v1 : Int) (bs1 : List Blk) (v2 : Int) (bs2 : List Blk) : Bool × Int := if code2 v1 bs1 v2 bs2 = 0 then (decide (v1 = v2) && !(isoL v1.toNat (T3 bs1) (T3 bs2)).isEmpty, 0) else (false, code2 v1 bs1 v2 bs2)
theorem isoF_find (v1 : Int) (bs1 : List Blk) (v2 : Int) (bs2 : List Blk) : isoF v1 bs1 v2 bs2 = if (finF v1 bs1 v2 bs2).2 = 4 then (false, 0) else (decide ((finF v1 bs1 v2 bs2).2 = 0), (finF v1 bs1 v2 bs2).2) := by
  unfold isoF finF
  rcases code2_or v1 bs1 v2 bs2 with h | h | h
  · rw [if_pos h, if_pos h]
    by_cases hv : v1 = v2
    · rw [if_pos hv]
      cases isoL v1.toNat (T3 bs1) (T3 bs2) <;> simp [hv]
    · rw [if_neg hv]
      simp [hv]
  · simp [h]
  · simp [h]
set_option maxRecDepth 100000 in
set_option maxHeartbeats 4000000 in
theorem specIso_any (v1 v2 : Int) (s1 s2 : Value) (bs1 bs2 : List Blk) (w : World) (h1 : SB w s1 bs1) (h2 : SB w s2 bs2) : Calls Try.prog 27 #[.agg #[.int .i64 v1, s1], .agg #[.int .i64 v2, s2]] w (RV (boolCode (isoF v1 bs1 v2 bs2).1 (isoF v1 bs1 v2 bs2).2) w) := by
  have hfc := fun W hb B c0 c1 c2 c3 => l06Code_two B v1 v2 s1 s2 bs1 bs2 W (h1.below (w' := W) hb (Nat.le_refl _)) (h2.below (w' := W) hb (Nat.le_refl _)) c0 c1 c2 c3
  obtain ⟨W1, hW1⟩ : ∃ W1, W1 = ((w.alloc (.cells #[.int .i64 v1, s1] 31)).alloc (.cells #[.int .i64 v2, s2] 31)).alloc (.cells #[.int .i64 v1, s1, .int .i64 v2, s2] 31) := ⟨_, rfl⟩
  have hB1 : Below w.heap.size w W1 := by rw [hW1]; exact (((Below.refl _ _).alloc (Nat.le_refl _) _).alloc (by simp) _).alloc (by simp <;> omega) _
  obtain ⟨a1, c1, rfl⟩ := h1.slice
  obtain ⟨a2, c2, rfl⟩ := h2.slice
  have q0 : W1.cell? ⟨w.heap.size, 0, none⟩ = some (.int .i64 v1) := by rw [hW1]; simp [go_sem]
  have q1 : W1.cell? ⟨w.heap.size, 1, none⟩ = some (.slice a1 bs1.length c1) := by rw [hW1]; simp [go_sem]
  have r0 : W1.cell? ⟨w.heap.size + 1, 0, none⟩ = some (.int .i64 v2) := by rw [hW1]; simp [go_sem]
  have r1 : W1.cell? ⟨w.heap.size + 1, 1, none⟩ = some (.slice a2 bs2.length c2) := by rw [hW1]; simp [go_sem]
  have hz1 : W1.heap.size = w.heap.size + 1 + 1 + 1 := by rw [hW1]; simp
  have hcall := hfc W1 hB1 (w.heap.size + 1 + 1) (by rw [hW1]; simp [go_sem]) (by rw [hW1]; simp [go_sem]) (by rw [hW1]; simp [go_sem]) (by rw [hW1]; simp [go_sem])
  clear hfc
  by_cases hc : code2 v1 bs1 v2 bs2 = 0
  · obtain ⟨i1, f1, i2, f2⟩ := code2_ok hc
    rw [hc] at hcall
    have HCL := Lib.hid hcall
    by_cases hv : v1 = v2
    · subst hv
      obtain ⟨n, rfl⟩ : ∃ n : Nat, v1 = (n : Int) := ⟨v1.toNat, by have := (sys_size i1).1; omega⟩
      have hn3 := (sys_size i1).1
      have hn15 := (sys_size i1).2.1
      have hbt := fun W (hb : Below w.heap.size w W) => l06Between_any n 1 (.slice a1 bs1.length c1) (.slice a2 bs2.length c2) bs1 bs2 false (fun _ => true) W (h1.below hb (Nat.le_refl _)) (h2.below hb (Nat.le_refl _)) i1 f1 i2 f2 (by omega) (by omega) (.inl ⟨rfl, fun _ => rfl⟩)
      have hgl : (goS n (T3 bs1) (T3 bs2) (fun _ => true) 1 n [] []).length = ((isoL n (T3 bs1) (T3 bs2)).take 1).length := by rw [← goS_first, List.length_map]
      rw [hgl] at hbt
      have HBT := Lib.hid hbt
      have hval : isoF (n : Int) bs1 (n : Int) bs2 = (!(isoL n (T3 bs1) (T3 bs2)).isEmpty, 0) := by
        unfold isoF
        rw [if_pos hc, Int.toNat_natCast]
        simp
      rw [hval]
      obtain ⟨m, hm⟩ : ∃ m, m = ((isoL n (T3 bs1) (T3 bs2)).take 1).length := ⟨_, rfl⟩
      have hm1 : m ≤ 1 := by rw [hm, List.length_take]; omega
      have hme : (!(isoL n (T3 bs1) (T3 bs2)).isEmpty) = decide (0 < m) := by
        rw [hm]
        cases isoL n (T3 bs1) (T3 bs2) <;> simp
      rw [hme]
      rw [← hm] at HBT
      unfold boolCode
      clear hval hcall hbt hgl i1 f1 i2 f2 h1 h2 hc hm hme
      have hdec : decide ((m : Int) > 0) = decide (0 < m) := by simp
      obtain ⟨β, hβ⟩ : ∃ β, β = decide (0 < m) := ⟨_, rfl⟩
      rw [← hβ] at hdec ⊢
      clear hβ
      go_enter Try.func27, Try.ntmps27
      go_wp2_with fail
      rw [← hW1]
      refine HCL.out.mono ?_
      rintro e w2 ⟨rfl, hb2⟩
      have hB2 := hB1.trans (hb2.mono hB1.size)
      have q0 := (hb2.cell (p := ⟨w.heap.size, 0, none⟩) (show w.heap.size < W1.heap.size by omega)).trans q0
      have q1 := (hb2.cell (p := ⟨w.heap.size, 1, none⟩) (show w.heap.size < W1.heap.size by omega)).trans q1
      have r0 := (hb2.cell (p := ⟨w.heap.size + 1, 0, none⟩) (show w.heap.size + 1 < W1.heap.size by omega)).trans r0
      have r1 := (hb2.cell (p := ⟨w.heap.size + 1, 1, none⟩) (show w.heap.size + 1 < W1.heap.size by omega)).trans r1
      clear hb2 hW1 hB1 HCL
      go_wp2_with fail
      refine (HBT.out _ hB2).mono ?_
      rintro e w3 ⟨u, us, rfl, hT, hu, hb3⟩
      obtain ⟨a5, c5, rfl⟩ := hu
      have hB3 := hB2.trans (hb3.mono hB2.size)
      clear hT hb3 HBT
      go_wp2
      go_ret2
      first
        | exact RV_of rfl hB3
        | (refine RV_of ?_ hB3; simp_all)
    · have hval : isoF v1 bs1 v2 bs2 = (false, 0) := by
        unfold isoF
        rw [if_pos hc]
        simp [hv]
      rw [hval]
      unfold boolCode
      have hne : (v1 == v2) = false := by simpa using hv
      clear hval hcall i1 f1 i2 f2 h1 h2 hc
      go_enter Try.func27, Try.ntmps27
      go_wp2_with fail
      rw [← hW1]
      refine HCL.out.mono ?_
      rintro e w2 ⟨rfl, hb2⟩
      have hB2 := hB1.trans (hb2.mono hB1.size)
      have q0 := (hb2.cell (p := ⟨w.heap.size, 0, none⟩) (show w.heap.size < W1.heap.size by omega)).trans q0
      have r0 := (hb2.cell (p := ⟨w.heap.size + 1, 0, none⟩) (show w.heap.size + 1 < W1.heap.size by omega)).trans r0
      clear hb2 hW1 hB1 HCL
      go_wp2
      go_ret2
      exact RV_of rfl hB2
  · have hval : isoF v1 bs1 v2 bs2 = (false, code2 v1 bs1 v2 bs2) := by
      unfold isoF
      rw [if_neg hc]
    rw [hval]
    unfold boolCode
    obtain ⟨k, hk⟩ : ∃ k, k = code2 v1 bs1 v2 bs2 := ⟨_, rfl⟩
    rw [← hk] at hcall hc ⊢
    have HCL := Lib.hid hcall
    have hk1 : (k != 0) = true := by simpa using hc
    clear hval hcall h1 h2 hk q0 q1 r0 r1
    go_enter Try.func27, Try.ntmps27
    go_wp2_with fail
    rw [← hW1]
    refine HCL.out.mono ?_
    rintro e w2 ⟨rfl, hb2⟩
    have hB2 := hB1.trans (hb2.mono hB1.size)
    clear hb2 hW1 hB1 HCL
    go_wp2
    go_ret2
    exact RV_of rfl hB2
end Go.Proofs.Ytoicdfdfajfopaa

namespace Go.Proofs.Ytoicdfdfajfopaa
open Go.RowKit Go.Maps Go.Shelf
attribute [local go_sem] Oper.semAt_some
theorem boxed_put {W : World} {B D : Nat} {t : TypeId} {v : Value} {q : Option (List Deferred)} (o : Obj) (h : Boxed W B t v) (hk : W.heap[D]? = some (.deferred q)) : Boxed (W.putObj D o) B t v := by
  have hne : B ≠ D := fun e => by
    subst e
    unfold Boxed at h
    rw [hk] at h
    cases h
  exact (World.putObj_heap_other (by first | exact hne | exact hne.symm)).trans h
theorem renL_head {n : Nat} {T1 T2 : Nat → Nat → Nat} (h1 : Thd n T1) (h2 : Thd n T2) {x : List (Option Nat)} {r : List (List (Option Nat))} (h : x :: r <+: renL n T1 T2) : ∃ L, isoL n T1 T2 = encM x :: L := by
  obtain ⟨s, hs⟩ := h
  rw [← renL_enc h1 h2, ← hs]
  exact ⟨_, rfl⟩
def firR (xs : List (List (Option Nat))) : List Int × Int := match xs with
  | [] => ([], 4)
  | x :: _ => (encM x, 0)
set_option maxRecDepth 100000 in
set_option maxHeartbeats 4000000 in
theorem Find_core (v1 v2 : Int) (s1 s2 : Value) (bs1 bs2 : List Blk) (w : World) (h1 : SB w s1 bs1) (h2 : SB w s2 bs2) (hc0 : code2 v1 bs1 v2 bs2 = 0) (gf : Nat) (eg : ∀ args w, (callFunc gf args).run Try.prog w = .ok (.enter gf args) w) (xs : List (List (Option Nat)))
    (hA : ∀ W, Below w.heap.size w W → Calls Try.prog 67 #[.agg #[.int .i64 v1, s1], .agg #[.int .i64 v2, s2]] W (fun e w' => ∃ lb, e = .returned (.func (.func gf) #[] lb) ∧ (∀ E : Nat → Prop, (∀ i, E i → i < W.heap.size) → ∀ W', Below w'.heap.size w' W' → SeqR Fence.wide (9 - 1) Try.prog gf lb (RowE E) E (fun ys => ys = xs) (fun pre => pre <+: xs) xs.length W.heap.size W') ∧ Below W.heap.size W w')) :
    Calls Try.prog 23 #[.agg #[.int .i64 v1, s1], .agg #[.int .i64 v2, s2]] w (RJ (firR xs) w) := by
  obtain ⟨W1, hW1⟩ : ∃ W1, W1 = ((((w.alloc (.cells #[.int .i64 v1, s1] 31)).alloc (.cells #[.int .i64 v2, s2] 31)).alloc (.cells #[.slice none 0 0] 25)).alloc (.cells #[.int .i64 0] 2)).alloc (.cells #[.int .i64 v1, s1, .int .i64 v2, s2] 31) := ⟨_, rfl⟩
  have hB1 : Below w.heap.size w W1 := by rw [hW1]; exact (((((Below.refl _ _).alloc (Nat.le_refl _) _).alloc (by simp) _).alloc (by simp <;> omega) _).alloc (by simp <;> omega) _).alloc (by simp <;> omega) _
  have hfc := fun W hb B c0 c1 c2 c3 => fullCode_two B v1 v2 s1 s2 bs1 bs2 W (h1.below (w' := W) hb (Nat.le_refl _)) (h2.below (w' := W) hb (Nat.le_refl _)) c0 c1 c2 c3
  have HA := Lib.hid hA
  obtain ⟨a1, c1, rfl⟩ := h1.slice
  obtain ⟨a2, c2, rfl⟩ := h2.slice
  have q0 : W1.cell? ⟨w.heap.size, 0, none⟩ = some (.int .i64 v1) := by rw [hW1]; simp [go_sem]
  have q1 : W1.cell? ⟨w.heap.size, 1, none⟩ = some (.slice a1 bs1.length c1) := by rw [hW1]; simp [go_sem]
  have r0 : W1.cell? ⟨w.heap.size + 1, 0, none⟩ = some (.int .i64 v2) := by rw [hW1]; simp [go_sem]
  have r1 : W1.cell? ⟨w.heap.size + 1, 1, none⟩ = some (.slice a2 bs2.length c2) := by rw [hW1]; simp [go_sem]
  have b4 : Boxed W1 (w.heap.size + 1 + 1) 25 (.slice none 0 0) := by
    have := ((Boxed.new ((w.alloc (.cells #[.int .i64 v1, .slice a1 bs1.length c1] 31)).alloc (.cells #[.int .i64 v2, .slice a2 bs2.length c2] 31)) 25 (.slice none 0 0)).alloc (.cells #[.int .i64 0] 2)).alloc (.cells #[.int .i64 v1, .slice a1 bs1.length c1, .int .i64 v2, .slice a2 bs2.length c2] 31)
    simp only [World.size_alloc] at this
    rw [hW1]
    exact this
  have b5 : Boxed W1 (w.heap.size + 1 + 1 + 1) 2 (.int .i64 0) := by
    have := (Boxed.new (((w.alloc (.cells #[.int .i64 v1, .slice a1 bs1.length c1] 31)).alloc (.cells #[.int .i64 v2, .slice a2 bs2.length c2] 31)).alloc (.cells #[.slice none 0 0] 25)) 2 (.int .i64 0)).alloc (.cells #[.int .i64 v1, .slice a1 bs1.length c1, .int .i64 v2, .slice a2 bs2.length c2] 31)
    simp only [World.size_alloc] at this
    rw [hW1]
    exact this
  have hz1 : W1.heap.size = w.heap.size + 1 + 1 + 1 + 1 + 1 := by rw [hW1]; simp
  have hcall := hfc W1 hB1 (w.heap.size + 1 + 1 + 1 + 1) (by rw [hW1]; simp [go_sem]) (by rw [hW1]; simp [go_sem]) (by rw [hW1]; simp [go_sem]) (by rw [hW1]; simp [go_sem])
  rw [hc0] at hcall
  have HCL := Lib.hid hcall
  obtain ⟨rr, hrr⟩ : ∃ rr : List Int × Int, rr = firR xs := ⟨_, rfl⟩
  rw [← hrr]
  have HRR := Lib.hid hrr
  clear hfc hcall hc0 h1 h2 hrr hA
  have hro : Fence.wide.round = none := rfl
  refine (callsIn_wide (n := 9)).1 ?_
  refine callsIn_of_wp_marks Try.func23 rfl trivial ?_ hro
  simp only [Try.ntmps23, List.size_toArray, List.length_cons, List.length_nil, Nat.reduceAdd, Nat.reduceSub, Array.replicate_succ, Array.replicate_zero, List.push_toArray, List.append_toArray, List.nil_append, List.cons_append]
  gi_wp2_with (first | fail)
  rw [← hW1]
  refine ⟨trivial, (callsIn_wide.2 HCL.out).mono ?_⟩
  rintro e w2 ⟨rfl, hb2⟩
  have hB2 := hB1.trans (hb2.mono hB1.size)
  have q0 := (hb2.cell (p := ⟨w.heap.size, 0, none⟩) (show w.heap.size < W1.heap.size by omega)).trans q0
  have q1 := (hb2.cell (p := ⟨w.heap.size, 1, none⟩) (show w.heap.size < W1.heap.size by omega)).trans q1
  have r0 := (hb2.cell (p := ⟨w.heap.size + 1, 0, none⟩) (show w.heap.size + 1 < W1.heap.size by omega)).trans r0
  have r1 := (hb2.cell (p := ⟨w.heap.size + 1, 1, none⟩) (show w.heap.size + 1 < W1.heap.size by omega)).trans r1
  have b4 : Boxed w2 _ _ _ := (hb2.block (w.heap.size + 1 + 1) (by omega)).trans b4
  have b5 : Boxed w2 _ _ _ := (hb2.block (w.heap.size + 1 + 1 + 1) (by omega)).trans b5
  have hz2 := hb2.size
  clear hb2 hW1 hB1 HCL
  obtain ⟨Br, hBr⟩ : ∃ Br, Br = w.heap.size + 1 + 1 := ⟨_, rfl⟩
  obtain ⟨Bc, hBc⟩ : ∃ Bc, Bc = w.heap.size + 1 + 1 + 1 := ⟨_, rfl⟩
  rw [← hBc] at b5 ⊢
  rw [← hBr] at b4 ⊢
  have hbr1 : w.heap.size ≤ Br := by omega
  have hbr2 : Br < w2.heap.size := by omega
  have hbc1 : w.heap.size ≤ Bc := by omega
  have hbc2 : Bc < w2.heap.size := by omega
  have hbne : Br ≠ Bc := by omega
  clear hBr hBc hz1
  gi_wp2_with (first | fail)
  refine ⟨trivial, (callsIn_wide.2 (HA.out w2 hB2)).mono ?_⟩
  rintro e w3 ⟨lb, rfl, hD, hb3⟩
  have hB3 := hB2.trans (hb3.mono hB2.size)
  have hz3 := hb3.size
  have b4 : Boxed w3 _ _ _ := (hb3.block Br hbr2).trans b4
  have b5 : Boxed w3 _ _ _ := (hb3.block Bc hbc2).trans b5
  have HSQ := Lib.hid (hD (fun i => i = Br ∨ i = Bc) (fun i e => by rcases e with rfl | rfl <;> omega))
  have hzz2 := hB2.size
  clear hD hb3 HA hB2 q0 q1 r0 r1
  gi_wp2
  refine wpIn_rangeFunc_R hro (by omega) (gf := gf) (lb := lb) rfl trivial eg rfl (fun i e => by rcases e with rfl | rfl <;> omega) HSQ.out
    (fun pre k W => k = w2.heap.size ∧ pre = [] ∧ Boxed W Br 25 (.slice none 0 0) ∧ Boxed W Bc 2 (.int .i64 0) ∧ Below w.heap.size w W)
    (fun c pre k W => c = .ret ∧ ∃ x vx, pre = [x] ∧ Boxed W Br 25 vx ∧ Boxed W Bc 2 (.int .i64 0) ∧ OwnJ W w.heap.size vx (encM x) ∧ Below w.heap.size w W)
    (fun pre k u X Y row hs hg hr => ⟨hs.1, hs.2.1, hs.2.2.1.kept hg (fun e => by have := (hr _ e.symm).1; omega), hs.2.2.2.1.kept hg (fun e => by have := (hr _ e.symm).1; omega), hs.2.2.2.2.grown hg hs.2.2.2.2.size (fun r e => by have := (hr r e).1; omega)⟩)
    (fun c pre k u X Y row hs hg hr => by
      obtain ⟨e1, x, vx, e2, e3, e4, e5, e6⟩ := hs
      exact ⟨e1, x, vx, e2, e3.kept hg (fun e => by have := (hr _ e.symm).1; omega), e4.kept hg (fun e => by have := (hr _ e.symm).1; omega), ownJ_own w.heap.size vx (encM x) X Y row e5 hg (fun r e => (hr r e).2), e6.grown hg e6.size (fun r e => by have := (hr r e).1; omega)⟩)
    ⟨rfl, rfl, b4, b5, hB3⟩
    (fun x k vx a' W' => (∃ (y0 y1 y2 y3 y6 y8 y9 y10 y11 y12 y13 y14 y15 y16 y17 y18 y19 : Value), a' = { tmps := #[y0, y1, y2, y3, .pointer (some ⟨Br, 0, none⟩), .pointer (some ⟨Bc, 0, none⟩), y6, vx, y8, y9, y10, y11, y12, y13, y14, y15, y16, y17, y18, y19], defers := [] }) ∧ RowE (fun i => i = Br ∨ i = Bc) x k vx W')
    (fun x k vx a' u X Y row hs hg hr => ⟨hs.1, OwnE.ck hs.2 (CK.of_grown hg fun r e => (hr r e).2)⟩) ?assign ?body ?done ?stop
  case assign =>
    intro l' pre x k vx W' K hi hRx hK
    obtain ⟨a9, c9, rfl⟩ := OwnJ.formS hRx.1
    simp only [List.zip_toArray, List.zip_cons_cons, List.zip_nil_right, List.size_toArray, List.length_cons, List.length_nil, List.foldl_toArray', List.foldl_cons, List.foldl_nil, List.setIfInBounds_toArray, List.set_cons_succ, List.set_cons_zero]
    gi_wp2
    exact hK _ _ (Kept.refl _ _ _) hi ⟨⟨_, _, _, _, _, _, _, _, _, _, _, _, _, _, _, _, _, rfl⟩, hRx⟩
  case body =>
    rintro l' pre x k vx a' W' hl' hloop ⟨rfl, rfl, i3, i4, i5⟩ ⟨⟨y0, y1, y2, y3, y6, y8, y9, y10, y11, y12, y13, y14, y15, y16, y17, y18, y19, rfl⟩, hRx⟩ hlen
    obtain ⟨a9, c9, rfl⟩ := OwnJ.formS hRx.1
    have x1 := i3.cell
    have x2 := i3.frozen
    have x3 := i4.cell
    have x4 := i4.frozen
    obtain ⟨V, hV⟩ : ∃ V, V = (W'.setCell ⟨Br, 0, none⟩ (.slice a9 (encM x).length c9)).setCell ⟨Bc, 0, none⟩ (.int .i64 0) := ⟨_, rfl⟩
    have g1 := set_gb W' Br 0 (.slice a9 (encM x).length c9)
    have g2 := set_gb (W'.setCell ⟨Br, 0, none⟩ (.slice a9 (encM x).length c9)) Bc 0 (.int .i64 0)
    have hck : CK (fun i => i = Br ∨ i = Bc) W' V := by
      rw [hV]
      exact (CK.of_grownBy g1 (fun r e => by cases e; exact .inl rfl)).trans (CK.of_grownBy g2 (fun r e => by cases e; exact .inr rfl))
    have hkk : Kept w3.heap.size (fun i => i = Br ∨ i = Bc) W' V := by
      rw [hV]
      exact (Kept.grown g1 (fun r e => by cases e; exact .inl rfl)).trans (Kept.grown g2 (fun r e => by cases e; exact .inr rfl))
    have hix : Boxed V Br 25 (.slice a9 (encM x).length c9) ∧ Boxed V Bc 2 (.int .i64 0) ∧ OwnJ V w.heap.size (.slice a9 (encM x).length c9) (encM x) ∧ Below w.heap.size w V := by
      refine ⟨?_, ?_, (OwnE.ck hRx hck).1.baseD hzz2, ?_⟩
      · rw [hV]
        exact (i3.set _).kept g2 (fun e => hbne (by cases e; rfl))
      · rw [hV]
        exact (i4.kept g1 (fun e => hbne (by cases e; rfl))).set _
      · rw [hV]
        exact (i5.setCell (p := ⟨Br, 0, none⟩) hbr1 _).setCell (p := ⟨Bc, 0, none⟩) hbc1 _
    have x5 : (W'.setCell ⟨Br, 0, none⟩ (.slice a9 (encM x).length c9)).cell? ⟨Bc, 0, none⟩ = some (.int .i64 0) := (i4.kept g1 (fun e => hbne (by cases e; rfl))).cell
    have x6 : (W'.setCell ⟨Br, 0, none⟩ (.slice a9 (encM x).length c9)).frozen? ⟨Bc, 0, none⟩ = false := (i4.kept g1 (fun e => hbne (by cases e; rfl))).frozen
    have HIX := Lib.hid hix
    have HKK := Lib.hid hkk
    have HV := Lib.hid hV
    clear hix hkk hck hV g1 g2 hRx i3 i4 i5 HSQ b4 b5 hB3
    gi_wp2
    rw [← HV.out]
    exact ⟨HKK.out, rfl, x, _, rfl, HIX.out⟩
  case done =>
    rintro D ys k W' hD hys ⟨-, rfl, i3, i4, i5⟩ hK
    have hrr : rr = ([], 4) := by rw [HRR.out, ← hys]; rfl
    subst hrr
    have x1 := i3.cell
    have x2 := i3.frozen
    obtain ⟨V, hV⟩ : ∃ V, V = (W'.setCell ⟨Br, 0, none⟩ (.slice none 0 0)).setCell ⟨Bc, 0, none⟩ (.int .i64 4) := ⟨_, rfl⟩
    have g1 := set_gb W' Br 0 (.slice none 0 0)
    have g2 := set_gb (W'.setCell ⟨Br, 0, none⟩ (.slice none 0 0)) Bc 0 (.int .i64 4)
    have x5 : (W'.setCell ⟨Br, 0, none⟩ (.slice none 0 0)).cell? ⟨Bc, 0, none⟩ = some (.int .i64 0) := (i4.kept g1 (fun e => hbne (by cases e; rfl))).cell
    have x6 : (W'.setCell ⟨Br, 0, none⟩ (.slice none 0 0)).frozen? ⟨Bc, 0, none⟩ = false := (i4.kept g1 (fun e => hbne (by cases e; rfl))).frozen
    have hk2 : V.heap[D]? = some (.deferred (some [])) := by
      rw [hV]
      have hlt := (Array.getElem?_eq_some_iff.1 hK).1
      exact (g2.block D (Nat.lt_of_lt_of_le hlt g1.size) (fun e => by have : D = Bc := by cases e; rfl
                                                                      omega)).trans ((g1.block D hlt (fun e => by have : D = Br := by cases e; rfl
                                                                                                                  omega)).trans hK)
    have hix : Boxed V Br 25 (.slice none 0 0) ∧ Boxed V Bc 2 (.int .i64 4) ∧ Below w.heap.size w V := by
      refine ⟨?_, ?_, ?_⟩
      · rw [hV]
        exact (i3.set _).kept g2 (fun e => hbne (by cases e; rfl))
      · rw [hV]
        exact (i4.kept g1 (fun e => hbne (by cases e; rfl))).set _
      · rw [hV]
        exact (i5.setCell (p := ⟨Br, 0, none⟩) hbr1 _).setCell (p := ⟨Bc, 0, none⟩) hbc1 _
    have hM5 : Marks w.heap.size V V.heap.size [{ target := .collected D, args := #[] }] := ⟨D, rfl, by omega, (Array.getElem?_eq_some_iff.1 hk2).1, hk2, trivial⟩
    have HIX := Lib.hid hix
    have HM5 := Lib.hid hM5
    have HV := Lib.hid hV
    clear hix hV g1 g2 i3 i4 i5 HSQ b4 b5 hB3 hM5 hk2 hK HRR
    gi_wp2
    rw [← HV.out]
    refine leaves_marks (n0 := w.heap.size) (fun W => Boxed W Br 25 (.slice none 0 0) ∧ Boxed W Bc 2 (.int .i64 4) ∧ Below w.heap.size w W) ?_ ?_ _ V.heap.size V HM5.out HIX.out
    · rintro W D ⟨e1, e2, e3⟩ hD hK
      exact ⟨boxed_put _ e1 hK, boxed_put _ e2 hK, e3.trans (belowK_b (w := w) (Nat.le_refl _) W D _ _ hD hK rfl rfl)⟩
    · rintro W ⟨e1, e2, e3⟩
      have y1 := e1.cell
      have y2 := e2.cell
      exact ⟨_, by simp [results, Try.f23, go_sem, y1, y2], _, rfl, OwnJ.nil _ _, e3⟩
  case stop =>
    rintro D c pre k W' hD hSp ⟨rfl, x, vx, rfl, e3, e4, e5, e6⟩ hK
    have hrr : rr = (encM x, 0) := by
      obtain ⟨L, hL⟩ := hSp
      rw [HRR.out, ← hL]
      rfl
    subst hrr
    have hM5 : Marks w.heap.size W' W'.heap.size [{ target := .collected D, args := #[] }] := ⟨D, rfl, by omega, (Array.getElem?_eq_some_iff.1 hK).1, hK, trivial⟩
    clear HSQ b4 b5 hB3 hK HRR hSp
    gi_wp2
    refine leaves_marks (n0 := w.heap.size) (fun W => Boxed W Br 25 vx ∧ Boxed W Bc 2 (.int .i64 0) ∧ OwnJ W w.heap.size vx (encM x) ∧ Below w.heap.size w W) ?_ ?_ _ W'.heap.size W' hM5 ⟨e3, e4, e5, e6⟩
    · rintro W D ⟨e1, e2, e3, e4⟩ hD hK
      exact ⟨boxed_put _ e1 hK, boxed_put _ e2 hK, (ownJ_own w.heap.size vx).putObj _ e3 hK rfl, e4.trans (belowK_b (w := w) (Nat.le_refl _) W D _ _ hD hK rfl rfl)⟩
    · rintro W ⟨e1, e2, e3, e4⟩
      have y1 := e1.cell
      have y2 := e2.cell
      exact ⟨_, by simp [results, Try.f23, go_sem, y1, y2], _, rfl, e3, e4⟩
set_option maxRecDepth 100000 in
theorem renumberings_ne (v1 v2 : Int) (s1 s2 : Value) (n1 n2 : Nat) (w : World) (hs1 : ∃ a c, s1 = .slice a n1 c) (hs2 : ∃ a c, s2 = .slice a n2 c) (hv : v1 ≠ v2) : Calls Try.prog 67 #[.agg #[.int .i64 v1, s1], .agg #[.int .i64 v2, s2]] w (fun e w' => e = .returned (.func (.func 100) #[] #[]) ∧ Below w.heap.size w w') := by
  obtain ⟨a1, c1, rfl⟩ := hs1
  obtain ⟨a2, c2, rfl⟩ := hs2
  have hne : (v1 != v2) = true := by simpa using hv
  have hb : Below w.heap.size w ((w.alloc (.cells #[.int .i64 v1, .slice a1 n1 c1] 31)).alloc (.cells #[.int .i64 v2, .slice a2 n2 c2] 31)) := ((Below.refl _ _).alloc (Nat.le_refl _) _).alloc (by simp) _
  go_enter Try.func67, Try.ntmps67
  go_wp2
  go_ret
  exact ⟨rfl, hb⟩
theorem none_seq (R : List (Option Nat) → Nat → Value → World → Prop) (E : Nat → Prop) (k b : Nat) (W : World) : SeqR Fence.wide k Try.prog 100 #[] R E (fun ys => ys = []) (fun pre => pre <+: []) 0 b W := fun l J Jx _ _ _ h0 => by
  refine callsIn_wide.2 ?_
  show Calls Try.prog 100 #[.func (.yield l) #[] #[]] W _
  have H0 := Lib.hid h0
  clear h0
  go_enter Try.func100, Try.ntmps100
  go_wp2
  refine bodyPost_end (results_none rfl _ _ _) rfl ?_
  exact ⟨⟨_, rfl⟩, .inl ⟨_, _, rfl, H0.out⟩⟩
theorem Find_any (v1 v2 : Int) (s1 s2 : Value) (bs1 bs2 : List Blk) (w : World) (h1 : SB w s1 bs1) (h2 : SB w s2 bs2) : Calls Try.prog 23 #[.agg #[.int .i64 v1, s1], .agg #[.int .i64 v2, s2]] w (RJ (finF v1 bs1 v2 bs2) w) := by
  by_cases hc : code2 v1 bs1 v2 bs2 = 0
  · by_cases hv : v1 = v2
    · subst hv
      obtain ⟨i1, f1, i2, f2⟩ := code2_ok hc
      obtain ⟨n, rfl⟩ : ∃ n : Nat, v1 = (n : Int) := ⟨v1.toNat, by have := (sys_size i1).1; omega⟩
      have hn3 := (sys_size i1).1
      have hn15 := (sys_size i1).2.1
      have hT1 := thdS i1 f1
      have hT2 := thdS i2 f2
      have key := Find_core (n : Int) (n : Int) s1 s2 bs1 bs2 w h1 h2 hc 121 (enters_of Try.func121 (by kernel_rfl) rfl) (renL n (T3 bs1) (T3 bs2)) (fun W hb => (renumberings_any n s1 s2 bs1 bs2 W (h1.below hb (Nat.le_refl _)) (h2.below hb (Nat.le_refl _)) i1 f1 i2 f2).mono fun e w' ⟨Bi, Bt, Bf, v, he, hD, hb'⟩ => ⟨_, he, fun E hE W' hW' => (hD.seq hT1 hT2 (by omega) (by omega) hE hb'.size (9 - 1) W' hW').weaker (fun _ _ _ _ h => h.1), hb'⟩)
      have hval : finF (n : Int) bs1 (n : Int) bs2 = firR (renL n (T3 bs1) (T3 bs2)) := by
        unfold finF
        rw [if_pos hc, if_pos rfl, Int.toNat_natCast, ← renL_enc hT1 hT2]
        cases renL n (T3 bs1) (T3 bs2) <;> rfl
      rw [hval]
      exact key
    · have key := Find_core v1 v2 s1 s2 bs1 bs2 w h1 h2 hc 100 (enters_of Try.func100 (by kernel_rfl) rfl) [] (fun W hb => (renumberings_ne v1 v2 s1 s2 bs1.length bs2.length W h1.slice h2.slice hv).mono fun e w' ⟨he, hb'⟩ => ⟨_, he, fun E _ W' _ => none_seq _ _ _ _ _, hb'⟩)
      have hval : finF v1 bs1 v2 bs2 = ([], 4) := by
        unfold finF
        rw [if_pos hc, if_neg hv]
      rw [hval]
      exact key
  · have hval : finF v1 bs1 v2 bs2 = ([], code2 v1 bs1 v2 bs2) := by
      unfold finF
      rw [if_neg hc]
    rw [hval]
    have hfc := fun W hb B c0 c1 c2 c3 => fullCode_two B v1 v2 s1 s2 bs1 bs2 W (h1.below (w' := W) hb (Nat.le_refl _)) (h2.below (w' := W) hb (Nat.le_refl _)) c0 c1 c2 c3
    obtain ⟨W1, hW1⟩ : ∃ W1, W1 = ((((w.alloc (.cells #[.int .i64 v1, s1] 31)).alloc (.cells #[.int .i64 v2, s2] 31)).alloc (.cells #[.slice none 0 0] 25)).alloc (.cells #[.int .i64 0] 2)).alloc (.cells #[.int .i64 v1, s1, .int .i64 v2, s2] 31) := ⟨_, rfl⟩
    have hB1 : Below w.heap.size w W1 := by rw [hW1]; exact (((((Below.refl _ _).alloc (Nat.le_refl _) _).alloc (by simp) _).alloc (by simp <;> omega) _).alloc (by simp <;> omega) _).alloc (by simp <;> omega) _
    obtain ⟨a1, c1, rfl⟩ := h1.slice
    obtain ⟨a2, c2, rfl⟩ := h2.slice
    have b4 : Boxed W1 (w.heap.size + 1 + 1) 25 (.slice none 0 0) := by
      have := ((Boxed.new ((w.alloc (.cells #[.int .i64 v1, .slice a1 bs1.length c1] 31)).alloc (.cells #[.int .i64 v2, .slice a2 bs2.length c2] 31)) 25 (.slice none 0 0)).alloc (.cells #[.int .i64 0] 2)).alloc (.cells #[.int .i64 v1, .slice a1 bs1.length c1, .int .i64 v2, .slice a2 bs2.length c2] 31)
      simp only [World.size_alloc] at this
      rw [hW1]
      exact this
    have b5 : Boxed W1 (w.heap.size + 1 + 1 + 1) 2 (.int .i64 0) := by
      have := (Boxed.new (((w.alloc (.cells #[.int .i64 v1, .slice a1 bs1.length c1] 31)).alloc (.cells #[.int .i64 v2, .slice a2 bs2.length c2] 31)).alloc (.cells #[.slice none 0 0] 25)) 2 (.int .i64 0)).alloc (.cells #[.int .i64 v1, .slice a1 bs1.length c1, .int .i64 v2, .slice a2 bs2.length c2] 31)
      simp only [World.size_alloc] at this
      rw [hW1]
      exact this
    have hz1 : W1.heap.size = w.heap.size + 1 + 1 + 1 + 1 + 1 := by rw [hW1]; simp
    have hcall := hfc W1 hB1 (w.heap.size + 1 + 1 + 1 + 1) (by rw [hW1]; simp [go_sem]) (by rw [hW1]; simp [go_sem]) (by rw [hW1]; simp [go_sem]) (by rw [hW1]; simp [go_sem])
    obtain ⟨k, hk⟩ : ∃ k, k = code2 v1 bs1 v2 bs2 := ⟨_, rfl⟩
    rw [← hk] at hcall hc ⊢
    have HCL := Lib.hid hcall
    have hk1 : (k != 0) = true := by simpa using hc
    clear hval hfc hcall hk h1 h2
    have hro : Fence.wide.round = none := rfl
    refine (callsIn_wide (n := 9)).1 ?_
    refine callsIn_of_wp_marks Try.func23 rfl trivial ?_ hro
    simp only [Try.ntmps23, List.size_toArray, List.length_cons, List.length_nil, Nat.reduceAdd, Nat.reduceSub, Array.replicate_succ, Array.replicate_zero, List.push_toArray, List.append_toArray, List.nil_append, List.cons_append]
    gi_wp2_with (first | fail)
    rw [← hW1]
    refine ⟨trivial, (callsIn_wide.2 HCL.out).mono ?_⟩
    rintro e w2 ⟨rfl, hb2⟩
    have hB2 := hB1.trans (hb2.mono hB1.size)
    have b4 : Boxed w2 _ _ _ := (hb2.block (w.heap.size + 1 + 1) (by omega)).trans b4
    have b5 : Boxed w2 _ _ _ := (hb2.block (w.heap.size + 1 + 1 + 1) (by omega)).trans b5
    clear hb2 hW1 hB1 HCL
    obtain ⟨Br, hBr⟩ : ∃ Br, Br = w.heap.size + 1 + 1 := ⟨_, rfl⟩
    obtain ⟨Bc, hBc⟩ : ∃ Bc, Bc = w.heap.size + 1 + 1 + 1 := ⟨_, rfl⟩
    rw [← hBc] at b5 ⊢
    rw [← hBr] at b4 ⊢
    have hbr1 : w.heap.size ≤ Br := by omega
    have hbc1 : w.heap.size ≤ Bc := by omega
    have hbne : Br ≠ Bc := by omega
    clear hBr hBc hz1
    have x1 := b4.cell
    have x2 := b4.frozen
    have g1 := set_gb w2 Br 0 (.slice none 0 0)
    have g2 := set_gb (w2.setCell ⟨Br, 0, none⟩ (.slice none 0 0)) Bc 0 (.int .i64 k)
    have x5 : (w2.setCell ⟨Br, 0, none⟩ (.slice none 0 0)).cell? ⟨Bc, 0, none⟩ = some (.int .i64 0) := (b5.kept g1 (fun e => hbne (by cases e; rfl))).cell
    have x6 : (w2.setCell ⟨Br, 0, none⟩ (.slice none 0 0)).frozen? ⟨Bc, 0, none⟩ = false := (b5.kept g1 (fun e => hbne (by cases e; rfl))).frozen
    obtain ⟨V, hV⟩ : ∃ V, V = (w2.setCell ⟨Br, 0, none⟩ (.slice none 0 0)).setCell ⟨Bc, 0, none⟩ (.int .i64 k) := ⟨_, rfl⟩
    have y1 : Boxed V Br 25 (.slice none 0 0) := by
      rw [hV]
      exact (b4.set _).kept g2 (fun e => hbne (by cases e; rfl))
    have y2 : Boxed V Bc 2 (.int .i64 k) := by
      rw [hV]
      exact (b5.kept g1 (fun e => hbne (by cases e; rfl))).set _
    have y3 : Below w.heap.size w V := by
      rw [hV]
      exact (hB2.setCell (p := ⟨Br, 0, none⟩) hbr1 _).setCell (p := ⟨Bc, 0, none⟩) hbc1 _
    have HV := Lib.hid hV
    have Y1 := Lib.hid y1
    have Y2 := Lib.hid y2
    have Y3 := Lib.hid y3
    clear g1 g2 b4 b5 hB2 hV y1 y2 y3
    gi_wp2
    rw [← HV.out]
    refine leaves_marks (n0 := w.heap.size) (fun W => Boxed W Br 25 (.slice none 0 0) ∧ Boxed W Bc 2 (.int .i64 k) ∧ Below w.heap.size w W) ?_ ?_ [] 0 V trivial ⟨Y1.out, Y2.out, Y3.out⟩
    · rintro W D ⟨e1, e2, e3⟩ hD hK
      exact ⟨boxed_put _ e1 hK, boxed_put _ e2 hK, e3.trans (belowK_b (w := w) (Nat.le_refl _) W D _ _ hD hK rfl rfl)⟩
    · rintro W ⟨e1, e2, e3⟩
      have y1 := e1.cell
      have y2 := e2.cell
      exact ⟨_, by simp [results, Try.f23, go_sem, y1, y2], _, rfl, OwnJ.nil _ _, e3⟩
theorem finF_code (v1 : Int) (bs1 : List Blk) (v2 : Int) (bs2 : List Blk) : (finF v1 bs1 v2 bs2).2 = 0 ∨ (finF v1 bs1 v2 bs2).2 = 1 ∨ (finF v1 bs1 v2 bs2).2 = 4 ∨ (finF v1 bs1 v2 bs2).2 = 5 := by
  unfold finF
  rcases code2_or v1 bs1 v2 bs2 with h | h | h
  · rw [if_pos h]
    split
    · split <;> simp
    · simp
  · simp [h]
  · simp [h]
set_option maxRecDepth 100000 in
set_option maxHeartbeats 4000000 in
theorem Iso_any (v1 v2 : Int) (s1 s2 : Value) (bs1 bs2 : List Blk) (w : World) (h1 : SB w s1 bs1) (h2 : SB w s2 bs2) : Calls Try.prog 28 #[.agg #[.int .i64 v1, s1], .agg #[.int .i64 v2, s2]] w (RV (boolCode (isoF v1 bs1 v2 bs2).1 (isoF v1 bs1 v2 bs2).2) w) := by
  have HF := Lib.hid fun W (hb : Below w.heap.size w W) => Find_any v1 v2 s1 s2 bs1 bs2 W (h1.below hb (Nat.le_refl _)) (h2.below hb (Nat.le_refl _))
  have hfl := finF_len v1 bs1 v2 bs2
  have hfc := finF_code v1 bs1 v2 bs2
  rw [isoF_find]
  obtain ⟨r, hr⟩ : ∃ r, r = finF v1 bs1 v2 bs2 := ⟨_, rfl⟩
  rw [← hr] at HF hfl hfc ⊢
  obtain ⟨a1, c1, rfl⟩ := h1.slice
  obtain ⟨a2, c2, rfl⟩ := h2.slice
  clear h1 h2 hr
  obtain ⟨L, κ⟩ := r
  dsimp only at hfl hfc HF ⊢
  unfold boolCode
  rcases hfc with rfl | rfl | rfl | rfl
  all_goals
    simp only [Int.reduceEq, if_false, if_true, decide_true, decide_false, reduceCtorEq]
    go_enter Try.func28, Try.ntmps28
    go_wp2_with fail
    refine (HF.out _ (((Below.refl _ _).alloc (Nat.le_refl _) _).alloc (by simp) _)).mono ?_
    rintro e w1 ⟨u, rfl, hO, hb1⟩
    obtain ⟨a5, c5, rfl⟩ := OwnJ.formS hO
    have hB1 := (((Below.refl w.heap.size w).alloc (Nat.le_refl _) (.cells #[.int .i64 v1, .slice a1 bs1.length c1] 31)).alloc (by simp) (.cells #[.int .i64 v2, .slice a2 bs2.length c2] 31)).trans (hb1.mono (by simp <;> omega))
    clear hO hb1 HF
    go_wp2
    go_ret2
    exact RV_of rfl hB1
end Go.Proofs.Ytoicdfdfajfopaa

namespace Go.Proofs.Ytoicdfdfajfopaa
open Go.RowKit Go.Maps
def stCode (v : Int) (bs : List Blk) (p : Int) : Int := if isSysImpl v bs then (if inP v p then (if fullB v bs then 0 else 5) else 2) else 1
/-- How many of these lists keep the place q. -/
def stN (L : List (List Int)) (q : Nat) : Nat := L.countP fun z => z[q]?.getD 0 == (q : Int)
def stV (v : Int) (bs : List Blk) (p : Int) : Value := if stCode v bs p = 0 then .tuple #[.int .i64 (stN (autL v.toNat bs) p.toNat : Int), .int .i64 0] else .tuple #[.int .i64 0, .int .i64 (stCode v bs p)]
theorem stN_snoc (L : List (List Int)) (z : List Int) (q : Nat) : stN (L ++ [z]) q = stN L q + if z[q]?.getD 0 == (q : Int) then 1 else 0 := by
  unfold stN
  rw [List.countP_append, List.countP_singleton]
theorem stN_le (L : List (List Int)) (q : Nat) : stN L q ≤ L.length := List.countP_le_length
end Go.Proofs.Ytoicdfdfajfopaa

namespace Go.Proofs.Ytoicdfdfajfopaa
open Go.RowKit Go.Maps
theorem stN_take {L : List (List Int)} {k : Nat} (h : k < L.length) (q : Nat) : stN (L.take (k + 1)) q = stN (L.take k) q + if (L[k]?.getD [])[q]?.getD 0 == (q : Int) then 1 else 0 := by
  rw [List.take_add_one, List.getElem?_eq_getElem h, Option.toList_some, stN_snoc, Option.getD_some]
set_option maxRecDepth 100000 in
set_option maxHeartbeats 4000000 in
theorem specSta_any (v : Int) (s : Value) (bs : List Blk) (p : Int) (w : World) (h : SB w s bs) : Calls Try.prog 40 #[.agg #[.int .i64 v, s], .int .i64 p] w (RV (stV v bs p) w) := by
  have HC := Lib.hid fun W (hb : Below w.heap.size w W) => l01Is_any v s bs W (h.below hb (Nat.le_refl _))
  have hlen := h.2.1
  obtain ⟨a0, c0, rfl⟩ := h.slice
  have hb0 := (Below.refl w.heap.size w).alloc (Nat.le_refl _) (.cells #[.int .i64 v, .slice a0 bs.length c0] 31)
  cases hi : isSysImpl v bs with
  | false =>
    have hv : stV v bs p = .tuple #[.int .i64 0, .int .i64 1] := by simp [stV, stCode, hi]
    rw [hv]
    rw [hi] at HC
    clear hv hi h
    go_enter Try.func40, Try.ntmps40
    go_wp2_with fail
    refine (HC.out _ hb0).mono ?_
    rintro e w1 ⟨rfl, hb1⟩
    have hbw := below_new hb1
    clear hb1
    go_wp2
    go_ret2
    exact RV_of rfl hbw
  | true =>
    obtain ⟨v3, v15, _⟩ := sys_size hi
    have HL := Lib.hid fun W => l01In_any p 0 (v - 1) W
    have hin : (decide (0 ≤ p) && decide (p ≤ v - 1)) = inP v p := by
      unfold inP
      congr 1
      rw [decide_eq_decide]
      omega
    rw [hin] at HL
    rw [hi] at HC
    cases hp : inP v p with
    | false =>
      have hv : stV v bs p = .tuple #[.int .i64 0, .int .i64 2] := by simp [stV, stCode, hi, hp]
      rw [hv]
      rw [hp] at HL
      clear hv hi h hp hin
      go_enter Try.func40, Try.ntmps40
      go_wp2_with fail
      refine (HC.out _ hb0).mono ?_
      rintro e w1 ⟨rfl, hb1⟩
      have q0 := cell_new hb1 0 rfl
      have hbw := below_new hb1
      clear hb1
      go_wp2_with fail
      refine (HL.out _).mono ?_
      rintro e w2 ⟨rfl, rfl⟩
      go_wp2
      go_ret2
      exact RV_of rfl hbw
    | true =>
      have HFL := Lib.hid fun W => l01Full_any v (.slice a0 bs.length c0) bs W ⟨_, _, rfl⟩ v3 v15 hlen
      rw [hp] at HL
      cases hf : fullB v bs with
      | false =>
        have hv : stV v bs p = .tuple #[.int .i64 0, .int .i64 5] := by simp [stV, stCode, hi, hp, hf]
        rw [hv]
        rw [hf] at HFL
        clear hv hi h hp hin hf
        go_enter Try.func40, Try.ntmps40
        go_wp2_with fail
        refine (HC.out _ hb0).mono ?_
        rintro e w1 ⟨rfl, hb1⟩
        have q0 := cell_new hb1 0 rfl
        have q1 := cell_new hb1 1 rfl
        have hbw := below_new hb1
        clear hb1
        go_wp2_with fail
        refine (HL.out _).mono ?_
        rintro e w2 ⟨rfl, rfl⟩
        go_wp2_with fail
        refine (HFL.out _).mono ?_
        rintro e w3 ⟨rfl, hb3⟩
        have hbw3 := hbw.trans (hb3.mono hbw.size)
        clear hb3
        go_wp2
        go_ret2
        exact RV_of rfl hbw3
      | true =>
        obtain ⟨n, rfl⟩ : ∃ n : Nat, v = (n : Int) := ⟨v.toNat, by omega⟩
        have hp2 : 0 ≤ p ∧ p < (n : Int) := by simpa [inP] using hp
        obtain ⟨q, rfl⟩ : ∃ q : Nat, p = (q : Int) := ⟨p.toNat, by omega⟩
        have hqn : q < n := by omega
        have HA := Lib.hid fun W (hb : Below w.heap.size w W) => l06All_any n (.slice a0 bs.length c0) bs W (h.below hb (Nat.le_refl _)) hi hf
        have hrow : ∀ z ∈ autL n bs, z.length = n := fun z hz => isoL_rowlen (thdS hi hf) (thdS hi hf) hz
        have hv : stV (n : Int) bs (q : Int) = .tuple #[.int .i64 (stN (autL n bs) q : Int), .int .i64 0] := by simp [stV, stCode, hi, hp, hf]
        rw [hv]
        obtain ⟨L, hL⟩ : ∃ L, L = autL n bs := ⟨_, rfl⟩
        rw [← hL] at HA hrow ⊢
        obtain ⟨t, ht⟩ : ∃ t, t = stN L q := ⟨_, rfl⟩
        rw [← ht]
        have HTT := Lib.hid ht
        have HR := Lib.hid hrow
        rw [hf] at HFL
        clear hv hi h hp hin hf hp2 hL hrow ht
        go_enter Try.func40, Try.ntmps40
        go_wp2_with fail
        refine (HC.out _ hb0).mono ?_
        rintro e w1 ⟨rfl, hb1⟩
        have q0 := cell_new hb1 0 rfl
        have q1 := cell_new hb1 1 rfl
        have hbw := below_new hb1
        have hlt1 := lt_new hb1
        clear hb1
        go_wp2_with fail
        refine (HL.out _).mono ?_
        rintro e w2 ⟨rfl, rfl⟩
        go_wp2_with fail
        refine (HFL.out _).mono ?_
        rintro e w3 ⟨rfl, hb3⟩
        have q0 := (hb3.cell (p := ⟨w.heap.size, 0, none⟩) hlt1).trans q0
        have q1 := (hb3.cell (p := ⟨w.heap.size, 1, none⟩) hlt1).trans q1
        have hbw3 := hbw.trans (hb3.mono hbw.size)
        clear hb3
        go_wp2_with fail
        refine (HA.out _ hbw3).mono ?_
        rintro e w4 ⟨u, us, rfl, hT, hu, hle, hb4⟩
        obtain ⟨a5, c5, rfl⟩ := hu
        have hbw4 := hbw3.trans (hb4.mono hbw3.size)
        have HT := Lib.hid hT
        clear hT hb4 HA HFL HC HL hb0 q0 q1
        go_wp2
        go_loop [7, 8] (fun c i => ∃ k : Nat, k ≤ L.length ∧ i = .int .i64 k ∧ c = .int .i64 (stN (L.take k) q : Int)) (fun c i => L.length - (intOf i).toNat)
        case atStart => exact ⟨0, Nat.zero_le _, rfl, rfl⟩
        case round =>
          obtain ⟨k, hk, rfl, rfl⟩ := hrel
          by_cases hlt : k < L.length
          · have hzl : (L[k]?.getD []).length = n := by rw [List.getElem?_eq_getElem hlt]; exact HR.out _ (List.getElem_mem _)
            obtain ⟨G, c, g, cap, hu, e2, e3, e4, e5, e6, e7⟩ := HT.out.at_ hlt (by rw [hzl]; omega) (by rw [hzl]; omega)
            obtain ⟨rfl, rfl⟩ : a5 = some ⟨G, 0, none⟩ ∧ c5 = c := by simpa using hu
            rw [hzl] at e3
            have z1 := e6.at_ q (by rw [hzl]; exact hqn)
            rw [Nat.zero_add] at z1
            have HS := Lib.hid (stN_take hlt q)
            have hsl : stN (L.take k) q ≤ 60000 := Nat.le_trans (stN_le _ _) (by rw [List.length_take]; omega)
            obtain ⟨z, hz⟩ : ∃ z, z = (L[k]?.getD [])[q]?.getD 0 := ⟨_, rfl⟩
            rw [← hz] at z1 HS
            obtain ⟨m, hm⟩ : ∃ m, m = stN (L.take k) q := ⟨_, rfl⟩
            rw [← hm] at hsl HS ⊢
            clear e4 e5 e6 e7 hu hz hm hzl
            by_cases hzq : z = (q : Int)
            · subst hzq
              have hsn : stN (L.take (k + 1)) q = m + 1 := by rw [HS.out]; simp
              go_wp2
              go_round
              case rel => exact ⟨k + 1, hlt, by go_num, by rw [hsn]; go_num⟩
              case measure => simp [intOf]; omega
            · have hzb : (z == (q : Int)) = false := by simpa using hzq
              have hsn : stN (L.take (k + 1)) q = m := by rw [HS.out, hzb]; simp
              go_wp2
              go_round
              case rel => exact ⟨k + 1, hlt, by go_num, by rw [hsn]⟩
              case measure => simp [intOf]; omega
          · obtain rfl : k = L.length := by omega
            rw [List.take_length, ← HTT.out]
            go_wp2
            go_ret2
            exact RV_of rfl hbw4
end Go.Proofs.Ytoicdfdfajfopaa

namespace Go.Proofs.Ytoicdfdfajfopaa
open Go.RowKit Go.Maps
theorem oneIf_any (b : Bool) (w : World) : Calls Try.prog 78 #[.bool b] w (RS (.int .i64 (if b then 1 else 0)) w) := by
  cases b with
  | false =>
    go_enter Try.func78, Try.ntmps78
    go_wp2
    go_ret
    exact RS_of rfl
  | true =>
    go_enter Try.func78, Try.ntmps78
    go_wp2
    go_ret
    exact RS_of rfl
end Go.Proofs.Ytoicdfdfajfopaa

namespace Go.Proofs.Ytoicdfdfajfopaa
open Go.RowKit Go.Maps Go.Shelf
attribute [local go_sem] Oper.semAt_some
theorem encM_lis {n : Nat} (f : Nat → Nat) : encM (lisR n f) = castN (lisN n f) := by rw [encM_R, enc_cast]
theorem castN_at {n : Nat} (f : Nat → Nat) {q : Nat} (h : q < n) : (castN (lisN n f))[q]?.getD 0 = (f q : Int) := by simp [castN, lisN, h]
theorem castN_lisl (n : Nat) (f : Nat → Nat) : (castN (lisN n f)).length = n := by simp [castN, lisN]
set_option maxRecDepth 100000 in
set_option maxHeartbeats 4000000 in
theorem Sta_main (n : Nat) (s : Value) (bs : List Blk) (q : Nat) (w : World) (h : SB w s bs) (hi : isSysImpl (n : Int) bs = true) (hf : fullB (n : Int) bs = true) (hqn : q < n) : Calls Try.prog 41 #[.agg #[.int .i64 (n : Int), s], .int .i64 (q : Int)] w (RV (.tuple #[.int .i64 (stN (autL n bs) q : Int), .int .i64 0]) w) := by
  have h3 := (sys_size hi).1
  have h15 := (sys_size hi).2.1
  have HA := Lib.hid fun W (hb : Below w.heap.size w W) => automorphisms_any n s bs W (h.below hb (Nat.le_refl _)) hi hf
  have hc0 : fullC (n : Int) bs = 0 := by simp [fullC, hi, hf]
  have hfc := fun W hb B c0 c1 => fullCode_one B (n : Int) s bs W (h.below (w' := W) hb (Nat.le_refl _)) c0 c1
  rw [hc0] at hfc
  have HT := Lib.hid (thdS hi hf)
  have HP := Lib.hid fun W => isPointI_any (n : Int) (q : Int) W
  rw [show inP (n : Int) (q : Int) = true by simp [inP]; omega] at HP
  have HO := Lib.hid oneIf_any
  obtain ⟨X, hX⟩ : ∃ X, X = renL n (T3 bs) (T3 bs) := ⟨_, rfl⟩
  have hXm : autL n bs = X.map encM := by rw [hX, renL_aut hi hf]
  rw [hXm]
  have hXl : X.length ≤ 50625 := by
    have := isoL_len (T1 := T3 bs) (T2 := T3 bs) (thdS hi hf) (thdS hi hf) (n := n) (by omega) (by omega)
    rw [← renL_enc (thdS hi hf) (thdS hi hf), List.length_map, ← hX] at this
    exact this
  obtain ⟨m, hm⟩ : ∃ m, m = stN (X.map encM) q := ⟨_, rfl⟩
  rw [← hm]
  have HM := Lib.hid hm
  have HX := Lib.hid hX
  obtain ⟨a0, c0, rfl⟩ := h.slice
  obtain ⟨W1, hW1⟩ : ∃ W1, W1 = ((w.alloc (.cells #[.int .i64 (n : Int), .slice a0 bs.length c0] 31)).alloc (.cells #[.int .i64 (q : Int)] 2)).alloc (.cells #[.int .i64 (n : Int), .slice a0 bs.length c0] 31) := ⟨_, rfl⟩
  have hB1 : Below w.heap.size w W1 := by rw [hW1]; exact (((Below.refl _ _).alloc (Nat.le_refl _) _).alloc (by simp) _).alloc (by simp <;> omega) _
  have hz1 : W1.heap.size = w.heap.size + 1 + 1 + 1 := by rw [hW1]; simp
  have q0 : W1.cell? ⟨w.heap.size, 0, none⟩ = some (.int .i64 n) := by rw [hW1]; simp [go_sem]
  have q1 : W1.cell? ⟨w.heap.size, 1, none⟩ = some (.slice a0 bs.length c0) := by rw [hW1]; simp [go_sem]
  have bp : Boxed W1 (w.heap.size + 1) 2 (.int .i64 (q : Int)) := by
    have := (Boxed.new (w.alloc (.cells #[.int .i64 (n : Int), .slice a0 bs.length c0] 31)) 2 (.int .i64 (q : Int))).alloc (.cells #[.int .i64 (n : Int), .slice a0 bs.length c0] 31)
    simp only [World.size_alloc] at this
    rw [hW1]
    exact this
  have HFI := Lib.hid (hfc W1 hB1 (w.heap.size + 1 + 1) (by rw [hW1]; simp [go_sem]) (by rw [hW1]; simp [go_sem]))
  clear h hi hf hfc hc0 hm hX hXm
  have hro : Fence.wide.round = none := rfl
  refine (callsIn_wide (n := 9)).1 ?_
  refine callsIn_of_wp_marks Try.func41 rfl trivial ?_ hro
  simp only [Try.ntmps41, List.size_toArray, List.length_cons, List.length_nil, Nat.reduceAdd, Nat.reduceSub, Array.replicate_succ, Array.replicate_zero, List.push_toArray, List.append_toArray, List.nil_append, List.cons_append]
  gi_wp2_with (first | fail)
  rw [← hW1]
  refine ⟨trivial, (callsIn_wide.2 HFI.out).mono ?_⟩
  rintro e w2 ⟨rfl, hb2⟩
  have hB2 := hB1.trans (hb2.mono hB1.size)
  have q0 := (hb2.cell (p := ⟨w.heap.size, 0, none⟩) (show w.heap.size < W1.heap.size by omega)).trans q0
  have q1 := (hb2.cell (p := ⟨w.heap.size, 1, none⟩) (show w.heap.size < W1.heap.size by omega)).trans q1
  have bp : Boxed w2 _ _ _ := (hb2.block (w.heap.size + 1) (by omega)).trans bp
  have hz2 := hb2.size
  have x0 := bp.cell
  have hlt2 : w.heap.size < w2.heap.size := by omega
  clear hb2 hW1 hB1 HFI
  gi_wp2_with (first
    | (refine ⟨trivial, ?_⟩; gi_at_call 77; refine (callsIn_wide.2 (HP.out _)).mono ?_; rintro e w1 ⟨rfl, rfl⟩))
  obtain ⟨Bp, hBp⟩ : ∃ Bp, Bp = w.heap.size + 1 := ⟨_, rfl⟩
  rw [← hBp] at bp ⊢
  have hbp1 : w.heap.size ≤ Bp := by omega
  have hbp2 : Bp < w2.heap.size := by omega
  obtain ⟨w3, hw3⟩ : ∃ w3, w3 = w2.alloc (.cells #[.int .i64 0] 2) := ⟨_, rfl⟩
  have hB3 : Below w.heap.size w w3 := by rw [hw3]; exact hB2.alloc hB2.size _
  have hx3 : Boxed w3 w2.heap.size 2 (.int .i64 0) := by rw [hw3]; exact Boxed.new w2 _ _
  have bp : Boxed w3 Bp 2 (.int .i64 (q : Int)) := by rw [hw3]; exact bp.alloc _
  have hz3 : w3.heap.size = w2.heap.size + 1 := by rw [hw3]; simp
  have hww := hB2.size
  rw [← hw3]
  clear hw3 hB2 q0 q1 x0 hBp hz1
  refine ⟨trivial, (callsIn_wide.2 (HA.out w3 hB3)).mono ?_⟩
  rintro e w4 ⟨Bi, Bt, Bf, v, rfl, hD, hb4⟩
  have hx4 : Boxed w4 w2.heap.size 2 (.int .i64 0) := (hb4.block w2.heap.size (by omega)).trans hx3
  have bp : Boxed w4 Bp 2 (.int .i64 (q : Int)) := (hb4.block Bp (by omega)).trans bp
  have hB4 := hB3.trans (hb4.mono hB3.size)
  have hz4 := hb4.size
  clear hx3 hB3 HA
  have HSQ := Lib.hid (hD.seq (E := fun i => i = w2.heap.size) HT.out HT.out (by omega) (by omega) (fun i e => by omega) hz4 (9 - 1))
  rw [← HX.out] at HSQ
  clear hD hb4 HT
  gi_wp2
  refine wpIn_rangeFunc_R hro (by omega) (gf := 121) (lb := #[.pointer (some ⟨Bi, 0, none⟩), .pointer (some ⟨Bt, 0, none⟩), .pointer (some ⟨Bf, 0, none⟩)]) rfl trivial (enters_of Try.func121 (by kernel_rfl) rfl) rfl (fun i e => by omega) HSQ.out
    (fun pre _ W => Boxed W w2.heap.size 2 (.int .i64 (stN (pre.map encM) q : Int)) ∧ Boxed W Bp 2 (.int .i64 (q : Int)) ∧ Below w.heap.size w W)
    (fun _ _ _ _ => False)
    (fun pre k u X Y row hs hg hr => ⟨hs.1.kept hg (fun e => by have := (hr _ e.symm).1; omega), hs.2.1.kept hg (fun e => by have := (hr _ e.symm).1; omega), hs.2.2.grown hg hs.2.2.size (fun r e => by have := (hr r e).1; omega)⟩)
    (fun _ _ _ _ _ _ _ hs _ _ => hs)
    ⟨hx4, bp, hB4⟩
    (fun x k vx a' W' => (∃ (y0 y1 y2 y4 y5 y6 y9 y10 y11 y12 y13 y14 y15 y16 y17 y18 y19 y20 y21 y22 y23 y24 y25 y26 y27 y28 y29 y30 y31 y32 y33 y34 y35 y36 : Value), a' = { tmps := #[y0, y1, y2, .pointer (some ⟨Bp, 0, none⟩), y4, y5, y6, .pointer (some ⟨w2.heap.size, 0, none⟩), vx, y9, y10, y11, y12, y13, y14, y15, y16, y17, y18, y19, y20, y21, y22, y23, y24, y25, y26, y27, y28, y29, y30, y31, y32, y33, y34, y35, y36], defers := [] }) ∧ RenR (fun i => i = w2.heap.size) n (T3 bs) (T3 bs) x k vx W')
    (fun x k vx a' u X Y row hs hg hr => ⟨hs.1, OwnE.ck hs.2.1 (CK.of_grown hg fun r e => (hr r e).2), hs.2.2⟩) ?assign ?body ?done ?stop
  case assign =>
    intro l' pre x k vx W' K hi hRx hK
    obtain ⟨a9, c9, rfl⟩ := OwnJ.formS hRx.1.1
    simp only [List.zip_toArray, List.zip_cons_cons, List.zip_nil_right, List.size_toArray, List.length_cons, List.length_nil, List.foldl_toArray', List.foldl_cons, List.foldl_nil, List.setIfInBounds_toArray, List.set_cons_succ, List.set_cons_zero]
    gi_wp2
    exact hK _ _ (Kept.refl _ _ _) hi ⟨⟨_, _, _, _, _, _, _, _, _, _, _, _, _, _, _, _, _, _, _, _, _, _, _, _, _, _, _, _, _, _, _, _, _, _, rfl⟩, hRx⟩
  case body =>
    rintro l' pre x k vx a' W' hl' hloop ⟨i1, i2, i3⟩ ⟨⟨y0, y1, y2, y4, y5, y6, y9, y10, y11, y12, y13, y14, y15, y16, y17, y18, y19, y20, y21, y22, y23, y24, y25, y26, y27, y28, y29, y30, y31, y32, y33, y34, y35, y36, rfl⟩, hRx⟩ hlen
    obtain ⟨hRo, f, hfi, rfl⟩ := hRx
    rw [encM_lis] at hRo
    have hlx := castN_lisl n f
    obtain ⟨g9, c9, rfl⟩ := hRo.1.someR (by rw [hlx]; omega)
    have z1 := hRo.1.cellJ (i := q) (by rw [hlx]; exact hqn)
    rw [castN_at f hqn] at z1
    rw [hlx]
    have x1 := i1.cell
    have x2 := i1.frozen
    have x3 := i2.cell
    have hsn := stN_snoc (pre.map encM) (encM (lisR n f)) q
    rw [encM_lis, castN_at f hqn] at hsn
    have hmp : stN (pre.map encM) q ≤ 60000 := Nat.le_trans (stN_le _ _) (by rw [List.length_map]; omega)
    obtain ⟨mm, hmm⟩ : ∃ mm, mm = stN (pre.map encM) q := ⟨_, rfl⟩
    have hmap : (pre ++ [lisR n f]).map encM = pre.map encM ++ [castN (lisN n f)] := by rw [List.map_append, List.map_cons, List.map_nil, encM_lis]
    rw [← hmm] at x1 hsn hmp i1
    obtain ⟨zz, hzz⟩ : ∃ zz, zz = f q := ⟨_, rfl⟩
    rw [← hzz] at z1 hsn
    have fin : ∀ (t : Nat), stN (pre.map encM ++ [castN (lisN n f)]) q = t → Kept w4.heap.size (fun i => i = w2.heap.size) W' (W'.setCell ⟨w2.heap.size, 0, none⟩ (.int .i64 (t : Int))) ∧ Boxed (W'.setCell ⟨w2.heap.size, 0, none⟩ (.int .i64 (t : Int))) w2.heap.size 2 (.int .i64 (stN ((pre ++ [lisR n f]).map encM) q : Int)) ∧ Boxed (W'.setCell ⟨w2.heap.size, 0, none⟩ (.int .i64 (t : Int))) Bp 2 (.int .i64 (q : Int)) ∧ Below w.heap.size w (W'.setCell ⟨w2.heap.size, 0, none⟩ (.int .i64 (t : Int))) := fun t ht => by
      have g1 := set_gb W' w2.heap.size 0 (.int .i64 (t : Int))
      refine ⟨Kept.grown g1 (fun r e => by cases e; rfl), ?_, i2.kept g1 (fun e => by have : Bp = w2.heap.size := by cases e; rfl
                                                                                      omega), i3.setCell (p := ⟨w2.heap.size, 0, none⟩) hww _⟩
      rw [hmap, ht]
      exact i1.set _
    have HFN := Lib.hid fin
    obtain ⟨β, hβ⟩ : ∃ β, β = ((zz : Int) == (q : Int)) := ⟨_, rfl⟩
    obtain ⟨t, ht⟩ : ∃ t : Nat, t = if β = true then 1 else 0 := ⟨_, rfl⟩
    have ht1 : t ≤ 1 := by rw [ht]; split <;> omega
    rw [← hβ, ← ht] at hsn
    have hO1 := fun W => HO.out β W
    rw [show ((if β = true then 1 else 0 : Int)) = (t : Int) by rw [ht]; cases β <;> rfl] at hO1
    have HO1 := Lib.hid hO1
    have HF1 := Lib.hid (HFN.out (mm + t) hsn)
    have hwr : IntKind.i64.wrap ((mm : Int) + (t : Int)) = (mm : Int) + (t : Int) := IntWalk.i64_in _ (by omega)
    have hzb : ((zz : Int) == (q : Int)) = β := hβ.symm
    have hmix : Try.prog.follows .mixedOrders = true := by kernel_rfl
    clear fin hRo hmap hlx hmm hzz HSQ hx4 bp hB4 i1 i2 i3 hlen HFN hsn ht hβ hO1 HO HP HM HX
    gi_wp2
    gi_region_with_o (refine ⟨trivial, ?_⟩; gi_at_call 78; refine (CallsIn.inRound l' (callsIn_wide.2 (HO1.out _))).mono ?_; rintro e w' ⟨rfl, rfl⟩)
    all_goals
      gi_wp2
      rw [show (mm : Int) + (t : Int) = ((mm + t : Nat) : Int) by omega]
      first | exact HF1.out | exact ⟨HF1.out.1, HF1.out.2.1, HF1.out.2.2.1, HF1.out.2.2.2.drew⟩
  case done =>
    rintro D ys k W' hD hys ⟨i1, i2, i3⟩ hK
    have x1 := i1.cell
    rw [hys, ← HM.out] at x1
    have hM5 : Marks w.heap.size W' W'.heap.size [{ target := .collected D, args := #[] }] := ⟨D, rfl, by omega, (Array.getElem?_eq_some_iff.1 hK).1, hK, trivial⟩
    clear HSQ hx4 bp hB4 i1 i2 hK
    gi_wp2
    refine leaves_marks (n0 := w.heap.size) (fun W => Below w.heap.size w W) ?_ ?_ _ W'.heap.size W' hM5 i3
    · rintro W D h2 hD hK
      exact h2.trans (belowK_b (w := w) (Nat.le_refl _) W D _ _ hD hK rfl rfl)
    · rintro W h2
      exact ⟨_, by simp [results, Try.f41, go_sem], RV_of rfl h2⟩
  case stop =>
    rintro D c pre k W' hD hSp h hK
    exact h.elim
set_option maxRecDepth 100000 in
set_option maxHeartbeats 2000000 in
theorem Sta_any (v : Int) (s : Value) (bs : List Blk) (p : Int) (w : World) (h : SB w s bs) : Calls Try.prog 41 #[.agg #[.int .i64 v, s], .int .i64 p] w (RV (stV v bs p) w) := by
  by_cases hc : stCode v bs p = 0
  · have hv : stV v bs p = .tuple #[.int .i64 (stN (autL v.toNat bs) p.toNat : Int), .int .i64 0] := by simp [stV, hc]
    rw [hv]
    unfold stCode at hc
    cases hi : isSysImpl v bs <;> cases hp : inP v p <;> cases hf : fullB v bs <;> simp [hi, hp, hf] at hc
    have h3 := (sys_size hi).1
    have hp2 : 0 ≤ p ∧ p < v := by simpa [inP] using hp
    obtain ⟨n, rfl⟩ : ∃ n : Nat, v = (n : Int) := ⟨v.toNat, by omega⟩
    obtain ⟨q, rfl⟩ : ∃ q : Nat, p = (q : Int) := ⟨p.toNat, by omega⟩
    rw [Int.toNat_natCast, Int.toNat_natCast]
    exact Sta_main n s bs q w h hi hf (by omega)
  · have hv : stV v bs p = .tuple #[.int .i64 0, .int .i64 (stCode v bs p)] := by simp [stV, hc]
    rw [hv]
    have hk : stCode v bs p = if fullC v bs = 1 then 1 else if inP v p then fullC v bs else 2 := by
      unfold stCode fullC
      cases isSysImpl v bs <;> cases inP v p <;> cases fullB v bs <;> simp
    have HFC := Lib.hid fun (B : Nat) W (hb : Below w.heap.size w W) c0 c1 => fullCode_one B v s bs W (h.below hb (Nat.le_refl _)) c0 c1
    have HP := Lib.hid fun W => isPointI_any v p W
    have hor := fullC_or v bs
    obtain ⟨κ, hκ⟩ : ∃ κ, κ = fullC v bs := ⟨_, rfl⟩
    obtain ⟨β, hβ⟩ : ∃ β, β = inP v p := ⟨_, rfl⟩
    obtain ⟨c, hcc⟩ : ∃ c, c = stCode v bs p := ⟨_, rfl⟩
    rw [← hκ] at HFC hk hor
    rw [← hβ] at HP hk
    rw [← hcc] at hk hc ⊢
    obtain ⟨a0, c0, rfl⟩ := h.slice
    have hb0 : Below w.heap.size w (((w.alloc (.cells #[.int .i64 v, .slice a0 bs.length c0] 31)).alloc (.cells #[.int .i64 p] 2)).alloc (.cells #[.int .i64 v, .slice a0 bs.length c0] 31)) := (((Below.refl _ _).alloc (Nat.le_refl _) _).alloc (by simp) _).alloc (by simp <;> omega) _
    have HFI := Lib.hid (HFC.out (w.heap.size + 1 + 1) _ hb0 (by simp [go_sem]) (by simp [go_sem]))
    clear h hκ hβ hcc hv HFC
    rcases hor with rfl | rfl | rfl <;> cases β <;> simp at hk <;> (try (exact absurd hk hc)) <;> subst hk
    all_goals
      go_enter Try.func41, Try.ntmps41
      go_wp2_with fail
      refine HFI.out.mono ?_
      rintro e w1 ⟨rfl, hb1⟩
      have hbw := hb0.trans (hb1.mono (by simp <;> omega))
      have q0 := (hb1.cell (p := ⟨w.heap.size, 0, none⟩) (by simp <;> omega)).trans (by simp [go_sem] : _ = some (Value.int .i64 v))
      have q2 := (hb1.cell (p := ⟨w.heap.size + 1, 0, none⟩) (by simp <;> omega)).trans (by simp [go_sem] : _ = some (Value.int .i64 p))
      clear hb1 HFI
      go_wp2_with (go_at_call 77; refine (HP.out _).mono ?_; rintro e w2 ⟨rfl, rfl⟩)
      go_ret2
      exact RV_of rfl hbw
end Go.Proofs.Ytoicdfdfajfopaa

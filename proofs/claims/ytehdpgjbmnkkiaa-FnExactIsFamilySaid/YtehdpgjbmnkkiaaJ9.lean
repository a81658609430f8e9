
/- AreApart of the program. IsFamily of the program. The model's number of common blocks, and its AreApart. IsFamily of the model. The law FnExactIsFamily returns true. The dump's head word by word, cheaply: what every row asks of it. -/
import Derived.Test.YtehdpgjbmnkkiaaJ8
import Derived.Deep.RegionWith
namespace Go.Proofs.Ytehdpgjbmnkkiaa
open Go.RowKit Go.Maps
theorem sysL2 {W : World} {a : Nat} {v u : Int} {s t : Value} {xs ys : List Blk} (ha : a < W.heap.size) (c0 : W.cell? ⟨a, 0, none⟩ = some (.int .i64 v)) (c1 : W.cell? ⟨a, 1, none⟩ = some s) (c2 : W.cell? ⟨a, 2, none⟩ = some (.int .i64 u)) (c3 : W.cell? ⟨a, 3, none⟩ = some t) (h : SB W s xs) (h2 : SB W t ys) :
    SysL W (.slice (some ⟨a, 0, none⟩) 2 2) [⟨v, s, xs⟩, ⟨u, t, ys⟩] := by
  refine ⟨by simp, .inr ⟨a, 0, 2, rfl, ha, by simp, fun k t' hk => ?_⟩⟩
  match k, hk with
  | 0, hk => simp at hk; subst hk; exact ⟨c0, c1, h⟩
  | 1, hk => simp at hk; subst hk; exact ⟨c2, c3, h2⟩
  | k + 2, hk => simp at hk
def apF (v : Int) (xs : List Blk) (u : Int) (ys : List Blk) : Bool × Int := if isSysImpl v xs && isSysImpl u ys then (if v = u then (apartB xs ys, 0) else (false, 5)) else (false, 1)
def apC (v : Int) (xs : List Blk) (u : Int) (ys : List Blk) : Int := codeL_s (isSysImpl v xs && isSysImpl u ys) (decide (u = v))
theorem apF_bad {v u : Int} {xs ys : List Blk} (h : apC v xs u ys ≠ 0) : apF v xs u ys = (false, apC v xs u ys) := by
  revert h
  unfold apF apC codeL_s
  cases isSysImpl v xs && isSysImpl u ys
  · simp
  · by_cases e : v = u
    · subst e; simp
    · have e2 : ¬ u = v := fun h => e h.symm
      simp [e, e2]
theorem apF_good {v u : Int} {xs ys : List Blk} (h : apC v xs u ys = 0) : apF v xs u ys = (apartB xs ys, 0) := by
  revert h
  unfold apF apC codeL_s
  cases isSysImpl v xs && isSysImpl u ys
  · simp
  · by_cases e : v = u
    · subst e; simp
    · have e2 : ¬ u = v := fun h => e h.symm
      simp [e2]
set_option maxRecDepth 100000 in
theorem AreApart_any (v : Int) (s : Value) (xs : List Blk) (u : Int) (t : Value) (ys : List Blk) (w : World) (h : SB w s xs) (h2 : SB w t ys) :
    Calls Try.prog 30 #[.agg #[.int .i64 v, s], .agg #[.int .i64 u, t]] w (RV (boolCode (apF v xs u ys).1 (apF v xs u ys).2) w) := by
  have HC := Lib.hid fun a b W (hb : Below w.heap.size w W) (ha : a < W.heap.size) (c0 : W.cell? ⟨a, 0, none⟩ = some (.int .i64 v)) (c1 : W.cell? ⟨a, 1, none⟩ = some s) (c2 : W.cell? ⟨a, 2, none⟩ = some (.int .i64 u)) (c3 : W.cell? ⟨a, 3, none⟩ = some t) (hbb : b < W.heap.size) (d0 : W.cell? ⟨b, 0, none⟩ = some (.func (.func 60) #[] #[])) =>
    have hS := sysL2 ha c0 c1 c2 c3 (h.below hb (Nat.le_refl _)) (h2.below hb (Nat.le_refl _))
    have hc := code_s b _ _ (decide (u = v)) W hS fun _ W' hb' => passes_s b _ (decide (u = v)) W' (Nat.lt_of_lt_of_le hbb hb'.size) ⟨_, _, _, rfl⟩ ((hb'.cell (p := ⟨b, 0, none⟩) hbb).trans d0) fun W2 hb2 => by
      have := samePoints_any _ _ _ W2 ((hS.below hb' (Nat.le_refl _)).below hb2 (Nat.le_refl _)) rfl
      simpa using this
    show Calls Try.prog 59 #[.slice (some ⟨a, 0, none⟩) 2 2, .slice (some ⟨b, 0, none⟩) 1 1] W (RV (.int .i64 (apC v xs u ys)) W) from by
      have e : codeL_s (([⟨v, s, xs⟩, ⟨u, t, ys⟩] : List Sy).all fun t => isSysImpl t.v t.bs) (decide (u = v)) = apC v xs u ys := by unfold apC; simp
      rw [← e]
      exact hc
  have HA := Lib.hid fun a W (hb : Below w.heap.size w W) (ha : a < W.heap.size) (c0 : W.cell? ⟨a, 0, none⟩ = some (.int .i64 v)) (c1 : W.cell? ⟨a, 1, none⟩ = some s) (c2 : W.cell? ⟨a, 2, none⟩ = some (.int .i64 u)) (c3 : W.cell? ⟨a, 3, none⟩ = some t) =>
    show Calls Try.prog 61 #[.slice (some ⟨a, 0, none⟩) 2 2] W (RV (.bool (apartB xs ys)) W) from by
      have e : apartL [⟨v, s, xs⟩, ⟨u, t, ys⟩] = apartB xs ys := by simp [apartL]
      rw [← e]
      exact listApart_any _ _ W (sysL2 ha c0 c1 c2 c3 (h.below hb (Nat.le_refl _)) (h2.below hb (Nat.le_refl _)))
  obtain ⟨a0, k0, rfl⟩ := h.slice
  obtain ⟨a1, k1, rfl⟩ := h2.slice
  clear h h2
  have hB0 : Below w.heap.size w ((w.alloc (.cells #[.int .i64 v, .slice a0 xs.length k0] 31)).alloc (.cells #[.int .i64 u, .slice a1 ys.length k1] 31)) := ((Below.refl _ _).alloc (Nat.le_refl _) _).alloc (by simp) _
  have HB0 := Lib.hid hB0
  clear hB0
  obtain ⟨κ, hκ⟩ : ∃ κ, κ = apC v xs u ys := ⟨_, rfl⟩
  by_cases hk : κ = 0
  · have HV := Lib.hid (apF_good (hκ ▸ hk : apC v xs u ys = 0))
    rw [← hκ, hk] at HC
    rw [HV.out]
    obtain ⟨β, hβ⟩ : ∃ β, β = apartB xs ys := ⟨_, rfl⟩
    rw [← hβ] at HA ⊢
    clear hk hκ HV hβ
    go_enter Try.func30, Try.ntmps30
    go_wp2_with fail
    have hB4 : ∀ o o2, Below w.heap.size w ((((w.alloc (.cells #[.int .i64 v, .slice a0 xs.length k0] 31)).alloc (.cells #[.int .i64 u, .slice a1 ys.length k1] 31)).alloc o).alloc o2) := fun o o2 => (HB0.out.alloc HB0.out.size _).alloc (by simp; omega) _
    refine (HC.out _ _ _ (hB4 _ _) (by simp) (by simp [go_sem]) (by simp [go_sem]) (by simp [go_sem]) (by simp [go_sem]) (by simp) (by simp [go_sem])).mono ?_
    rintro e w1 ⟨rfl, hb1⟩
    have hb2 := (hB4 _ _).trans (hb1.mono (by simp; omega))
    have HA2 := Lib.hid (HA.out (w.heap.size + 1 + 1) w1 hb2 (by have := hb1.size; simp at this; omega) (by rw [hb1.cell (by simp)]; simp [go_sem]) (by rw [hb1.cell (by simp)]; simp [go_sem]) (by rw [hb1.cell (by simp)]; simp [go_sem]) (by rw [hb1.cell (by simp)]; simp [go_sem]))
    clear hb1 hB4 HA HC
    go_wp2_with fail
    refine HA2.out.mono ?_
    rintro e w2 ⟨rfl, hb3⟩
    have hb4 := hb2.trans (hb3.mono hb2.size)
    go_wp2
    go_ret2
    exact RV_of rfl hb4
  · have HV := Lib.hid (apF_bad (hκ ▸ hk : apC v xs u ys ≠ 0))
    rw [← hκ] at HC HV
    rw [HV.out]
    have hne : (κ != 0) = true := by simpa using hk
    clear hk hκ HV HA
    go_enter Try.func30, Try.ntmps30
    go_wp2_with fail
    have hB4 : ∀ o o2, Below w.heap.size w ((((w.alloc (.cells #[.int .i64 v, .slice a0 xs.length k0] 31)).alloc (.cells #[.int .i64 u, .slice a1 ys.length k1] 31)).alloc o).alloc o2) := fun o o2 => (HB0.out.alloc HB0.out.size _).alloc (by simp; omega) _
    refine (HC.out _ _ _ (hB4 _ _) (by simp) (by simp [go_sem]) (by simp [go_sem]) (by simp [go_sem]) (by simp [go_sem]) (by simp) (by simp [go_sem])).mono ?_
    rintro e w1 ⟨rfl, hb1⟩
    have hb2 := (hB4 _ _).trans (hb1.mono (by simp; omega))
    clear hb1 hB4 HC
    go_wp2
    go_ret2
    exact RV_of rfl hb2
end Go.Proofs.Ytehdpgjbmnkkiaa

namespace Go.Proofs.Ytehdpgjbmnkkiaa
open Go.RowKit Go.Maps
set_option maxRecDepth 100000 in
theorem nine1_any (v : Int) (s : Value) (bs : List Blk) (w : World) (h : SB w s bs) : Calls Try.prog 143 #[.agg #[.int .i64 v, s]] w (RV (.bool (decide (v = 9))) w) := by
  obtain ⟨a, c, rfl⟩ := h.slice
  clear h
  go_enter Try.func143, Try.ntmps143
  go_wp2
  go_ret
  exact RV_of (bool_eq (by rw [Bool.eq_iff_iff]; simp)) ((Below.refl _ _).alloc (Nat.le_refl _) _)
set_option maxRecDepth 100000 in
theorem ninePoints_any (u : Value) (T : List Sy) (w : World) (h : SysL w u T) :
    Calls Try.prog 113 #[u] w (RV (.bool (T.all fun t => decide (t.v = 9))) w) := by
  have HC := Lib.hid (allS_nine u T (fun t => decide (t.v = 9)) w h fun t _ W _ hs => nine1_any t.v t.s t.bs W hs)
  obtain ⟨β, hβ⟩ : ∃ β, β = T.all fun t => decide (t.v = 9) := ⟨_, rfl⟩
  rw [← hβ] at HC ⊢
  obtain ⟨a, c, rfl⟩ := h.slice
  clear h hβ
  go_enter Try.func113, Try.ntmps113
  go_wp2_with fail
  refine HC.out.mono ?_
  rintro e w1 ⟨rfl, hb1⟩
  go_wp2
  go_ret
  exact RV_of rfl hb1
def fulC (β : Bool) : Int := if β then 0 else 5
theorem all_take {α} {T : List α} {P : α → Bool} {k : Nat} {t : α} (h : T[k]? = some t) : (T.take (k + 1)).all P = ((T.take k).all P && P t) := by
  obtain ⟨hk, e⟩ := List.getElem?_eq_some_iff.1 h
  rw [List.take_succ_eq_append_getElem hk, e, List.all_append]
  simp
set_option maxRecDepth 100000 in
theorem fullCode_many (u : Value) (T : List Sy) (w : World) (h : SysL w u T) (hi : ∀ t ∈ T, isSysImpl t.v t.bs = true) :
    Calls Try.prog 54 #[u] w (RV (.int .i64 (fulC (T.all fun t => fullB t.v t.bs))) w) := by
  have HI := Lib.hid hi
  have hl := h.1
  have HS := Lib.hid h
  obtain ⟨a, c, rfl⟩ := h.slice
  clear h hi
  go_enter Try.func54, Try.ntmps54
  go_wp2
  go_loopw [3, 10] (fun c i wr => ∃ k : Nat, k ≤ T.length ∧ i = .int .i64 k ∧ Below w.heap.size w wr ∧ c = .int .i64 (fulC ((T.take k).all fun t => fullB t.v t.bs))) (fun _ i _ => T.length - (intOf i).toNat)
  case atStart => exact ⟨0, Nat.zero_le _, rfl, Below.refl _ _, rfl⟩
  case round =>
    obtain ⟨k, hk, rfl, hB, rfl⟩ := hrel
    have hz := hB.size
    by_cases hkl : k < T.length
    · have hW := HS.out.below hB (Nat.le_refl _)
      rcases hW.2 with ⟨_, _, _, hnil⟩ | ⟨b, off, cap, hval, hblt, _, hbl⟩
      · rw [hnil] at hkl; simp at hkl
      · simp at hval
        obtain ⟨rfl, rfl⟩ := hval
        obtain ⟨t, ht⟩ : ∃ t, T[k]? = some t := ⟨_, List.getElem?_eq_getElem hkl⟩
        obtain ⟨z0, z1, z2⟩ := hbl k t ht
        have hfv : fullV t.v t.bs = boolCode (fullB t.v t.bs) 0 := by unfold fullV; rw [if_pos (HI.out t (mem_of_get ht))]
        have HF := Lib.hid fun W (hb : Below wr.heap.size wr W) => IsFull_any t.v t.s t.bs W (z2.below hb (Nat.le_refl _))
        rw [hfv] at HF
        have hsu := all_take (P := fun t : Sy => fullB t.v t.bs) ht
        obtain ⟨γ, hγ⟩ : ∃ γ, γ = (T.take k).all fun t => fullB t.v t.bs := ⟨_, rfl⟩
        obtain ⟨β, hβ⟩ : ∃ β, β = fullB t.v t.bs := ⟨_, rfl⟩
        rw [← hγ] at hsu ⊢
        rw [← hβ] at HF hsu
        have HSU := Lib.hid hsu
        unfold boolCode at HF
        obtain ⟨tv, ts, tbs⟩ := t
        dsimp only at HF z0 z1
        obtain ⟨a2, c2, hts⟩ := z2.slice
        dsimp only at hts
        subst hts
        have g0 : (0 : Int) ≤ (k : Int) := by omega
        have g1 : (k : Int) < (T.length : Int) := by omega
        clear hβ hγ hsu hfv ht hbl z2 hW
        cases β
        all_goals
          go_wp2_with fail
          refine (HF.out _ ((Below.refl _ _).alloc (Nat.le_refl _) _)).mono ?_
          rintro e w1 ⟨rfl, hb1⟩
          have hb2 := hB.trans ((below_new hb1).mono hz)
          go_wp2
          go_roundw
          case rel => exact ⟨k + 1, by omega, by go_num, hb2, by rw [HSU.out]; cases γ <;> rfl⟩
          case measure => simp [intOf]; omega
    · have e : k = T.length := by omega
      subst e
      rw [List.take_length]
      go_wp2
      go_ret
      exact RV_of rfl hB
set_option maxRecDepth 100000 in
theorem areFull_any (u : Value) (T : List Sy) (w : World) (h : SysL w u T) (hi : ∀ t ∈ T, isSysImpl t.v t.bs = true) :
    Calls Try.prog 114 #[u] w (RV (.bool (T.all fun t => fullB t.v t.bs)) w) := by
  have HC := Lib.hid (fullCode_many u T w h hi)
  obtain ⟨β, hβ⟩ : ∃ β, β = T.all fun t => fullB t.v t.bs := ⟨_, rfl⟩
  rw [← hβ] at HC ⊢
  obtain ⟨a, c, rfl⟩ := h.slice
  clear h hβ hi
  cases β
  all_goals
    unfold fulC at HC
    simp only [if_true, Bool.false_eq_true, if_false] at HC
    go_enter Try.func114, Try.ntmps114
    go_wp2_with fail
    refine HC.out.mono ?_
    rintro e w1 ⟨rfl, hb1⟩
    go_wp2
    go_ret
    exact RV_of rfl hb1
theorem familyTests_any (w : World) : Calls Try.prog 74 #[] w fun e w' => ∃ b, e = .returned (.slice (some ⟨b, 0, none⟩) 3 3) ∧ b < w'.heap.size ∧ w'.cell? ⟨b, 0, none⟩ = some (.func (.func 113) #[] #[]) ∧ w'.cell? ⟨b, 1, none⟩ = some (.func (.func 114) #[] #[]) ∧ w'.cell? ⟨b, 2, none⟩ = some (.func (.func 61) #[] #[]) ∧ Below w.heap.size w w' := by
  go_enter Try.func74, Try.ntmps74
  go_wp2
  go_ret
  exact ⟨_, rfl, by simp, by simp, by simp, by simp, (Below.refl _ _).alloc (Nat.le_refl _) _⟩
/-- Are any two of them apart? -/
def apartK : List (Int × List Blk) → Bool
  | [] => true
  | t :: r => r.all (fun u => apartB t.2 u.2) && apartK r
theorem apartK_key : ∀ T : List Sy, apartK (keyS T) = apartL T
  | [] => rfl
  | t :: r => by
    show ((keyS r).all (fun u => apartB t.bs u.2) && apartK (keyS r)) = _
    rw [apartK_key r]
    unfold keyS
    rw [List.all_map]
    rfl
def famF (L : List (Int × List Blk)) : Bool × Int :=
  if L.all (fun t => isSysImpl t.1 t.2) then (if L.length ≤ 7 then (L.all (fun t => decide (t.1 = 9)) && L.all (fun t => fullB t.1 t.2) && apartK L, 0) else (false, 2)) else (false, 1)
theorem key_all (T : List Sy) (P : Int × List Blk → Bool) : (keyS T).all P = T.all fun t => P (t.v, t.bs) := by unfold keyS; rw [List.all_map]; rfl
set_option maxRecDepth 100000 in
theorem IsFamily_any (u : Value) (T : List Sy) (w : World) (h : SysL w u T) :
    Calls Try.prog 39 #[u] w (RV (boolCode (famF (keyS T)).1 (famF (keyS T)).2) w) := by
  have HA := Lib.hid (areSystems_any u T w h)
  have hl := h.1
  obtain ⟨σ, hσ⟩ : ∃ σ, σ = T.all fun t => isSysImpl t.v t.bs := ⟨_, rfl⟩
  rw [← hσ] at HA
  cases σ with
  | false =>
    have HV := Lib.hid (show famF (keyS T) = (false, 1) by unfold famF; rw [key_all, ← hσ]; rfl)
    rw [HV.out]
    obtain ⟨a, c, rfl⟩ := h.slice
    clear h hσ HV
    go_enter Try.func39, Try.ntmps39
    go_wp2_with fail
    refine HA.out.mono ?_
    rintro e w1 ⟨rfl, hb1⟩
    go_wp2
    go_ret2
    exact RV_of rfl hb1
  | true =>
    by_cases h7 : T.length ≤ 7
    · have hall : ∀ t ∈ T, isSysImpl t.v t.bs = true := fun t ht => by
        have := hσ.symm
        rw [List.all_eq_true] at this
        exact this t ht
      have HP := Lib.hid fun b W (hb : Below w.heap.size w W) (hbb : b < W.heap.size) d0 d1 d2 => passes_f b u (T.all fun t => decide (t.v = 9)) (T.all fun t => fullB t.v t.bs) (apartL T) W hbb (by obtain ⟨a, c, e⟩ := h.slice; exact ⟨a, _, c, e⟩) d0 d1 d2
        (fun W' hb' => ninePoints_any u T W' ((h.below hb (Nat.le_refl _)).below hb' (Nat.le_refl _))) (fun W' hb' => areFull_any u T W' ((h.below hb (Nat.le_refl _)).below hb' (Nat.le_refl _)) hall) (fun W' hb' => listApart_any u T W' ((h.below hb (Nat.le_refl _)).below hb' (Nat.le_refl _)))
      have hv : famF (keyS T) = ((T.all fun t => decide (t.v = 9)) && (T.all fun t => fullB t.v t.bs) && apartL T, 0) := by
        unfold famF
        rw [key_all, ← hσ, if_pos rfl, keyS_len, if_pos h7, key_all, key_all, apartK_key]
      obtain ⟨β, hβ⟩ : ∃ β, β = ((T.all fun t => decide (t.v = 9)) && (T.all fun t => fullB t.v t.bs) && apartL T) := ⟨_, rfl⟩
      rw [← hβ] at hv
      simp only [← hβ] at HP
      have HV := Lib.hid hv
      rw [HV.out]
      obtain ⟨a, c, rfl⟩ := h.slice
      clear h hσ HV hv hβ hall
      go_enter Try.func39, Try.ntmps39
      go_wp2_with fail
      refine HA.out.mono ?_
      rintro e w1 ⟨rfl, hb1⟩
      go_wp2_with fail
      refine (familyTests_any w1).mono ?_
      rintro e w2 ⟨b, rfl, hbb, d0, d1, d2, hb2⟩
      have hb3 := hb1.trans (hb2.mono hb1.size)
      have HPP := Lib.hid (HP.out b w2 hb3 hbb d0 d1 d2)
      clear d0 d1 d2 hb2
      go_wp2_with fail
      refine HPP.out.mono ?_
      rintro e w3 ⟨rfl, hb4⟩
      have hb5 := hb3.trans (hb4.mono hb3.size)
      go_wp2
      go_ret2
      exact RV_of rfl hb5
    · have HV := Lib.hid (show famF (keyS T) = (false, 2) by unfold famF; rw [key_all, ← hσ, if_pos rfl, keyS_len, if_neg h7])
      rw [HV.out]
      obtain ⟨a, c, rfl⟩ := h.slice
      clear h hσ HV
      go_enter Try.func39, Try.ntmps39
      go_wp2_with fail
      refine HA.out.mono ?_
      rintro e w1 ⟨rfl, hb1⟩
      go_wp2
      go_ret2
      exact RV_of rfl hb1
end Go.Proofs.Ytehdpgjbmnkkiaa

namespace Go.Proofs.Ytehdpgjbmnkkiaa
open Go.RowKit Go.Maps
set_option maxRecDepth 100000 in
set_option maxHeartbeats 1000000 in
theorem l10Common_any (v : Int) (s : Value) (xs : List Blk) (u : Int) (t : Value) (ys : List Blk) (w : World) (h : SB w s xs) (h2 : SB w t ys) :
    Calls Try.prog 58 #[.agg #[.int .i64 v, s], .agg #[.int .i64 u, t]] w (RV (.int .i64 (commonB xs ys)) w) := by
  have HM := Lib.hid fun x W (hb : Below w.heap.size w W) => l04Member_any t ys x W (h2.below hb (Nat.le_refl _))
  have HS := Lib.hid h
  have hl := h.2.1
  obtain ⟨a0, k0, rfl⟩ := h.slice
  obtain ⟨a1, k1, rfl⟩ := h2.slice
  clear h h2
  go_enter Try.func58, Try.ntmps58
  go_wp2
  obtain ⟨W0, hW0⟩ : ∃ W0, W0 = (w.alloc (.cells #[.int .i64 v, .slice a0 xs.length k0] 31)).alloc (.cells #[.int .i64 u, .slice a1 ys.length k1] 31) := ⟨_, rfl⟩
  have hB0 : Below w.heap.size w W0 := by rw [hW0]; exact ((Below.refl _ _).alloc (Nat.le_refl _) _).alloc (by simp) _
  have q1 : W0.cell? ⟨w.heap.size, 1, none⟩ = some (.slice a0 xs.length k0) := by rw [hW0]; simp [go_sem]
  have r1 : W0.cell? ⟨w.heap.size + 1, 1, none⟩ = some (.slice a1 ys.length k1) := by rw [hW0]; simp [go_sem]
  have hz0 : W0.heap.size = w.heap.size + 1 + 1 := by rw [hW0]; simp
  rw [← hW0]
  clear hW0
  go_loopw [5, 6] (fun c i wr => ∃ k : Nat, k ≤ xs.length ∧ i = .int .i64 k ∧ Below W0.heap.size W0 wr ∧ c = .int .i64 (commonB (xs.take k) ys)) (fun _ i _ => xs.length - (intOf i).toNat)
  case atStart => exact ⟨0, Nat.zero_le _, rfl, Below.refl _ _, rfl⟩
  case round =>
    obtain ⟨k, hk, rfl, hB, rfl⟩ := hrel
    have hz := hB.size
    have q2 := (hB.cell (p := ⟨w.heap.size, 1, none⟩) (by simp; omega)).trans q1
    have r2 := (hB.cell (p := ⟨w.heap.size + 1, 1, none⟩) (by simp; omega)).trans r1
    have hB2 := hB0.trans (hB.mono (by omega))
    by_cases hkl : k < xs.length
    · rcases HS.out.2.2 with ⟨_, _, _, hnil⟩ | ⟨b, off, cap, hval, hblt, hbl⟩
      · rw [hnil] at hkl; simp at hkl
      · simp at hval
        obtain ⟨rfl, rfl⟩ := hval
        obtain ⟨z, hz1, ez, z1, z2, z3⟩ := blks_at (hbl.below hB2 hblt) hkl
        have hsu := commonB_take (ys := ys) hkl
        have e : xs[k] = z := by
          rw [List.getElem?_eq_getElem hkl] at ez
          simpa using ez
        rw [e] at hsu
        have hcl := commonB_le (xs.take k) ys
        rw [List.length_take] at hcl
        obtain ⟨c, hc⟩ : ∃ c, c = commonB (xs.take k) ys := ⟨_, rfl⟩
        rw [← hc] at hsu hcl ⊢
        obtain ⟨β, hβ⟩ : ∃ β, β = decide (z ∈ ys) := ⟨_, rfl⟩
        rw [← hβ] at hsu
        have HSU := Lib.hid hsu
        have HC := Lib.hid fun W (hb : Below w.heap.size w W) => HM.out z W hb
        simp only [← hβ] at HC
        have hcl : c ≤ 1100000 := by omega
        have HB2 := Lib.hid hB2
        obtain ⟨x1, x2, x3⟩ := z
        unfold bv at HC
        dsimp only at HC z1 z2 z3
        have g0 : (0 : Int) ≤ (k : Int) := by omega
        have g1 : (k : Int) < (xs.length : Int) := by omega
        clear hβ hz1 ez e hbl hc hsu hB2
        cases β with
        | true =>
          go_wp2
          go_region_with (first | (go_at_call 101; refine (HC.out _ (by first | exact HB2.out | exact HB2.out.drew)).mono ?_; rintro e w1 ⟨rfl, hb1⟩))
          all_goals
            have hb2 : Below wr.heap.size wr w1 := by first | exact ((Below.refl _ _).drew).trans (hb1.mono (by simp)) | exact hb1
            have hb3 := hB.trans (hb2.mono hz)
            go_wp2
            go_roundw
            case rel => exact ⟨k + 1, by omega, by go_num, hb3, by rw [HSU.out]; first | rfl | (congr 1; simp)⟩
            case measure => simp [intOf]; omega
        | false =>
          go_wp2
          go_region_with (first | (go_at_call 101; refine (HC.out _ (by first | exact HB2.out | exact HB2.out.drew)).mono ?_; rintro e w1 ⟨rfl, hb1⟩))
          all_goals
            have hb2 : Below wr.heap.size wr w1 := by first | exact ((Below.refl _ _).drew).trans (hb1.mono (by simp)) | exact hb1
            have hb3 := hB.trans (hb2.mono hz)
            go_wp2
            go_roundw
            case rel => exact ⟨k + 1, by omega, by go_num, hb3, by rw [HSU.out]; first | rfl | (congr 1; simp)⟩
            case measure => simp [intOf]; omega
    · have e : k = xs.length := by omega
      subst e
      rw [List.take_length]
      go_wp2
      go_ret
      exact RV_of rfl hB2
set_option maxRecDepth 100000 in
theorem specAreApart_any (v : Int) (s : Value) (xs : List Blk) (u : Int) (t : Value) (ys : List Blk) (w : World) (h : SB w s xs) (h2 : SB w t ys) :
    Calls Try.prog 29 #[.agg #[.int .i64 v, s], .agg #[.int .i64 u, t]] w (RV (boolCode (apF v xs u ys).1 (apF v xs u ys).2) w) := by
  have HI := Lib.hid fun W (hb : Below w.heap.size w W) => l01Is_any v s xs W (h.below hb (Nat.le_refl _))
  have HJ := Lib.hid fun W (hb : Below w.heap.size w W) => l01Is_any u t ys W (h2.below hb (Nat.le_refl _))
  have HC := Lib.hid fun W (hb : Below w.heap.size w W) => l10Common_any v s xs u t ys W (h.below hb (Nat.le_refl _)) (h2.below hb (Nat.le_refl _))
  obtain ⟨a0, k0, rfl⟩ := h.slice
  obtain ⟨a1, k1, rfl⟩ := h2.slice
  clear h h2
  have hB0 : Below w.heap.size w ((w.alloc (.cells #[.int .i64 v, .slice a0 xs.length k0] 31)).alloc (.cells #[.int .i64 u, .slice a1 ys.length k1] 31)) := ((Below.refl _ _).alloc (Nat.le_refl _) _).alloc (by simp) _
  have q : ∀ W, Below (w.heap.size + 1 + 1) ((w.alloc (.cells #[.int .i64 v, .slice a0 xs.length k0] 31)).alloc (.cells #[.int .i64 u, .slice a1 ys.length k1] 31)) W → W.cell? ⟨w.heap.size, 0, none⟩ = some (.int .i64 v) ∧ W.cell? ⟨w.heap.size, 1, none⟩ = some (.slice a0 xs.length k0) ∧ W.cell? ⟨w.heap.size + 1, 0, none⟩ = some (.int .i64 u) ∧ W.cell? ⟨w.heap.size + 1, 1, none⟩ = some (.slice a1 ys.length k1) := fun W hb => by
    refine ⟨(hb.cell (by simp; omega)).trans (by simp [go_sem]), (hb.cell (by simp; omega)).trans (by simp [go_sem]), (hb.cell (by simp)).trans (by simp [go_sem]), (hb.cell (by simp)).trans (by simp [go_sem])⟩
  have HQ := Lib.hid q
  have HB0 := Lib.hid hB0
  clear hB0 q
  have hA := apF_good (v := v) (u := u) (xs := xs) (ys := ys)
  cases hi : isSysImpl v xs with
  | false =>
    have HV := Lib.hid (show apF v xs u ys = (false, 1) by unfold apF; simp [hi])
    rw [HV.out]
    rw [hi] at HI
    clear hi HV hA
    go_enter Try.func29, Try.ntmps29
    go_wp2_with fail
    refine (HI.out _ HB0.out).mono ?_
    rintro e w1 ⟨rfl, hb1⟩
    have hb2 := HB0.out.trans (hb1.mono (by simp; omega))
    go_wp2
    go_ret2
    exact RV_of rfl hb2
  | true =>
    rw [hi] at HI
    cases hj : isSysImpl u ys with
    | false =>
      have HV := Lib.hid (show apF v xs u ys = (false, 1) by unfold apF; simp [hj])
      rw [HV.out]
      rw [hj] at HJ
      clear hi hj HV hA
      go_enter Try.func29, Try.ntmps29
      go_wp2_with fail
      refine (HI.out _ HB0.out).mono ?_
      rintro e w1 ⟨rfl, hb1⟩
      obtain ⟨p0, p1, p2, p3⟩ := HQ.out w1 (by simpa using hb1)
      have hb2 := HB0.out.trans (hb1.mono (by simp; omega))
      clear hb1
      go_wp2_with fail
      refine (HJ.out _ hb2).mono ?_
      rintro e w2 ⟨rfl, hb3⟩
      have hb4 := hb2.trans (hb3.mono hb2.size)
      go_wp2
      go_ret2
      exact RV_of rfl hb4
    | true =>
      rw [hj] at HJ
      by_cases hvu : v = u
      · subst hvu
        have HV := Lib.hid (show apF v xs v ys = (apartB xs ys, 0) by unfold apF; simp [hi, hj])
        rw [HV.out]
        rw [← commonB_apart]
        obtain ⟨c, hc⟩ : ∃ c, c = commonB xs ys := ⟨_, rfl⟩
        rw [← hc] at HC ⊢
        clear hi hj HV hA hc
        go_enter Try.func29, Try.ntmps29
        go_wp2_with fail
        refine (HI.out _ HB0.out).mono ?_
        rintro e w1 ⟨rfl, hb1⟩
        obtain ⟨p0, p1, p2, p3⟩ := HQ.out w1 (by simpa using hb1)
        have hb2 := HB0.out.trans (hb1.mono (by simp; omega))
        go_wp2_with fail
        refine (HJ.out _ hb2).mono ?_
        rintro e w2 ⟨rfl, hb3⟩
        obtain ⟨e0, e1, e2, e3⟩ := HQ.out w2 (by have := hb1.trans (hb3.mono hb1.size); simpa using this)
        have hb4 := hb2.trans (hb3.mono hb2.size)
        clear hb1 hb3 p0 p1 p2 p3
        go_wp2_with fail
        refine (HC.out _ hb4).mono ?_
        rintro e w3 ⟨rfl, hb5⟩
        have hb6 := hb4.trans (hb5.mono hb4.size)
        go_wp2
        go_ret2
        exact RV_of rfl hb6
      · have HV := Lib.hid (show apF v xs u ys = (false, 5) by unfold apF; simp [hi, hj, hvu])
        rw [HV.out]
        have hne : (v != u) = true := by simpa using hvu
        clear hi hj HV hA hvu
        go_enter Try.func29, Try.ntmps29
        go_wp2_with fail
        refine (HI.out _ HB0.out).mono ?_
        rintro e w1 ⟨rfl, hb1⟩
        obtain ⟨p0, p1, p2, p3⟩ := HQ.out w1 (by simpa using hb1)
        have hb2 := HB0.out.trans (hb1.mono (by simp; omega))
        go_wp2_with fail
        refine (HJ.out _ hb2).mono ?_
        rintro e w2 ⟨rfl, hb3⟩
        obtain ⟨e0, e1, e2, e3⟩ := HQ.out w2 (by have := hb1.trans (hb3.mono hb1.size); simpa using this)
        have hb4 := hb2.trans (hb3.mono hb2.size)
        clear hb1 hb3 p0 p1 p2 p3
        go_wp2
        go_ret2
        exact RV_of rfl hb4
end Go.Proofs.Ytehdpgjbmnkkiaa

namespace Go.Proofs.Ytehdpgjbmnkkiaa
open Go.RowKit Go.Maps
theorem apartB_comm (xs ys : List Blk) : apartB xs ys = apartB ys xs := by
  unfold apartB
  rw [Bool.eq_iff_iff]
  simp only [List.all_eq_true, Bool.not_eq_true', decide_eq_false_iff_not]
  exact ⟨fun h y hy hx => h y hx hy, fun h x hx hy => h x hy hx⟩
theorem apartL_iff : ∀ T : List Sy, apartL T = true ↔ T.Pairwise fun a b => apartB a.bs b.bs = true
  | [] => by simp [apartL]
  | t :: r => by
    unfold apartL
    rw [Bool.and_eq_true, List.pairwise_cons, apartL_iff r, List.all_eq_true]
/-- The first i systems are nine and full, and any two of them are apart. -/
def FamK (T : List Sy) (i : Nat) : Prop := (∀ j t, j < i → T[j]? = some t → t.v = 9 ∧ fullB t.v t.bs = true) ∧ ∀ a b t u, a < b → b < i → T[a]? = some t → T[b]? = some u → apartB t.bs u.bs = true
def famB (T : List Sy) : Bool := (T.all fun t => decide (t.v = 9)) && (T.all fun t => fullB t.v t.bs) && apartL T
theorem famB_true {T : List Sy} (h : FamK T T.length) : famB T = true := by
  have h9 : ∀ t ∈ T, t.v = 9 ∧ fullB t.v t.bs = true := fun t ht => by
    obtain ⟨k, hk, rfl⟩ := List.mem_iff_getElem.1 ht
    exact h.1 k _ hk (List.getElem?_eq_getElem hk)
  unfold famB
  rw [Bool.and_eq_true, Bool.and_eq_true, List.all_eq_true, List.all_eq_true, apartL_iff, List.pairwise_iff_getElem]
  exact ⟨⟨fun t ht => by simp [(h9 t ht).1], fun t ht => (h9 t ht).2⟩, fun a b ha hb hab => h.2 a b _ _ hab hb (List.getElem?_eq_getElem ha) (List.getElem?_eq_getElem hb)⟩
theorem famB_one {T : List Sy} {t : Sy} (ht : t ∈ T) (h : t.v ≠ 9 ∨ fullB t.v t.bs = false) : famB T = false := by
  unfold famB
  rw [Bool.eq_false_iff]
  intro hh
  rw [Bool.and_eq_true, Bool.and_eq_true, List.all_eq_true, List.all_eq_true] at hh
  rcases h with h | h
  · exact h (by simpa using hh.1.1 t ht)
  · have := hh.1.2 t ht
    rw [h] at this
    cases this
theorem famB_two {T : List Sy} {a b : Nat} {t u : Sy} (hab : a < b) (ht : T[a]? = some t) (hu : T[b]? = some u) (h : apartB t.bs u.bs = false) : famB T = false := by
  unfold famB
  rw [Bool.eq_false_iff]
  intro hh
  rw [Bool.and_eq_true, apartL_iff, List.pairwise_iff_getElem] at hh
  obtain ⟨ha, e1⟩ := List.getElem?_eq_some_iff.1 ht
  obtain ⟨hb, e2⟩ := List.getElem?_eq_some_iff.1 hu
  have := hh.2 a b ha hb hab
  rw [e1, e2, h] at this
  cases this
theorem famF_of {T : List Sy} (h1 : (T.all fun t => isSysImpl t.v t.bs) = true) (h7 : T.length ≤ 7) : famF (keyS T) = (famB T, 0) := by
  unfold famF famB
  rw [key_all, if_pos h1, keyS_len, if_pos h7, key_all, key_all, apartK_key]
theorem commonB_pos (xs ys : List Blk) : ((commonB xs ys : Int) > 0) ↔ apartB xs ys = false := by
  have := commonB_apart xs ys
  rw [← this]
  by_cases h : (commonB xs ys : Int) = 0
  · simp [h]
  · simp; omega
set_option maxRecDepth 100000 in
set_option maxHeartbeats 1000000 in
theorem specIsFamily_any (u : Value) (T : List Sy) (w : World) (h : SysL w u T) :
    Calls Try.prog 37 #[u] w (RV (boolCode (famF (keyS T)).1 (famF (keyS T)).2) w) := by
  have HS := Lib.hid h
  have hln := h.1
  obtain ⟨a, c, rfl⟩ := h.slice
  obtain ⟨V, hV⟩ : ∃ V, V = boolCode (famF (keyS T)).1 (famF (keyS T)).2 := ⟨_, rfl⟩
  have HV := Lib.hid hV
  rw [← hV]
  clear h hV
  go_enter Try.func37, Try.ntmps37
  go_wp2
  go_loopw [4] (fun i wr => ∃ k : Nat, k ≤ T.length ∧ i = .int .i64 k ∧ Below w.heap.size w wr ∧ Hid (∀ j t, j < k → T[j]? = some t → isSysImpl t.v t.bs = true)) (fun i _ => T.length - (intOf i).toNat)
  case atStart => exact ⟨0, Nat.zero_le _, rfl, Below.refl _ _, Lib.hid fun j t hj => by omega⟩
  case round =>
    obtain ⟨k, hk, rfl, hB, HN⟩ := hrel
    have hz := hB.size
    by_cases hkl : k < T.length
    · have hW := HS.out.below hB (Nat.le_refl _)
      rcases hW.2 with ⟨_, _, _, hnil⟩ | ⟨b, off, cap, hval, hblt, _, hbl⟩
      · rw [hnil] at hkl; simp at hkl
      simp at hval
      obtain ⟨rfl, rfl⟩ := hval
      obtain ⟨t, ht⟩ : ∃ t, T[k]? = some t := ⟨_, List.getElem?_eq_getElem hkl⟩
      obtain ⟨z0, z1, z2⟩ := hbl k t ht
      have HI := Lib.hid (l01Is_any t.v t.s t.bs wr z2)
      have HT := Lib.hid ht
      obtain ⟨β, hβ⟩ : ∃ β, β = isSysImpl t.v t.bs := ⟨_, rfl⟩
      have HBE := Lib.hid hβ
      rw [← hβ] at HI
      obtain ⟨tv, ts, tbs⟩ := t
      dsimp only at HI z0 z1
      obtain ⟨a2, c2, hts⟩ := z2.slice
      dsimp only at hts
      subst hts
      have g0 : (0 : Int) ≤ (k : Int) := by omega
      have g1 : (k : Int) < (T.length : Int) := by omega
      clear hβ ht hbl z2 hW
      cases β with
      | false =>
        have HR := Lib.hid (show V = boolCode false 1 by
          rw [HV.out]
          have : (T.all fun t => isSysImpl t.v t.bs) = false := by
            rw [List.all_eq_false]
            exact ⟨_, mem_of_get HT.out, by rw [← HBE.out]; simp⟩
          unfold famF
          rw [key_all, this]
          rfl)
        go_wp2_with fail
        refine HI.out.mono ?_
        rintro e w1 ⟨rfl, hb1⟩
        have hb2 := hB.trans (hb1.mono hz)
        go_wp2
        go_ret2
        exact RV_of (by rw [HR.out]; rfl) hb2
      | true =>
        go_wp2_with fail
        refine HI.out.mono ?_
        rintro e w1 ⟨rfl, hb1⟩
        have hb2 := hB.trans (hb1.mono hz)
        go_wp2
        go_roundw
        case rel => exact ⟨k + 1, by omega, by go_num, hb2, Lib.hid fun j t hj ht => by
          by_cases hjk : j = k
          · subst hjk
            rw [HT.out] at ht
            obtain rfl := Option.some.inj ht
            exact HBE.out.symm
          · exact HN.out j t (by omega) ht⟩
        case measure => simp [intOf]; omega
    · have e : k = T.length := by omega
      have hall : (T.all fun t => isSysImpl t.v t.bs) = true := by
        rw [List.all_eq_true]
        intro t ht
        obtain ⟨j, hj, rfl⟩ := List.mem_iff_getElem.1 ht
        exact HN.out j _ (by omega) (List.getElem?_eq_getElem hj)
      have HALL := Lib.hid hall
      clear hall HN
      by_cases h7 : T.length ≤ 7
      · have hF := famF_of HALL.out h7
        have HR := Lib.hid (show V = boolCode (famB T) 0 by rw [HV.out, hF])
        have h7' : (T.length : Int) ≤ 7 := by omega
        clear hF
        go_wp2
        obtain ⟨W0, hW0⟩ : ∃ W0, W0 = wr := ⟨_, rfl⟩
        rw [← hW0] at hB hz ⊢
        clear hW0
        go_loopw [5] (fun i wr => ∃ k : Nat, k ≤ T.length ∧ i = .int .i64 k ∧ Below w.heap.size w wr ∧ Hid (FamK T k)) (fun i _ => T.length - (intOf i).toNat)
        case atStart => exact ⟨0, Nat.zero_le _, rfl, hB, Lib.hid ⟨fun j t hj => by omega, fun a b t u _ hb => by omega⟩⟩
        case round =>
          clear hB hz hk e
          obtain ⟨i, hi, rfl, hB, HF⟩ := hrel
          have hz := hB.size
          by_cases hil : i < T.length
          · have hW := HS.out.below hB (Nat.le_refl _)
            rcases hW.2 with ⟨_, _, _, hnil⟩ | ⟨b, off, cap, hval, hblt, _, hbl⟩
            · rw [hnil] at hil; simp at hil
            simp at hval
            obtain ⟨rfl, rfl⟩ := hval
            obtain ⟨t, ht⟩ : ∃ t, T[i]? = some t := ⟨_, List.getElem?_eq_getElem hil⟩
            obtain ⟨z0, z1, z2⟩ := hbl i t ht
            have HT := Lib.hid ht
            have HTM := Lib.hid (mem_of_get ht)
            have HZ2 := Lib.hid z2
            have HSY := Lib.hid (show isSysImpl t.v t.bs = true from by
              have := HALL.out
              rw [List.all_eq_true] at this
              exact this t (mem_of_get ht))
            obtain ⟨hv3, hv15, _⟩ := sys_size HSY.out
            have HFU := Lib.hid (l01Full_any t.v t.s t.bs wr z2.slice hv3 hv15 z2.2.1)
            obtain ⟨β, hβ⟩ : ∃ β, β = fullB t.v t.bs := ⟨_, rfl⟩
            have HBE := Lib.hid hβ
            rw [← hβ] at HFU
            obtain ⟨tv, ts, tbs⟩ := t
            dsimp only at HFU z0 z1 hv3 hv15
            obtain ⟨a2, c2, hts⟩ := z2.slice
            dsimp only at hts
            subst hts
            have g0 : (0 : Int) ≤ (i : Int) := by omega
            have g1 : (i : Int) < (T.length : Int) := by omega
            clear hβ ht hbl z2 hW
            by_cases h9 : tv = 9
            · subst h9
              cases β with
              | false =>
                have HR2 := Lib.hid (show V = boolCode false 0 by rw [HR.out, famB_one HTM.out (.inr HBE.out.symm)])
                go_wp2_with fail
                refine HFU.out.mono ?_
                rintro e w1 ⟨rfl, hb1⟩
                have hb2 := hB.trans (hb1.mono hz)
                go_wp2
                go_ret2
                exact RV_of (by rw [HR2.out]; rfl) hb2
              | true =>
                go_wp2_with fail
                refine HFU.out.mono ?_
                rintro e w1 ⟨rfl, hb1⟩
                have hb2 := hB.trans (hb1.mono hz)
                have hz1 := hb1.size
                clear z0 z1
                go_wp2
                go_loopw [6] (fun q wx => ∃ k : Nat, k ≤ i ∧ q = .int .i64 k ∧ Below w.heap.size w wx ∧ Hid (∀ a u, a < k → T[a]? = some u → apartB u.bs tbs = true)) (fun q _ => i - (intOf q).toNat)
                case atStart => exact ⟨0, Nat.zero_le _, rfl, hb2, Lib.hid fun a u ha => by omega⟩
                case round =>
                  clear hB hz hb1 hb2 hz1
                  obtain ⟨k, hk, rfl, hB, HN⟩ := hrel
                  have hz := hB.size
                  by_cases hki : k < i
                  · have hW := HS.out.below hB (Nat.le_refl _)
                    rcases hW.2 with ⟨_, _, _, hnil⟩ | ⟨b', off', cap', hval', hblt', _, hbl⟩
                    · rw [hnil] at hil; simp at hil
                    simp at hval'
                    obtain ⟨⟨rfl, rfl⟩, rfl⟩ := hval'
                    obtain ⟨z0, z1, z2⟩ := hbl i _ HT.out
                    obtain ⟨u, hu⟩ : ∃ u, T[k]? = some u := ⟨_, List.getElem?_eq_getElem (by omega)⟩
                    obtain ⟨y0, y1, y2⟩ := hbl k u hu
                    have HU := Lib.hid hu
                    have HC := Lib.hid fun W (hb : Below wr.heap.size wr W) => l10Common_any 9 (.slice a2 tbs.length c2) tbs u.v u.s u.bs W (z2.below hb (Nat.le_refl _)) (y2.below hb (Nat.le_refl _))
                    have hcp := commonB_pos tbs u.bs
                    have hcl := commonB_le tbs u.bs
                    have htl : tbs.length ≤ 1100000 := z2.2.1
                    obtain ⟨c', hc'⟩ : ∃ c', c' = commonB tbs u.bs := ⟨_, rfl⟩
                    rw [← hc'] at HC hcp hcl
                    have HCP := Lib.hid hcp
                    have HZL := Lib.hid htl
                    obtain ⟨uv, us, ubs⟩ := u
                    dsimp only at HC y0 y1 HCP z0 z1
                    obtain ⟨a3, c3, hus⟩ := y2.slice
                    dsimp only at hus
                    subst hus
                    have q0 : (0 : Int) ≤ (k : Int) := by omega
                    have q1 : (k : Int) < (T.length : Int) := by omega
                    have hcb : c' ≤ 1100000 := by omega
                    clear hc' hu hbl y2 z2 hW hcp hcl htl
                    by_cases hc0 : c' = 0
                    · subst hc0
                      have HAP := Lib.hid (show apartB ubs tbs = true by
                        rw [apartB_comm]
                        cases hap : apartB tbs ubs with
                        | true => rfl
                        | false => exact absurd (HCP.out.2 hap) (by omega))
                      go_wp2
                      go_region_with (first | (go_at_call 58; refine (HC.out _ (by first | exact Below.refl _ _ | exact (Below.refl _ _).drew)).mono ?_; rintro e w3 ⟨rfl, hb3⟩))
                      all_goals
                        have hb4 : Below wr.heap.size wr w3 := by first | exact ((Below.refl _ _).drew).trans (hb3.mono (by simp)) | exact hb3
                        have hb5 := hB.trans (hb4.mono hz)
                        go_wp2
                        go_roundw
                        case rel => exact ⟨k + 1, by omega, by go_num, hb5, Lib.hid fun a u ha hu => by
                          by_cases hak : a = k
                          · subst hak
                            rw [HU.out] at hu
                            obtain rfl := Option.some.inj hu
                            exact HAP.out
                          · exact HN.out a u (by omega) hu⟩
                        case measure => simp [intOf]; omega
                    · have HR2 := Lib.hid (show V = boolCode false 0 by rw [HR.out, famB_two hki HU.out HT.out (by rw [apartB_comm]; exact HCP.out.1 (by omega))])
                      have hcpos : (0 : Int) < (c' : Int) := by omega
                      go_wp2
                      go_region_with (first | (go_at_call 58; refine (HC.out _ (by first | exact Below.refl _ _ | exact (Below.refl _ _).drew)).mono ?_; rintro e w3 ⟨rfl, hb3⟩))
                      all_goals
                        have hb4 : Below wr.heap.size wr w3 := by first | exact ((Below.refl _ _).drew).trans (hb3.mono (by simp)) | exact hb3
                        have hb5 := hB.trans (hb4.mono hz)
                        go_wp2
                        go_ret2
                        exact RV_of (by rw [HR2.out]; rfl) hb5
                  · have e : k = i := by omega
                    subst e
                    have HFN := Lib.hid (show FamK T (k + 1) from ⟨fun j t hj ht => by
                      by_cases hjk : j = k
                      · subst hjk
                        rw [HT.out] at ht
                        obtain rfl := Option.some.inj ht
                        exact ⟨rfl, HBE.out.symm⟩
                      · exact HF.out.1 j t (by omega) ht, fun a b t u hab hb ht hu => by
                      by_cases hbk : b = k
                      · subst hbk
                        rw [HT.out] at hu
                        obtain rfl := Option.some.inj hu
                        exact HN.out a t hab ht
                      · exact HF.out.2 a b t u hab (by omega) ht hu⟩)
                    go_wp2
                    go_roundw
                    case rel => exact ⟨k + 1, by omega, by go_num, hB, HFN⟩
                    case measure => simp [intOf]; omega
            · have HR2 := Lib.hid (show V = boolCode false 0 by rw [HR.out, famB_one HTM.out (.inl h9)])
              have hne : (tv != 9) = true := by simpa using h9
              clear h9
              go_wp2
              go_ret2
              exact RV_of (by rw [HR2.out]; rfl) hB
          · have e : i = T.length := by omega
            subst e
            have HR2 := Lib.hid (show V = boolCode true 0 by rw [HR.out, famB_true HF.out])
            go_wp2
            go_ret2
            exact RV_of (by rw [HR2.out]; rfl) hB
      · have HR := Lib.hid (show V = boolCode false 2 by
          rw [HV.out]
          unfold famF
          rw [key_all, HALL.out, if_pos rfl, keyS_len, if_neg h7])
        have h7' : (7 : Int) < (T.length : Int) := by omega
        clear h7
        go_wp2
        go_ret2
        exact RV_of (by rw [HR.out]; rfl) hB
end Go.Proofs.Ytehdpgjbmnkkiaa

namespace Go.Proofs.Ytehdpgjbmnkkiaa
open Go.RowKit Go.Maps
set_option maxRecDepth 100000 in
set_option maxHeartbeats 2000000 in
theorem FnExactIsFamily_main (s : Value) (T : List Sy) (w : World) (h : InSL w s T) (hl : T.length + totS T ≤ 1048576) :
    Calls Try.prog 10 #[s] w (RV (.bool true) w) := by
  have hsz := szSystems_any s T w h 1048576 (by omega) (by omega)
  rw [if_neg (by omega)] at hsz
  obtain ⟨m, hm⟩ : ∃ m, m = (1048576 : Int) - ((T.length + totS T : Nat) : Int) := ⟨_, rfl⟩
  rw [← hm] at hsz
  have hmp : 0 ≤ m := by omega
  have HSZ := Lib.hid hsz
  have HSL := Lib.hid (h.sl hl).1
  have HTO := Lib.hid fun W (hb : Below w.heap.size w W) => toSystems_any s T W ((h.sl hl).1.below hb (Nat.le_refl _))
  obtain ⟨β, hβ⟩ : ∃ β, β = (famF (keyS T)).1 := ⟨_, rfl⟩
  obtain ⟨κ, hκ⟩ : ∃ κ, κ = (famF (keyS T)).2 := ⟨_, rfl⟩
  have HSP := Lib.hid fun u T' W (hs : SysL W u T') (hk : keyS T' = keyS T) => show Calls Try.prog 37 #[u] W (RV (boolCode β κ) W) from by rw [hβ, hκ, ← hk]; exact specIsFamily_any u T' W hs
  have HIM := Lib.hid fun u T' W (hs : SysL W u T') (hk : keyS T' = keyS T) => show Calls Try.prog 39 #[u] W (RV (boolCode β κ) W) from by rw [hβ, hκ, ← hk]; exact IsFamily_any u T' W hs
  unfold boolCode at HSP HIM
  have hln := h.1
  have hnb : (β != β) = false := by simp
  have hnk : (κ != κ) = false := by simp
  obtain ⟨a, c, rfl⟩ := h.slice
  clear hsz hm hβ hκ h hl
  go_enter Try.func10, Try.ntmps10
  go_wp2_with fail
  refine HSZ.out.mono ?_
  rintro e w1 ⟨rfl, hb1⟩
  go_wp2_with fail
  refine (HTO.out w1 hb1).mono ?_
  rintro e w2 ⟨g2, T2, rfl, hs2, hk2, hb2⟩
  have hB2 := hb1.trans (hb2.mono hb1.size)
  have H2 := Lib.hid (HSP.out _ T2 w2 hs2 hk2)
  clear hb1 hb2 hs2
  go_wp2_with fail
  refine H2.out.mono ?_
  rintro e w3 ⟨rfl, hb3⟩
  have hB3 := hB2.trans (hb3.mono hB2.size)
  clear H2 hb3 hB2
  go_wp2_with fail
  refine (HTO.out w3 hB3).mono ?_
  rintro e w4 ⟨g4, T4, rfl, hs4, hk4, hb4⟩
  have hB4 := hB3.trans (hb4.mono hB3.size)
  have HS4 := Lib.hid hs4
  have H4 := Lib.hid (HIM.out _ T4 w4 hs4 hk4)
  clear hb4 hs4 hB3
  go_wp2_with fail
  refine H4.out.mono ?_
  rintro e w5 ⟨rfl, hb5⟩
  have hB5 := hB4.trans (hb5.mono hB4.size)
  have HS5 := Lib.hid (HS4.out.below hb5 (Nat.le_refl _))
  clear hb5 H4 HS4 hB4
  go_wp2_with fail
  refine (HTO.out w5 hB5).mono ?_
  rintro e w6 ⟨g6, T6, rfl, hs6, hk6, hb6⟩
  have hB6 := hB5.trans (hb6.mono hB5.size)
  have HQ := Lib.hid (eqSystems_same _ _ T4 T6 w6 (HS5.out.below hb6 (Nat.le_refl _)) hs6 (hk4.trans hk6.symm))
  clear hb6 hs6 hB5
  go_wp2_with fail
  refine HQ.out.mono ?_
  rintro e w7 ⟨rfl, hb7⟩
  have hB7 := hB6.trans (hb7.mono hB6.size)
  clear hb7 hB6
  go_wp2
  go_ret
  exact RV_of rfl hB7
set_option maxRecDepth 100000 in
theorem FnExactIsFamily_long (s : Value) (T : List Sy) (w : World) (h : InSL w s T) (hl : ¬ T.length + totS T ≤ 1048576) :
    Calls Try.prog 10 #[s] w (RV (.bool true) w) := by
  have hsz := szSystems_any s T w h 1048576 (by omega) (by omega)
  rw [if_pos (by omega)] at hsz
  have HSZ := Lib.hid hsz
  have hln := h.1
  obtain ⟨a, c, rfl⟩ := h.slice
  clear hsz h hl
  go_enter Try.func10, Try.ntmps10
  go_wp2_with fail
  refine HSZ.out.mono ?_
  rintro e w1 ⟨rfl, hb1⟩
  go_wp2
  go_ret
  exact RV_of rfl hb1
theorem FnExactIsFamily_any (s : Value) (T : List Sy) (w : World) (h : InSL w s T) : Calls Try.prog 10 #[s] w (RV (.bool true) w) := by
  by_cases hl : T.length + totS T ≤ 1048576
  · exact FnExactIsFamily_main s T w h hl
  · exact FnExactIsFamily_long s T w h hl
end Go.Proofs.Ytehdpgjbmnkkiaa

namespace Go.Proofs.Ytehdpgjbmnkkiaa
set_option maxRecDepth 100000 in
noncomputable def iniP : { L : List Char // Try.prog.initOrder = String.ofList L } := ⟨_, by unfold Try.prog; rfl⟩
theorem iniL : Try.prog.initOrder.toList = iniP.1 := (congrArg String.toList iniP.2).trans String.toList_ofList
theorem words_cons (c : Char) (r : List Char) (h : c ≠ Char.ofNat 32) : wordsSigns (c :: r) = match wordsSigns r with | w :: ws => (c :: w) :: ws | [] => [[c]] := by
  rw [wordsSigns]
  all_goals first | rfl | exact h | (intro e; exact h e)
theorem words_word : ∀ (a b : List Char), (a.all fun c => c != Char.ofNat 32) = true → wordsSigns (a ++ Char.ofNat 32 :: b) = a :: wordsSigns b
  | [], b, _ => rfl
  | c :: a, b, h => by
    simp only [List.all_cons, Bool.and_eq_true, bne_iff_ne, ne_eq] at h
    rw [List.cons_append, words_cons _ _ h.1, words_word a b (by simpa using h.2)]
set_option maxRecDepth 100000 in
theorem split1 : iniP.1 = iniP.1.take 7 ++ Char.ofNat 32 :: iniP.1.drop 8 := by kernel_rfl
set_option maxRecDepth 100000 in
theorem split2 : iniP.1.drop 8 = (iniP.1.drop 8).take 64 ++ Char.ofNat 32 :: iniP.1.drop 73 := by kernel_rfl
set_option maxRecDepth 100000 in
theorem split3 : iniP.1.drop 73 = (iniP.1.drop 73).take 3 ++ Char.ofNat 32 :: iniP.1.drop 77 := by kernel_rfl
theorem isCut : (iniP.1.drop 73).take 3 = "cut".toList := by kernel_rfl
set_option maxRecDepth 100000 in
theorem isHead : ((iniP.1.take 7 == "harness".toList || iniP.1.take 7 == "ownmain".toList) && isSumSigns ((iniP.1.drop 8).take 64)) = true := by kernel_rfl
theorem wordsL : wordsSigns iniP.1 = iniP.1.take 7 :: (iniP.1.drop 8).take 64 :: "cut".toList :: wordsSigns (iniP.1.drop 77) := by
  rw [← isCut]
  conv => lhs; rw [split1]
  rw [words_word _ _ (by kernel_rfl)]
  conv => lhs; rw [split2]
  rw [words_word _ _ (by kernel_rfl)]
  conv => lhs; rw [split3]
  rw [words_word _ _ (by kernel_rfl)]
theorem behindL : behindMainWord (wordsSigns Try.prog.initOrder.toList) = "cut".toList :: wordsSigns (iniP.1.drop 77) := by
  rw [iniL, wordsL]
  unfold behindMainWord
  simp only [isHead, if_true]
theorem stripL (ws : List (List Char)) : stripLifts liftWords ("cut".toList :: ws) = ([], "cut".toList :: ws) := by kernel_rfl
section
variable (P : Program) (ws : List (List Char)) (h : behindMainWord (wordsSigns P.initOrder.toList) = "cut".toList :: ws)
include h
theorem head_of : P.headLifts = [] := by
  unfold Program.headLifts
  rw [h]
  simp only [stripL]
  kernel_rfl
theorem make_of : P.make = some .cut := by
  unfold Program.make
  rw [h, head_of P ws h]
  kernel_rfl
theorem lifts_of : P.liftsFinal = false := by
  unfold Program.liftsFinal
  rw [h, head_of P ws h]
  kernel_rfl
theorem enter_of (h1 : P.laysLater = false) (h2 : P.bearsReflect = false) (h3 : P.doorFits [] = true) : P.mayEnter = true := by
  unfold Program.mayEnter
  rw [h]
  simp only [stripL]
  rw [h1, h2, h3]
  kernel_rfl
end
theorem mayE : Try.pinned.checked.prog.mayEnter = true := enter_of _ _ behindL (by kernel_rfl) (by kernel_rfl) (by kernel_rfl)
theorem liftsF : Try.pinned.checked.prog.liftsFinal = false := lifts_of _ _ behindL
theorem makeF : Try.pinned.checked.prog.make = some .cut := make_of _ _ behindL
theorem both {a b : Bool} (h : a = true) (k : b = true) : (a && b) = true := by rw [h, k]; rfl
end Go.Proofs.Ytehdpgjbmnkkiaa


/- Tests in a list: passes and code of lists of systems. AreApart of the program. The model's number of common blocks, and its AreApart. MateByTurning on both sides. The law FnExactMateByTurning returns true. How the laws' arguments are read. The dump's head word by word, cheaply: what every row asks of it. -/
import Derived.Test.YtehdpgjbmnkkiaaJ11
import Derived.Deep.RegionWith
import Derived.Test.YtehdpgjbmnkkiaaRows
import Derived.ProofKit
import Derived.OpenShut
import Derived.Deep.Slices
import Derived.Lib.SmallJoins
import Derived.ChangeOld
namespace Go.Proofs.Ytehdpgjbmnkkiaa
open Go.RowKit Go.Maps
set_option maxRecDepth 100000 in
theorem test_same (p : Nat) (u : Value) (β : Bool) (w : World) (c0 : w.cell? ⟨p, 0, none⟩ = some u) (hu : ∃ a n c, u = .slice a n c) (h : ∀ W, Below w.heap.size w W → Calls Try.prog 60 #[u] W (RV (.bool β) W)) :
    Calls Try.prog 112 #[.func (.func 60) #[] #[], .pointer (some ⟨p, 0, none⟩)] w (RV (.bool β) w) := by
  have HC := Lib.hid h
  obtain ⟨a, n, c, rfl⟩ := hu
  clear h
  go_enter Try.func112, Try.ntmps112
  go_wp2_with fail
  refine (HC.out _ (Below.refl _ _)).mono ?_
  rintro e w1 ⟨rfl, hb1⟩
  go_wp2
  go_ret
  exact RV_of rfl hb1
set_option maxRecDepth 100000 in
theorem test_nine (p : Nat) (u : Value) (β : Bool) (w : World) (c0 : w.cell? ⟨p, 0, none⟩ = some u) (hu : ∃ a n c, u = .slice a n c) (h : ∀ W, Below w.heap.size w W → Calls Try.prog 113 #[u] W (RV (.bool β) W)) :
    Calls Try.prog 112 #[.func (.func 113) #[] #[], .pointer (some ⟨p, 0, none⟩)] w (RV (.bool β) w) := by
  have HC := Lib.hid h
  obtain ⟨a, n, c, rfl⟩ := hu
  clear h
  go_enter Try.func112, Try.ntmps112
  go_wp2_with fail
  refine (HC.out _ (Below.refl _ _)).mono ?_
  rintro e w1 ⟨rfl, hb1⟩
  go_wp2
  go_ret
  exact RV_of rfl hb1
set_option maxRecDepth 100000 in
theorem test_full (p : Nat) (u : Value) (β : Bool) (w : World) (c0 : w.cell? ⟨p, 0, none⟩ = some u) (hu : ∃ a n c, u = .slice a n c) (h : ∀ W, Below w.heap.size w W → Calls Try.prog 114 #[u] W (RV (.bool β) W)) :
    Calls Try.prog 112 #[.func (.func 114) #[] #[], .pointer (some ⟨p, 0, none⟩)] w (RV (.bool β) w) := by
  have HC := Lib.hid h
  obtain ⟨a, n, c, rfl⟩ := hu
  clear h
  go_enter Try.func112, Try.ntmps112
  go_wp2_with fail
  refine (HC.out _ (Below.refl _ _)).mono ?_
  rintro e w1 ⟨rfl, hb1⟩
  go_wp2
  go_ret
  exact RV_of rfl hb1
set_option maxRecDepth 100000 in
theorem test_apart (p : Nat) (u : Value) (β : Bool) (w : World) (c0 : w.cell? ⟨p, 0, none⟩ = some u) (hu : ∃ a n c, u = .slice a n c) (h : ∀ W, Below w.heap.size w W → Calls Try.prog 61 #[u] W (RV (.bool β) W)) :
    Calls Try.prog 112 #[.func (.func 61) #[] #[], .pointer (some ⟨p, 0, none⟩)] w (RV (.bool β) w) := by
  have HC := Lib.hid h
  obtain ⟨a, n, c, rfl⟩ := hu
  clear h
  go_enter Try.func112, Try.ntmps112
  go_wp2_with fail
  refine (HC.out _ (Below.refl _ _)).mono ?_
  rintro e w1 ⟨rfl, hb1⟩
  go_wp2
  go_ret
  exact RV_of rfl hb1
set_option maxRecDepth 100000 in
theorem allT_s (b p : Nat) (u : Value) (β0 : Bool) (w : World) (hp : p < w.heap.size) (c0 : w.cell? ⟨p, 0, none⟩ = some u) (hu : ∃ a n c, u = .slice a n c) (d0 : w.cell? ⟨b, 0, none⟩ = some (.func (.func 60) #[] #[])) (h0 : ∀ W, Below w.heap.size w W → Calls Try.prog 60 #[u] W (RV (.bool β0) W)) :
    Calls Try.prog 111 #[.slice (some ⟨b, 0, none⟩) 1 1, .func (.func 112) #[] #[.pointer (some ⟨p, 0, none⟩)]] w (RV (.bool (β0)) w) := by
  have HT0 := Lib.hid fun W (hB : Below w.heap.size w W) => test_same p u β0 W ((hB.cell hp).trans c0) hu fun W' hB' => h0 W' (hB.trans (hB'.mono hB.size))
  clear c0 hu hp h0
  go_enter Try.func111, Try.ntmps111
  go_wp2
  refine wp_loop_rounds 2 ?_
  rw [rounds_succ]
  cases β0 with
  | false =>
    go_wp2_with fail
    refine (HT0.out _ (Below.refl _ _)).mono ?_
    rintro e w1 ⟨rfl, hb1⟩
    have hB1 : Below w.heap.size w w1 := hb1
    go_wp2
    go_ret
    exact RV_of (by simp) hB1
  | true =>
    go_wp2_with fail
    refine (HT0.out _ (Below.refl _ _)).mono ?_
    rintro e w1 ⟨rfl, hb1⟩
    have hB1 : Below w.heap.size w w1 := hb1
    go_wp2
    rw [rounds_succ]
    go_wp2
    go_ret
    exact RV_of (by simp) hB1
set_option maxRecDepth 100000 in
theorem passes_s (b : Nat) (u : Value) (β0 : Bool) (w : World) (hb : b < w.heap.size) (hu : ∃ a n c, u = .slice a n c) (d0 : w.cell? ⟨b, 0, none⟩ = some (.func (.func 60) #[] #[])) (h0 : ∀ W, Below w.heap.size w W → Calls Try.prog 60 #[u] W (RV (.bool β0) W)) :
    Calls Try.prog 73 #[u, .slice (some ⟨b, 0, none⟩) 1 1] w (RV (.bool (β0)) w) := by
  have hmf : ∀ (fn : Fn) (first cap : Array Value) (w : World), (Instr.makeFunc fn first cap).run Try.prog w = .ok (.func fn first cap) w := fun _ _ _ _ => rfl
  have HC := Lib.hid fun p W (hB : Below w.heap.size w W) (hp : p < W.heap.size) (c0 : W.cell? ⟨p, 0, none⟩ = some u) => allT_s b p u β0 W hp c0 hu ((hB.cell (p := ⟨b, 0, none⟩) hb).trans d0) (fun W' hB' => h0 W' (hB.trans (hB'.mono hB.size)))
  obtain ⟨β, hβ⟩ : ∃ β, β = (β0) := ⟨_, rfl⟩
  simp only [← hβ] at HC
  rw [← hβ]
  obtain ⟨a, n, c, rfl⟩ := hu
  clear hβ d0 h0
  go_enter Try.func73, Try.ntmps73
  go_wp2_with fail
  refine (HC.out _ _ ((Below.refl _ _).alloc (Nat.le_refl _) _) (by simp) (by simp [go_sem])).mono ?_
  rintro e w1 ⟨rfl, hb1⟩
  have hb2 := below_new hb1
  go_wp2
  go_ret
  exact RV_of rfl hb2
/-- The code of a list of systems. -/
def codeL_s (σ β0 : Bool) : Int := if σ then (if (β0) then 0 else 5) else 1
set_option maxRecDepth 100000 in
theorem code_s (b : Nat) (u : Value) (T : List Sy) (β0 : Bool) (w : World) (hS : SysL w u T) (h : (T.all fun t => isSysImpl t.v t.bs) = true → ∀ W, Below w.heap.size w W → Calls Try.prog 73 #[u, .slice (some ⟨b, 0, none⟩) 1 1] W (RV (.bool (β0)) W)) :
    Calls Try.prog 59 #[u, .slice (some ⟨b, 0, none⟩) 1 1] w (RV (.int .i64 (codeL_s (T.all fun t => isSysImpl t.v t.bs) β0)) w) := by
  have HA := Lib.hid (areSystems_any u T w hS)
  obtain ⟨β, hβ⟩ : ∃ β, β = (β0) := ⟨_, rfl⟩
  have HV := Lib.hid (show ∀ σ, codeL_s σ β0 = if σ then (if β then 0 else 5) else 1 by intro σ; rw [hβ]; rfl)
  simp only [← hβ] at h
  obtain ⟨σ, hσ⟩ : ∃ σ, σ = T.all fun t => isSysImpl t.v t.bs := ⟨_, rfl⟩
  rw [← hσ] at HA h ⊢
  obtain ⟨a, c, rfl⟩ := hS.slice
  clear hβ hσ hS
  cases σ with
  | false =>
    clear h
    go_enter Try.func59, Try.ntmps59
    go_wp2_with fail
    refine HA.out.mono ?_
    rintro e w1 ⟨rfl, hb1⟩
    go_wp2
    go_ret
    exact RV_of (by rw [HV.out]; rfl) hb1
  | true =>
    have HP := Lib.hid (h rfl)
    clear h
    cases β with
    | false =>
      go_enter Try.func59, Try.ntmps59
      go_wp2_with fail
      refine HA.out.mono ?_
      rintro e w1 ⟨rfl, hb1⟩
      go_wp2_with fail
      refine (HP.out _ hb1).mono ?_
      rintro e w2 ⟨rfl, hb2⟩
      have hb3 := hb1.trans (hb2.mono hb1.size)
      go_wp2
      go_ret
      exact RV_of (by rw [HV.out]; rfl) hb3
    | true =>
      go_enter Try.func59, Try.ntmps59
      go_wp2_with fail
      refine HA.out.mono ?_
      rintro e w1 ⟨rfl, hb1⟩
      go_wp2_with fail
      refine (HP.out _ hb1).mono ?_
      rintro e w2 ⟨rfl, hb2⟩
      have hb3 := hb1.trans (hb2.mono hb1.size)
      go_wp2
      go_ret
      exact RV_of (by rw [HV.out]; rfl) hb3
set_option maxRecDepth 100000 in
theorem allT_f (b p : Nat) (u : Value) (β0 β1 β2 : Bool) (w : World) (hb : b < w.heap.size) (hp : p < w.heap.size) (c0 : w.cell? ⟨p, 0, none⟩ = some u) (hu : ∃ a n c, u = .slice a n c) (d0 : w.cell? ⟨b, 0, none⟩ = some (.func (.func 113) #[] #[])) (d1 : w.cell? ⟨b, 1, none⟩ = some (.func (.func 114) #[] #[])) (d2 : w.cell? ⟨b, 2, none⟩ = some (.func (.func 61) #[] #[])) (h0 : ∀ W, Below w.heap.size w W → Calls Try.prog 113 #[u] W (RV (.bool β0) W)) (h1 : ∀ W, Below w.heap.size w W → Calls Try.prog 114 #[u] W (RV (.bool β1) W)) (h2 : ∀ W, Below w.heap.size w W → Calls Try.prog 61 #[u] W (RV (.bool β2) W)) :
    Calls Try.prog 111 #[.slice (some ⟨b, 0, none⟩) 3 3, .func (.func 112) #[] #[.pointer (some ⟨p, 0, none⟩)]] w (RV (.bool (β0 && β1 && β2)) w) := by
  have HT0 := Lib.hid fun W (hB : Below w.heap.size w W) => test_nine p u β0 W ((hB.cell hp).trans c0) hu fun W' hB' => h0 W' (hB.trans (hB'.mono hB.size))
  have HT1 := Lib.hid fun W (hB : Below w.heap.size w W) => test_full p u β1 W ((hB.cell hp).trans c0) hu fun W' hB' => h1 W' (hB.trans (hB'.mono hB.size))
  have HT2 := Lib.hid fun W (hB : Below w.heap.size w W) => test_apart p u β2 W ((hB.cell hp).trans c0) hu fun W' hB' => h2 W' (hB.trans (hB'.mono hB.size))
  clear c0 hu hp h0 h1 h2
  go_enter Try.func111, Try.ntmps111
  go_wp2
  refine wp_loop_rounds 4 ?_
  rw [rounds_succ]
  cases β0 with
  | false =>
    go_wp2_with fail
    refine (HT0.out _ (Below.refl _ _)).mono ?_
    rintro e w1 ⟨rfl, hb1⟩
    have hB1 : Below w.heap.size w w1 := hb1
    go_wp2
    go_ret
    exact RV_of (by simp) hB1
  | true =>
    go_wp2_with fail
    refine (HT0.out _ (Below.refl _ _)).mono ?_
    rintro e w1 ⟨rfl, hb1⟩
    have hB1 : Below w.heap.size w w1 := hb1
    go_wp2
    rw [rounds_succ]
    cases β1 with
    | false =>
      have e1_1 := (hB1.cell (p := ⟨b, 1, none⟩) hb).trans d1
      have e1_2 := (hB1.cell (p := ⟨b, 2, none⟩) hb).trans d2
      go_wp2_with fail
      refine (HT1.out _ hB1).mono ?_
      rintro e w2 ⟨rfl, hb2⟩
      have hB2 : Below w.heap.size w w2 := hB1.trans (hb2.mono hB1.size)
      go_wp2
      go_ret
      exact RV_of (by simp) hB2
    | true =>
      have e1_1 := (hB1.cell (p := ⟨b, 1, none⟩) hb).trans d1
      have e1_2 := (hB1.cell (p := ⟨b, 2, none⟩) hb).trans d2
      go_wp2_with fail
      refine (HT1.out _ hB1).mono ?_
      rintro e w2 ⟨rfl, hb2⟩
      have hB2 : Below w.heap.size w w2 := hB1.trans (hb2.mono hB1.size)
      go_wp2
      rw [rounds_succ]
      cases β2 with
      | false =>
        have e2_2 := (hB2.cell (p := ⟨b, 2, none⟩) hb).trans d2
        go_wp2_with fail
        refine (HT2.out _ hB2).mono ?_
        rintro e w3 ⟨rfl, hb3⟩
        have hB3 : Below w.heap.size w w3 := hB2.trans (hb3.mono hB2.size)
        go_wp2
        go_ret
        exact RV_of (by simp) hB3
      | true =>
        have e2_2 := (hB2.cell (p := ⟨b, 2, none⟩) hb).trans d2
        go_wp2_with fail
        refine (HT2.out _ hB2).mono ?_
        rintro e w3 ⟨rfl, hb3⟩
        have hB3 : Below w.heap.size w w3 := hB2.trans (hb3.mono hB2.size)
        go_wp2
        rw [rounds_succ]
        go_wp2
        go_ret
        exact RV_of (by simp) hB3
set_option maxRecDepth 100000 in
theorem passes_f (b : Nat) (u : Value) (β0 β1 β2 : Bool) (w : World) (hb : b < w.heap.size) (hu : ∃ a n c, u = .slice a n c) (d0 : w.cell? ⟨b, 0, none⟩ = some (.func (.func 113) #[] #[])) (d1 : w.cell? ⟨b, 1, none⟩ = some (.func (.func 114) #[] #[])) (d2 : w.cell? ⟨b, 2, none⟩ = some (.func (.func 61) #[] #[])) (h0 : ∀ W, Below w.heap.size w W → Calls Try.prog 113 #[u] W (RV (.bool β0) W)) (h1 : ∀ W, Below w.heap.size w W → Calls Try.prog 114 #[u] W (RV (.bool β1) W)) (h2 : ∀ W, Below w.heap.size w W → Calls Try.prog 61 #[u] W (RV (.bool β2) W)) :
    Calls Try.prog 73 #[u, .slice (some ⟨b, 0, none⟩) 3 3] w (RV (.bool (β0 && β1 && β2)) w) := by
  have hmf : ∀ (fn : Fn) (first cap : Array Value) (w : World), (Instr.makeFunc fn first cap).run Try.prog w = .ok (.func fn first cap) w := fun _ _ _ _ => rfl
  have HC := Lib.hid fun p W (hB : Below w.heap.size w W) (hp : p < W.heap.size) (c0 : W.cell? ⟨p, 0, none⟩ = some u) => allT_f b p u β0 β1 β2 W (Nat.lt_of_lt_of_le hb hB.size) hp c0 hu ((hB.cell (p := ⟨b, 0, none⟩) hb).trans d0) ((hB.cell (p := ⟨b, 1, none⟩) hb).trans d1) ((hB.cell (p := ⟨b, 2, none⟩) hb).trans d2) (fun W' hB' => h0 W' (hB.trans (hB'.mono hB.size))) (fun W' hB' => h1 W' (hB.trans (hB'.mono hB.size))) (fun W' hB' => h2 W' (hB.trans (hB'.mono hB.size)))
  obtain ⟨β, hβ⟩ : ∃ β, β = (β0 && β1 && β2) := ⟨_, rfl⟩
  simp only [← hβ] at HC
  rw [← hβ]
  obtain ⟨a, n, c, rfl⟩ := hu
  clear hβ d0 d1 d2 h0 h1 h2
  go_enter Try.func73, Try.ntmps73
  go_wp2_with fail
  refine (HC.out _ _ ((Below.refl _ _).alloc (Nat.le_refl _) _) (by simp) (by simp [go_sem])).mono ?_
  rintro e w1 ⟨rfl, hb1⟩
  have hb2 := below_new hb1
  go_wp2
  go_ret
  exact RV_of rfl hb2
/-- The code of a list of systems. -/
def codeL_f (σ β0 β1 β2 : Bool) : Int := if σ then (if (β0 && β1 && β2) then 0 else 5) else 1
set_option maxRecDepth 100000 in
theorem code_f (b : Nat) (u : Value) (T : List Sy) (β0 β1 β2 : Bool) (w : World) (hS : SysL w u T) (h : (T.all fun t => isSysImpl t.v t.bs) = true → ∀ W, Below w.heap.size w W → Calls Try.prog 73 #[u, .slice (some ⟨b, 0, none⟩) 3 3] W (RV (.bool (β0 && β1 && β2)) W)) :
    Calls Try.prog 59 #[u, .slice (some ⟨b, 0, none⟩) 3 3] w (RV (.int .i64 (codeL_f (T.all fun t => isSysImpl t.v t.bs) β0 β1 β2)) w) := by
  have HA := Lib.hid (areSystems_any u T w hS)
  obtain ⟨β, hβ⟩ : ∃ β, β = (β0 && β1 && β2) := ⟨_, rfl⟩
  have HV := Lib.hid (show ∀ σ, codeL_f σ β0 β1 β2 = if σ then (if β then 0 else 5) else 1 by intro σ; rw [hβ]; rfl)
  simp only [← hβ] at h
  obtain ⟨σ, hσ⟩ : ∃ σ, σ = T.all fun t => isSysImpl t.v t.bs := ⟨_, rfl⟩
  rw [← hσ] at HA h ⊢
  obtain ⟨a, c, rfl⟩ := hS.slice
  clear hβ hσ hS
  cases σ with
  | false =>
    clear h
    go_enter Try.func59, Try.ntmps59
    go_wp2_with fail
    refine HA.out.mono ?_
    rintro e w1 ⟨rfl, hb1⟩
    go_wp2
    go_ret
    exact RV_of (by rw [HV.out]; rfl) hb1
  | true =>
    have HP := Lib.hid (h rfl)
    clear h
    cases β with
    | false =>
      go_enter Try.func59, Try.ntmps59
      go_wp2_with fail
      refine HA.out.mono ?_
      rintro e w1 ⟨rfl, hb1⟩
      go_wp2_with fail
      refine (HP.out _ hb1).mono ?_
      rintro e w2 ⟨rfl, hb2⟩
      have hb3 := hb1.trans (hb2.mono hb1.size)
      go_wp2
      go_ret
      exact RV_of (by rw [HV.out]; rfl) hb3
    | true =>
      go_enter Try.func59, Try.ntmps59
      go_wp2_with fail
      refine HA.out.mono ?_
      rintro e w1 ⟨rfl, hb1⟩
      go_wp2_with fail
      refine (HP.out _ hb1).mono ?_
      rintro e w2 ⟨rfl, hb2⟩
      have hb3 := hb1.trans (hb2.mono hb1.size)
      go_wp2
      go_ret
      exact RV_of (by rw [HV.out]; rfl) hb3
end Go.Proofs.Ytehdpgjbmnkkiaa

namespace Go.Proofs.Ytehdpgjbmnkkiaa
open Go.RowKit Go.Maps
theorem sysL2 {W : World} {a : Nat} {v u : Int} {s t : Value} {xs ys : List Blk} (ha : a < W.heap.size) (c0 : W.cell? ⟨a, 0, none⟩ = some (.int .i64 v)) (c1 : W.cell? ⟨a, 1, none⟩ = some s) (c2 : W.cell? ⟨a, 2, none⟩ = some (.int .i64 u)) (c3 : W.cell? ⟨a, 3, none⟩ = some t) (h : SB W s xs) (h2 : SB W t ys) :
    SysL W (.slice (some ⟨a, 0, none⟩) 2 2) [⟨v, s, xs⟩, ⟨u, t, ys⟩] := by
  refine ⟨by simp, .inr ⟨a, 0, 2, rfl, ha, by simp, fun k t' hk => ?_⟩⟩
  match k, hk with
  | 0, hk => simp at hk; subst hk; exact ⟨c0, c1, h⟩
  | 1, hk => simp at hk; subst hk; exact ⟨c2, c3, h2⟩
  | k + 2, hk => simp at hk
def apF (v : Int) (xs : List Blk) (u : Int) (ys : List Blk) : Bool × Int := if isSysImpl v xs && isSysImpl u ys then (if v = u then (apartB xs ys, 0) else (false, 5)) else (false, 1)
def apC (v : Int) (xs : List Blk) (u : Int) (ys : List Blk) : Int := codeL_s (isSysImpl v xs && isSysImpl u ys) (decide (u = v))
theorem apF_bad {v u : Int} {xs ys : List Blk} (h : apC v xs u ys ≠ 0) : apF v xs u ys = (false, apC v xs u ys) := by
  revert h
  unfold apF apC codeL_s
  cases isSysImpl v xs && isSysImpl u ys
  · simp
  · by_cases e : v = u
    · subst e; simp
    · have e2 : ¬ u = v := fun h => e h.symm
      simp [e, e2]
theorem apF_good {v u : Int} {xs ys : List Blk} (h : apC v xs u ys = 0) : apF v xs u ys = (apartB xs ys, 0) := by
  revert h
  unfold apF apC codeL_s
  cases isSysImpl v xs && isSysImpl u ys
  · simp
  · by_cases e : v = u
    · subst e; simp
    · have e2 : ¬ u = v := fun h => e h.symm
      simp [e2]
set_option maxRecDepth 100000 in
theorem AreApart_any (v : Int) (s : Value) (xs : List Blk) (u : Int) (t : Value) (ys : List Blk) (w : World) (h : SB w s xs) (h2 : SB w t ys) :
    Calls Try.prog 30 #[.agg #[.int .i64 v, s], .agg #[.int .i64 u, t]] w (RV (boolCode (apF v xs u ys).1 (apF v xs u ys).2) w) := by
  have HC := Lib.hid fun a b W (hb : Below w.heap.size w W) (ha : a < W.heap.size) (c0 : W.cell? ⟨a, 0, none⟩ = some (.int .i64 v)) (c1 : W.cell? ⟨a, 1, none⟩ = some s) (c2 : W.cell? ⟨a, 2, none⟩ = some (.int .i64 u)) (c3 : W.cell? ⟨a, 3, none⟩ = some t) (hbb : b < W.heap.size) (d0 : W.cell? ⟨b, 0, none⟩ = some (.func (.func 60) #[] #[])) =>
    have hS := sysL2 ha c0 c1 c2 c3 (h.below hb (Nat.le_refl _)) (h2.below hb (Nat.le_refl _))
    have hc := code_s b _ _ (decide (u = v)) W hS fun _ W' hb' => passes_s b _ (decide (u = v)) W' (Nat.lt_of_lt_of_le hbb hb'.size) ⟨_, _, _, rfl⟩ ((hb'.cell (p := ⟨b, 0, none⟩) hbb).trans d0) fun W2 hb2 => by
      have := samePoints_any _ _ _ W2 ((hS.below hb' (Nat.le_refl _)).below hb2 (Nat.le_refl _)) rfl
      simpa using this
    show Calls Try.prog 59 #[.slice (some ⟨a, 0, none⟩) 2 2, .slice (some ⟨b, 0, none⟩) 1 1] W (RV (.int .i64 (apC v xs u ys)) W) from by
      have e : codeL_s (([⟨v, s, xs⟩, ⟨u, t, ys⟩] : List Sy).all fun t => isSysImpl t.v t.bs) (decide (u = v)) = apC v xs u ys := by unfold apC; simp
      rw [← e]
      exact hc
  have HA := Lib.hid fun a W (hb : Below w.heap.size w W) (ha : a < W.heap.size) (c0 : W.cell? ⟨a, 0, none⟩ = some (.int .i64 v)) (c1 : W.cell? ⟨a, 1, none⟩ = some s) (c2 : W.cell? ⟨a, 2, none⟩ = some (.int .i64 u)) (c3 : W.cell? ⟨a, 3, none⟩ = some t) =>
    show Calls Try.prog 61 #[.slice (some ⟨a, 0, none⟩) 2 2] W (RV (.bool (apartB xs ys)) W) from by
      have e : apartL [⟨v, s, xs⟩, ⟨u, t, ys⟩] = apartB xs ys := by simp [apartL]
      rw [← e]
      exact listApart_any _ _ W (sysL2 ha c0 c1 c2 c3 (h.below hb (Nat.le_refl _)) (h2.below hb (Nat.le_refl _)))
  obtain ⟨a0, k0, rfl⟩ := h.slice
  obtain ⟨a1, k1, rfl⟩ := h2.slice
  clear h h2
  have hB0 : Below w.heap.size w ((w.alloc (.cells #[.int .i64 v, .slice a0 xs.length k0] 31)).alloc (.cells #[.int .i64 u, .slice a1 ys.length k1] 31)) := ((Below.refl _ _).alloc (Nat.le_refl _) _).alloc (by simp) _
  have HB0 := Lib.hid hB0
  clear hB0
  obtain ⟨κ, hκ⟩ : ∃ κ, κ = apC v xs u ys := ⟨_, rfl⟩
  by_cases hk : κ = 0
  · have HV := Lib.hid (apF_good (hκ ▸ hk : apC v xs u ys = 0))
    rw [← hκ, hk] at HC
    rw [HV.out]
    obtain ⟨β, hβ⟩ : ∃ β, β = apartB xs ys := ⟨_, rfl⟩
    rw [← hβ] at HA ⊢
    clear hk hκ HV hβ
    go_enter Try.func30, Try.ntmps30
    go_wp2_with fail
    have hB4 : ∀ o o2, Below w.heap.size w ((((w.alloc (.cells #[.int .i64 v, .slice a0 xs.length k0] 31)).alloc (.cells #[.int .i64 u, .slice a1 ys.length k1] 31)).alloc o).alloc o2) := fun o o2 => (HB0.out.alloc HB0.out.size _).alloc (by simp; omega) _
    refine (HC.out _ _ _ (hB4 _ _) (by simp) (by simp [go_sem]) (by simp [go_sem]) (by simp [go_sem]) (by simp [go_sem]) (by simp) (by simp [go_sem])).mono ?_
    rintro e w1 ⟨rfl, hb1⟩
    have hb2 := (hB4 _ _).trans (hb1.mono (by simp; omega))
    have HA2 := Lib.hid (HA.out (w.heap.size + 1 + 1) w1 hb2 (by have := hb1.size; simp at this; omega) (by rw [hb1.cell (by simp)]; simp [go_sem]) (by rw [hb1.cell (by simp)]; simp [go_sem]) (by rw [hb1.cell (by simp)]; simp [go_sem]) (by rw [hb1.cell (by simp)]; simp [go_sem]))
    clear hb1 hB4 HA HC
    go_wp2_with fail
    refine HA2.out.mono ?_
    rintro e w2 ⟨rfl, hb3⟩
    have hb4 := hb2.trans (hb3.mono hb2.size)
    go_wp2
    go_ret2
    exact RV_of rfl hb4
  · have HV := Lib.hid (apF_bad (hκ ▸ hk : apC v xs u ys ≠ 0))
    rw [← hκ] at HC HV
    rw [HV.out]
    have hne : (κ != 0) = true := by simpa using hk
    clear hk hκ HV HA
    go_enter Try.func30, Try.ntmps30
    go_wp2_with fail
    have hB4 : ∀ o o2, Below w.heap.size w ((((w.alloc (.cells #[.int .i64 v, .slice a0 xs.length k0] 31)).alloc (.cells #[.int .i64 u, .slice a1 ys.length k1] 31)).alloc o).alloc o2) := fun o o2 => (HB0.out.alloc HB0.out.size _).alloc (by simp; omega) _
    refine (HC.out _ _ _ (hB4 _ _) (by simp) (by simp [go_sem]) (by simp [go_sem]) (by simp [go_sem]) (by simp [go_sem]) (by simp) (by simp [go_sem])).mono ?_
    rintro e w1 ⟨rfl, hb1⟩
    have hb2 := (hB4 _ _).trans (hb1.mono (by simp; omega))
    clear hb1 hB4 HC
    go_wp2
    go_ret2
    exact RV_of rfl hb2
end Go.Proofs.Ytehdpgjbmnkkiaa

namespace Go.Proofs.Ytehdpgjbmnkkiaa
open Go.RowKit Go.Maps
set_option maxRecDepth 100000 in
set_option maxHeartbeats 1000000 in
theorem l10Common_any (v : Int) (s : Value) (xs : List Blk) (u : Int) (t : Value) (ys : List Blk) (w : World) (h : SB w s xs) (h2 : SB w t ys) :
    Calls Try.prog 58 #[.agg #[.int .i64 v, s], .agg #[.int .i64 u, t]] w (RV (.int .i64 (commonB xs ys)) w) := by
  have HM := Lib.hid fun x W (hb : Below w.heap.size w W) => l04Member_any t ys x W (h2.below hb (Nat.le_refl _))
  have HS := Lib.hid h
  have hl := h.2.1
  obtain ⟨a0, k0, rfl⟩ := h.slice
  obtain ⟨a1, k1, rfl⟩ := h2.slice
  clear h h2
  go_enter Try.func58, Try.ntmps58
  go_wp2
  obtain ⟨W0, hW0⟩ : ∃ W0, W0 = (w.alloc (.cells #[.int .i64 v, .slice a0 xs.length k0] 31)).alloc (.cells #[.int .i64 u, .slice a1 ys.length k1] 31) := ⟨_, rfl⟩
  have hB0 : Below w.heap.size w W0 := by rw [hW0]; exact ((Below.refl _ _).alloc (Nat.le_refl _) _).alloc (by simp) _
  have q1 : W0.cell? ⟨w.heap.size, 1, none⟩ = some (.slice a0 xs.length k0) := by rw [hW0]; simp [go_sem]
  have r1 : W0.cell? ⟨w.heap.size + 1, 1, none⟩ = some (.slice a1 ys.length k1) := by rw [hW0]; simp [go_sem]
  have hz0 : W0.heap.size = w.heap.size + 1 + 1 := by rw [hW0]; simp
  rw [← hW0]
  clear hW0
  go_loopw [5, 6] (fun c i wr => ∃ k : Nat, k ≤ xs.length ∧ i = .int .i64 k ∧ Below W0.heap.size W0 wr ∧ c = .int .i64 (commonB (xs.take k) ys)) (fun _ i _ => xs.length - (intOf i).toNat)
  case atStart => exact ⟨0, Nat.zero_le _, rfl, Below.refl _ _, rfl⟩
  case round =>
    obtain ⟨k, hk, rfl, hB, rfl⟩ := hrel
    have hz := hB.size
    have q2 := (hB.cell (p := ⟨w.heap.size, 1, none⟩) (by simp; omega)).trans q1
    have r2 := (hB.cell (p := ⟨w.heap.size + 1, 1, none⟩) (by simp; omega)).trans r1
    have hB2 := hB0.trans (hB.mono (by omega))
    by_cases hkl : k < xs.length
    · rcases HS.out.2.2 with ⟨_, _, _, hnil⟩ | ⟨b, off, cap, hval, hblt, hbl⟩
      · rw [hnil] at hkl; simp at hkl
      · simp at hval
        obtain ⟨rfl, rfl⟩ := hval
        obtain ⟨z, hz1, ez, z1, z2, z3⟩ := blks_at (hbl.below hB2 hblt) hkl
        have hsu := commonB_take (ys := ys) hkl
        have e : xs[k] = z := by
          rw [List.getElem?_eq_getElem hkl] at ez
          simpa using ez
        rw [e] at hsu
        have hcl := commonB_le (xs.take k) ys
        rw [List.length_take] at hcl
        obtain ⟨c, hc⟩ : ∃ c, c = commonB (xs.take k) ys := ⟨_, rfl⟩
        rw [← hc] at hsu hcl ⊢
        obtain ⟨β, hβ⟩ : ∃ β, β = decide (z ∈ ys) := ⟨_, rfl⟩
        rw [← hβ] at hsu
        have HSU := Lib.hid hsu
        have HC := Lib.hid fun W (hb : Below w.heap.size w W) => HM.out z W hb
        simp only [← hβ] at HC
        have hcl : c ≤ 1100000 := by omega
        have HB2 := Lib.hid hB2
        obtain ⟨x1, x2, x3⟩ := z
        unfold bv at HC
        dsimp only at HC z1 z2 z3
        have g0 : (0 : Int) ≤ (k : Int) := by omega
        have g1 : (k : Int) < (xs.length : Int) := by omega
        clear hβ hz1 ez e hbl hc hsu hB2
        cases β with
        | true =>
          go_wp2
          go_region_with (first | (go_at_call 101; refine (HC.out _ (by first | exact HB2.out | exact HB2.out.drew)).mono ?_; rintro e w1 ⟨rfl, hb1⟩))
          all_goals
            have hb2 : Below wr.heap.size wr w1 := by first | exact ((Below.refl _ _).drew).trans (hb1.mono (by simp)) | exact hb1
            have hb3 := hB.trans (hb2.mono hz)
            go_wp2
            go_roundw
            case rel => exact ⟨k + 1, by omega, by go_num, hb3, by rw [HSU.out]; first | rfl | (congr 1; simp)⟩
            case measure => simp [intOf]; omega
        | false =>
          go_wp2
          go_region_with (first | (go_at_call 101; refine (HC.out _ (by first | exact HB2.out | exact HB2.out.drew)).mono ?_; rintro e w1 ⟨rfl, hb1⟩))
          all_goals
            have hb2 : Below wr.heap.size wr w1 := by first | exact ((Below.refl _ _).drew).trans (hb1.mono (by simp)) | exact hb1
            have hb3 := hB.trans (hb2.mono hz)
            go_wp2
            go_roundw
            case rel => exact ⟨k + 1, by omega, by go_num, hb3, by rw [HSU.out]; first | rfl | (congr 1; simp)⟩
            case measure => simp [intOf]; omega
    · have e : k = xs.length := by omega
      subst e
      rw [List.take_length]
      go_wp2
      go_ret
      exact RV_of rfl hB2
set_option maxRecDepth 100000 in
theorem specAreApart_any (v : Int) (s : Value) (xs : List Blk) (u : Int) (t : Value) (ys : List Blk) (w : World) (h : SB w s xs) (h2 : SB w t ys) :
    Calls Try.prog 29 #[.agg #[.int .i64 v, s], .agg #[.int .i64 u, t]] w (RV (boolCode (apF v xs u ys).1 (apF v xs u ys).2) w) := by
  have HI := Lib.hid fun W (hb : Below w.heap.size w W) => l01Is_any v s xs W (h.below hb (Nat.le_refl _))
  have HJ := Lib.hid fun W (hb : Below w.heap.size w W) => l01Is_any u t ys W (h2.below hb (Nat.le_refl _))
  have HC := Lib.hid fun W (hb : Below w.heap.size w W) => l10Common_any v s xs u t ys W (h.below hb (Nat.le_refl _)) (h2.below hb (Nat.le_refl _))
  obtain ⟨a0, k0, rfl⟩ := h.slice
  obtain ⟨a1, k1, rfl⟩ := h2.slice
  clear h h2
  have hB0 : Below w.heap.size w ((w.alloc (.cells #[.int .i64 v, .slice a0 xs.length k0] 31)).alloc (.cells #[.int .i64 u, .slice a1 ys.length k1] 31)) := ((Below.refl _ _).alloc (Nat.le_refl _) _).alloc (by simp) _
  have q : ∀ W, Below (w.heap.size + 1 + 1) ((w.alloc (.cells #[.int .i64 v, .slice a0 xs.length k0] 31)).alloc (.cells #[.int .i64 u, .slice a1 ys.length k1] 31)) W → W.cell? ⟨w.heap.size, 0, none⟩ = some (.int .i64 v) ∧ W.cell? ⟨w.heap.size, 1, none⟩ = some (.slice a0 xs.length k0) ∧ W.cell? ⟨w.heap.size + 1, 0, none⟩ = some (.int .i64 u) ∧ W.cell? ⟨w.heap.size + 1, 1, none⟩ = some (.slice a1 ys.length k1) := fun W hb => by
    refine ⟨(hb.cell (by simp; omega)).trans (by simp [go_sem]), (hb.cell (by simp; omega)).trans (by simp [go_sem]), (hb.cell (by simp)).trans (by simp [go_sem]), (hb.cell (by simp)).trans (by simp [go_sem])⟩
  have HQ := Lib.hid q
  have HB0 := Lib.hid hB0
  clear hB0 q
  have hA := apF_good (v := v) (u := u) (xs := xs) (ys := ys)
  cases hi : isSysImpl v xs with
  | false =>
    have HV := Lib.hid (show apF v xs u ys = (false, 1) by unfold apF; simp [hi])
    rw [HV.out]
    rw [hi] at HI
    clear hi HV hA
    go_enter Try.func29, Try.ntmps29
    go_wp2_with fail
    refine (HI.out _ HB0.out).mono ?_
    rintro e w1 ⟨rfl, hb1⟩
    have hb2 := HB0.out.trans (hb1.mono (by simp; omega))
    go_wp2
    go_ret2
    exact RV_of rfl hb2
  | true =>
    rw [hi] at HI
    cases hj : isSysImpl u ys with
    | false =>
      have HV := Lib.hid (show apF v xs u ys = (false, 1) by unfold apF; simp [hj])
      rw [HV.out]
      rw [hj] at HJ
      clear hi hj HV hA
      go_enter Try.func29, Try.ntmps29
      go_wp2_with fail
      refine (HI.out _ HB0.out).mono ?_
      rintro e w1 ⟨rfl, hb1⟩
      obtain ⟨p0, p1, p2, p3⟩ := HQ.out w1 (by simpa using hb1)
      have hb2 := HB0.out.trans (hb1.mono (by simp; omega))
      clear hb1
      go_wp2_with fail
      refine (HJ.out _ hb2).mono ?_
      rintro e w2 ⟨rfl, hb3⟩
      have hb4 := hb2.trans (hb3.mono hb2.size)
      go_wp2
      go_ret2
      exact RV_of rfl hb4
    | true =>
      rw [hj] at HJ
      by_cases hvu : v = u
      · subst hvu
        have HV := Lib.hid (show apF v xs v ys = (apartB xs ys, 0) by unfold apF; simp [hi, hj])
        rw [HV.out]
        rw [← commonB_apart]
        obtain ⟨c, hc⟩ : ∃ c, c = commonB xs ys := ⟨_, rfl⟩
        rw [← hc] at HC ⊢
        clear hi hj HV hA hc
        go_enter Try.func29, Try.ntmps29
        go_wp2_with fail
        refine (HI.out _ HB0.out).mono ?_
        rintro e w1 ⟨rfl, hb1⟩
        obtain ⟨p0, p1, p2, p3⟩ := HQ.out w1 (by simpa using hb1)
        have hb2 := HB0.out.trans (hb1.mono (by simp; omega))
        go_wp2_with fail
        refine (HJ.out _ hb2).mono ?_
        rintro e w2 ⟨rfl, hb3⟩
        obtain ⟨e0, e1, e2, e3⟩ := HQ.out w2 (by have := hb1.trans (hb3.mono hb1.size); simpa using this)
        have hb4 := hb2.trans (hb3.mono hb2.size)
        clear hb1 hb3 p0 p1 p2 p3
        go_wp2_with fail
        refine (HC.out _ hb4).mono ?_
        rintro e w3 ⟨rfl, hb5⟩
        have hb6 := hb4.trans (hb5.mono hb4.size)
        go_wp2
        go_ret2
        exact RV_of rfl hb6
      · have HV := Lib.hid (show apF v xs u ys = (false, 5) by unfold apF; simp [hi, hj, hvu])
        rw [HV.out]
        have hne : (v != u) = true := by simpa using hvu
        clear hi hj HV hA hvu
        go_enter Try.func29, Try.ntmps29
        go_wp2_with fail
        refine (HI.out _ HB0.out).mono ?_
        rintro e w1 ⟨rfl, hb1⟩
        obtain ⟨p0, p1, p2, p3⟩ := HQ.out w1 (by simpa using hb1)
        have hb2 := HB0.out.trans (hb1.mono (by simp; omega))
        go_wp2_with fail
        refine (HJ.out _ hb2).mono ?_
        rintro e w2 ⟨rfl, hb3⟩
        obtain ⟨e0, e1, e2, e3⟩ := HQ.out w2 (by have := hb1.trans (hb3.mono hb1.size); simpa using this)
        have hb4 := hb2.trans (hb3.mono hb2.size)
        clear hb1 hb3 p0 p1 p2 p3
        go_wp2
        go_ret2
        exact RV_of rfl hb4
end Go.Proofs.Ytehdpgjbmnkkiaa

namespace Go.Proofs.Ytehdpgjbmnkkiaa
open Go.RowKit Go.Maps
def mateP (n : Nat) (bs : List Blk) (k : Nat) : Bool := apartB bs (turnS n k bs)
def mateF (v : Int) (bs : List Blk) : Int × Int :=
  if isSysImpl v bs then (match (ups v.toNat).find? (mateP v.toNat bs) with | some k => ((k : Int), 0) | none => (0, 4)) else (0, 1)
def mateV (v : Int) (bs : List Blk) : Value := .tuple #[.int .i64 (mateF v bs).1, .int .i64 (mateF v bs).2]
set_option maxRecDepth 100000 in
set_option maxHeartbeats 1000000 in
theorem MateByTurning_any (v : Int) (s : Value) (bs : List Blk) (w : World) (h : SB w s bs) :
    Calls Try.prog 35 #[.agg #[.int .i64 v, s]] w (RV (mateV v bs) w) := by
  have hmf : ∀ (fn : Fn) (first cap : Array Value) (w : World), (Instr.makeFunc fn first cap).run Try.prog w = .ok (.func fn first cap) w := fun _ _ _ _ => rfl
  have HI := Lib.hid fun W (hb : Below w.heap.size w W) => IsSystem_any v s bs W (h.below hb (Nat.le_refl _))
  have HSB := Lib.hid h
  obtain ⟨a0, c0, rfl⟩ := h.slice
  clear h
  have hB0 : Below w.heap.size w (w.alloc (.cells #[.int .i64 v, .slice a0 bs.length c0] 31)) := (Below.refl _ _).alloc (Nat.le_refl _) _
  have HB0 := Lib.hid hB0
  clear hB0
  cases hi : isSysImpl v bs with
  | false =>
    have HV := Lib.hid (show mateV v bs = .tuple #[.int .i64 0, .int .i64 1] by unfold mateV mateF; simp [hi])
    rw [HV.out]
    rw [hi] at HI
    clear hi HV HSB
    go_enter Try.func35, Try.ntmps35
    go_wp2_with fail
    refine (HI.out _ HB0.out).mono ?_
    rintro e w1 ⟨rfl, hb1⟩
    have hb2 := below_new hb1
    go_wp2
    go_ret2
    exact RV_of rfl hb2
  | true =>
    rw [hi] at HI
    obtain ⟨hv3, hv15, _⟩ := sys_size hi
    obtain ⟨n, rfl⟩ : ∃ n : Nat, v = n := ⟨v.toNat, by omega⟩
    have HF := Lib.hid fun Bx Bp W (hb : Below w.heap.size w W) (hx : Bx < W.heap.size) (c0' : W.cell? ⟨Bx, 0, none⟩ = some (.int .i64 (n : Int))) (c1 : W.cell? ⟨Bx, 1, none⟩ = some (.slice a0 bs.length c0)) (hp : Bp < W.heap.size) (d0 : W.cell? ⟨Bp, 0, none⟩ = some (.int .i64 (n : Int))) =>
      firstOf_any n (mateP n bs) Bx Bp W (by omega) (by omega) d0 hp fun k W' h1 h2 hb' => mate1_any n k Bx _ bs W' ((HSB.out.below hb (Nat.le_refl _)).below hb' (Nat.le_refl _)) hi h2 (Nat.lt_of_lt_of_le hx hb'.size) ((hb'.cell hx).trans c0') ((hb'.cell hx).trans c1)
    have hcase : ∃ k q : Int, ∃ β : Bool, fstV (mateP n bs) n = .tuple #[.int .i64 k, .int .i64 q, .bool β] ∧ mateV (n : Int) bs = .tuple #[.int .i64 k, .int .i64 (if β then 0 else 4)] ∧ (β = false → k = 0) := by
      unfold fstV mateV mateF
      rw [if_pos hi, Int.toNat_natCast]
      cases (ups n).find? (mateP n bs) with
      | none => exact ⟨0, 0, false, rfl, rfl, fun _ => rfl⟩
      | some k => exact ⟨_, _, true, rfl, rfl, fun h => by cases h⟩
    obtain ⟨k, q, β, e1, e2, e3⟩ := hcase
    rw [e1] at HF
    rw [e2]
    clear e1 e2 hi HSB
    cases β
    all_goals
      try obtain rfl := e3 rfl
      clear e3
      go_enter Try.func35, Try.ntmps35
      go_wp2_with fail
      refine (HI.out _ HB0.out).mono ?_
      rintro e w1 ⟨rfl, hb1⟩
      have q0 := cell_new hb1 0 rfl
      have q1 := cell_new hb1 1 rfl
      have hlt1 : w.heap.size < w1.heap.size := World.block_lt_of_cell? w1 ⟨w.heap.size, 0, none⟩ q0
      have hb2 := below_new hb1
      clear hb1
      go_wp2_with fail
      refine (turnsOf_any (n : Int) w1).mono ?_
      rintro e w2 ⟨rfl, rfl⟩
      have HC := Lib.hid (HF.out w.heap.size w1.heap.size (w1.alloc (.cells #[.int .i64 (n : Int)] 2)) (hb2.alloc hb2.size _) (by simp; omega) (cell_past q0 hlt1) (cell_past q1 hlt1) (by simp) (by simp))
      have hb3 := hb2.alloc hb2.size (.cells #[.int .i64 (n : Int)] 2)
      clear q0 q1 hb2
      go_wp2_with fail
      refine HC.out.mono ?_
      rintro e w3 ⟨rfl, hb4⟩
      have hb5 := hb3.trans (hb4.mono hb3.size)
      clear HC hb4
      go_wp2
      go_ret2
      exact RV_of rfl hb5
theorem ups_find {P : Nat → Bool} {k n : Nat} (h1 : 1 ≤ k) (h2 : k < n) (hn : ∀ q ∈ ups k, P q = false) (hk : P k = true) : (ups n).find? P = some k := by
  have e : ups n = ups k ++ (k :: (ups n).drop k) := by
    unfold ups
    apply List.ext_getElem?
    intro i
    by_cases hi : i < k - 1
    · rw [List.getElem?_append_left (by simp; omega)]
      simp [hi, show i < n - 1 by omega]
    · rw [List.getElem?_append_right (by simp; omega)]
      simp only [List.length_map, List.length_range]
      by_cases h0 : i = k - 1
      · subst h0
        simp [show k - 1 < n - 1 by omega, show k - 1 + 1 = k by omega]
      · rw [show i - (k - 1) = (i - k) + 1 by omega, List.getElem?_cons_succ, List.getElem?_drop, show k + (i - k) = i by omega]
  rw [e, List.find?_append, List.find?_eq_none.2 (fun q hq => by simp [hn q hq]), List.find?_cons_of_pos (by exact hk)]
  rfl
set_option maxRecDepth 100000 in
set_option maxHeartbeats 2000000 in
theorem specMateByTurning_any (v : Int) (s : Value) (bs : List Blk) (w : World) (h : SB w s bs) :
    Calls Try.prog 34 #[.agg #[.int .i64 v, s]] w (RV (mateV v bs) w) := by
  have HI := Lib.hid fun W (hb : Below w.heap.size w W) => l01Is_any v s bs W (h.below hb (Nat.le_refl _))
  have HSB := Lib.hid h
  have hbl := h.2.1
  obtain ⟨a0, c0, rfl⟩ := h.slice
  clear h
  have hB0 : Below w.heap.size w (w.alloc (.cells #[.int .i64 v, .slice a0 bs.length c0] 31)) := (Below.refl _ _).alloc (Nat.le_refl _) _
  have HB0 := Lib.hid hB0
  clear hB0
  cases hi : isSysImpl v bs with
  | false =>
    have HV := Lib.hid (show mateV v bs = .tuple #[.int .i64 0, .int .i64 1] by unfold mateV mateF; simp [hi])
    rw [HV.out]
    rw [hi] at HI
    clear hi HV HSB
    go_enter Try.func34, Try.ntmps34
    go_wp2_with fail
    refine (HI.out _ HB0.out).mono ?_
    rintro e w1 ⟨rfl, hb1⟩
    have hb2 := below_new hb1
    go_wp2
    go_ret2
    exact RV_of rfl hb2
  | true =>
    rw [hi] at HI
    obtain ⟨hv3, hv15, _⟩ := sys_size hi
    obtain ⟨n, rfl⟩ : ∃ n : Nat, v = n := ⟨v.toNat, by omega⟩
    have HT := Lib.hid fun (k : Nat) (hk : k < n) W (hb : Below w.heap.size w W) => l10Turned_any n k _ bs W (HSB.out.below hb (Nat.le_refl _)) hi hk
    have HC := Lib.hid fun (k : Nat) t W (hb : Below w.heap.size w W) (h2 : SB W t (turnS n k bs)) => l10Common_any (n : Int) _ bs (n : Int) t (turnS n k bs) W (HSB.out.below hb (Nat.le_refl _)) h2
    have HWB := Lib.hid fun (k : Nat) => turnS_wf (k := k) hi
    have hVe : mateV (n : Int) bs = match (ups n).find? (mateP n bs) with | some k => .tuple #[.int .i64 (k : Int), .int .i64 0] | none => .tuple #[.int .i64 0, .int .i64 4] := by
      unfold mateV mateF
      rw [if_pos hi, Int.toNat_natCast]
      cases (ups n).find? (mateP n bs) <;> rfl
    have HV := Lib.hid hVe
    clear hVe hi HSB
    go_enter Try.func34, Try.ntmps34
    go_wp2_with fail
    refine (HI.out _ HB0.out).mono ?_
    rintro e w1 ⟨rfl, hb1⟩
    have q0 := cell_new hb1 0 rfl
    have q1 := cell_new hb1 1 rfl
    have hlt1 : w.heap.size < w1.heap.size := World.block_lt_of_cell? w1 ⟨w.heap.size, 0, none⟩ q0
    have hb2 := below_new hb1
    clear hb1
    go_wp2_with fail
    go_loopw [4] (fun i wr => ∃ k : Nat, 1 ≤ k ∧ k ≤ n ∧ i = .int .i64 k ∧ Below w1.heap.size w1 wr ∧ Hid (∀ q ∈ ups k, mateP n bs q = false)) (fun i _ => n - (intOf i).toNat)
    case atStart => exact ⟨1, Nat.le_refl _, by omega, rfl, Below.refl _ _, Lib.hid (by simp [ups])⟩
    case round =>
      obtain ⟨k, hk1, hk, rfl, hB, HN⟩ := hrel
      have hz := hB.size
      have r0 := (hB.cell (p := ⟨w.heap.size, 0, none⟩) hlt1).trans q0
      have r1 := (hB.cell (p := ⟨w.heap.size, 1, none⟩) hlt1).trans q1
      have hbw := hb2.trans (hB.mono hb2.size)
      have HBW := Lib.hid hbw
      have hxr : w.heap.size < wr.heap.size := by omega
      by_cases hkn : k < n
      · have HTK := Lib.hid (HT.out k hkn)
        have HCK := Lib.hid (HC.out k)
        have hwb := HWB.out k
        have HWK := Lib.hid hwb
        have hln := turnS_len n k bs
        have HAP := Lib.hid (commonB_apart bs (turnS n k bs))
        have hcl := commonB_le bs (turnS n k bs)
        obtain ⟨c, hc⟩ : ∃ c, c = commonB bs (turnS n k bs) := ⟨_, rfl⟩
        have HPK := Lib.hid (show mateP n bs k = ((c : Int) == 0) by rw [hc]; exact HAP.out.symm)
        rw [← hc] at HCK hcl
        have hγ : ((c : Int) == 0) = mateP n bs k := HPK.out.symm
        clear hc hwb HAP hbw
        cases hP : mateP n bs k with
        | true =>
          rw [hP] at hγ
          have HFD := Lib.hid (ups_find hk1 hkn HN.out hP)
          clear hP HPK
          go_wp2
          go_region_held3 (fun w' => w'.cell? ⟨w.heap.size, 0, none⟩ = some (.int .i64 (n : Int)) ∧ w'.cell? ⟨w.heap.size, 1, none⟩ = some (.slice a0 bs.length c0))
            (first | exact ⟨E0, E1⟩ | exact ⟨F0, F1⟩ | go_keep)
            (first
              | (go_at_call 63; refine (HTK.out _ (by first | exact HBW.out | exact HBW.out.drew)).mono ?_; rintro e w2 ⟨u, rfl, hres, hb3⟩; have hB2 : Below wr.heap.size wr w2 := (by first | exact ((Below.refl _ _).drew).trans (hb3.mono (by simp)) | exact hb3); have E0 := (hB2.cell (p := ⟨w.heap.size, 0, none⟩) hxr).trans r0; have E1 := (hB2.cell (p := ⟨w.heap.size, 1, none⟩) hxr).trans r1; have HSBT := Lib.hid (hres.sb HWK.out (by omega)); obtain ⟨a1, k1, hu⟩ := hres.slice; rw [hln] at hu; subst hu)
              | (go_at_call 58; refine (HCK.out _ _ (by first | exact HBW.out.trans (hB2.mono HBW.out.size) | exact (HBW.out.trans (hB2.mono HBW.out.size)).drew) (by first | exact HSBT.out | exact HSBT.out.below ((Below.refl _ _).drew) (Nat.le_refl _))).mono ?_; rintro e w3 ⟨rfl, hb4⟩; have hB3 : Below w2.heap.size w2 w3 := (by first | exact ((Below.refl _ _).drew).trans (hb4.mono (by simp)) | exact hb4); have hx2 : w.heap.size < w2.heap.size := Nat.lt_of_lt_of_le hxr hB2.size; have F0 := (hB3.cell (p := ⟨w.heap.size, 0, none⟩) hx2).trans E0; have F1 := (hB3.cell (p := ⟨w.heap.size, 1, none⟩) hx2).trans E1))
          all_goals
            have hb5 := HBW.out.trans ((hB2.trans (hB3.mono hB2.size)).mono HBW.out.size)
            go_wp2
            go_ret2
            exact RV_of (by rw [HV.out, HFD.out]; rfl) hb5
        | false =>
          rw [hP] at hγ
          have HNN := Lib.hid (show ∀ q ∈ ups (k + 1), mateP n bs q = false by
            rw [ups_succ hk1]
            intro q hq
            rcases List.mem_append.1 hq with hq | hq
            · exact HN.out q hq
            · obtain rfl := List.mem_singleton.1 hq
              exact hP)
          clear hP HPK
          go_wp2
          go_region_held3 (fun w' => w'.cell? ⟨w.heap.size, 0, none⟩ = some (.int .i64 (n : Int)) ∧ w'.cell? ⟨w.heap.size, 1, none⟩ = some (.slice a0 bs.length c0))
            (first | exact ⟨E0, E1⟩ | exact ⟨F0, F1⟩ | go_keep)
            (first
              | (go_at_call 63; refine (HTK.out _ (by first | exact HBW.out | exact HBW.out.drew)).mono ?_; rintro e w2 ⟨u, rfl, hres, hb3⟩; have hB2 : Below wr.heap.size wr w2 := (by first | exact ((Below.refl _ _).drew).trans (hb3.mono (by simp)) | exact hb3); have E0 := (hB2.cell (p := ⟨w.heap.size, 0, none⟩) hxr).trans r0; have E1 := (hB2.cell (p := ⟨w.heap.size, 1, none⟩) hxr).trans r1; have HSBT := Lib.hid (hres.sb HWK.out (by omega)); obtain ⟨a1, k1, hu⟩ := hres.slice; rw [hln] at hu; subst hu)
              | (go_at_call 58; refine (HCK.out _ _ (by first | exact HBW.out.trans (hB2.mono HBW.out.size) | exact (HBW.out.trans (hB2.mono HBW.out.size)).drew) (by first | exact HSBT.out | exact HSBT.out.below ((Below.refl _ _).drew) (Nat.le_refl _))).mono ?_; rintro e w3 ⟨rfl, hb4⟩; have hB3 : Below w2.heap.size w2 w3 := (by first | exact ((Below.refl _ _).drew).trans (hb4.mono (by simp)) | exact hb4); have hx2 : w.heap.size < w2.heap.size := Nat.lt_of_lt_of_le hxr hB2.size; have F0 := (hB3.cell (p := ⟨w.heap.size, 0, none⟩) hx2).trans E0; have F1 := (hB3.cell (p := ⟨w.heap.size, 1, none⟩) hx2).trans E1))
          all_goals
            have hb5 := hB.trans ((hB2.trans (hB3.mono hB2.size)).mono hz)
            go_wp2
            go_roundw
            case rel => exact ⟨k + 1, by omega, by omega, by go_num, hb5, HNN⟩
            case measure => simp [intOf]; omega
      · have e : k = n := by omega
        subst e
        have HFD := Lib.hid (show (ups k).find? (mateP k bs) = none from List.find?_eq_none.2 fun q hq => by simp [HN.out q hq])
        go_wp2
        go_ret2
        exact RV_of (by rw [HV.out, HFD.out]; rfl) hbw
end Go.Proofs.Ytehdpgjbmnkkiaa

namespace Go.Proofs.Ytehdpgjbmnkkiaa
open Go.RowKit Go.Maps
set_option maxRecDepth 100000 in
theorem FnExactMateByTurning_long (v : Int) (s : Value) (bs : List Blk)  (w : World) (h : InB w s bs) (hl : ¬ bs.length ≤ 1048576) : Calls Try.prog 9 #[.agg #[.int .i64 v, s]] w (RV (.bool true) w) := by
  have hsl := h.slice
  have hbd := h.2.1
  have hsz := szSystem_any v s bs.length hsl (by omega) 1048576 (by omega) (by omega)
  rw [if_pos (by omega)] at hsz
  have HSZ := Lib.hid hsz
  clear hsz h
  obtain ⟨a, c, rfl⟩ := hsl
  go_enter Try.func9, Try.ntmps9
  go_wp2_with (go_at_call 11; refine (HSZ.out _).mono ?_; rintro e w1 ⟨rfl, hb1⟩)
  go_ret
  exact RV_of rfl (((Below.refl _ _).alloc (Nat.le_refl _) _).trans (hb1.mono (by simp)))

set_option maxRecDepth 100000 in
set_option maxHeartbeats 1000000 in
theorem FnExactMateByTurning_main (v : Int) (s : Value) (bs : List Blk)  (w : World) (h : InB w s bs) (hl : bs.length ≤ 1048576) : Calls Try.prog 9 #[.agg #[.int .i64 v, s]] w (RV (.bool true) w) := by
  have hsl := h.slice
  have hbd := h.2.1
  have hsz := szSystem_any v s bs.length hsl (by omega) 1048576 (by omega) (by omega)
  have hsb := h.sb hl
  rw [if_neg (by omega)] at hsz
  obtain ⟨m, hm⟩ : ∃ m, m = (1048576 : Int) - (bs.length : Int) := ⟨_, rfl⟩
  rw [← hm] at hsz
  have hm0 : 0 ≤ m := by omega
  have HSZ := Lib.hid hsz
  have HSB := Lib.hid hsb
  have hwf := h.1
  have HWF := Lib.hid hwf
  have HBD := Lib.hid (show bs.length ≤ 1100000 by omega)
  clear hsz hsb hm h hl hbd hwf
  have hsp : ∀ (W : World) (t : Value), SB W t bs → Calls Try.prog 34 #[.agg #[.int .i64 v, t]] W (RV (mateV v bs) W) := fun W t ht => specMateByTurning_any v t bs W ht
  have him : ∀ (W : World) (t : Value), SB W t bs → Calls Try.prog 35 #[.agg #[.int .i64 v, t]] W (RV (mateV v bs) W) := fun W t ht => MateByTurning_any v t bs W ht
  obtain ⟨η, κ, hval⟩ : ∃ η κ, mateV v bs = .tuple #[.int .i64 η, .int .i64 κ] := by
    unfold mateV
    repeat (first | exact ⟨_, _, rfl⟩ | split)
  rw [hval] at hsp him
  have HSP := Lib.hid hsp
  have HIM := Lib.hid him
  clear hval hsp him
  have hne1 : (η != η) = false := by simp
  have hne2 : (κ != κ) = false := by simp
  obtain ⟨a, c, rfl⟩ := hsl
  go_enter Try.func9, Try.ntmps9
  go_wp2_with fail
  refine (HSZ.out _).mono ?_
  rintro e w1 ⟨rfl, hb1⟩
  have p0 := cell_new hb1 0 rfl
  have p1 := cell_new hb1 1 rfl
  have hz1 := hb1.size
  simp at hz1
  have hbw : Below w.heap.size w w1 := ((Below.refl _ _).alloc (Nat.le_refl _) _).trans (hb1.mono (by simp))
  clear hb1
  go_wp2_with fail
  refine (toSystem_any v _ bs _ (HSB.out.below hbw (Nat.le_refl _))).mono ?_
  rintro e w2 ⟨s2, rfl, ho2, hb2⟩
  have hsb2 := ho2.sb HWF.out HBD.out
  go_wp2_with fail
  refine (HSP.out _ _ hsb2).mono ?_
  rintro e w3 ⟨rfl, hb3⟩
  have hb13 := hb2.trans (hb3.mono hb2.size)
  have p0' := (hb13.cell (p := ⟨w.heap.size, 0, none⟩) (by show w.heap.size < _; omega)).trans p0
  have p1' := (hb13.cell (p := ⟨w.heap.size, 1, none⟩) (by show w.heap.size < _; omega)).trans p1
  have hz3 := hb13.size
  have hbw3 := hbw.trans (hb13.mono (by omega))
  clear p0 p1 hb2 hb3 hb13 ho2 hsb2 hbw
  go_wp2_with fail
  refine (toSystem_any v _ bs _ (HSB.out.below hbw3 (Nat.le_refl _))).mono ?_
  rintro e w4 ⟨s4, rfl, ho4, hb4⟩
  obtain ⟨g, cap, hs4, h41, h42, h43, h44⟩ := id ho4
  subst hs4
  have p0 := (hb4.cell (p := ⟨w.heap.size, 0, none⟩) (by show w.heap.size < _; omega)).trans p0'
  have p1 := (hb4.cell (p := ⟨w.heap.size, 1, none⟩) (by show w.heap.size < _; omega)).trans p1'
  have hz4 := hb4.size
  have hbw4 := hbw3.trans (hb4.mono (by omega))
  have hsb4 := ho4.sb HWF.out HBD.out
  clear p0' p1' hb4 hbw3 h41 h43 h44 ho4
  go_wp2_with fail
  refine (HIM.out _ _ (hsb4.below ((Below.refl _ _).alloc (Nat.le_refl _) _) (Nat.le_refl _))).mono ?_
  rintro e w5 ⟨rfl, hb5⟩
  have q0 := cell_new hb5 0 rfl
  have q1 := cell_new hb5 1 rfl
  have p0' := (hb5.cell (p := ⟨w.heap.size, 0, none⟩) (by simp; omega)).trans (cell_past p0 (by omega))
  have p1' := (hb5.cell (p := ⟨w.heap.size, 1, none⟩) (by simp; omega)).trans (cell_past p1 (by omega))
  have hz5 := hb5.size
  simp at hz5
  have hbw5 := (hbw4.alloc hbw4.size _).trans (hb5.mono (by simp; omega))
  have hsb5 := hsb4.below (((Below.refl _ _).alloc (Nat.le_refl _) _).trans (hb5.mono (by simp))) (Nat.le_refl _)
  clear p0 p1 hb5 hbw4 hsb4
  go_wp2
  go_region_with (first | (go_at_call 13; refine (toSystem_any v _ bs _ ?_).mono ?_; (exact HSB.out.below hbw5.drew (Nat.le_refl _)); rintro e w6 ⟨s6, rfl, ho6, hb6⟩; obtain ⟨g6, cap6, hs6, h61, h62, h63, h64⟩ := id ho6; subst hs6; have hsb6 := ho6.sb HWF.out HBD.out; have hsb56 := hsb5.below (Below.trans (Below.refl _ _).drew hb6) (Nat.le_refl _); have r0 := (hb6.cell (p := ⟨w4.heap.size, 0, none⟩) (by show w4.heap.size < _; simp; omega)).trans q0; have r1 := (hb6.cell (p := ⟨w4.heap.size, 1, none⟩) (by show w4.heap.size < _; simp; omega)).trans q1) | (go_at_call 16; refine (eqSystem_same v _ _ bs _ ?_ ?_).mono ?_; (exact hsb56); (exact hsb6); rintro e w7 ⟨rfl, hb7⟩))
  all_goals go_wp2
  all_goals go_ret
  all_goals exact RV_of rfl (hbw5.drew.trans ((hb6.mono (by simp; omega)).trans (hb7.mono (by have := hb6.size; simp at this; omega))))

theorem FnExactMateByTurning_any (v : Int) (s : Value) (bs : List Blk)  (w : World) (h : InB w s bs) : Calls Try.prog 9 #[.agg #[.int .i64 v, s]] w (RV (.bool true) w) := by
  by_cases hl : bs.length ≤ 1048576
  · exact FnExactMateByTurning_main v s bs  w h hl
  · exact FnExactMateByTurning_long v s bs  w h hl
end Go.Proofs.Ytehdpgjbmnkkiaa

namespace Go.Proofs.Ytehdpgjbmnkkiaa
open Go.ChangeShapes Go.WideShapes Go.ChangeAt Go.RowKit Go.Deep Go.Joins
theorem ownKnobs : ownKnob Try.prog.godebug = none := by kernel_rfl
section
variable {H : Type} {enc : TypeId × Value → H} {W : World} {base : Nat} {held : Bool}
theorem arrCells : Try.prog.cellsOf 92 = 3 := by kernel_rfl
set_option maxRecDepth 100000 in
theorem open_arr3 {fuel : Nat} {cs : List Value} {x : DataW H × List MemPlace} (h : DataW.trod enc Try.prog W base (fun _ => true) held fuel 92 cs = some x) :
    ∃ a b c : Int, cs = [.int .i64 a, .int .i64 b, .int .i64 c] ∧ (Lit.int .i64 a).wf = true ∧ (Lit.int .i64 b).wf = true ∧ (Lit.int .i64 c).wf = true := by
  obtain ⟨xs, m, rfl, rfl, hl, hx, hat⟩ := DataW.trod_array Try.underlying92 h
  rw [arrCells] at hl
  match cs, hl with
  | [c0, c1, c2], _ =>
    match xs, hx with
    | [x0, x1, x2], _ =>
      have h0 := hat 0 (by omega)
      have h1 := hat 1 (by omega)
      have h2 := hat 2 (by omega)
      rw [int64Cells] at h0 h1 h2
      simp at h0 h1 h2
      obtain ⟨a, ha, _, wa⟩ := DataW.trod_int Try.underlying2 h0
      obtain ⟨b, hb, _, wb⟩ := DataW.trod_int Try.underlying2 h1
      obtain ⟨c, hc, _, wc⟩ := DataW.trod_int Try.underlying2 h2
      simp at ha hb hc
      exact ⟨a, b, c, by rw [ha, hb, hc], wa, wb, wc⟩
theorem add_at (b off i : Nat) : (⟨b, off, none⟩ : Addr).add i = ⟨b, off + i, none⟩ := by
  unfold Addr.add
  split
  · subst_vars; rfl
  · rfl
set_option maxRecDepth 100000 in
theorem open_arrs {fuel : Nat} {s : Value} {x : DataW H × List MemPlace} (h : DataW.trod enc Try.prog W base (fun _ => true) held fuel 22 [s] = some x) : ∃ bs, InB W s bs := by
  rcases open_slice Try.underlying22 h with ⟨hcs, _⟩ | ⟨a, len, cap, m, n, D, Pl, hcs, hb, hl, hm, hmm, hx, hi⟩
  · simp at hcs
    exact ⟨[], by simp, by simp, .inl ⟨none, 0, hcs, rfl⟩⟩
  · simp at hcs
    subst hcs
    simp at hmm
    subst hmm
    have hm' : m ≤ 9223372036854775807 := by unfold maxLen at hm; exact hm
    by_cases h0 : len = 0
    · subst h0
      exact ⟨[], by simp, by simp, .inl ⟨_, _, rfl, rfl⟩⟩
    · have cell : ∀ i, i < m → ∃ y : Blk, WFB y ∧ ∀ j (v : Value), [Value.int .i64 y.a, Value.int .i64 y.b, Value.int .i64 y.c][j]? = some v → W.cell? (a.add (i * 3 + j)) = some v := fun i him => by
        obtain ⟨cs', hc, ht⟩ := hi i him
        obtain ⟨p, q, r, rfl, wp, wq, wr⟩ := open_arr3 ht
        rw [arrCells] at hc
        obtain ⟨_, _, hat⟩ := World.cells?_some hc
        refine ⟨⟨p, q, r⟩, ⟨wp, wq, wr⟩, fun j v hv => ?_⟩
        have hj : j < 3 := by
          have := (List.getElem?_eq_some_iff.1 hv).1
          simpa using this
        rw [← Go.Deep.add_add, hat j hj]
        exact hv
      obtain ⟨F, hF⟩ := choose_lt (α := Blk) cell
      obtain ⟨b, off, spot⟩ := a
      have hc0 := (hF 0 (by omega)).2 0 _ rfl
      have hspot : spot = none := by simpa [Addr.add] using World.cell?_spot hc0
      subst hspot
      refine ⟨(List.range len).map F, ?_, by simp; omega, .inr ⟨b, off, m, by simp, ?_, ?_⟩⟩
      · intro y hy
        obtain ⟨i, hi', rfl⟩ := List.mem_map.1 hy
        exact (hF i (by have := List.mem_range.1 hi'; omega)).1
      · exact block_lt_of_cell hc0
      · intro k hk
        simp at hk
        have e : ((List.range len).map F)[k]?.getD default = F k := by simp [hk]
        rw [e]
        have := (hF k (by omega)).2
        refine ⟨?_, ?_, ?_⟩
        · have h0 := this 0 _ rfl
          rw [add_at] at h0
          exact h0
        · have h1 := this 1 _ rfl
          rw [add_at, ← Nat.add_assoc] at h1
          exact h1
        · have h2 := this 2 _ rfl
          rw [add_at, ← Nat.add_assoc] at h2
          exact h2
theorem isSys : ∃ f0 f1 : Field, Try.prog.underlying 24 = some (.struct #[f0, f1]) ∧ f0.type = 2 ∧ f1.type = 22 ∧ oneCellFields Try.prog #[f0, f1] = true :=
  ⟨_, _, Try.underlying24, rfl, rfl, by kernel_rfl⟩
theorem sysCells : Try.prog.cellsOf 24 = 2 := by kernel_rfl
set_option maxRecDepth 100000 in
theorem open_system {r : Reach} {b0 : Nat} {v : Value} {d : DataW H} {p : List MemPlace} (hv : Value.okWide Try.prog W r b0 24 v) (h : DataW.Trod enc Try.prog W base (fun _ => true) held 24 v d p) :
    ∃ (n : Int) (s : Value) (bs : List Blk), v = .agg #[.int .i64 n, s] ∧ WF n ∧ InB W s bs := by
  obtain ⟨f0, f1, hu, e0, e1, hone⟩ := isSys
  obtain ⟨v0, v1, y0, y1, n, rfl, _, _, h0, h1⟩ := open_agg2 hu hone sysCells hv h
  rw [e0] at h0
  rw [e1] at h1
  obtain ⟨k, hk, _, wk⟩ := DataW.trod_int Try.underlying2 h0
  simp at hk
  subst hk
  obtain ⟨bs, hbs⟩ := open_arrs h1
  exact ⟨k, v1, bs, rfl, wk, hbs⟩
end
end Go.Proofs.Ytehdpgjbmnkkiaa

namespace Go.Proofs.Ytehdpgjbmnkkiaa
set_option maxRecDepth 100000 in
noncomputable def iniP : { L : List Char // Try.prog.initOrder = String.ofList L } := ⟨_, by unfold Try.prog; rfl⟩
theorem iniL : Try.prog.initOrder.toList = iniP.1 := (congrArg String.toList iniP.2).trans String.toList_ofList
theorem words_cons (c : Char) (r : List Char) (h : c ≠ Char.ofNat 32) : wordsSigns (c :: r) = match wordsSigns r with | w :: ws => (c :: w) :: ws | [] => [[c]] := by
  rw [wordsSigns]
  all_goals first | rfl | exact h | (intro e; exact h e)
theorem words_word : ∀ (a b : List Char), (a.all fun c => c != Char.ofNat 32) = true → wordsSigns (a ++ Char.ofNat 32 :: b) = a :: wordsSigns b
  | [], b, _ => rfl
  | c :: a, b, h => by
    simp only [List.all_cons, Bool.and_eq_true, bne_iff_ne, ne_eq] at h
    rw [List.cons_append, words_cons _ _ h.1, words_word a b (by simpa using h.2)]
set_option maxRecDepth 100000 in
theorem split1 : iniP.1 = iniP.1.take 7 ++ Char.ofNat 32 :: iniP.1.drop 8 := by kernel_rfl
set_option maxRecDepth 100000 in
theorem split2 : iniP.1.drop 8 = (iniP.1.drop 8).take 64 ++ Char.ofNat 32 :: iniP.1.drop 73 := by kernel_rfl
set_option maxRecDepth 100000 in
theorem split3 : iniP.1.drop 73 = (iniP.1.drop 73).take 3 ++ Char.ofNat 32 :: iniP.1.drop 77 := by kernel_rfl
theorem isCut : (iniP.1.drop 73).take 3 = "cut".toList := by kernel_rfl
set_option maxRecDepth 100000 in
theorem isHead : ((iniP.1.take 7 == "harness".toList || iniP.1.take 7 == "ownmain".toList) && isSumSigns ((iniP.1.drop 8).take 64)) = true := by kernel_rfl
theorem wordsL : wordsSigns iniP.1 = iniP.1.take 7 :: (iniP.1.drop 8).take 64 :: "cut".toList :: wordsSigns (iniP.1.drop 77) := by
  rw [← isCut]
  conv => lhs; rw [split1]
  rw [words_word _ _ (by kernel_rfl)]
  conv => lhs; rw [split2]
  rw [words_word _ _ (by kernel_rfl)]
  conv => lhs; rw [split3]
  rw [words_word _ _ (by kernel_rfl)]
theorem behindL : behindMainWord (wordsSigns Try.prog.initOrder.toList) = "cut".toList :: wordsSigns (iniP.1.drop 77) := by
  rw [iniL, wordsL]
  unfold behindMainWord
  simp only [isHead, if_true]
theorem stripL (ws : List (List Char)) : stripLifts liftWords ("cut".toList :: ws) = ([], "cut".toList :: ws) := by kernel_rfl
section
variable (P : Program) (ws : List (List Char)) (h : behindMainWord (wordsSigns P.initOrder.toList) = "cut".toList :: ws)
include h
theorem head_of : P.headLifts = [] := by
  unfold Program.headLifts
  rw [h]
  simp only [stripL]
  kernel_rfl
theorem make_of : P.make = some .cut := by
  unfold Program.make
  rw [h, head_of P ws h]
  kernel_rfl
theorem lifts_of : P.liftsFinal = false := by
  unfold Program.liftsFinal
  rw [h, head_of P ws h]
  kernel_rfl
theorem enter_of (h1 : P.laysLater = false) (h2 : P.bearsReflect = false) (h3 : P.doorFits [] = true) : P.mayEnter = true := by
  unfold Program.mayEnter
  rw [h]
  simp only [stripL]
  rw [h1, h2, h3]
  kernel_rfl
end
theorem mayE : Try.pinned.checked.prog.mayEnter = true := enter_of _ _ behindL (by kernel_rfl) (by kernel_rfl) (by kernel_rfl)
theorem liftsF : Try.pinned.checked.prog.liftsFinal = false := lifts_of _ _ behindL
theorem makeF : Try.pinned.checked.prog.make = some .cut := make_of _ _ behindL
theorem both {a b : Bool} (h : a = true) (k : b = true) : (a && b) = true := by rw [h, k]; rfl
end Go.Proofs.Ytehdpgjbmnkkiaa


/- Tests in a list: passes and code of lists of systems. AreApart of the program. The model's number of common blocks, and its AreApart. What TakeBlock answers: plain. impl.TakeBlock answers as the plain function takeF. The memory of a law across a drawn statement that makes a variable for a system. How the laws' arguments are read. How the laws' other arguments are read: slices of integers, slices of blocks, a block, rows. What a law over one system whose result is a system knows of the memory between two of its steps. Systems in memory whose capacity holds them. -/
import Derived.Test.YtehdpgjbmnkkiaaJ7
import Derived.Deep.RegionWith
import Derived.Deep.RegionHeld3
import Derived.Test.YtehdpgjbmnkkiaaRows
import Derived.ProofKit
import Derived.OpenShut
import Derived.Deep.Slices
import Derived.Lib.SmallJoins
import Derived.ChangeOld
namespace Go.Proofs.Ytehdpgjbmnkkiaa
open Go.RowKit Go.Maps
set_option maxRecDepth 100000 in
theorem test_same (p : Nat) (u : Value) (β : Bool) (w : World) (c0 : w.cell? ⟨p, 0, none⟩ = some u) (hu : ∃ a n c, u = .slice a n c) (h : ∀ W, Below w.heap.size w W → Calls Try.prog 60 #[u] W (RV (.bool β) W)) :
    Calls Try.prog 112 #[.func (.func 60) #[] #[], .pointer (some ⟨p, 0, none⟩)] w (RV (.bool β) w) := by
  have HC := Lib.hid h
  obtain ⟨a, n, c, rfl⟩ := hu
  clear h
  go_enter Try.func112, Try.ntmps112
  go_wp2_with fail
  refine (HC.out _ (Below.refl _ _)).mono ?_
  rintro e w1 ⟨rfl, hb1⟩
  go_wp2
  go_ret
  exact RV_of rfl hb1
set_option maxRecDepth 100000 in
theorem test_nine (p : Nat) (u : Value) (β : Bool) (w : World) (c0 : w.cell? ⟨p, 0, none⟩ = some u) (hu : ∃ a n c, u = .slice a n c) (h : ∀ W, Below w.heap.size w W → Calls Try.prog 113 #[u] W (RV (.bool β) W)) :
    Calls Try.prog 112 #[.func (.func 113) #[] #[], .pointer (some ⟨p, 0, none⟩)] w (RV (.bool β) w) := by
  have HC := Lib.hid h
  obtain ⟨a, n, c, rfl⟩ := hu
  clear h
  go_enter Try.func112, Try.ntmps112
  go_wp2_with fail
  refine (HC.out _ (Below.refl _ _)).mono ?_
  rintro e w1 ⟨rfl, hb1⟩
  go_wp2
  go_ret
  exact RV_of rfl hb1
set_option maxRecDepth 100000 in
theorem test_full (p : Nat) (u : Value) (β : Bool) (w : World) (c0 : w.cell? ⟨p, 0, none⟩ = some u) (hu : ∃ a n c, u = .slice a n c) (h : ∀ W, Below w.heap.size w W → Calls Try.prog 114 #[u] W (RV (.bool β) W)) :
    Calls Try.prog 112 #[.func (.func 114) #[] #[], .pointer (some ⟨p, 0, none⟩)] w (RV (.bool β) w) := by
  have HC := Lib.hid h
  obtain ⟨a, n, c, rfl⟩ := hu
  clear h
  go_enter Try.func112, Try.ntmps112
  go_wp2_with fail
  refine (HC.out _ (Below.refl _ _)).mono ?_
  rintro e w1 ⟨rfl, hb1⟩
  go_wp2
  go_ret
  exact RV_of rfl hb1
set_option maxRecDepth 100000 in
theorem test_apart (p : Nat) (u : Value) (β : Bool) (w : World) (c0 : w.cell? ⟨p, 0, none⟩ = some u) (hu : ∃ a n c, u = .slice a n c) (h : ∀ W, Below w.heap.size w W → Calls Try.prog 61 #[u] W (RV (.bool β) W)) :
    Calls Try.prog 112 #[.func (.func 61) #[] #[], .pointer (some ⟨p, 0, none⟩)] w (RV (.bool β) w) := by
  have HC := Lib.hid h
  obtain ⟨a, n, c, rfl⟩ := hu
  clear h
  go_enter Try.func112, Try.ntmps112
  go_wp2_with fail
  refine (HC.out _ (Below.refl _ _)).mono ?_
  rintro e w1 ⟨rfl, hb1⟩
  go_wp2
  go_ret
  exact RV_of rfl hb1
set_option maxRecDepth 100000 in
theorem allT_s (b p : Nat) (u : Value) (β0 : Bool) (w : World) (hp : p < w.heap.size) (c0 : w.cell? ⟨p, 0, none⟩ = some u) (hu : ∃ a n c, u = .slice a n c) (d0 : w.cell? ⟨b, 0, none⟩ = some (.func (.func 60) #[] #[])) (h0 : ∀ W, Below w.heap.size w W → Calls Try.prog 60 #[u] W (RV (.bool β0) W)) :
    Calls Try.prog 111 #[.slice (some ⟨b, 0, none⟩) 1 1, .func (.func 112) #[] #[.pointer (some ⟨p, 0, none⟩)]] w (RV (.bool (β0)) w) := by
  have HT0 := Lib.hid fun W (hB : Below w.heap.size w W) => test_same p u β0 W ((hB.cell hp).trans c0) hu fun W' hB' => h0 W' (hB.trans (hB'.mono hB.size))
  clear c0 hu hp h0
  go_enter Try.func111, Try.ntmps111
  go_wp2
  refine wp_loop_rounds 2 ?_
  rw [rounds_succ]
  cases β0 with
  | false =>
    go_wp2_with fail
    refine (HT0.out _ (Below.refl _ _)).mono ?_
    rintro e w1 ⟨rfl, hb1⟩
    have hB1 : Below w.heap.size w w1 := hb1
    go_wp2
    go_ret
    exact RV_of (by simp) hB1
  | true =>
    go_wp2_with fail
    refine (HT0.out _ (Below.refl _ _)).mono ?_
    rintro e w1 ⟨rfl, hb1⟩
    have hB1 : Below w.heap.size w w1 := hb1
    go_wp2
    rw [rounds_succ]
    go_wp2
    go_ret
    exact RV_of (by simp) hB1
set_option maxRecDepth 100000 in
theorem passes_s (b : Nat) (u : Value) (β0 : Bool) (w : World) (hb : b < w.heap.size) (hu : ∃ a n c, u = .slice a n c) (d0 : w.cell? ⟨b, 0, none⟩ = some (.func (.func 60) #[] #[])) (h0 : ∀ W, Below w.heap.size w W → Calls Try.prog 60 #[u] W (RV (.bool β0) W)) :
    Calls Try.prog 73 #[u, .slice (some ⟨b, 0, none⟩) 1 1] w (RV (.bool (β0)) w) := by
  have hmf : ∀ (fn : Fn) (first cap : Array Value) (w : World), (Instr.makeFunc fn first cap).run Try.prog w = .ok (.func fn first cap) w := fun _ _ _ _ => rfl
  have HC := Lib.hid fun p W (hB : Below w.heap.size w W) (hp : p < W.heap.size) (c0 : W.cell? ⟨p, 0, none⟩ = some u) => allT_s b p u β0 W hp c0 hu ((hB.cell (p := ⟨b, 0, none⟩) hb).trans d0) (fun W' hB' => h0 W' (hB.trans (hB'.mono hB.size)))
  obtain ⟨β, hβ⟩ : ∃ β, β = (β0) := ⟨_, rfl⟩
  simp only [← hβ] at HC
  rw [← hβ]
  obtain ⟨a, n, c, rfl⟩ := hu
  clear hβ d0 h0
  go_enter Try.func73, Try.ntmps73
  go_wp2_with fail
  refine (HC.out _ _ ((Below.refl _ _).alloc (Nat.le_refl _) _) (by simp) (by simp [go_sem])).mono ?_
  rintro e w1 ⟨rfl, hb1⟩
  have hb2 := below_new hb1
  go_wp2
  go_ret
  exact RV_of rfl hb2
/-- The code of a list of systems. -/
def codeL_s (σ β0 : Bool) : Int := if σ then (if (β0) then 0 else 5) else 1
set_option maxRecDepth 100000 in
theorem code_s (b : Nat) (u : Value) (T : List Sy) (β0 : Bool) (w : World) (hS : SysL w u T) (h : (T.all fun t => isSysImpl t.v t.bs) = true → ∀ W, Below w.heap.size w W → Calls Try.prog 73 #[u, .slice (some ⟨b, 0, none⟩) 1 1] W (RV (.bool (β0)) W)) :
    Calls Try.prog 59 #[u, .slice (some ⟨b, 0, none⟩) 1 1] w (RV (.int .i64 (codeL_s (T.all fun t => isSysImpl t.v t.bs) β0)) w) := by
  have HA := Lib.hid (areSystems_any u T w hS)
  obtain ⟨β, hβ⟩ : ∃ β, β = (β0) := ⟨_, rfl⟩
  have HV := Lib.hid (show ∀ σ, codeL_s σ β0 = if σ then (if β then 0 else 5) else 1 by intro σ; rw [hβ]; rfl)
  simp only [← hβ] at h
  obtain ⟨σ, hσ⟩ : ∃ σ, σ = T.all fun t => isSysImpl t.v t.bs := ⟨_, rfl⟩
  rw [← hσ] at HA h ⊢
  obtain ⟨a, c, rfl⟩ := hS.slice
  clear hβ hσ hS
  cases σ with
  | false =>
    clear h
    go_enter Try.func59, Try.ntmps59
    go_wp2_with fail
    refine HA.out.mono ?_
    rintro e w1 ⟨rfl, hb1⟩
    go_wp2
    go_ret
    exact RV_of (by rw [HV.out]; rfl) hb1
  | true =>
    have HP := Lib.hid (h rfl)
    clear h
    cases β with
    | false =>
      go_enter Try.func59, Try.ntmps59
      go_wp2_with fail
      refine HA.out.mono ?_
      rintro e w1 ⟨rfl, hb1⟩
      go_wp2_with fail
      refine (HP.out _ hb1).mono ?_
      rintro e w2 ⟨rfl, hb2⟩
      have hb3 := hb1.trans (hb2.mono hb1.size)
      go_wp2
      go_ret
      exact RV_of (by rw [HV.out]; rfl) hb3
    | true =>
      go_enter Try.func59, Try.ntmps59
      go_wp2_with fail
      refine HA.out.mono ?_
      rintro e w1 ⟨rfl, hb1⟩
      go_wp2_with fail
      refine (HP.out _ hb1).mono ?_
      rintro e w2 ⟨rfl, hb2⟩
      have hb3 := hb1.trans (hb2.mono hb1.size)
      go_wp2
      go_ret
      exact RV_of (by rw [HV.out]; rfl) hb3
set_option maxRecDepth 100000 in
theorem allT_f (b p : Nat) (u : Value) (β0 β1 β2 : Bool) (w : World) (hb : b < w.heap.size) (hp : p < w.heap.size) (c0 : w.cell? ⟨p, 0, none⟩ = some u) (hu : ∃ a n c, u = .slice a n c) (d0 : w.cell? ⟨b, 0, none⟩ = some (.func (.func 113) #[] #[])) (d1 : w.cell? ⟨b, 1, none⟩ = some (.func (.func 114) #[] #[])) (d2 : w.cell? ⟨b, 2, none⟩ = some (.func (.func 61) #[] #[])) (h0 : ∀ W, Below w.heap.size w W → Calls Try.prog 113 #[u] W (RV (.bool β0) W)) (h1 : ∀ W, Below w.heap.size w W → Calls Try.prog 114 #[u] W (RV (.bool β1) W)) (h2 : ∀ W, Below w.heap.size w W → Calls Try.prog 61 #[u] W (RV (.bool β2) W)) :
    Calls Try.prog 111 #[.slice (some ⟨b, 0, none⟩) 3 3, .func (.func 112) #[] #[.pointer (some ⟨p, 0, none⟩)]] w (RV (.bool (β0 && β1 && β2)) w) := by
  have HT0 := Lib.hid fun W (hB : Below w.heap.size w W) => test_nine p u β0 W ((hB.cell hp).trans c0) hu fun W' hB' => h0 W' (hB.trans (hB'.mono hB.size))
  have HT1 := Lib.hid fun W (hB : Below w.heap.size w W) => test_full p u β1 W ((hB.cell hp).trans c0) hu fun W' hB' => h1 W' (hB.trans (hB'.mono hB.size))
  have HT2 := Lib.hid fun W (hB : Below w.heap.size w W) => test_apart p u β2 W ((hB.cell hp).trans c0) hu fun W' hB' => h2 W' (hB.trans (hB'.mono hB.size))
  clear c0 hu hp h0 h1 h2
  go_enter Try.func111, Try.ntmps111
  go_wp2
  refine wp_loop_rounds 4 ?_
  rw [rounds_succ]
  cases β0 with
  | false =>
    go_wp2_with fail
    refine (HT0.out _ (Below.refl _ _)).mono ?_
    rintro e w1 ⟨rfl, hb1⟩
    have hB1 : Below w.heap.size w w1 := hb1
    go_wp2
    go_ret
    exact RV_of (by simp) hB1
  | true =>
    go_wp2_with fail
    refine (HT0.out _ (Below.refl _ _)).mono ?_
    rintro e w1 ⟨rfl, hb1⟩
    have hB1 : Below w.heap.size w w1 := hb1
    go_wp2
    rw [rounds_succ]
    cases β1 with
    | false =>
      have e1_1 := (hB1.cell (p := ⟨b, 1, none⟩) hb).trans d1
      have e1_2 := (hB1.cell (p := ⟨b, 2, none⟩) hb).trans d2
      go_wp2_with fail
      refine (HT1.out _ hB1).mono ?_
      rintro e w2 ⟨rfl, hb2⟩
      have hB2 : Below w.heap.size w w2 := hB1.trans (hb2.mono hB1.size)
      go_wp2
      go_ret
      exact RV_of (by simp) hB2
    | true =>
      have e1_1 := (hB1.cell (p := ⟨b, 1, none⟩) hb).trans d1
      have e1_2 := (hB1.cell (p := ⟨b, 2, none⟩) hb).trans d2
      go_wp2_with fail
      refine (HT1.out _ hB1).mono ?_
      rintro e w2 ⟨rfl, hb2⟩
      have hB2 : Below w.heap.size w w2 := hB1.trans (hb2.mono hB1.size)
      go_wp2
      rw [rounds_succ]
      cases β2 with
      | false =>
        have e2_2 := (hB2.cell (p := ⟨b, 2, none⟩) hb).trans d2
        go_wp2_with fail
        refine (HT2.out _ hB2).mono ?_
        rintro e w3 ⟨rfl, hb3⟩
        have hB3 : Below w.heap.size w w3 := hB2.trans (hb3.mono hB2.size)
        go_wp2
        go_ret
        exact RV_of (by simp) hB3
      | true =>
        have e2_2 := (hB2.cell (p := ⟨b, 2, none⟩) hb).trans d2
        go_wp2_with fail
        refine (HT2.out _ hB2).mono ?_
        rintro e w3 ⟨rfl, hb3⟩
        have hB3 : Below w.heap.size w w3 := hB2.trans (hb3.mono hB2.size)
        go_wp2
        rw [rounds_succ]
        go_wp2
        go_ret
        exact RV_of (by simp) hB3
set_option maxRecDepth 100000 in
theorem passes_f (b : Nat) (u : Value) (β0 β1 β2 : Bool) (w : World) (hb : b < w.heap.size) (hu : ∃ a n c, u = .slice a n c) (d0 : w.cell? ⟨b, 0, none⟩ = some (.func (.func 113) #[] #[])) (d1 : w.cell? ⟨b, 1, none⟩ = some (.func (.func 114) #[] #[])) (d2 : w.cell? ⟨b, 2, none⟩ = some (.func (.func 61) #[] #[])) (h0 : ∀ W, Below w.heap.size w W → Calls Try.prog 113 #[u] W (RV (.bool β0) W)) (h1 : ∀ W, Below w.heap.size w W → Calls Try.prog 114 #[u] W (RV (.bool β1) W)) (h2 : ∀ W, Below w.heap.size w W → Calls Try.prog 61 #[u] W (RV (.bool β2) W)) :
    Calls Try.prog 73 #[u, .slice (some ⟨b, 0, none⟩) 3 3] w (RV (.bool (β0 && β1 && β2)) w) := by
  have hmf : ∀ (fn : Fn) (first cap : Array Value) (w : World), (Instr.makeFunc fn first cap).run Try.prog w = .ok (.func fn first cap) w := fun _ _ _ _ => rfl
  have HC := Lib.hid fun p W (hB : Below w.heap.size w W) (hp : p < W.heap.size) (c0 : W.cell? ⟨p, 0, none⟩ = some u) => allT_f b p u β0 β1 β2 W (Nat.lt_of_lt_of_le hb hB.size) hp c0 hu ((hB.cell (p := ⟨b, 0, none⟩) hb).trans d0) ((hB.cell (p := ⟨b, 1, none⟩) hb).trans d1) ((hB.cell (p := ⟨b, 2, none⟩) hb).trans d2) (fun W' hB' => h0 W' (hB.trans (hB'.mono hB.size))) (fun W' hB' => h1 W' (hB.trans (hB'.mono hB.size))) (fun W' hB' => h2 W' (hB.trans (hB'.mono hB.size)))
  obtain ⟨β, hβ⟩ : ∃ β, β = (β0 && β1 && β2) := ⟨_, rfl⟩
  simp only [← hβ] at HC
  rw [← hβ]
  obtain ⟨a, n, c, rfl⟩ := hu
  clear hβ d0 d1 d2 h0 h1 h2
  go_enter Try.func73, Try.ntmps73
  go_wp2_with fail
  refine (HC.out _ _ ((Below.refl _ _).alloc (Nat.le_refl _) _) (by simp) (by simp [go_sem])).mono ?_
  rintro e w1 ⟨rfl, hb1⟩
  have hb2 := below_new hb1
  go_wp2
  go_ret
  exact RV_of rfl hb2
/-- The code of a list of systems. -/
def codeL_f (σ β0 β1 β2 : Bool) : Int := if σ then (if (β0 && β1 && β2) then 0 else 5) else 1
set_option maxRecDepth 100000 in
theorem code_f (b : Nat) (u : Value) (T : List Sy) (β0 β1 β2 : Bool) (w : World) (hS : SysL w u T) (h : (T.all fun t => isSysImpl t.v t.bs) = true → ∀ W, Below w.heap.size w W → Calls Try.prog 73 #[u, .slice (some ⟨b, 0, none⟩) 3 3] W (RV (.bool (β0 && β1 && β2)) W)) :
    Calls Try.prog 59 #[u, .slice (some ⟨b, 0, none⟩) 3 3] w (RV (.int .i64 (codeL_f (T.all fun t => isSysImpl t.v t.bs) β0 β1 β2)) w) := by
  have HA := Lib.hid (areSystems_any u T w hS)
  obtain ⟨β, hβ⟩ : ∃ β, β = (β0 && β1 && β2) := ⟨_, rfl⟩
  have HV := Lib.hid (show ∀ σ, codeL_f σ β0 β1 β2 = if σ then (if β then 0 else 5) else 1 by intro σ; rw [hβ]; rfl)
  simp only [← hβ] at h
  obtain ⟨σ, hσ⟩ : ∃ σ, σ = T.all fun t => isSysImpl t.v t.bs := ⟨_, rfl⟩
  rw [← hσ] at HA h ⊢
  obtain ⟨a, c, rfl⟩ := hS.slice
  clear hβ hσ hS
  cases σ with
  | false =>
    clear h
    go_enter Try.func59, Try.ntmps59
    go_wp2_with fail
    refine HA.out.mono ?_
    rintro e w1 ⟨rfl, hb1⟩
    go_wp2
    go_ret
    exact RV_of (by rw [HV.out]; rfl) hb1
  | true =>
    have HP := Lib.hid (h rfl)
    clear h
    cases β with
    | false =>
      go_enter Try.func59, Try.ntmps59
      go_wp2_with fail
      refine HA.out.mono ?_
      rintro e w1 ⟨rfl, hb1⟩
      go_wp2_with fail
      refine (HP.out _ hb1).mono ?_
      rintro e w2 ⟨rfl, hb2⟩
      have hb3 := hb1.trans (hb2.mono hb1.size)
      go_wp2
      go_ret
      exact RV_of (by rw [HV.out]; rfl) hb3
    | true =>
      go_enter Try.func59, Try.ntmps59
      go_wp2_with fail
      refine HA.out.mono ?_
      rintro e w1 ⟨rfl, hb1⟩
      go_wp2_with fail
      refine (HP.out _ hb1).mono ?_
      rintro e w2 ⟨rfl, hb2⟩
      have hb3 := hb1.trans (hb2.mono hb1.size)
      go_wp2
      go_ret
      exact RV_of (by rw [HV.out]; rfl) hb3
end Go.Proofs.Ytehdpgjbmnkkiaa

namespace Go.Proofs.Ytehdpgjbmnkkiaa
open Go.RowKit Go.Maps
theorem sysL2 {W : World} {a : Nat} {v u : Int} {s t : Value} {xs ys : List Blk} (ha : a < W.heap.size) (c0 : W.cell? ⟨a, 0, none⟩ = some (.int .i64 v)) (c1 : W.cell? ⟨a, 1, none⟩ = some s) (c2 : W.cell? ⟨a, 2, none⟩ = some (.int .i64 u)) (c3 : W.cell? ⟨a, 3, none⟩ = some t) (h : SB W s xs) (h2 : SB W t ys) :
    SysL W (.slice (some ⟨a, 0, none⟩) 2 2) [⟨v, s, xs⟩, ⟨u, t, ys⟩] := by
  refine ⟨by simp, .inr ⟨a, 0, 2, rfl, ha, by simp, fun k t' hk => ?_⟩⟩
  match k, hk with
  | 0, hk => simp at hk; subst hk; exact ⟨c0, c1, h⟩
  | 1, hk => simp at hk; subst hk; exact ⟨c2, c3, h2⟩
  | k + 2, hk => simp at hk
def apF (v : Int) (xs : List Blk) (u : Int) (ys : List Blk) : Bool × Int := if isSysImpl v xs && isSysImpl u ys then (if v = u then (apartB xs ys, 0) else (false, 5)) else (false, 1)
def apC (v : Int) (xs : List Blk) (u : Int) (ys : List Blk) : Int := codeL_s (isSysImpl v xs && isSysImpl u ys) (decide (u = v))
theorem apF_bad {v u : Int} {xs ys : List Blk} (h : apC v xs u ys ≠ 0) : apF v xs u ys = (false, apC v xs u ys) := by
  revert h
  unfold apF apC codeL_s
  cases isSysImpl v xs && isSysImpl u ys
  · simp
  · by_cases e : v = u
    · subst e; simp
    · have e2 : ¬ u = v := fun h => e h.symm
      simp [e, e2]
theorem apF_good {v u : Int} {xs ys : List Blk} (h : apC v xs u ys = 0) : apF v xs u ys = (apartB xs ys, 0) := by
  revert h
  unfold apF apC codeL_s
  cases isSysImpl v xs && isSysImpl u ys
  · simp
  · by_cases e : v = u
    · subst e; simp
    · have e2 : ¬ u = v := fun h => e h.symm
      simp [e2]
set_option maxRecDepth 100000 in
theorem AreApart_any (v : Int) (s : Value) (xs : List Blk) (u : Int) (t : Value) (ys : List Blk) (w : World) (h : SB w s xs) (h2 : SB w t ys) :
    Calls Try.prog 30 #[.agg #[.int .i64 v, s], .agg #[.int .i64 u, t]] w (RV (boolCode (apF v xs u ys).1 (apF v xs u ys).2) w) := by
  have HC := Lib.hid fun a b W (hb : Below w.heap.size w W) (ha : a < W.heap.size) (c0 : W.cell? ⟨a, 0, none⟩ = some (.int .i64 v)) (c1 : W.cell? ⟨a, 1, none⟩ = some s) (c2 : W.cell? ⟨a, 2, none⟩ = some (.int .i64 u)) (c3 : W.cell? ⟨a, 3, none⟩ = some t) (hbb : b < W.heap.size) (d0 : W.cell? ⟨b, 0, none⟩ = some (.func (.func 60) #[] #[])) =>
    have hS := sysL2 ha c0 c1 c2 c3 (h.below hb (Nat.le_refl _)) (h2.below hb (Nat.le_refl _))
    have hc := code_s b _ _ (decide (u = v)) W hS fun _ W' hb' => passes_s b _ (decide (u = v)) W' (Nat.lt_of_lt_of_le hbb hb'.size) ⟨_, _, _, rfl⟩ ((hb'.cell (p := ⟨b, 0, none⟩) hbb).trans d0) fun W2 hb2 => by
      have := samePoints_any _ _ _ W2 ((hS.below hb' (Nat.le_refl _)).below hb2 (Nat.le_refl _)) rfl
      simpa using this
    show Calls Try.prog 59 #[.slice (some ⟨a, 0, none⟩) 2 2, .slice (some ⟨b, 0, none⟩) 1 1] W (RV (.int .i64 (apC v xs u ys)) W) from by
      have e : codeL_s (([⟨v, s, xs⟩, ⟨u, t, ys⟩] : List Sy).all fun t => isSysImpl t.v t.bs) (decide (u = v)) = apC v xs u ys := by unfold apC; simp
      rw [← e]
      exact hc
  have HA := Lib.hid fun a W (hb : Below w.heap.size w W) (ha : a < W.heap.size) (c0 : W.cell? ⟨a, 0, none⟩ = some (.int .i64 v)) (c1 : W.cell? ⟨a, 1, none⟩ = some s) (c2 : W.cell? ⟨a, 2, none⟩ = some (.int .i64 u)) (c3 : W.cell? ⟨a, 3, none⟩ = some t) =>
    show Calls Try.prog 61 #[.slice (some ⟨a, 0, none⟩) 2 2] W (RV (.bool (apartB xs ys)) W) from by
      have e : apartL [⟨v, s, xs⟩, ⟨u, t, ys⟩] = apartB xs ys := by simp [apartL]
      rw [← e]
      exact listApart_any _ _ W (sysL2 ha c0 c1 c2 c3 (h.below hb (Nat.le_refl _)) (h2.below hb (Nat.le_refl _)))
  obtain ⟨a0, k0, rfl⟩ := h.slice
  obtain ⟨a1, k1, rfl⟩ := h2.slice
  clear h h2
  have hB0 : Below w.heap.size w ((w.alloc (.cells #[.int .i64 v, .slice a0 xs.length k0] 31)).alloc (.cells #[.int .i64 u, .slice a1 ys.length k1] 31)) := ((Below.refl _ _).alloc (Nat.le_refl _) _).alloc (by simp) _
  have HB0 := Lib.hid hB0
  clear hB0
  obtain ⟨κ, hκ⟩ : ∃ κ, κ = apC v xs u ys := ⟨_, rfl⟩
  by_cases hk : κ = 0
  · have HV := Lib.hid (apF_good (hκ ▸ hk : apC v xs u ys = 0))
    rw [← hκ, hk] at HC
    rw [HV.out]
    obtain ⟨β, hβ⟩ : ∃ β, β = apartB xs ys := ⟨_, rfl⟩
    rw [← hβ] at HA ⊢
    clear hk hκ HV hβ
    go_enter Try.func30, Try.ntmps30
    go_wp2_with fail
    have hB4 : ∀ o o2, Below w.heap.size w ((((w.alloc (.cells #[.int .i64 v, .slice a0 xs.length k0] 31)).alloc (.cells #[.int .i64 u, .slice a1 ys.length k1] 31)).alloc o).alloc o2) := fun o o2 => (HB0.out.alloc HB0.out.size _).alloc (by simp; omega) _
    refine (HC.out _ _ _ (hB4 _ _) (by simp) (by simp [go_sem]) (by simp [go_sem]) (by simp [go_sem]) (by simp [go_sem]) (by simp) (by simp [go_sem])).mono ?_
    rintro e w1 ⟨rfl, hb1⟩
    have hb2 := (hB4 _ _).trans (hb1.mono (by simp; omega))
    have HA2 := Lib.hid (HA.out (w.heap.size + 1 + 1) w1 hb2 (by have := hb1.size; simp at this; omega) (by rw [hb1.cell (by simp)]; simp [go_sem]) (by rw [hb1.cell (by simp)]; simp [go_sem]) (by rw [hb1.cell (by simp)]; simp [go_sem]) (by rw [hb1.cell (by simp)]; simp [go_sem]))
    clear hb1 hB4 HA HC
    go_wp2_with fail
    refine HA2.out.mono ?_
    rintro e w2 ⟨rfl, hb3⟩
    have hb4 := hb2.trans (hb3.mono hb2.size)
    go_wp2
    go_ret2
    exact RV_of rfl hb4
  · have HV := Lib.hid (apF_bad (hκ ▸ hk : apC v xs u ys ≠ 0))
    rw [← hκ] at HC HV
    rw [HV.out]
    have hne : (κ != 0) = true := by simpa using hk
    clear hk hκ HV HA
    go_enter Try.func30, Try.ntmps30
    go_wp2_with fail
    have hB4 : ∀ o o2, Below w.heap.size w ((((w.alloc (.cells #[.int .i64 v, .slice a0 xs.length k0] 31)).alloc (.cells #[.int .i64 u, .slice a1 ys.length k1] 31)).alloc o).alloc o2) := fun o o2 => (HB0.out.alloc HB0.out.size _).alloc (by simp; omega) _
    refine (HC.out _ _ _ (hB4 _ _) (by simp) (by simp [go_sem]) (by simp [go_sem]) (by simp [go_sem]) (by simp [go_sem]) (by simp) (by simp [go_sem])).mono ?_
    rintro e w1 ⟨rfl, hb1⟩
    have hb2 := (hB4 _ _).trans (hb1.mono (by simp; omega))
    clear hb1 hB4 HC
    go_wp2
    go_ret2
    exact RV_of rfl hb2
end Go.Proofs.Ytehdpgjbmnkkiaa

namespace Go.Proofs.Ytehdpgjbmnkkiaa
open Go.RowKit Go.Maps
set_option maxRecDepth 100000 in
set_option maxHeartbeats 1000000 in
theorem l10Common_any (v : Int) (s : Value) (xs : List Blk) (u : Int) (t : Value) (ys : List Blk) (w : World) (h : SB w s xs) (h2 : SB w t ys) :
    Calls Try.prog 58 #[.agg #[.int .i64 v, s], .agg #[.int .i64 u, t]] w (RV (.int .i64 (commonB xs ys)) w) := by
  have HM := Lib.hid fun x W (hb : Below w.heap.size w W) => l04Member_any t ys x W (h2.below hb (Nat.le_refl _))
  have HS := Lib.hid h
  have hl := h.2.1
  obtain ⟨a0, k0, rfl⟩ := h.slice
  obtain ⟨a1, k1, rfl⟩ := h2.slice
  clear h h2
  go_enter Try.func58, Try.ntmps58
  go_wp2
  obtain ⟨W0, hW0⟩ : ∃ W0, W0 = (w.alloc (.cells #[.int .i64 v, .slice a0 xs.length k0] 31)).alloc (.cells #[.int .i64 u, .slice a1 ys.length k1] 31) := ⟨_, rfl⟩
  have hB0 : Below w.heap.size w W0 := by rw [hW0]; exact ((Below.refl _ _).alloc (Nat.le_refl _) _).alloc (by simp) _
  have q1 : W0.cell? ⟨w.heap.size, 1, none⟩ = some (.slice a0 xs.length k0) := by rw [hW0]; simp [go_sem]
  have r1 : W0.cell? ⟨w.heap.size + 1, 1, none⟩ = some (.slice a1 ys.length k1) := by rw [hW0]; simp [go_sem]
  have hz0 : W0.heap.size = w.heap.size + 1 + 1 := by rw [hW0]; simp
  rw [← hW0]
  clear hW0
  go_loopw [5, 6] (fun c i wr => ∃ k : Nat, k ≤ xs.length ∧ i = .int .i64 k ∧ Below W0.heap.size W0 wr ∧ c = .int .i64 (commonB (xs.take k) ys)) (fun _ i _ => xs.length - (intOf i).toNat)
  case atStart => exact ⟨0, Nat.zero_le _, rfl, Below.refl _ _, rfl⟩
  case round =>
    obtain ⟨k, hk, rfl, hB, rfl⟩ := hrel
    have hz := hB.size
    have q2 := (hB.cell (p := ⟨w.heap.size, 1, none⟩) (by simp; omega)).trans q1
    have r2 := (hB.cell (p := ⟨w.heap.size + 1, 1, none⟩) (by simp; omega)).trans r1
    have hB2 := hB0.trans (hB.mono (by omega))
    by_cases hkl : k < xs.length
    · rcases HS.out.2.2 with ⟨_, _, _, hnil⟩ | ⟨b, off, cap, hval, hblt, hbl⟩
      · rw [hnil] at hkl; simp at hkl
      · simp at hval
        obtain ⟨rfl, rfl⟩ := hval
        obtain ⟨z, hz1, ez, z1, z2, z3⟩ := blks_at (hbl.below hB2 hblt) hkl
        have hsu := commonB_take (ys := ys) hkl
        have e : xs[k] = z := by
          rw [List.getElem?_eq_getElem hkl] at ez
          simpa using ez
        rw [e] at hsu
        have hcl := commonB_le (xs.take k) ys
        rw [List.length_take] at hcl
        obtain ⟨c, hc⟩ : ∃ c, c = commonB (xs.take k) ys := ⟨_, rfl⟩
        rw [← hc] at hsu hcl ⊢
        obtain ⟨β, hβ⟩ : ∃ β, β = decide (z ∈ ys) := ⟨_, rfl⟩
        rw [← hβ] at hsu
        have HSU := Lib.hid hsu
        have HC := Lib.hid fun W (hb : Below w.heap.size w W) => HM.out z W hb
        simp only [← hβ] at HC
        have hcl : c ≤ 1100000 := by omega
        have HB2 := Lib.hid hB2
        obtain ⟨x1, x2, x3⟩ := z
        unfold bv at HC
        dsimp only at HC z1 z2 z3
        have g0 : (0 : Int) ≤ (k : Int) := by omega
        have g1 : (k : Int) < (xs.length : Int) := by omega
        clear hβ hz1 ez e hbl hc hsu hB2
        cases β with
        | true =>
          go_wp2
          go_region_with (first | (go_at_call 101; refine (HC.out _ (by first | exact HB2.out | exact HB2.out.drew)).mono ?_; rintro e w1 ⟨rfl, hb1⟩))
          all_goals
            have hb2 : Below wr.heap.size wr w1 := by first | exact ((Below.refl _ _).drew).trans (hb1.mono (by simp)) | exact hb1
            have hb3 := hB.trans (hb2.mono hz)
            go_wp2
            go_roundw
            case rel => exact ⟨k + 1, by omega, by go_num, hb3, by rw [HSU.out]; first | rfl | (congr 1; simp)⟩
            case measure => simp [intOf]; omega
        | false =>
          go_wp2
          go_region_with (first | (go_at_call 101; refine (HC.out _ (by first | exact HB2.out | exact HB2.out.drew)).mono ?_; rintro e w1 ⟨rfl, hb1⟩))
          all_goals
            have hb2 : Below wr.heap.size wr w1 := by first | exact ((Below.refl _ _).drew).trans (hb1.mono (by simp)) | exact hb1
            have hb3 := hB.trans (hb2.mono hz)
            go_wp2
            go_roundw
            case rel => exact ⟨k + 1, by omega, by go_num, hb3, by rw [HSU.out]; first | rfl | (congr 1; simp)⟩
            case measure => simp [intOf]; omega
    · have e : k = xs.length := by omega
      subst e
      rw [List.take_length]
      go_wp2
      go_ret
      exact RV_of rfl hB2
set_option maxRecDepth 100000 in
theorem specAreApart_any (v : Int) (s : Value) (xs : List Blk) (u : Int) (t : Value) (ys : List Blk) (w : World) (h : SB w s xs) (h2 : SB w t ys) :
    Calls Try.prog 29 #[.agg #[.int .i64 v, s], .agg #[.int .i64 u, t]] w (RV (boolCode (apF v xs u ys).1 (apF v xs u ys).2) w) := by
  have HI := Lib.hid fun W (hb : Below w.heap.size w W) => l01Is_any v s xs W (h.below hb (Nat.le_refl _))
  have HJ := Lib.hid fun W (hb : Below w.heap.size w W) => l01Is_any u t ys W (h2.below hb (Nat.le_refl _))
  have HC := Lib.hid fun W (hb : Below w.heap.size w W) => l10Common_any v s xs u t ys W (h.below hb (Nat.le_refl _)) (h2.below hb (Nat.le_refl _))
  obtain ⟨a0, k0, rfl⟩ := h.slice
  obtain ⟨a1, k1, rfl⟩ := h2.slice
  clear h h2
  have hB0 : Below w.heap.size w ((w.alloc (.cells #[.int .i64 v, .slice a0 xs.length k0] 31)).alloc (.cells #[.int .i64 u, .slice a1 ys.length k1] 31)) := ((Below.refl _ _).alloc (Nat.le_refl _) _).alloc (by simp) _
  have q : ∀ W, Below (w.heap.size + 1 + 1) ((w.alloc (.cells #[.int .i64 v, .slice a0 xs.length k0] 31)).alloc (.cells #[.int .i64 u, .slice a1 ys.length k1] 31)) W → W.cell? ⟨w.heap.size, 0, none⟩ = some (.int .i64 v) ∧ W.cell? ⟨w.heap.size, 1, none⟩ = some (.slice a0 xs.length k0) ∧ W.cell? ⟨w.heap.size + 1, 0, none⟩ = some (.int .i64 u) ∧ W.cell? ⟨w.heap.size + 1, 1, none⟩ = some (.slice a1 ys.length k1) := fun W hb => by
    refine ⟨(hb.cell (by simp; omega)).trans (by simp [go_sem]), (hb.cell (by simp; omega)).trans (by simp [go_sem]), (hb.cell (by simp)).trans (by simp [go_sem]), (hb.cell (by simp)).trans (by simp [go_sem])⟩
  have HQ := Lib.hid q
  have HB0 := Lib.hid hB0
  clear hB0 q
  have hA := apF_good (v := v) (u := u) (xs := xs) (ys := ys)
  cases hi : isSysImpl v xs with
  | false =>
    have HV := Lib.hid (show apF v xs u ys = (false, 1) by unfold apF; simp [hi])
    rw [HV.out]
    rw [hi] at HI
    clear hi HV hA
    go_enter Try.func29, Try.ntmps29
    go_wp2_with fail
    refine (HI.out _ HB0.out).mono ?_
    rintro e w1 ⟨rfl, hb1⟩
    have hb2 := HB0.out.trans (hb1.mono (by simp; omega))
    go_wp2
    go_ret2
    exact RV_of rfl hb2
  | true =>
    rw [hi] at HI
    cases hj : isSysImpl u ys with
    | false =>
      have HV := Lib.hid (show apF v xs u ys = (false, 1) by unfold apF; simp [hj])
      rw [HV.out]
      rw [hj] at HJ
      clear hi hj HV hA
      go_enter Try.func29, Try.ntmps29
      go_wp2_with fail
      refine (HI.out _ HB0.out).mono ?_
      rintro e w1 ⟨rfl, hb1⟩
      obtain ⟨p0, p1, p2, p3⟩ := HQ.out w1 (by simpa using hb1)
      have hb2 := HB0.out.trans (hb1.mono (by simp; omega))
      clear hb1
      go_wp2_with fail
      refine (HJ.out _ hb2).mono ?_
      rintro e w2 ⟨rfl, hb3⟩
      have hb4 := hb2.trans (hb3.mono hb2.size)
      go_wp2
      go_ret2
      exact RV_of rfl hb4
    | true =>
      rw [hj] at HJ
      by_cases hvu : v = u
      · subst hvu
        have HV := Lib.hid (show apF v xs v ys = (apartB xs ys, 0) by unfold apF; simp [hi, hj])
        rw [HV.out]
        rw [← commonB_apart]
        obtain ⟨c, hc⟩ : ∃ c, c = commonB xs ys := ⟨_, rfl⟩
        rw [← hc] at HC ⊢
        clear hi hj HV hA hc
        go_enter Try.func29, Try.ntmps29
        go_wp2_with fail
        refine (HI.out _ HB0.out).mono ?_
        rintro e w1 ⟨rfl, hb1⟩
        obtain ⟨p0, p1, p2, p3⟩ := HQ.out w1 (by simpa using hb1)
        have hb2 := HB0.out.trans (hb1.mono (by simp; omega))
        go_wp2_with fail
        refine (HJ.out _ hb2).mono ?_
        rintro e w2 ⟨rfl, hb3⟩
        obtain ⟨e0, e1, e2, e3⟩ := HQ.out w2 (by have := hb1.trans (hb3.mono hb1.size); simpa using this)
        have hb4 := hb2.trans (hb3.mono hb2.size)
        clear hb1 hb3 p0 p1 p2 p3
        go_wp2_with fail
        refine (HC.out _ hb4).mono ?_
        rintro e w3 ⟨rfl, hb5⟩
        have hb6 := hb4.trans (hb5.mono hb4.size)
        go_wp2
        go_ret2
        exact RV_of rfl hb6
      · have HV := Lib.hid (show apF v xs u ys = (false, 5) by unfold apF; simp [hi, hj, hvu])
        rw [HV.out]
        have hne : (v != u) = true := by simpa using hvu
        clear hi hj HV hA hvu
        go_enter Try.func29, Try.ntmps29
        go_wp2_with fail
        refine (HI.out _ HB0.out).mono ?_
        rintro e w1 ⟨rfl, hb1⟩
        obtain ⟨p0, p1, p2, p3⟩ := HQ.out w1 (by simpa using hb1)
        have hb2 := HB0.out.trans (hb1.mono (by simp; omega))
        go_wp2_with fail
        refine (HJ.out _ hb2).mono ?_
        rintro e w2 ⟨rfl, hb3⟩
        obtain ⟨e0, e1, e2, e3⟩ := HQ.out w2 (by have := hb1.trans (hb3.mono hb1.size); simpa using this)
        have hb4 := hb2.trans (hb3.mono hb2.size)
        clear hb1 hb3 p0 p1 p2 p3
        go_wp2
        go_ret2
        exact RV_of rfl hb4
end Go.Proofs.Ytehdpgjbmnkkiaa

namespace Go.Proofs.Ytehdpgjbmnkkiaa
/-- A system and a code: points, blocks, code. -/
def takeF (v : Int) (bs : List Blk) (i : Int) : Int × List Blk × Int :=
  if isSysImpl v bs then (if decide (0 ≤ i) && decide (i < (bs.length : Int)) then (v, bs.take i.toNat ++ bs.drop (i.toNat + 1), 0) else (0, [], 2)) else (0, [], 1)
theorem filter_all {p : Blk → Bool} : ∀ {l : List Blk}, (∀ x ∈ l, p x = true) → l.filter p = l
  | [], _ => rfl
  | x :: r, h => by rw [List.filter_cons, if_pos (h x (by simp)), filter_all (fun y hy => h y (by simp [hy]))]
/-- The blocks that are not the i-th. -/
theorem filter_other {bs : List Blk} (h : bs.Nodup) {i : Nat} (hi : i < bs.length) : bs.filter (fun x => !decide (x = bs[i])) = bs.take i ++ bs.drop (i + 1) := by
  have e : bs = bs.take i ++ bs[i] :: bs.drop (i + 1) := by rw [← List.drop_eq_getElem_cons hi, List.take_append_drop]
  obtain ⟨y, hy⟩ : ∃ y, y = bs[i] := ⟨_, rfl⟩
  rw [← hy] at e ⊢
  clear hy
  obtain ⟨p, hp⟩ : ∃ p, p = bs.take i := ⟨_, rfl⟩
  obtain ⟨q, hq⟩ : ∃ q, q = bs.drop (i + 1) := ⟨_, rfl⟩
  rw [← hp, ← hq] at e ⊢
  clear hp hq hi
  subst e
  obtain ⟨h1, h2, h3⟩ := List.nodup_append.1 h
  rw [List.nodup_cons] at h2
  rw [List.filter_append, List.filter_cons, if_neg (by simp)]
  rw [filter_all (fun x hx => by have := h3 x hx y (by simp); simpa using this), filter_all (fun x hx => by
    have : x ≠ y := fun e => h2.1 (e ▸ hx)
    simpa using this)]
theorem takeF_sub (v : Int) (bs : List Blk) (i : Int) : ∀ x ∈ (takeF v bs i).2.1, x ∈ bs := by
  unfold takeF
  split
  · split
    · intro x hx
      rcases List.mem_append.1 hx with h | h
      · exact List.mem_of_mem_take h
      · exact List.mem_of_mem_drop h
    · simp
  · simp
theorem takeF_len (v : Int) (bs : List Blk) (i : Int) : (takeF v bs i).2.1.length ≤ bs.length := by
  unfold takeF
  split
  · split
    · simp
      omega
    · simp
  · simp
end Go.Proofs.Ytehdpgjbmnkkiaa

namespace Go.Proofs.Ytehdpgjbmnkkiaa
open Go.RowKit Go.Maps
/-- Two results: a system in new memory, and a code. -/
def RSys (r : Int × List Blk × Int) (w : World) (e : Ending) (w' : World) : Prop := ∃ s, e = .returned (.tuple #[.agg #[.int .i64 r.1, s], .int .i64 r.2.2]) ∧ ResR w' w.heap.size w'.heap.size s r.2.1 ∧ Below w.heap.size w w'
theorem boxes2 {w w1 : World} {v : Int} {s : Value} {T : TypeId} (hb : Below ((w.alloc (.cells #[.int .i64 v, s] T)).alloc (.cells #[.int .i64 0, .slice none 0 0] T)).heap.size ((w.alloc (.cells #[.int .i64 v, s] T)).alloc (.cells #[.int .i64 0, .slice none 0 0] T)) w1) :
    w1.cell? ⟨w.heap.size, 0, none⟩ = some (.int .i64 v) ∧ w1.cell? ⟨w.heap.size, 1, none⟩ = some s ∧ w1.cell? ⟨w.heap.size + 1, 0, none⟩ = some (.int .i64 0) ∧ w1.cell? ⟨w.heap.size + 1, 1, none⟩ = some (.slice none 0 0) ∧
    w1.frozen? ⟨w.heap.size + 1, 0, none⟩ = false ∧ w1.frozen? ⟨w.heap.size + 1, 1, none⟩ = false ∧ Below w.heap.size w w1 ∧ w.heap.size + 1 < w1.heap.size := by
  have hz := hb.size
  simp at hz
  refine ⟨?_, ?_, ?_, ?_, ?_, ?_, (((Below.refl _ _).alloc (Nat.le_refl _) _).alloc (by simp) _).trans (hb.mono (by simp; omega)), by omega⟩
  · exact (hb.cell (p := ⟨w.heap.size, 0, none⟩) (by simp; omega)).trans (by simp [go_sem])
  · exact (hb.cell (p := ⟨w.heap.size, 1, none⟩) (by simp; omega)).trans (by simp [go_sem])
  · exact (hb.cell (p := ⟨w.heap.size + 1, 0, none⟩) (by simp)).trans (by simp [go_sem])
  · exact (hb.cell (p := ⟨w.heap.size + 1, 1, none⟩) (by simp)).trans (by simp [go_sem])
  · exact (hb.frozen (p := ⟨w.heap.size + 1, 0, none⟩) (by simp)).trans (by simp [go_sem])
  · exact (hb.frozen (p := ⟨w.heap.size + 1, 1, none⟩) (by simp)).trans (by simp [go_sem])
theorem below2 (w : World) (v : Int) (s : Value) (T : TypeId) : Below w.heap.size w ((w.alloc (.cells #[.int .i64 v, s] T)).alloc (.cells #[.int .i64 0, .slice none 0 0] T)) := ((Below.refl _ _).alloc (Nat.le_refl _) _).alloc (by simp) _
theorem below_set2 {B : Nat} {a w : World} (h : Below B a w) {b : Nat} (hb : B ≤ b) (u v : Value) : Below B a ((w.setCell ⟨b, 0, none⟩ u).setCell ⟨b, 1, none⟩ v) := (h.setCell (p := ⟨b, 0, none⟩) hb u).setCell (p := ⟨b, 1, none⟩) hb v
theorem gb_set2 (w : World) (b : Nat) (u v : Value) : w.grownBy ((w.setCell ⟨b, 0, none⟩ u).setCell ⟨b, 1, none⟩ v) (some b) := only_setCell (only_setCell (only_refl w (some b)) rfl u) rfl v
theorem boxes2_later {w w1 w2 : World} {v : Int} {s : Value} (hb : Below w1.heap.size w1 w2) (hlt : w.heap.size + 1 < w1.heap.size) (hbw : Below w.heap.size w w1)
    (p0 : w1.cell? ⟨w.heap.size, 0, none⟩ = some (.int .i64 v)) (p1 : w1.cell? ⟨w.heap.size, 1, none⟩ = some s) (d0 : w1.cell? ⟨w.heap.size + 1, 0, none⟩ = some (.int .i64 0)) (d1 : w1.cell? ⟨w.heap.size + 1, 1, none⟩ = some (.slice none 0 0))
    (f0 : w1.frozen? ⟨w.heap.size + 1, 0, none⟩ = false) (f1 : w1.frozen? ⟨w.heap.size + 1, 1, none⟩ = false) :
    w2.cell? ⟨w.heap.size, 0, none⟩ = some (.int .i64 v) ∧ w2.cell? ⟨w.heap.size, 1, none⟩ = some s ∧ w2.cell? ⟨w.heap.size + 1, 0, none⟩ = some (.int .i64 0) ∧ w2.cell? ⟨w.heap.size + 1, 1, none⟩ = some (.slice none 0 0) ∧
    w2.frozen? ⟨w.heap.size + 1, 0, none⟩ = false ∧ w2.frozen? ⟨w.heap.size + 1, 1, none⟩ = false ∧ Below w.heap.size w w2 ∧ w.heap.size + 1 < w2.heap.size := by
  have hz := hb.size
  have l0 : w.heap.size < w1.heap.size := by omega
  exact ⟨(hb.cell (p := ⟨w.heap.size, 0, none⟩) l0).trans p0, (hb.cell (p := ⟨w.heap.size, 1, none⟩) l0).trans p1, (hb.cell (p := ⟨w.heap.size + 1, 0, none⟩) hlt).trans d0, (hb.cell (p := ⟨w.heap.size + 1, 1, none⟩) hlt).trans d1, (hb.frozen (p := ⟨w.heap.size + 1, 0, none⟩) hlt).trans f0, (hb.frozen (p := ⟨w.heap.size + 1, 1, none⟩) hlt).trans f1, hbw.trans (hb.mono hbw.size), by omega⟩
end Go.Proofs.Ytehdpgjbmnkkiaa

namespace Go.Proofs.Ytehdpgjbmnkkiaa
open Go.RowKit Go.Maps
/-- A variable for a system that has been made and not yet been stored into. -/
structure ZBox (W : World) (X : Nat) : Prop where
  c0 : W.cell? ⟨X, 0, none⟩ = some (.int .i64 0)
  c1 : W.cell? ⟨X, 1, none⟩ = some (.slice none 0 0)
  f0 : W.frozen? ⟨X, 0, none⟩ = false
  f1 : W.frozen? ⟨X, 1, none⟩ = false
def zeroSys : Obj := .cells #[.int .i64 0, .slice none 0 0] 31
theorem ZBox.fresh (W : World) : ZBox (W.alloc (.cells #[.int .i64 0, .slice none 0 0] 31)) W.heap.size := by constructor <;> simp [go_sem]
theorem ZBox.kept {W W' : World} {X : Nat} (h : ZBox W X) (hg : W.grownBy W' none) : ZBox W' X := by
  have hb := hg.block X (World.block_lt_of_cell? W ⟨X, 0, none⟩ h.c0) (by simp)
  exact ⟨hg.cell h.c0 (by simp), hg.cell h.c1 (by simp), (World.frozen?_of_block (a := ⟨X, 0, none⟩) hb).trans h.f0, (World.frozen?_of_block (a := ⟨X, 1, none⟩) hb).trans h.f1⟩
theorem ZBox.lt {W : World} {X : Nat} (h : ZBox W X) : X < W.heap.size := World.block_lt_of_cell? W ⟨X, 0, none⟩ h.c0
theorem gb_tr {a b c : World} (h : a.grownBy b none) (k : b.grownBy c none) : a.grownBy c none := gb_trans h k
section
variable {w W0 Wp W : World} {I : List Item} {X lo : Nat} {p : Int} {s : Value} {L : List Blk}
/-- The variable was made ahead of the result: W0 before the statement, Wp where the result's call begins, W behind it; X the variable. -/
theorem Mem.early (h : Mem w I W0) (g0 : W0.grownBy Wp none) (hX0 : W0.heap.size ≤ X) (hX : X < Wp.heap.size) (hz : ZBox Wp X) (hb : Below Wp.heap.size Wp W) (hr : ResR W Wp.heap.size W.heap.size s L) :
    Mem w (iVar X p s :: iBlks Wp.heap.size W.heap.size s L :: I) ((W.setCell ⟨X, 0, none⟩ (.int .i64 p)).setCell ⟨X, 1, none⟩ s) := by
  have h1 : Mem w (iVar X 0 (.slice none 0 0) :: I) Wp := h.push g0 (iVar X 0 (.slice none 0 0)) hX0 (Nat.le_succ _) hX (iVar_ok _ _ _) ⟨hX, hz.c0, hz.c1⟩
  have h2 := h1.pushB hb hr
  have hz2 := hz.kept (gb_below hb)
  have hgs := gb_set2 W X (.int .i64 p) s
  have h3 := h2.mark 1 rfl (OnlyIn.of_grown (lo := X) (hi := X + 1) hgs (fun r e => by cases e; omega)) (P' := fun W => VarB W X p s) (iVar_ok X p s) ⟨by simpa [World.setCell] using hz2.lt, ?_, ?_⟩
  · exact h3.swap
  · rw [World.cell?_setCell_other _ _ _ _ (by simp), World.cell?_setCell_same' _ _ _ (by rw [hz2.c0]; rfl)]
  · rw [World.cell?_setCell_same' _ _ _ (by rw [World.cell?_setCell_other _ _ _ _ (by simp), hz2.c1]; rfl)]
/-- The variable was made behind the result. -/
theorem Mem.late (h : Mem w I W0) (g0 : W0.grownBy Wp none) (hb : Below Wp.heap.size Wp W) (hr : ResR W Wp.heap.size W.heap.size s L) :
    Mem w (iVar W.heap.size p s :: iBlks Wp.heap.size W.heap.size s L :: I) (W.alloc (.cells #[.int .i64 p, s] 31)) :=
  ((h.step g0).pushB hb hr).pushVar p s _
theorem Mem.drew (h : Mem w I W) : Mem w I W.drew := h.step (gb_drew1 _)
end
/-- Behind a drawn statement whose result is a system and a code. -/
def SysRel {w W0 : World} {I : List Item} (_ : Mem w I W0) (p : Int) (L : List Blk) (κ : Int) (bx kv : Value) (wx : World) : Prop :=
  ∃ X lo hi a n, bx = .pointer (some ⟨X, 0, none⟩) ∧ kv = .int .i64 κ ∧ Mem w (iVar X p (.slice a L.length n) :: iBlks lo hi (.slice a L.length n) L :: I) wx
section
variable {w W0 Wp W : World} {I : List Item} {X : Nat} {p κ : Int} {L : List Blk} {a : Option Addr} {n : Nat}
theorem SysRel.early (h : Mem w I W0) (g0 : W0.grownBy Wp none) (hX0 : W0.heap.size ≤ X) (hz : ZBox Wp X) (hb : Below Wp.heap.size Wp W) (hr : ResR W Wp.heap.size W.heap.size (.slice a L.length n) L) :
    SysRel h p L κ (.pointer (some ⟨X, 0, none⟩)) (.int .i64 κ) ((W.setCell ⟨X, 0, none⟩ (.int .i64 p)).setCell ⟨X, 1, none⟩ (.slice a L.length n)) :=
  ⟨X, _, _, a, n, rfl, rfl, h.early g0 hX0 hz.lt hz hb hr⟩
theorem SysRel.late (h : Mem w I W0) (g0 : W0.grownBy Wp none) (hb : Below Wp.heap.size Wp W) (hr : ResR W Wp.heap.size W.heap.size (.slice a L.length n) L) :
    SysRel h p L κ (.pointer (some ⟨W.heap.size, 0, none⟩)) (.int .i64 κ) (W.alloc (.cells #[.int .i64 p, .slice a L.length n] 31)) :=
  ⟨W.heap.size, _, _, a, n, rfl, rfl, h.late g0 hb hr⟩
theorem SysRel.drew {h : Mem w I W0} {bx kv : Value} (k : SysRel h p L κ bx kv W) : SysRel h p L κ bx kv W.drew := by
  obtain ⟨X, lo, hi, a, n, h1, h2, h3⟩ := k
  exact ⟨X, lo, hi, a, n, h1, h2, h3.step (gb_drew1 _)⟩
end
theorem keepset {W : World} {X q o : Nat} {u a b : Value} (h : W.cell? ⟨q, o, none⟩ = some u) (hq : q < X) : ((W.setCell ⟨X, 0, none⟩ a).setCell ⟨X, 1, none⟩ b).cell? ⟨q, o, none⟩ = some u :=
  (gb_set2 W X a b).cell h (by simp; omega)
end Go.Proofs.Ytehdpgjbmnkkiaa

namespace Go.Proofs.Ytehdpgjbmnkkiaa
open Go.ChangeShapes Go.WideShapes Go.ChangeAt Go.RowKit Go.Deep Go.Joins
theorem ownKnobs : ownKnob Try.prog.godebug = none := by kernel_rfl
section
variable {H : Type} {enc : TypeId × Value → H} {W : World} {base : Nat} {held : Bool}
theorem arrCells : Try.prog.cellsOf 92 = 3 := by kernel_rfl
set_option maxRecDepth 100000 in
theorem open_arr3 {fuel : Nat} {cs : List Value} {x : DataW H × List MemPlace} (h : DataW.trod enc Try.prog W base (fun _ => true) held fuel 92 cs = some x) :
    ∃ a b c : Int, cs = [.int .i64 a, .int .i64 b, .int .i64 c] ∧ (Lit.int .i64 a).wf = true ∧ (Lit.int .i64 b).wf = true ∧ (Lit.int .i64 c).wf = true := by
  obtain ⟨xs, m, rfl, rfl, hl, hx, hat⟩ := DataW.trod_array Try.underlying92 h
  rw [arrCells] at hl
  match cs, hl with
  | [c0, c1, c2], _ =>
    match xs, hx with
    | [x0, x1, x2], _ =>
      have h0 := hat 0 (by omega)
      have h1 := hat 1 (by omega)
      have h2 := hat 2 (by omega)
      rw [int64Cells] at h0 h1 h2
      simp at h0 h1 h2
      obtain ⟨a, ha, _, wa⟩ := DataW.trod_int Try.underlying2 h0
      obtain ⟨b, hb, _, wb⟩ := DataW.trod_int Try.underlying2 h1
      obtain ⟨c, hc, _, wc⟩ := DataW.trod_int Try.underlying2 h2
      simp at ha hb hc
      exact ⟨a, b, c, by rw [ha, hb, hc], wa, wb, wc⟩
theorem add_at (b off i : Nat) : (⟨b, off, none⟩ : Addr).add i = ⟨b, off + i, none⟩ := by
  unfold Addr.add
  split
  · subst_vars; rfl
  · rfl
set_option maxRecDepth 100000 in
theorem open_arrs {fuel : Nat} {s : Value} {x : DataW H × List MemPlace} (h : DataW.trod enc Try.prog W base (fun _ => true) held fuel 22 [s] = some x) : ∃ bs, InB W s bs := by
  rcases open_slice Try.underlying22 h with ⟨hcs, _⟩ | ⟨a, len, cap, m, n, D, Pl, hcs, hb, hl, hm, hmm, hx, hi⟩
  · simp at hcs
    exact ⟨[], by simp, by simp, .inl ⟨none, 0, hcs, rfl⟩⟩
  · simp at hcs
    subst hcs
    simp at hmm
    subst hmm
    have hm' : m ≤ 9223372036854775807 := by unfold maxLen at hm; exact hm
    by_cases h0 : len = 0
    · subst h0
      exact ⟨[], by simp, by simp, .inl ⟨_, _, rfl, rfl⟩⟩
    · have cell : ∀ i, i < m → ∃ y : Blk, WFB y ∧ ∀ j (v : Value), [Value.int .i64 y.a, Value.int .i64 y.b, Value.int .i64 y.c][j]? = some v → W.cell? (a.add (i * 3 + j)) = some v := fun i him => by
        obtain ⟨cs', hc, ht⟩ := hi i him
        obtain ⟨p, q, r, rfl, wp, wq, wr⟩ := open_arr3 ht
        rw [arrCells] at hc
        obtain ⟨_, _, hat⟩ := World.cells?_some hc
        refine ⟨⟨p, q, r⟩, ⟨wp, wq, wr⟩, fun j v hv => ?_⟩
        have hj : j < 3 := by
          have := (List.getElem?_eq_some_iff.1 hv).1
          simpa using this
        rw [← Go.Deep.add_add, hat j hj]
        exact hv
      obtain ⟨F, hF⟩ := choose_lt (α := Blk) cell
      obtain ⟨b, off, spot⟩ := a
      have hc0 := (hF 0 (by omega)).2 0 _ rfl
      have hspot : spot = none := by simpa [Addr.add] using World.cell?_spot hc0
      subst hspot
      refine ⟨(List.range len).map F, ?_, by simp; omega, .inr ⟨b, off, m, by simp, ?_, ?_⟩⟩
      · intro y hy
        obtain ⟨i, hi', rfl⟩ := List.mem_map.1 hy
        exact (hF i (by have := List.mem_range.1 hi'; omega)).1
      · exact block_lt_of_cell hc0
      · intro k hk
        simp at hk
        have e : ((List.range len).map F)[k]?.getD default = F k := by simp [hk]
        rw [e]
        have := (hF k (by omega)).2
        refine ⟨?_, ?_, ?_⟩
        · have h0 := this 0 _ rfl
          rw [add_at] at h0
          exact h0
        · have h1 := this 1 _ rfl
          rw [add_at, ← Nat.add_assoc] at h1
          exact h1
        · have h2 := this 2 _ rfl
          rw [add_at, ← Nat.add_assoc] at h2
          exact h2
theorem isSys : ∃ f0 f1 : Field, Try.prog.underlying 24 = some (.struct #[f0, f1]) ∧ f0.type = 2 ∧ f1.type = 22 ∧ oneCellFields Try.prog #[f0, f1] = true :=
  ⟨_, _, Try.underlying24, rfl, rfl, by kernel_rfl⟩
theorem sysCells : Try.prog.cellsOf 24 = 2 := by kernel_rfl
set_option maxRecDepth 100000 in
theorem open_system {r : Reach} {b0 : Nat} {v : Value} {d : DataW H} {p : List MemPlace} (hv : Value.okWide Try.prog W r b0 24 v) (h : DataW.Trod enc Try.prog W base (fun _ => true) held 24 v d p) :
    ∃ (n : Int) (s : Value) (bs : List Blk), v = .agg #[.int .i64 n, s] ∧ WF n ∧ InB W s bs := by
  obtain ⟨f0, f1, hu, e0, e1, hone⟩ := isSys
  obtain ⟨v0, v1, y0, y1, n, rfl, _, _, h0, h1⟩ := open_agg2 hu hone sysCells hv h
  rw [e0] at h0
  rw [e1] at h1
  obtain ⟨k, hk, _, wk⟩ := DataW.trod_int Try.underlying2 h0
  simp at hk
  subst hk
  obtain ⟨bs, hbs⟩ := open_arrs h1
  exact ⟨k, v1, bs, rfl, wk, hbs⟩
end
end Go.Proofs.Ytehdpgjbmnkkiaa

namespace Go.Proofs.Ytehdpgjbmnkkiaa
open Go.ChangeShapes Go.WideShapes Go.ChangeAt Go.RowKit Go.Deep Go.Joins
/-- The value is a slice of just these integers, however many. -/
def InZ (w : World) (s : Value) (zs : List Int) : Prop :=
  (∀ z ∈ zs, WF z) ∧ zs.length ≤ 9223372036854775807 ∧ ((∃ a c, s = .slice a 0 c ∧ zs = []) ∨ ∃ b off cap, s = .slice (some ⟨b, off, none⟩) zs.length cap ∧ b < w.heap.size ∧ Ints w b off zs)
theorem InZ.slice {w : World} {s : Value} {zs : List Int} (h : InZ w s zs) : ∃ a c, s = .slice a zs.length c := by
  rcases h.2.2 with ⟨a, c, rfl, rfl⟩ | ⟨b, off, cap, rfl, _⟩ <;> exact ⟨_, _, rfl⟩
theorem InZ.ib {w : World} {s : Value} {zs : List Int} (h : InZ w s zs) (hl : zs.length ≤ 1048576) : IB w s zs := ⟨by omega, h.2.2⟩
/-- The value is a slice of just these rows, however many. -/
def InSS (w : World) (s : Value) (n : Nat) (F : Nat → List Int) : Prop :=
  n ≤ 9223372036854775807 ∧ ((n = 0 ∧ ∃ a c, s = .slice a 0 c) ∨ ∃ b off cap, s = .slice (some ⟨b, off, none⟩) n cap ∧ b < w.heap.size ∧ ∀ k, k < n → ∃ u, w.cell? ⟨b, off + k, none⟩ = some u ∧ InZ w u (F k))
theorem okWide_array {P : Program} {w : World} {r : Reach} {base : Nat} {t : TypeId} {v : Value} {n : Nat} {e : TypeId} (ht : P.underlying t = some (.array n e)) (h : Value.okWide P w r base t v) : ∃ cs, v = .agg cs ∧ cs.size = P.cellsOf t := by
  simp only [Value.okWide, ht] at h
  obtain ⟨cs, h1, h2, _⟩ := h
  exact ⟨cs, h1, h2⟩
section
variable {H : Type} {enc : TypeId × Value → H} {W : World} {base : Nat} {held : Bool}
set_option maxRecDepth 100000 in
theorem open_zs {fuel : Nat} {s : Value} {x : DataW H × List MemPlace} (h : DataW.trod enc Try.prog W base (fun _ => true) held fuel 40 [s] = some x) : ∃ zs, InZ W s zs := by
  rcases open_slice1 Try.underlying40 int64Cells h with ⟨hcs, _⟩ | ⟨a, len, cap, m, n, V, D, Pl, hcs, hb, hl, hm, hmm, hx, hi⟩
  · simp at hcs
    exact ⟨[], by simp, by simp, .inl ⟨none, 0, hcs, rfl⟩⟩
  · simp at hcs
    subst hcs
    simp at hmm
    subst hmm
    have hm' : m ≤ 9223372036854775807 := by unfold maxLen at hm; exact hm
    by_cases h0 : len = 0
    · subst h0
      exact ⟨[], by simp, by simp, .inl ⟨_, _, rfl, rfl⟩⟩
    · have cell : ∀ i, i < m → ∃ y : Int, WF y ∧ W.cell? (a.add i) = some (.int .i64 y) := fun i him => by
        obtain ⟨hc, ht⟩ := hi i him
        obtain ⟨k, hk, _, wk⟩ := DataW.trod_int Try.underlying2 ht
        simp at hk
        exact ⟨k, wk, by rw [hc, hk]⟩
      obtain ⟨F, hF⟩ := choose_lt (α := Int) cell
      obtain ⟨b, off, spot⟩ := a
      have hc0 := (hF 0 (by omega)).2
      have hspot : spot = none := by simpa [Addr.add] using World.cell?_spot hc0
      subst hspot
      refine ⟨(List.range len).map F, ?_, by simp; omega, .inr ⟨b, off, m, by simp, ?_, ?_⟩⟩
      · intro y hy
        obtain ⟨i, hi', rfl⟩ := List.mem_map.1 hy
        exact (hF i (by have := List.mem_range.1 hi'; omega)).1
      · exact block_lt_of_cell hc0
      · intro k hk
        simp at hk
        have e : ((List.range len).map F)[k]?.getD 0 = F k := by simp [hk]
        rw [e]
        have h1 := (hF k (by omega)).2
        rw [add_at] at h1
        exact h1
set_option maxRecDepth 100000 in
theorem open_ints64 {r : Reach} {b0 : Nat} {v : Value} {d : DataW H} {p : List MemPlace} (hv : Value.okWide Try.prog W r b0 40 v) (h : DataW.Trod enc Try.prog W base (fun _ => true) held 40 v d p) : ∃ zs, InZ W v zs := by
  obtain ⟨a, len, cap, rfl⟩ := okWide_slice Try.underlying40 hv
  obtain ⟨fuel, hf⟩ := h
  exact open_zs hf
set_option maxRecDepth 100000 in
theorem open_blocks {r : Reach} {b0 : Nat} {v : Value} {d : DataW H} {p : List MemPlace} (hv : Value.okWide Try.prog W r b0 22 v) (h : DataW.Trod enc Try.prog W base (fun _ => true) held 22 v d p) : ∃ bs, InB W v bs := by
  obtain ⟨a, len, cap, rfl⟩ := okWide_slice Try.underlying22 hv
  obtain ⟨fuel, hf⟩ := h
  exact open_arrs hf
theorem sliceCells : Try.prog.cellsOf 40 = 1 := by kernel_rfl
set_option maxRecDepth 100000 in
theorem open_rows {r : Reach} {b0 : Nat} {v : Value} {d : DataW H} {p : List MemPlace} (hv : Value.okWide Try.prog W r b0 26 v) (h : DataW.Trod enc Try.prog W base (fun _ => true) held 26 v d p) : ∃ n F, InSS W v n F := by
  obtain ⟨A0, L0, C0, rfl⟩ := okWide_slice Try.underlying26 hv
  obtain ⟨fuel, hf⟩ := h
  have hf' : DataW.trod enc Try.prog W base (fun _ => true) held fuel 26 [.slice A0 L0 C0] = some (d, p) := hf
  rcases open_slice1 Try.underlying26 sliceCells hf' with ⟨hcs, _⟩ | ⟨a, len, cap, m, n, V, D, Pl, hcs, hb, hl, hm, hmm, hx, hi⟩
  · simp at hcs
    obtain ⟨rfl, rfl, rfl⟩ := hcs
    exact ⟨0, fun _ => [], by omega, .inl ⟨rfl, _, _, rfl⟩⟩
  · simp at hcs
    obtain ⟨e1, e2, e3⟩ := hcs
    subst e1
    subst e2
    subst e3
    simp at hmm
    subst hmm
    have hm' : m ≤ 9223372036854775807 := by unfold maxLen at hm; exact hm
    by_cases h0 : L0 = 0
    · subst h0
      exact ⟨0, fun _ => [], by omega, .inl ⟨rfl, _, _, rfl⟩⟩
    · have cell : ∀ i, i < m → ∃ y : List Int, ∃ u, W.cell? (a.add i) = some u ∧ InZ W u y := fun i him => by
        obtain ⟨hc, ht⟩ := hi i him
        obtain ⟨zs, hz⟩ := open_zs ht
        exact ⟨zs, _, hc, hz⟩
      obtain ⟨F, hF⟩ := choose_lt (α := List Int) cell
      obtain ⟨b, off, spot⟩ := a
      obtain ⟨u0, hc0, _⟩ := hF 0 (by omega)
      have hspot : spot = none := by simpa [Addr.add] using World.cell?_spot hc0
      subst hspot
      refine ⟨L0, F, by omega, .inr ⟨b, off, m, rfl, block_lt_of_cell hc0, fun k hk => ?_⟩⟩
      obtain ⟨u, h1, h2⟩ := hF k (by omega)
      rw [add_at] at h1
      exact ⟨u, h1, h2⟩
set_option maxRecDepth 100000 in
theorem open_blk {r : Reach} {b0 : Nat} {v : Value} {d : DataW H} {p : List MemPlace} (hv : Value.okWide Try.prog W r b0 92 v) (h : DataW.Trod enc Try.prog W base (fun _ => true) held 92 v d p) : ∃ x, v = bv x ∧ WFB x := by
  obtain ⟨cs, rfl, hsz⟩ := okWide_array Try.underlying92 hv
  obtain ⟨fuel, hf⟩ := h
  obtain ⟨a, b, c, e, wa, wb, wc⟩ := open_arr3 hf
  have : cs.toList = [.int .i64 a, .int .i64 b, .int .i64 c] := e
  refine ⟨⟨a, b, c⟩, ?_, wa, wb, wc⟩
  unfold bv
  rw [← this]
end
end Go.Proofs.Ytehdpgjbmnkkiaa

namespace Go.Proofs.Ytehdpgjbmnkkiaa
open Go.RowKit Go.Maps
structure CS (w : World) (v p : Int) (s sW s8 sG : Value) (XW X XG i0 i1 j1 j2 k1 k2 : Nat) (LW L8 LG : List Blk) (W : World) : Prop where
  st : St1 w v s W
  o0 : w.heap.size < i0
  o1 : i0 ≤ i1
  o2 : i1 ≤ XW
  o3 : XW < j1
  o4 : j1 ≤ j2
  o5 : j2 ≤ X
  o6 : X < k1
  o7 : k1 ≤ k2
  o8 : k2 ≤ XG
  rW : ResR W i0 i1 sW LW
  vW : VarB W XW p sW
  r8 : ResR W j1 j2 s8 L8
  vX : VarB W X v s8
  rG : ResR W k1 k2 sG LG
  vG : VarB W XG p sG
section
variable {w : World} {v p : Int} {s sW s8 sG : Value} {XW X XG i0 i1 j1 j2 k1 k2 : Nat} {LW L8 LG : List Blk} {W W' : World}
theorem CS.step (h : CS w v p s sW s8 sG XW X XG i0 i1 j1 j2 k1 k2 LW L8 LG W) (hg : W.grownBy W' none) : CS w v p s sW s8 sG XW X XG i0 i1 j1 j2 k1 k2 LW L8 LG W' :=
  ⟨h.st.step hg (by simp), h.o0, h.o1, h.o2, h.o3, h.o4, h.o5, h.o6, h.o7, h.o8, h.rW.kept hg (by simp), h.vW.step hg (by simp), h.r8.kept hg (by simp), h.vX.step hg (by simp), h.rG.kept hg (by simp), h.vG.step hg (by simp)⟩
theorem CS.mark8 (h : CS w v p s sW s8 sG XW X XG i0 i1 j1 j2 k1 k2 LW L8 LG W) {row : Option Nat} (hg : W.grownBy W' row) (hr : ∀ r, row = some r → j1 ≤ r ∧ r < j2) {L : List Blk} (hn : ResR W' j1 j2 s8 L) :
    CS w v p s sW s8 sG XW X XG i0 i1 j1 j2 k1 k2 LW L LG W' := by
  obtain ⟨st, o0, o1, o2, o3, o4, o5, o6, o7, o8, rW, vW, r8, vX, rG, vG⟩ := h
  exact ⟨st.step hg (fun r e => by have := hr r e; omega), o0, o1, o2, o3, o4, o5, o6, o7, o8, rW.kept hg (fun r e => by have := hr r e; omega), vW.step hg (fun e => by have := hr _ e; omega), hn, vX.step hg (fun e => by have := hr _ e; omega), rG.kept hg (fun r e => by have := hr r e; omega), vG.step hg (fun e => by have := hr _ e; omega)⟩
theorem CS.markG (h : CS w v p s sW s8 sG XW X XG i0 i1 j1 j2 k1 k2 LW L8 LG W) {row : Option Nat} (hg : W.grownBy W' row) (hr : ∀ r, row = some r → k1 ≤ r ∧ r < k2) {L : List Blk} (hn : ResR W' k1 k2 sG L) :
    CS w v p s sW s8 sG XW X XG i0 i1 j1 j2 k1 k2 LW L8 L W' := by
  obtain ⟨st, o0, o1, o2, o3, o4, o5, o6, o7, o8, rW, vW, r8, vX, rG, vG⟩ := h
  exact ⟨st.step hg (fun r e => by have := hr r e; omega), o0, o1, o2, o3, o4, o5, o6, o7, o8, rW.kept hg (fun r e => by have := hr r e; omega), vW.step hg (fun e => by have := hr _ e; omega), r8.kept hg (fun r e => by have := hr r e; omega), vX.step hg (fun e => by have := hr _ e; omega), hn, vG.step hg (fun e => by have := hr _ e; omega)⟩
end
end Go.Proofs.Ytehdpgjbmnkkiaa

namespace Go.Proofs.Ytehdpgjbmnkkiaa
open Go.RowKit Go.Maps
def SC (w : World) (s : Value) (bs : List Blk) : Prop := SB w s bs ∧ ∀ a n c, s = .slice a n c → n ≤ c
theorem SC.below {w w' : World} {s : Value} {bs : List Blk} (h : SC w s bs) {B : Nat} (hb : Below B w w') (hB : w.heap.size ≤ B) : SC w' s bs := ⟨h.1.below hb hB, h.2⟩
theorem OwnB.sc {w : World} {lo : Nat} {s : Value} {bs : List Blk} (h : OwnB w lo s bs) (hwf : ∀ x ∈ bs, WFB x) (hl : bs.length ≤ 1100000) : SC w s bs := by
  refine ⟨h.sb hwf hl, fun a n c e => ?_⟩
  obtain ⟨g, cap, rfl, _, _, _, _, hc⟩ := h
  cases e
  exact hc
theorem l01In_out (n lo hi : Int) (W : World) (β : Bool) (hβ : (decide (lo ≤ n) && decide (n ≤ hi)) = β) : Calls Try.prog 62 #[.int .i64 n, .int .i64 lo, .int .i64 hi] W (RS (.bool β) W) := by
  rw [← hβ]
  exact l01In_any n lo hi W
end Go.Proofs.Ytehdpgjbmnkkiaa

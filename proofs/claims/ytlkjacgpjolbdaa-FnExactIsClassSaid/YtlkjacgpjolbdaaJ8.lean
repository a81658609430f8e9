
/- AreDisjoint and IsClass of the program. AreDisjoint and IsClass of the model. AreDisjoint and IsClass of the model: whole. What a law over two systems knows of the memory between two of its steps. What a law over one system whose result is a list of integers knows of the memory between two of its steps. Rows of rows of integers that a call makes by append; the squares of few points. The pairs of a list of blocks, as a map. The program's PairsLeft. -/
import Derived.Test.YtlkjacgpjolbdaaJ7
import Derived.IntWalk
namespace Go.Proofs.Ytlkjacgpjolbdaa
open Go.RowKit Go.Maps
/-- What a test of a set of blocks answers, beside its code. -/
def setF (good : Bool) (v : Int) (bs : List Blk) (zs : List Int) : Bool × Int := if isSysImpl v bs then (if ptGo (bs.length : Int) none zs then (good, 0) else (false, 2)) else (false, 1)
def clsB (v : Int) (L : List Blk) : Bool := decide (3 * (L.length : Int) = v) && disGo [] L
def disF (v : Int) (bs : List Blk) (zs : List Int) : Bool × Int := setF (disGo [] (blksAt bs zs)) v bs zs
def clsF (v : Int) (bs : List Blk) (zs : List Int) : Bool × Int := setF (clsB v (blksAt bs zs)) v bs zs
theorem setF_chk (good : Bool) (v : Int) (bs : List Blk) (zs : List Int) : setF good v bs zs = (good && decide (chkF v bs 1 (fun _ => zs) = 0), chkF v bs 1 (fun _ => zs)) := by
  unfold setF chkF
  have e : setsOk (bs.length : Int) 1 (fun _ => zs) = ptGo (bs.length : Int) none zs := by simp [setsOk, List.range_succ]
  rw [e]
  cases isSysImpl v bs <;> cases ptGo (bs.length : Int) none zs <;> simp
theorem chk_in {v : Int} {bs : List Blk} {zs : List Int} (h : chkF v bs 1 (fun _ => zs) = 0) : isSysImpl v bs = true ∧ ∀ z ∈ zs, 0 ≤ z ∧ z < (bs.length : Int) := by
  unfold chkF at h
  have e : setsOk (bs.length : Int) 1 (fun _ => zs) = ptGo (bs.length : Int) none zs := by simp [setsOk, List.range_succ]
  rw [e] at h
  cases hi : isSysImpl v bs with
  | false => rw [hi] at h; simp at h
  | true =>
    cases hp : ptGo (bs.length : Int) none zs with
    | false => rw [hi, hp] at h; simp at h
    | true =>
      refine ⟨rfl, fun z hz => ?_⟩
      rw [ptGo_split, Bool.and_eq_true, List.all_eq_true] at hp
      have := hp.1 z hz
      simpa [inP] using this
theorem ssb_one {w : World} {t : Value} {zs : List Int} (h : IB w t zs) : SSB (w.alloc (.cells #[t] 35)) (.slice (some ⟨w.heap.size, 0, none⟩) 1 1) 1 (fun _ => zs) := by
  have hts : ∃ a c, t = .slice a zs.length c := by rcases h.2 with ⟨a, c, rfl, rfl⟩ | ⟨b, off, cap, rfl, _⟩ <;> exact ⟨_, _, rfl⟩
  have h2 := h.below ((Below.refl w.heap.size w).alloc (Nat.le_refl _) (.cells #[t] 35)) (Nat.le_refl _)
  obtain ⟨a, c, rfl⟩ := hts
  refine ⟨by omega, .inr ⟨w.heap.size, 0, 1, rfl, by simp, fun k hk => ?_⟩⟩
  obtain rfl : k = 0 := by omega
  exact ⟨a, c, by simp, h2⟩
set_option maxRecDepth 100000 in
theorem isClass_any (v : Int) (s : Value) (bs : List Blk) (t : Value) (zs : List Int) (w : World) (h : SB w s bs) (ht : IB w t zs) (hin : ∀ z ∈ zs, 0 ≤ z ∧ z < (bs.length : Int)) :
    Calls Try.prog 87 #[.agg #[.int .i64 v, s], t] w (RV (.bool (clsB v (blksAt bs zs))) w) := by
  have hs := h.slice
  have hts : ∃ a c, t = .slice a zs.length c := by rcases ht.2 with ⟨a, c, rfl, rfl⟩ | ⟨b, off, cap, rfl, _⟩ <;> exact ⟨_, _, rfl⟩
  have HA := Lib.hid fun W (hb : Below w.heap.size w W) => areDisjoint_any v s bs t zs W (h.below hb (Nat.le_refl _)) (ht.below hb (Nat.le_refl _)) hin
  have htl := ht.1
  have HV := Lib.hid (show clsB v (blksAt bs zs) = (decide (3 * (zs.length : Int) = v) && disGo [] (blksAt bs zs)) by unfold clsB; rw [blksAt_len])
  obtain ⟨β, hβ⟩ : ∃ β, β = disGo [] (blksAt bs zs) := ⟨_, rfl⟩
  rw [← hβ] at HA HV
  clear h ht hin hβ
  obtain ⟨a0, c0, rfl⟩ := hs
  obtain ⟨a1, c1, rfl⟩ := hts
  have hw3 : IntKind.i64.wrap (3 * (zs.length : Int)) = 3 * (zs.length : Int) := IntWalk.i64_in _ (by omega)
  by_cases h3 : 3 * (zs.length : Int) = v
  · have q1 : (3 * (zs.length : Int) == v) = true := by simpa using h3
    have HW := Lib.hid (show clsB v (blksAt bs zs) = β by rw [HV.out, show decide (3 * (zs.length : Int) = v) = true from decide_eq_true h3]; rfl)
    clear h3 HV
    go_enter Try.func87, Try.ntmps87
    go_wp2_with fail
    refine (HA.out _ ((Below.refl _ _).alloc (Nat.le_refl _) _)).mono ?_
    rintro e w1 ⟨rfl, hb1⟩
    have hb2 := below_new hb1
    go_wp2
    go_ret
    exact RV_of (bool_eq (by rw [HW.out])) hb2
  · have q1 : (3 * (zs.length : Int) == v) = false := by simpa using h3
    have HW := Lib.hid (show clsB v (blksAt bs zs) = false by rw [HV.out, show decide (3 * (zs.length : Int) = v) = false from decide_eq_false h3]; rfl)
    clear h3 HV
    go_enter Try.func87, Try.ntmps87
    go_wp2
    go_ret
    exact RV_of (bool_eq (by rw [HW.out])) ((Below.refl _ _).alloc (Nat.le_refl _) _)
set_option maxRecDepth 100000 in
theorem AreDisjointB_any (B0 B1 : Nat) (v : Int) (s : Value) (bs : List Blk) (t : Value) (zs : List Int) (w : World) (h0 : w.cell? ⟨B0, 0, none⟩ = some (.int .i64 v)) (h1 : w.cell? ⟨B0, 1, none⟩ = some s) (h2 : w.cell? ⟨B1, 0, none⟩ = some t) (h : SB w s bs) (ht : IB w t zs) :
    Calls Try.prog 82 #[.pointer (some ⟨B0, 0, none⟩), .pointer (some ⟨B1, 0, none⟩)] w (fun e w' => (if chkF v bs 1 (fun _ => zs) = 0 then e = .returned (.bool (disGo [] (blksAt bs zs))) else e = .panicked [codeP (chkF v bs 1 (fun _ => zs))]) ∧ Below w.heap.size w w') := by
  have hb0 : Below w.heap.size w (w.alloc (.cells #[t] 35)) := (Below.refl _ _).alloc (Nat.le_refl _) _
  have HC := Lib.hid (checkSets_any v s bs _ 1 (fun _ => zs) (w.alloc (.cells #[t] 35)) (h.below hb0 (Nat.le_refl _)) (ssb_one ht))
  have HD := Lib.hid fun (hk : chkF v bs 1 (fun _ => zs) = 0) W (hb : Below w.heap.size w W) => areDisjoint_any v s bs t zs W (h.below hb (Nat.le_refl _)) (ht.below hb (Nat.le_refl _)) (chk_in hk).2
  have hlt0 := block_lt_of_cell h0
  have hlt1 := block_lt_of_cell h2
  obtain ⟨κ, hκ⟩ : ∃ κ, κ = chkF v bs 1 (fun _ => zs) := ⟨_, rfl⟩
  rw [← hκ] at HC HD ⊢
  have hts : ∃ a c, t = .slice a zs.length c := by rcases ht.2 with ⟨a, c, rfl, rfl⟩ | ⟨b, off, cap, rfl, _⟩ <;> exact ⟨_, _, rfl⟩
  have hs := h.slice
  clear hκ h ht hb0
  obtain ⟨a0, c0, rfl⟩ := hs
  obtain ⟨a1, c1, rfl⟩ := hts
  by_cases hk : κ = 0
  · have HD0 := Lib.hid (HD.out hk)
    simp only [if_pos hk]
    subst hk
    clear HD
    go_enter Try.func82, Try.ntmps82
    go_wp2_with fail
    refine HC.out.mono ?_
    rintro e w1 ⟨he, hb1⟩
    simp only [if_true] at he
    subst he
    have hb2 := below_new hb1
    have k0 := (hb2.cell (p := ⟨B0, 0, none⟩) hlt0).trans h0
    have k1 := (hb2.cell (p := ⟨B0, 1, none⟩) hlt0).trans h1
    have k2 := (hb2.cell (p := ⟨B1, 0, none⟩) hlt1).trans h2
    have HB2 := Lib.hid hb2
    have hz := hb2.size
    clear hb1 hb2 h0 h1 h2 HC
    go_wp2_with fail
    refine (HD0.out _ HB2.out).mono ?_
    rintro e w2 ⟨rfl, hb3⟩
    go_wp2
    go_ret
    exact ⟨rfl, HB2.out.trans (hb3.mono hz)⟩
  · simp only [if_neg hk]
    go_enter Try.func82, Try.ntmps82
    go_wp2_with fail
    refine HC.out.mono ?_
    rintro e w1 ⟨he, hb1⟩
    rw [if_neg hk] at he
    subst he
    have hb2 := below_new hb1
    go_wp2_with fail
    exact ⟨rfl, rfl, hb2⟩
set_option maxRecDepth 100000 in
set_option maxHeartbeats 1000000 in
theorem AreDisjoint_any (v : Int) (s : Value) (bs : List Blk) (t : Value) (zs : List Int) (w : World) (h : SB w s bs) (ht : IB w t zs) :
    Calls Try.prog 32 #[.agg #[.int .i64 v, s], t] w (RV (boolCode (disF v bs zs).1 (disF v bs zs).2) w) := by
  have hmf : ∀ (fn : Fn) (first cap : Array Value) (w : World), (Instr.makeFunc fn first cap).run Try.prog w = .ok (.func fn first cap) w := fun _ _ _ _ => rfl
  have hb0 : Below w.heap.size w (((w.alloc (.cells #[.int .i64 v, s] 28)).alloc (.cells #[t] 35)).alloc (.cells #[.int .i64 1] 2)) := (((Below.refl _ _).alloc (Nat.le_refl _) _).alloc (by simp) _).alloc (by simp; omega) _
  have hB := AreDisjointB_any w.heap.size (w.heap.size + 1) v s bs t zs (((w.alloc (.cells #[.int .i64 v, s] 28)).alloc (.cells #[t] 35)).alloc (.cells #[.int .i64 1] 2)) (by simp [go_sem]) (by simp [go_sem]) (by simp [go_sem]) (h.below hb0 (Nat.le_refl _)) (ht.below hb0 (Nat.le_refl _))
  have hp : (disF v bs zs) = (disGo [] (blksAt bs zs) && decide (chkF v bs 1 (fun _ => zs) = 0), chkF v bs 1 (fun _ => zs)) := setF_chk _ v bs zs
  have hts : ∃ a c, t = .slice a zs.length c := by rcases ht.2 with ⟨a, c, rfl, rfl⟩ | ⟨b, off, cap, rfl, _⟩ <;> exact ⟨_, _, rfl⟩
  have hs := h.slice
  rw [hp]
  obtain ⟨κ, hκ⟩ : ∃ κ, κ = chkF v bs 1 (fun _ => zs) := ⟨_, rfl⟩
  rw [← hκ] at hB ⊢
  clear hκ h ht hb0 hp
  obtain ⟨a0, c0, rfl⟩ := hs
  obtain ⟨a1, c1, rfl⟩ := hts
  by_cases hk : κ = 0
  · have HD := Lib.hid (doorAreDisjoint_ok #[.pointer (some ⟨w.heap.size, 0, none⟩), .pointer (some ⟨w.heap.size + 1, 0, none⟩)] (disGo [] (blksAt bs zs)) ((w.alloc (.cells #[.int .i64 v, .slice a0 bs.length c0] 28)).alloc (.cells #[.slice a1 zs.length c1] 35)) (hB.mono fun e w' ⟨he, hb⟩ => ⟨by rwa [if_pos hk] at he, by simpa using hb⟩))
    have HG := Lib.hid (show (disGo [] (blksAt bs zs) && decide (κ = 0)) = (disGo [] (blksAt bs zs)) by rw [show decide (κ = 0) = true from decide_eq_true hk, Bool.and_true])
    rw [HG.out]
    subst hk
    clear hB
    go_enter Try.func32, Try.ntmps32
    go_wp2_with fail
    refine HD.out.mono ?_
    rintro e w1 ⟨rfl, hb1⟩
    have hb2 := below_new (below_new hb1)
    clear hb1
    go_wp2
    go_ret2
    exact ⟨rfl, hb2⟩
  · have HD := Lib.hid (doorAreDisjoint_no #[.pointer (some ⟨w.heap.size, 0, none⟩), .pointer (some ⟨w.heap.size + 1, 0, none⟩)] κ ((w.alloc (.cells #[.int .i64 v, .slice a0 bs.length c0] 28)).alloc (.cells #[.slice a1 zs.length c1] 35)) (hB.mono fun e w' ⟨he, hb⟩ => ⟨by rwa [if_neg hk] at he, by simpa using hb⟩))
    have HG := Lib.hid (show (disGo [] (blksAt bs zs) && decide (κ = 0)) = false by rw [show decide (κ = 0) = false from decide_eq_false hk, Bool.and_false])
    rw [HG.out]
    clear hB hk
    go_enter Try.func32, Try.ntmps32
    go_wp2_with fail
    refine HD.out.mono ?_
    rintro e w1 ⟨rfl, hb1⟩
    have hb2 := below_new (below_new hb1)
    clear hb1
    go_wp2
    go_ret2
    exact ⟨rfl, hb2⟩
set_option maxRecDepth 100000 in
theorem IsClassB_any (B0 B1 : Nat) (v : Int) (s : Value) (bs : List Blk) (t : Value) (zs : List Int) (w : World) (h0 : w.cell? ⟨B0, 0, none⟩ = some (.int .i64 v)) (h1 : w.cell? ⟨B0, 1, none⟩ = some s) (h2 : w.cell? ⟨B1, 0, none⟩ = some t) (h : SB w s bs) (ht : IB w t zs) :
    Calls Try.prog 86 #[.pointer (some ⟨B0, 0, none⟩), .pointer (some ⟨B1, 0, none⟩)] w (fun e w' => (if chkF v bs 1 (fun _ => zs) = 0 then e = .returned (.bool (clsB v (blksAt bs zs))) else e = .panicked [codeP (chkF v bs 1 (fun _ => zs))]) ∧ Below w.heap.size w w') := by
  have hb0 : Below w.heap.size w (w.alloc (.cells #[t] 35)) := (Below.refl _ _).alloc (Nat.le_refl _) _
  have HC := Lib.hid (checkSets_any v s bs _ 1 (fun _ => zs) (w.alloc (.cells #[t] 35)) (h.below hb0 (Nat.le_refl _)) (ssb_one ht))
  have HD := Lib.hid fun (hk : chkF v bs 1 (fun _ => zs) = 0) W (hb : Below w.heap.size w W) => isClass_any v s bs t zs W (h.below hb (Nat.le_refl _)) (ht.below hb (Nat.le_refl _)) (chk_in hk).2
  have hlt0 := block_lt_of_cell h0
  have hlt1 := block_lt_of_cell h2
  obtain ⟨κ, hκ⟩ : ∃ κ, κ = chkF v bs 1 (fun _ => zs) := ⟨_, rfl⟩
  rw [← hκ] at HC HD ⊢
  have hts : ∃ a c, t = .slice a zs.length c := by rcases ht.2 with ⟨a, c, rfl, rfl⟩ | ⟨b, off, cap, rfl, _⟩ <;> exact ⟨_, _, rfl⟩
  have hs := h.slice
  clear hκ h ht hb0
  obtain ⟨a0, c0, rfl⟩ := hs
  obtain ⟨a1, c1, rfl⟩ := hts
  by_cases hk : κ = 0
  · have HD0 := Lib.hid (HD.out hk)
    simp only [if_pos hk]
    subst hk
    clear HD
    go_enter Try.func86, Try.ntmps86
    go_wp2_with fail
    refine HC.out.mono ?_
    rintro e w1 ⟨he, hb1⟩
    simp only [if_true] at he
    subst he
    have hb2 := below_new hb1
    have k0 := (hb2.cell (p := ⟨B0, 0, none⟩) hlt0).trans h0
    have k1 := (hb2.cell (p := ⟨B0, 1, none⟩) hlt0).trans h1
    have k2 := (hb2.cell (p := ⟨B1, 0, none⟩) hlt1).trans h2
    have HB2 := Lib.hid hb2
    have hz := hb2.size
    clear hb1 hb2 h0 h1 h2 HC
    go_wp2_with fail
    refine (HD0.out _ HB2.out).mono ?_
    rintro e w2 ⟨rfl, hb3⟩
    go_wp2
    go_ret
    exact ⟨rfl, HB2.out.trans (hb3.mono hz)⟩
  · simp only [if_neg hk]
    go_enter Try.func86, Try.ntmps86
    go_wp2_with fail
    refine HC.out.mono ?_
    rintro e w1 ⟨he, hb1⟩
    rw [if_neg hk] at he
    subst he
    have hb2 := below_new hb1
    go_wp2_with fail
    exact ⟨rfl, rfl, hb2⟩
set_option maxRecDepth 100000 in
set_option maxHeartbeats 1000000 in
theorem IsClass_any (v : Int) (s : Value) (bs : List Blk) (t : Value) (zs : List Int) (w : World) (h : SB w s bs) (ht : IB w t zs) :
    Calls Try.prog 34 #[.agg #[.int .i64 v, s], t] w (RV (boolCode (clsF v bs zs).1 (clsF v bs zs).2) w) := by
  have hmf : ∀ (fn : Fn) (first cap : Array Value) (w : World), (Instr.makeFunc fn first cap).run Try.prog w = .ok (.func fn first cap) w := fun _ _ _ _ => rfl
  have hb0 : Below w.heap.size w (((w.alloc (.cells #[.int .i64 v, s] 28)).alloc (.cells #[t] 35)).alloc (.cells #[.int .i64 1] 2)) := (((Below.refl _ _).alloc (Nat.le_refl _) _).alloc (by simp) _).alloc (by simp; omega) _
  have hB := IsClassB_any w.heap.size (w.heap.size + 1) v s bs t zs (((w.alloc (.cells #[.int .i64 v, s] 28)).alloc (.cells #[t] 35)).alloc (.cells #[.int .i64 1] 2)) (by simp [go_sem]) (by simp [go_sem]) (by simp [go_sem]) (h.below hb0 (Nat.le_refl _)) (ht.below hb0 (Nat.le_refl _))
  have hp : (clsF v bs zs) = (clsB v (blksAt bs zs) && decide (chkF v bs 1 (fun _ => zs) = 0), chkF v bs 1 (fun _ => zs)) := setF_chk _ v bs zs
  have hts : ∃ a c, t = .slice a zs.length c := by rcases ht.2 with ⟨a, c, rfl, rfl⟩ | ⟨b, off, cap, rfl, _⟩ <;> exact ⟨_, _, rfl⟩
  have hs := h.slice
  rw [hp]
  obtain ⟨κ, hκ⟩ : ∃ κ, κ = chkF v bs 1 (fun _ => zs) := ⟨_, rfl⟩
  rw [← hκ] at hB ⊢
  clear hκ h ht hb0 hp
  obtain ⟨a0, c0, rfl⟩ := hs
  obtain ⟨a1, c1, rfl⟩ := hts
  by_cases hk : κ = 0
  · have HD := Lib.hid (doorIsClass_ok #[.pointer (some ⟨w.heap.size, 0, none⟩), .pointer (some ⟨w.heap.size + 1, 0, none⟩)] (clsB v (blksAt bs zs)) ((w.alloc (.cells #[.int .i64 v, .slice a0 bs.length c0] 28)).alloc (.cells #[.slice a1 zs.length c1] 35)) (hB.mono fun e w' ⟨he, hb⟩ => ⟨by rwa [if_pos hk] at he, by simpa using hb⟩))
    have HG := Lib.hid (show (clsB v (blksAt bs zs) && decide (κ = 0)) = (clsB v (blksAt bs zs)) by rw [show decide (κ = 0) = true from decide_eq_true hk, Bool.and_true])
    rw [HG.out]
    subst hk
    clear hB
    go_enter Try.func34, Try.ntmps34
    go_wp2_with fail
    refine HD.out.mono ?_
    rintro e w1 ⟨rfl, hb1⟩
    have hb2 := below_new (below_new hb1)
    clear hb1
    go_wp2
    go_ret2
    exact ⟨rfl, hb2⟩
  · have HD := Lib.hid (doorIsClass_no #[.pointer (some ⟨w.heap.size, 0, none⟩), .pointer (some ⟨w.heap.size + 1, 0, none⟩)] κ ((w.alloc (.cells #[.int .i64 v, .slice a0 bs.length c0] 28)).alloc (.cells #[.slice a1 zs.length c1] 35)) (hB.mono fun e w' ⟨he, hb⟩ => ⟨by rwa [if_neg hk] at he, by simpa using hb⟩))
    have HG := Lib.hid (show (clsB v (blksAt bs zs) && decide (κ = 0)) = false by rw [show decide (κ = 0) = false from decide_eq_false hk, Bool.and_false])
    rw [HG.out]
    clear hB hk
    go_enter Try.func34, Try.ntmps34
    go_wp2_with fail
    refine HD.out.mono ?_
    rintro e w1 ⟨rfl, hb1⟩
    have hb2 := below_new (below_new hb1)
    clear hb1
    go_wp2
    go_ret2
    exact ⟨rfl, hb2⟩
end Go.Proofs.Ytlkjacgpjolbdaa

namespace Go.Proofs.Ytlkjacgpjolbdaa
open Go.RowKit Go.Maps
theorem dis_nodup : ∀ (L M : List Blk), disGo M L = true → (∀ x ∈ L, okB x) → (∀ x ∈ M, okB x) → (allP M).Nodup → (allP (L.reverse ++ M)).Nodup
  | [], M, _, _, _, hn => by simpa using hn
  | b :: r, M, h, hL, hM, hn => by
    rw [disGo_cons, Bool.and_eq_true, Bool.not_eq_true'] at h
    have hb := hL b (by simp)
    have h2 := dis_nodup r (b :: M) h.2 (fun x hx => hL x (by simp [hx])) (fun x hx => by
      rcases List.mem_cons.1 hx with rfl | hx
      · exact hb
      · exact hM x hx) (by
      unfold allP
      rw [List.flatMap_cons, List.nodup_append]
      refine ⟨?_, hn, ?_⟩
      · obtain ⟨h1, h2, h3, h4⟩ := hb
        unfold ptsB
        simp
        omega
      · intro a ha c hc e
        subst e
        obtain ⟨y, hy, hz⟩ := List.mem_flatMap.1 hc
        have : M.any (touch b) = true := List.any_eq_true.2 ⟨y, hy, touch_iff.2 ⟨a, ha, hz⟩⟩
        rw [h.1] at this
        cases this)
    simpa using h2
theorem allP_len (L : List Blk) : (allP L).length = 3 * L.length := by
  induction L with
  | nil => rfl
  | cons b r ih =>
    unfold allP at ih ⊢
    rw [List.flatMap_cons, List.length_append, ih, List.length_cons]
    simp [ptsB]
    omega
theorem allP_rev {L : List Blk} : (allP L).Nodup ↔ (allP L.reverse).Nodup := by
  refine List.Perm.nodup_iff ?_
  unfold allP
  exact (List.Perm.flatMap_right _ (List.reverse_perm L)).symm
theorem dis_points {L : List Blk} (h : disGo [] L = true) (hL : ∀ x ∈ L, okB x) : (allP L).Nodup := by
  have := dis_nodup L [] h hL (by simp) (by simp [allP])
  rw [List.append_nil] at this
  exact allP_rev.2 this
/-- A set of disjoint blocks has all points just if it has as many. -/
theorem dmk_full {n : Nat} {L : List Blk} (hd : disGo [] L = true) (hL : ∀ x ∈ L, okB x) (hr : ∀ z ∈ allP L, 0 ≤ z ∧ z < (n : Int)) : dmk L = 2 ^ n - 1 ↔ 3 * L.length = n := by
  have hn := dis_points hd hL
  have hle : (allP L).length ≤ n := by
    have := List.Nodup.length_le_of_subset (l₂ := (List.range n).map fun (k : Nat) => (k : Int)) hn (fun x hx => List.mem_map.2 ⟨x.toNat, List.mem_range.2 (by have := hr x hx; omega), by have := hr x hx; omega⟩)
    simpa using this
  rw [← allP_len]
  constructor
  · intro h
    have hR : ((List.range n).map fun (k : Nat) => (k : Int)).Nodup := by
      rw [List.Nodup, List.pairwise_map]
      exact List.nodup_range.imp fun h e => h (by omega)
    have := List.Nodup.length_le_of_subset (l₂ := allP L) hR (fun x hx => by
      obtain ⟨k, hk, rfl⟩ := List.mem_map.1 hx
      have hk := List.mem_range.1 hk
      refine (msk_mem (fun d hd => (hr d hd).1)).1 ?_
      show (dmk L).testBit k = true
      rw [h, Nat.testBit_two_pow_sub_one]
      exact decide_eq_true hk)
    have h3 : n ≤ (allP L).length := by simpa using this
    omega
  · intro h
    have h2 := isRen_msk h hr
    have h3 : isRen (n : Int) (allP L) = true := isRen_iff.2 ⟨h, hr, hn⟩
    rw [h3] at h2
    exact of_decide_eq_true h2.symm
theorem wrap_pow16 {v : Int} (h1 : 0 ≤ v) (h7 : v ≤ 15) : IntKind.i64.wrap (2 ^ v.toNat) = ((2 ^ v.toNat : Nat) : Int) ∧ IntKind.u64.wrap v = v ∧ ((2 ^ v.toNat : Nat) : Int) ≤ 32768 := by
  have : v = 15 ∨ v < 15 := by omega
  rcases this with rfl | h
  · decide
  · have := wrap_pow15 h1 h
    exact ⟨this.1, this.2.1, by omega⟩
theorem points_of {v : Int} {bs : List Blk} {zs : List Int} (hi : isSysImpl v bs = true) (hin : ∀ z ∈ zs, 0 ≤ z ∧ z < (bs.length : Int)) : ∀ z ∈ allP (blksAt bs zs), 0 ≤ z ∧ z < v := fun z hz => by
  obtain ⟨x, hx, hz⟩ := List.mem_flatMap.1 hz
  obtain ⟨y, hy, rfl⟩ := List.mem_map.1 hx
  have hq := hin y hy
  have hl : y.toNat < bs.length := by omega
  rw [List.getElem?_eq_getElem hl] at hz
  have hg := goodB_iff.1 (sys_good hi _ (List.getElem_mem hl))
  simp only [ptsB, List.mem_cons, List.not_mem_nil, or_false, Option.getD_some] at hz
  omega
set_option maxRecDepth 100000 in
theorem l05Class_any (v : Int) (s : Value) (bs : List Blk) (t : Value) (zs : List Int) (w : World) (h : SB w s bs) (ht : IB w t zs) (hi : isSysImpl v bs = true) (hin : ∀ z ∈ zs, 0 ≤ z ∧ z < (bs.length : Int)) :
    Calls Try.prog 85 #[.agg #[.int .i64 v, s], t] w (RV (.bool (clsB v (blksAt bs zs))) w) := by
  have hs := h.slice
  have hts : ∃ a c, t = .slice a zs.length c := by rcases ht.2 with ⟨a, c, rfl, rfl⟩ | ⟨b, off, cap, rfl, _⟩ <;> exact ⟨_, _, rfl⟩
  have hsz := sys_size hi
  have HD := Lib.hid fun W (hb : Below w.heap.size w W) => l05Disjoint_any v s bs t zs W (h.below hb (Nat.le_refl _)) (ht.below hb (Nat.le_refl _)) hin (sys_ok hi)
  have hfull : disGo [] (blksAt bs zs) = true → ((dmk (blksAt bs zs) : Int) = ((2 ^ v.toNat : Nat) : Int) - 1 ↔ 3 * ((blksAt bs zs).length : Int) = v) := fun hd => by
    have h2 := dmk_full (n := v.toNat) hd (blksAt_ok (sys_ok hi) hin) (fun z hz => by have := points_of hi hin z hz; omega)
    have h3 : 1 ≤ 2 ^ v.toNat := Nat.one_le_two_pow
    constructor
    · intro e
      have := h2.1 (by omega)
      omega
    · intro e
      have := h2.2 (by omega)
      omega
  obtain ⟨pv, qv, rv⟩ := wrap_pow16 (v := v) (by omega) (by omega)
  have v64 : v ≤ 64 := by omega
  have v0 : 0 ≤ v := by omega
  have gv : 0 ≤ ((2 ^ v.toNat : Nat) : Int) := Int.natCast_nonneg _
  obtain ⟨P, hP⟩ : ∃ P, P = ((2 ^ v.toNat : Nat) : Int) := ⟨_, rfl⟩
  obtain ⟨β, hβ⟩ : ∃ β, β = disGo [] (blksAt bs zs) := ⟨_, rfl⟩
  rw [← hP] at pv rv gv hfull
  have hV : clsB v (blksAt bs zs) = (decide (3 * ((blksAt bs zs).length : Int) = v) && β) := by rw [hβ]; rfl
  rw [← hβ] at HD hfull
  clear hP hβ h ht hi hin hsz
  obtain ⟨a0, c0, rfl⟩ := hs
  obtain ⟨a1, c1, rfl⟩ := hts
  have hw : IntKind.i64.wrap (P - 1) = P - 1 := IntWalk.i64_in _ (by omega)
  cases β with
  | false =>
    have HW := Lib.hid (show clsB v (blksAt bs zs) = false by rw [hV, Bool.and_false])
    clear hV hfull
    go_enter Try.func85, Try.ntmps85
    go_wp2_with fail
    refine (HD.out _ ((Below.refl _ _).alloc (Nat.le_refl _) _)).mono ?_
    rintro e w1 ⟨p, rfl, _, hb1⟩
    have hb2 := below_new hb1
    go_wp2
    go_ret
    exact RV_of (bool_eq (by rw [HW.out])) hb2
  | true =>
    have hf := hfull rfl
    have HW := Lib.hid (show clsB v (blksAt bs zs) = decide ((dmk (blksAt bs zs) : Int) = P - 1) by rw [hV, Bool.and_true, Bool.eq_iff_iff]; simp only [decide_eq_true_eq]; exact hf.symm)
    clear hV hfull hf
    go_enter Try.func85, Try.ntmps85
    go_wp2_with fail
    refine (HD.out _ ((Below.refl _ _).alloc (Nat.le_refl _) _)).mono ?_
    rintro e w1 ⟨p, rfl, hp, hb1⟩
    have hb2 := below_new hb1
    have hpp := hp rfl
    subst hpp
    have q0 := cell_new hb1 0 rfl
    clear hb1 hp
    go_wp2
    go_ret
    exact RV_of (bool_eq (by rw [HW.out, Bool.eq_iff_iff]; simp)) hb2
end Go.Proofs.Ytlkjacgpjolbdaa

namespace Go.Proofs.Ytlkjacgpjolbdaa
open Go.RowKit Go.Maps
theorem setF_ns (good : Bool) (v : Int) (bs : List Blk) (zs : List Int) : setF good v bs zs = (good && decide (nsCode v bs zs = 0), nsCode v bs zs) := by
  unfold setF nsCode
  cases isSysImpl v bs <;> cases ptGo (bs.length : Int) none zs <;> simp
theorem ns_in {v : Int} {bs : List Blk} {zs : List Int} (h : nsCode v bs zs = 0) : isSysImpl v bs = true ∧ ∀ z ∈ zs, 0 ≤ z ∧ z < (bs.length : Int) := by
  have e := setF_ns true v bs zs
  rw [setF_chk] at e
  have : chkF v bs 1 (fun _ => zs) = nsCode v bs zs := (Prod.mk.injEq _ _ _ _ ▸ e).2
  exact chk_in (this.trans h)
set_option maxRecDepth 100000 in
theorem specAreDisjoint_any (v : Int) (s : Value) (bs : List Blk) (t : Value) (zs : List Int) (w : World) (h : SB w s bs) (ht : IB w t zs) :
    Calls Try.prog 31 #[.agg #[.int .i64 v, s], t] w (RV (boolCode (disF v bs zs).1 (disF v bs zs).2) w) := by
  have hs := h.slice
  have hts : ∃ a c, t = .slice a zs.length c := by rcases ht.2 with ⟨a, c, rfl, rfl⟩ | ⟨b, off, cap, rfl, _⟩ <;> exact ⟨_, _, rfl⟩
  have HC := Lib.hid fun W (hb : Below w.heap.size w W) => l05Set_any v s bs t zs W (h.below hb (Nat.le_refl _)) (ht.below hb (Nat.le_refl _))
  have HD := Lib.hid fun (hk : nsCode v bs zs = 0) W (hb : Below w.heap.size w W) => l05Disjoint_any v s bs t zs W (h.below hb (Nat.le_refl _)) (ht.below hb (Nat.le_refl _)) (ns_in hk).2 (sys_ok (ns_in hk).1)
  have hp : disF v bs zs = (disGo [] (blksAt bs zs) && decide (nsCode v bs zs = 0), nsCode v bs zs) := setF_ns _ v bs zs
  rw [hp]
  obtain ⟨κ, hκ⟩ : ∃ κ, κ = nsCode v bs zs := ⟨_, rfl⟩
  rw [← hκ] at HC HD ⊢
  clear hκ h ht hp
  obtain ⟨a0, c0, rfl⟩ := hs
  obtain ⟨a1, c1, rfl⟩ := hts
  by_cases hk : κ = 0
  · have HD0 := Lib.hid (HD.out hk)
    have HG := Lib.hid (show (disGo [] (blksAt bs zs) && decide (κ = 0)) = (disGo [] (blksAt bs zs)) by rw [show decide (κ = 0) = true from decide_eq_true hk, Bool.and_true])
    rw [HG.out]
    subst hk
    clear HD
    go_enter Try.func31, Try.ntmps31
    go_wp2_with fail
    refine (HC.out _ ((Below.refl _ _).alloc (Nat.le_refl _) _)).mono ?_
    rintro e w1 ⟨rfl, hb1⟩
    have hb2 := below_new hb1
    have q0 := cell_new hb1 0 rfl
    have q1 := cell_new hb1 1 rfl
    have HB2 := Lib.hid hb2
    have hz := hb2.size
    clear hb1 hb2 HC
    go_wp2_with fail
    refine (HD0.out _ HB2.out).mono ?_
    rintro e w2 ⟨p, rfl, _, hb3⟩
    go_wp2
    go_ret2
    exact ⟨rfl, HB2.out.trans (hb3.mono hz)⟩
  · have HG := Lib.hid (show (disGo [] (blksAt bs zs) && decide (κ = 0)) = false by rw [show decide (κ = 0) = false from decide_eq_false hk, Bool.and_false])
    have q1 : (κ != 0) = true := by simpa using hk
    rw [HG.out]
    clear HD
    go_enter Try.func31, Try.ntmps31
    go_wp2_with fail
    refine (HC.out _ ((Below.refl _ _).alloc (Nat.le_refl _) _)).mono ?_
    rintro e w1 ⟨rfl, hb1⟩
    have hb2 := below_new hb1
    clear hb1
    go_wp2
    go_ret2
    exact ⟨rfl, hb2⟩
set_option maxRecDepth 100000 in
theorem specIsClass_any (v : Int) (s : Value) (bs : List Blk) (t : Value) (zs : List Int) (w : World) (h : SB w s bs) (ht : IB w t zs) :
    Calls Try.prog 33 #[.agg #[.int .i64 v, s], t] w (RV (boolCode (clsF v bs zs).1 (clsF v bs zs).2) w) := by
  have hs := h.slice
  have hts : ∃ a c, t = .slice a zs.length c := by rcases ht.2 with ⟨a, c, rfl, rfl⟩ | ⟨b, off, cap, rfl, _⟩ <;> exact ⟨_, _, rfl⟩
  have HC := Lib.hid fun W (hb : Below w.heap.size w W) => l05Set_any v s bs t zs W (h.below hb (Nat.le_refl _)) (ht.below hb (Nat.le_refl _))
  have HD := Lib.hid fun (hk : nsCode v bs zs = 0) W (hb : Below w.heap.size w W) => l05Class_any v s bs t zs W (h.below hb (Nat.le_refl _)) (ht.below hb (Nat.le_refl _)) (ns_in hk).1 (ns_in hk).2
  have hp : clsF v bs zs = (clsB v (blksAt bs zs) && decide (nsCode v bs zs = 0), nsCode v bs zs) := setF_ns _ v bs zs
  rw [hp]
  obtain ⟨κ, hκ⟩ : ∃ κ, κ = nsCode v bs zs := ⟨_, rfl⟩
  rw [← hκ] at HC HD ⊢
  clear hκ h ht hp
  obtain ⟨a0, c0, rfl⟩ := hs
  obtain ⟨a1, c1, rfl⟩ := hts
  by_cases hk : κ = 0
  · have HD0 := Lib.hid (HD.out hk)
    have HG := Lib.hid (show (clsB v (blksAt bs zs) && decide (κ = 0)) = (clsB v (blksAt bs zs)) by rw [show decide (κ = 0) = true from decide_eq_true hk, Bool.and_true])
    rw [HG.out]
    subst hk
    clear HD
    go_enter Try.func33, Try.ntmps33
    go_wp2_with fail
    refine (HC.out _ ((Below.refl _ _).alloc (Nat.le_refl _) _)).mono ?_
    rintro e w1 ⟨rfl, hb1⟩
    have hb2 := below_new hb1
    have q0 := cell_new hb1 0 rfl
    have q1 := cell_new hb1 1 rfl
    have HB2 := Lib.hid hb2
    have hz := hb2.size
    clear hb1 hb2 HC
    go_wp2_with fail
    refine (HD0.out _ HB2.out).mono ?_
    rintro e w2 ⟨rfl, hb3⟩
    go_wp2
    go_ret2
    exact ⟨rfl, HB2.out.trans (hb3.mono hz)⟩
  · have HG := Lib.hid (show (clsB v (blksAt bs zs) && decide (κ = 0)) = false by rw [show decide (κ = 0) = false from decide_eq_false hk, Bool.and_false])
    have q1 : (κ != 0) = true := by simpa using hk
    rw [HG.out]
    clear HD
    go_enter Try.func33, Try.ntmps33
    go_wp2_with fail
    refine (HC.out _ ((Below.refl _ _).alloc (Nat.le_refl _) _)).mono ?_
    rintro e w1 ⟨rfl, hb1⟩
    have hb2 := below_new hb1
    clear hb1
    go_wp2
    go_ret2
    exact ⟨rfl, hb2⟩
end Go.Proofs.Ytlkjacgpjolbdaa

namespace Go.Proofs.Ytlkjacgpjolbdaa
open Go.RowKit Go.Maps
/-- The two boxes of the arguments; what was there before the call is as it was. -/
structure St2 (w : World) (v u : Int) (s t : Value) (W : World) : Prop where
  below : Below w.heap.size w W
  big : w.heap.size + 1 < W.heap.size
  x0 : W.cell? ⟨w.heap.size, 0, none⟩ = some (.int .i64 v)
  x1 : W.cell? ⟨w.heap.size, 1, none⟩ = some s
  y0 : W.cell? ⟨w.heap.size + 1, 0, none⟩ = some (.int .i64 u)
  y1 : W.cell? ⟨w.heap.size + 1, 1, none⟩ = some t
theorem St2.step {w : World} {v u : Int} {s t : Value} {W W' : World} {row : Option Nat} (h : St2 w v u s t W) (hg : W.grownBy W' row) (hr : ∀ r, row = some r → w.heap.size + 1 < r) : St2 w v u s t W' :=
  ⟨h.below.grown hg h.below.size (fun r e => by have := hr r e; omega), Nat.lt_of_lt_of_le h.big hg.size,
    hg.cell h.x0 (fun e => by have := hr _ e.symm; simp at this; omega), hg.cell h.x1 (fun e => by have := hr _ e.symm; simp at this; omega),
    hg.cell h.y0 (fun e => by have := hr _ e.symm; simp at this), hg.cell h.y1 (fun e => by have := hr _ e.symm; simp at this)⟩
theorem St2.start (w : World) (v u : Int) (s t : Value) : St2 w v u s t ((w.alloc (.cells #[.int .i64 v, s] 24)).alloc (.cells #[.int .i64 u, t] 24)) :=
  ⟨((Below.refl _ _).alloc (Nat.le_refl _) _).alloc (by simp) _, by simp, by simp [go_sem], by simp [go_sem], by simp [go_sem], by simp [go_sem]⟩
/-- A variable that holds a system. -/
structure VarB (W : World) (X : Nat) (v : Int) (s : Value) : Prop where
  lt : X < W.heap.size
  c0 : W.cell? ⟨X, 0, none⟩ = some (.int .i64 v)
  c1 : W.cell? ⟨X, 1, none⟩ = some s
theorem VarB.step {W W' : World} {X : Nat} {v : Int} {s : Value} {row : Option Nat} (h : VarB W X v s) (hg : W.grownBy W' row) (hr : row ≠ some X) : VarB W' X v s :=
  ⟨Nat.lt_of_lt_of_le h.lt hg.size, hg.cell h.c0 (fun e => hr e.symm), hg.cell h.c1 (fun e => hr e.symm)⟩
theorem VarB.new (W : World) (v : Int) (s : Value) (T : TypeId) : VarB (W.alloc (.cells #[.int .i64 v, s] T)) W.heap.size v s := ⟨by simp, by simp, by simp⟩

/-- The state of a law whose results are lists of blocks: the model's result (from i0 on, before i1), the two copies and their variables, the program's result. -/
structure CB (w : World) (v u : Int) (s t sW s8 s9 sG : Value) (X Y i0 i1 i2 i3 i4 i5 i6 : Nat) (LW L8 L9 LG : List Blk) (W : World) : Prop where
  st : St2 w v u s t W
  o0 : w.heap.size + 1 < i0
  o1 : i0 ≤ i1
  o2 : i1 ≤ i2
  oX : i2 ≤ X
  oX' : X < i3
  o4 : i3 ≤ i4
  oY : i4 ≤ Y
  oY' : Y < i5
  o6 : i5 ≤ i6
  rW : ResR W i0 i1 sW LW
  r8 : ResR W i1 i2 s8 L8
  vX : VarB W X v s8
  r9 : ResR W i3 i4 s9 L9
  vY : VarB W Y u s9
  rG : ResR W i5 i6 sG LG
section
variable {w : World} {v u : Int} {s t sW s8 s9 sG : Value} {X Y i0 i1 i2 i3 i4 i5 i6 : Nat} {LW L8 L9 LG : List Blk} {W W' : World}
theorem CB.step (h : CB w v u s t sW s8 s9 sG X Y i0 i1 i2 i3 i4 i5 i6 LW L8 L9 LG W) (hg : W.grownBy W' none) : CB w v u s t sW s8 s9 sG X Y i0 i1 i2 i3 i4 i5 i6 LW L8 L9 LG W' :=
  ⟨h.st.step hg (by simp), h.o0, h.o1, h.o2, h.oX, h.oX', h.o4, h.oY, h.oY', h.o6, h.rW.kept hg (by simp), h.r8.kept hg (by simp), h.vX.step hg (by simp), h.r9.kept hg (by simp), h.vY.step hg (by simp), h.rG.kept hg (by simp)⟩
theorem CB.mark8 (h : CB w v u s t sW s8 s9 sG X Y i0 i1 i2 i3 i4 i5 i6 LW L8 L9 LG W) {row : Option Nat} (hg : W.grownBy W' row) (hr : ∀ r, row = some r → i1 ≤ r ∧ r < i2) {L : List Blk} (hn : ResR W' i1 i2 s8 L) :
    CB w v u s t sW s8 s9 sG X Y i0 i1 i2 i3 i4 i5 i6 LW L L9 LG W' := by
  obtain ⟨st, o0, o1, o2, oX, oX', o4, oY, oY', o6, rW, r8, vX, r9, vY, rG⟩ := h
  exact ⟨st.step hg (fun r e => by have := hr r e; omega), o0, o1, o2, oX, oX', o4, oY, oY', o6, rW.kept hg (fun r e => by have := hr r e; omega), hn, vX.step hg (fun e => by have := hr _ e; omega), r9.kept hg (fun r e => by have := hr r e; omega), vY.step hg (fun e => by have := hr _ e; omega), rG.kept hg (fun r e => by have := hr r e; omega)⟩
theorem CB.mark9 (h : CB w v u s t sW s8 s9 sG X Y i0 i1 i2 i3 i4 i5 i6 LW L8 L9 LG W) {row : Option Nat} (hg : W.grownBy W' row) (hr : ∀ r, row = some r → i3 ≤ r ∧ r < i4) {L : List Blk} (hn : ResR W' i3 i4 s9 L) :
    CB w v u s t sW s8 s9 sG X Y i0 i1 i2 i3 i4 i5 i6 LW L8 L LG W' := by
  obtain ⟨st, o0, o1, o2, oX, oX', o4, oY, oY', o6, rW, r8, vX, r9, vY, rG⟩ := h
  exact ⟨st.step hg (fun r e => by have := hr r e; omega), o0, o1, o2, oX, oX', o4, oY, oY', o6, rW.kept hg (fun r e => by have := hr r e; omega), r8.kept hg (fun r e => by have := hr r e; omega), vX.step hg (fun e => by have := hr _ e; omega), hn, vY.step hg (fun e => by have := hr _ e; omega), rG.kept hg (fun r e => by have := hr r e; omega)⟩
theorem CB.markG (h : CB w v u s t sW s8 s9 sG X Y i0 i1 i2 i3 i4 i5 i6 LW L8 L9 LG W) {row : Option Nat} (hg : W.grownBy W' row) (hr : ∀ r, row = some r → i5 ≤ r ∧ r < i6) {L : List Blk} (hn : ResR W' i5 i6 sG L) :
    CB w v u s t sW s8 s9 sG X Y i0 i1 i2 i3 i4 i5 i6 LW L8 L9 L W' := by
  obtain ⟨st, o0, o1, o2, oX, oX', o4, oY, oY', o6, rW, r8, vX, r9, vY, rG⟩ := h
  exact ⟨st.step hg (fun r e => by have := hr r e; omega), o0, o1, o2, oX, oX', o4, oY, oY', o6, rW.kept hg (fun r e => by have := hr r e; omega), r8.kept hg (fun r e => by have := hr r e; omega), vX.step hg (fun e => by have := hr _ e; omega), r9.kept hg (fun r e => by have := hr r e; omega), vY.step hg (fun e => by have := hr _ e; omega), hn⟩
end
end Go.Proofs.Ytlkjacgpjolbdaa

namespace Go.Proofs.Ytlkjacgpjolbdaa
open Go.RowKit Go.Maps
theorem ResI.slice {w : World} {lo hi : Nat} {s : Value} {zs : List Int} (h : ResI w lo hi s zs) : ∃ a c, s = .slice a zs.length c := by
  rcases h with ⟨rfl, a, c, rfl⟩ | ⟨g, cap, rfl, _⟩ <;> exact ⟨_, _, rfl⟩
theorem ResI.wide {w : World} {lo hi lo' hi' : Nat} {s : Value} {zs : List Int} (h : ResI w lo hi s zs) (h1 : lo' ≤ lo) (h2 : hi ≤ hi') : ResI w lo' hi' s zs := by
  rcases h with h | ⟨g, cap, rfl, h3, h4, ho⟩
  · exact .inl h
  · exact .inr ⟨g, cap, rfl, by omega, by omega, ho⟩
structure St1 (w : World) (v : Int) (s : Value) (W : World) : Prop where
  below : Below w.heap.size w W
  big : w.heap.size < W.heap.size
  x0 : W.cell? ⟨w.heap.size, 0, none⟩ = some (.int .i64 v)
  x1 : W.cell? ⟨w.heap.size, 1, none⟩ = some s
theorem St1.step {w : World} {v : Int} {s : Value} {W W' : World} {row : Option Nat} (h : St1 w v s W) (hg : W.grownBy W' row) (hr : ∀ r, row = some r → w.heap.size < r) : St1 w v s W' :=
  ⟨h.below.grown hg h.below.size (fun r e => by have := hr r e; omega), Nat.lt_of_lt_of_le h.big hg.size,
    hg.cell h.x0 (fun e => by have := hr _ e.symm; simp at this), hg.cell h.x1 (fun e => by have := hr _ e.symm; simp at this)⟩
theorem St1.start (w : World) (v : Int) (s : Value) : St1 w v s (w.alloc (.cells #[.int .i64 v, s] 24)) :=
  ⟨(Below.refl _ _).alloc (Nat.le_refl _) _, by simp, by simp [go_sem], by simp [go_sem]⟩
structure CI (w : World) (v : Int) (s sW s8 sG : Value) (X i0 i1 i2 i5 i6 : Nat) (LW : List Int) (L8 : List Blk) (LG : List Int) (W : World) : Prop where
  st : St1 w v s W
  o0 : w.heap.size < i0
  o1 : i0 ≤ i1
  o2 : i1 ≤ i2
  oX : i2 ≤ X
  oX' : X < i5
  o6 : i5 ≤ i6
  rW : ResI W i0 i1 sW LW
  r8 : ResR W i1 i2 s8 L8
  vX : VarB W X v s8
  rG : ResI W i5 i6 sG LG
section
variable {w : World} {v : Int} {s sW s8 sG : Value} {X i0 i1 i2 i5 i6 : Nat} {LW LG : List Int} {L8 : List Blk} {W W' : World}
theorem CI.step (h : CI w v s sW s8 sG X i0 i1 i2 i5 i6 LW L8 LG W) (hg : W.grownBy W' none) : CI w v s sW s8 sG X i0 i1 i2 i5 i6 LW L8 LG W' :=
  ⟨h.st.step hg (by simp), h.o0, h.o1, h.o2, h.oX, h.oX', h.o6, h.rW.kept hg (by simp), h.r8.kept hg (by simp), h.vX.step hg (by simp), h.rG.kept hg (by simp)⟩
theorem CI.mark8 (h : CI w v s sW s8 sG X i0 i1 i2 i5 i6 LW L8 LG W) {row : Option Nat} (hg : W.grownBy W' row) (hr : ∀ r, row = some r → i1 ≤ r ∧ r < i2) {L : List Blk} (hn : ResR W' i1 i2 s8 L) :
    CI w v s sW s8 sG X i0 i1 i2 i5 i6 LW L LG W' := by
  obtain ⟨st, o0, o1, o2, oX, oX', o6, rW, r8, vX, rG⟩ := h
  exact ⟨st.step hg (fun r e => by have := hr r e; omega), o0, o1, o2, oX, oX', o6, rW.kept hg (fun r e => by have := hr r e; omega), hn, vX.step hg (fun e => by have := hr _ e; omega), rG.kept hg (fun r e => by have := hr r e; omega)⟩
theorem CI.markG (h : CI w v s sW s8 sG X i0 i1 i2 i5 i6 LW L8 LG W) {row : Option Nat} (hg : W.grownBy W' row) (hr : ∀ r, row = some r → i5 ≤ r ∧ r < i6) {L : List Int} (hn : ResI W' i5 i6 sG L) :
    CI w v s sW s8 sG X i0 i1 i2 i5 i6 LW L8 L W' := by
  obtain ⟨st, o0, o1, o2, oX, oX', o6, rW, r8, vX, rG⟩ := h
  exact ⟨st.step hg (fun r e => by have := hr r e; omega), o0, o1, o2, oX, oX', o6, rW.kept hg (fun r e => by have := hr r e; omega), r8.kept hg (fun r e => by have := hr r e; omega), vX.step hg (fun e => by have := hr _ e; omega), hn⟩
end
theorem gb_drew1 (w : World) : w.grownBy w.drew none := ⟨rfl, rfl, rfl, Nat.le_refl _, fun _ _ _ => rfl⟩
theorem gb_alloc1 (w : World) (o : Obj) : w.grownBy (w.alloc o) none := World.grownBy_alloc w o none
end Go.Proofs.Ytlkjacgpjolbdaa

namespace Go.Proofs.Ytlkjacgpjolbdaa
open Go.RowKit Go.Maps
theorem infoRow : (Try.prog.info? 35).map (fun i => (i.zero, i.size, i.bytes)) = some (some (.slice none 0 0), 1, 24) := by kernel_rfl
def rowV (gs caps : Nat → Nat) (F : Nat → List Int) (k : Nat) : Value := .slice (some ⟨gs k, 0, none⟩) (F k).length (caps k)
/-- The value owns a slice of n rows, each in a block of its own. -/
structure AccS (w : World) (base : Nat) (u : Value) (n : Nat) (gs caps : Nat → Nat) (F : Nat → List Int) : Prop where
  own : w.ownsRow base 35 1 u n ((List.range n).map (rowV gs caps F))
  row : ∀ k, k < n → OwnAtI w (gs k) (F k)
  ne : ∀ k, k < n → u.ownBlock ≠ some (gs k)
  inc : ∀ j k, j < k → k < n → gs j ≠ gs k
  low : ∀ k, k < n → base ≤ gs k
theorem ownsRow_lt {w : World} {base : Nat} {e : TypeId} {size n : Nat} {u : Value} {xs : List Value} (h : w.ownsRow base e size u n xs) : ∀ r, u.ownBlock = some r → base ≤ r ∧ r < w.heap.size := fun r hr => by
  rcases h.2 with ⟨rfl, _⟩ | ⟨g, cap, cur, rfl, hb, hcur, _⟩
  · simp [Value.ownBlock] at hr
  · obtain rfl : g = r := by simpa [Value.ownBlock] using hr
    exact ⟨hb, (Array.getElem?_eq_some_iff.1 hcur).1⟩
theorem ownsRow_kept {w w' : World} {base : Nat} {e : TypeId} {size n : Nat} {u : Value} {xs : List Value} {row : Option Nat} (h : w.ownsRow base e size u n xs) (hg : w.grownBy w' row) (hr : row = none ∨ u.ownBlock ≠ row) : w'.ownsRow base e size u n xs := by
  obtain ⟨hl, h | ⟨g, cap, cur, rfl, hb, hcur, hrest⟩⟩ := h
  · exact ⟨hl, .inl h⟩
  · exact ⟨hl, .inr ⟨g, cap, cur, rfl, hb, (hg.block g (Array.getElem?_eq_some_iff.1 hcur).1 (fun e => by
      rcases hr with rfl | hr
      · cases e
      · exact hr (by rw [← e]; rfl))).trans hcur, hrest⟩⟩
section
variable {w w' : World} {base : Nat} {u : Value} {n : Nat} {gs caps : Nat → Nat} {F : Nat → List Int}
theorem AccS.kept (h : AccS w base u n gs caps F) {row : Option Nat} (hg : w.grownBy w' row) (hu : row = none ∨ u.ownBlock ≠ row) (hr : ∀ k, k < n → some (gs k) ≠ row) : AccS w' base u n gs caps F :=
  ⟨ownsRow_kept h.own hg hu, fun k hk => (h.row k hk).kept hg (hr k hk), h.ne, h.inc, h.low⟩
theorem AccS.below (h : AccS w base u n gs caps F) {B : Nat} (hb : Below B w w') (hB : w.heap.size ≤ B) : AccS w' base u n gs caps F :=
  h.kept (only_of_below (hb.mono hB) none) (.inl rfl) (by simp)
theorem AccS.nil (w : World) (base : Nat) (gs caps : Nat → Nat) (F : Nat → List Int) : AccS w base (.slice none 0 0) 0 gs caps F :=
  ⟨⟨rfl, .inl ⟨rfl, rfl⟩⟩, fun k hk => by omega, fun k hk => by omega, fun j k _ hk => by omega, fun k hk => by omega⟩
theorem AccS.ssr (h : AccS w base u n gs caps F) (hn : 0 < n) : ∃ G cap, u = .slice (some ⟨G, 0, none⟩) n cap ∧ base ≤ G ∧ SSR w base G gs caps n F := by
  obtain ⟨⟨hl, h1⟩, h2, h3, h4, h5⟩ := h
  rcases h1 with ⟨_, h0⟩ | ⟨g, cap, cur, rfl, hb, hcur, hn', hc, hsz, hx⟩
  · omega
  · refine ⟨g, cap, rfl, hb, ⟨fun k hk => ?_, h2, fun k hk e => h3 k hk (by rw [e]; rfl), h4, h5, (Array.getElem?_eq_some_iff.1 hcur).1⟩⟩
    have e : ((List.range n).map (rowV gs caps F))[k]? = some (rowV gs caps F k) := by simp [hk]
    rw [← hx, List.getElem?_take_of_lt (by omega)] at e
    simp [World.cell?, hcur]
    simpa [rowV] using e
end
theorem map_congr' {α β : Type} {f g : α → β} {l : List α} (h : ∀ x ∈ l, f x = g x) : l.map f = l.map g := List.map_congr_left h
theorem wpList_append_row {w : World} {ops : Array Oper} {rest : List Oper} {o : Oper} {a : Act} {Q : Exit → Act → World → Prop} (hgd : o.guard = none) (s x : Operand)
    (ho : o.op = .call { callee := .builtin .append, args := #[s, x], argTypes := #[45, 45] })
    (base : Nat) (v : Value) (n : Nat) (gs caps : Nat → Nat) (F : Nat → List Int) (hs : a.eval s = v) (hown : AccS w base v n gs caps F) (b0 c : Nat) (hx : a.eval x = .slice (some ⟨b0, 0, none⟩) 1 c) (g cg : Nat)
    (c1 : w.cell? ⟨b0, 0, none⟩ = some (.slice (some ⟨g, 0, none⟩) (F n).length cg)) (hrow : OwnAtI w g (F n)) (hgt : ∀ k, k < n → gs k < g) (hng : v.ownBlock ≠ some g) (hbg : base ≤ g) (hl : n ≤ 1100000) (hbase : base ≤ w.heap.size)
    (h : ∀ (G cap : Nat) (w' : World) (gs' caps' : Nat → Nat), AccS w' base (.slice (some ⟨G, 0, none⟩) (n + 1) cap) (n + 1) gs' caps' F → w.grownBy w' v.ownBlock → wpList Try.prog ops Q rest (a.put o.dst (.slice (some ⟨G, 0, none⟩) (n + 1) cap)) w') : wpList Try.prog ops Q (o :: rest) a w := by
  obtain ⟨i0, hi, hz0, hz1, hz2⟩ := info_parts infoRow
  refine wpList_append_own_at w hgd s x 45 ho base 35 i0 _ 1 24 Try.underlying45 hi hz0 hz1 hz2 rfl (by decide) v n _ hs hown.own ⟨b0, 0, none⟩ 1 c [.slice (some ⟨g, 0, none⟩) (F n).length cg] hx rfl ?_ ?_ (by unfold maxLen; omega) (by omega) hbase ?_
  · intro j u hj
    rw [addr_at, Nat.zero_add]
    match j, hj with
    | 0, hj => simp at hj; rw [← hj]; exact c1
    | j + 1, hj => simp at hj
  · intro u hu
    simp at hu
    rw [hu]
    rfl
  · intro v' w' hown' hg _ hob
    obtain ⟨G, cap, rfl⟩ := row_some hown'
    have hGg : G ≠ g := by
      rintro rfl
      rcases hob with e | e
      · exact hng (by rw [← e]; rfl)
      · simp [Value.ownBlock] at e
        have := hrow.lt
        omega
    refine h G cap w' (fun k => if k = n then g else gs k) (fun k => if k = n then cg else caps k) ⟨?_, fun k hk => ?_, fun k hk => ?_, fun j k hjk hk => ?_, fun k hk => ?_⟩ hg
    · rw [List.range_succ, List.map_append, List.map_singleton]
      have e1 : (List.range n).map (rowV (fun k => if k = n then g else gs k) (fun k => if k = n then cg else caps k) F) = (List.range n).map (rowV gs caps F) := map_congr' fun k hk => by
        have : k ≠ n := by have := List.mem_range.1 hk; omega
        simp [rowV, this]
      rw [e1]
      simpa [rowV] using hown'
    · split
      · subst k; exact hrow.kept hg (fun e => hng e.symm)
      · exact (hown.row k (by omega)).kept hg (fun e => hown.ne k (by omega) e.symm)
    · split
      · simpa [Value.ownBlock] using hGg
      · intro e
        have e' : G = gs k := by simpa [Value.ownBlock] using e
        rcases hob with e2 | e2
        · exact hown.ne k (by omega) (by rw [← e2, e])
        · simp [Value.ownBlock] at e2
          have := (hown.row k (by omega)).lt
          omega
    · rw [if_neg (by omega)]
      split
      · exact Nat.ne_of_lt (hgt j (by omega))
      · exact hown.inc j k hjk (by omega)
    · split
      · exact hbg
      · exact hown.low k (by omega)
/-- A slice of rows and a code. -/
def RSS (n : Nat) (F : Nat → List Int) (κ : Int) (w : World) (e : Ending) (w' : World) : Prop :=
  ∃ u G cap gs caps, e = .returned (.tuple #[u, .int .i64 κ]) ∧ Below w.heap.size w w' ∧ u = .slice (some ⟨G, 0, none⟩) n cap ∧ w.heap.size ≤ G ∧ SSR w' w.heap.size G gs caps n F
def hf (n s : Int) : Int := if (s % n) % 2 = 0 then (s % n) / 2 else if n % 2 = 0 then (s % n + n - 1) / 2 else (s % n + n) / 2
def rowP (n k : Nat) (j : Nat) : List Int := (List.range j).map fun (y : Nat) => hf n ((k : Int) + (y : Int))
def rowF (n k : Nat) : List Int := rowP n k n
theorem rowP_len (n k j : Nat) : (rowP n k j).length = j := by simp [rowP]
theorem rowP_succ (n k j : Nat) : rowP n k (j + 1) = rowP n k j ++ [hf n ((k : Int) + (j : Int))] := by simp [rowP, List.range_succ]
theorem rowP_next (n k j : Nat) (h : j < n) : (rowP n k j ++ List.replicate (n - j) 0).set j (hf n ((k : Int) + (j : Int))) = rowP n k (j + 1) ++ List.replicate (n - (j + 1)) 0 := by
  rw [rowP_succ, show n - j = (n - (j + 1)) + 1 by omega, List.replicate_succ, List.set_append_right _ _ (by rw [rowP_len]; omega), rowP_len, Nat.sub_self, List.set_cons_zero, List.append_assoc]
  rfl
theorem made_ints (w : World) (n : Nat) (T : TypeId) : OwnAtI (w.alloc (.cells (madeCells #[.int .i64 0] n) T)) w.heap.size (List.replicate n 0) := by
  refine ⟨by simp, fun k hk => ?_, fun o => by simp⟩
  rw [List.length_replicate] at hk
  rw [World.cell?_alloc_at _ _ _ _ rfl]
  simp [madeCells, hk, Nat.mod_one]
end Go.Proofs.Ytlkjacgpjolbdaa

namespace Go.Proofs.Ytlkjacgpjolbdaa
open Go.RowKit Go.Maps
end Go.Proofs.Ytlkjacgpjolbdaa

namespace Go.Proofs.Ytlkjacgpjolbdaa
open Go.RowKit Go.Maps
/-- The pairs (a, b), b among the next n, that P lets through; then those of the rows before a. -/
def rowL (P : Int → Int → Bool) (a : Nat) : Nat → List (Int × Int)
  | 0 => []
  | n + 1 => rowL P a n ++ if P a ((a : Int) + 1 + n) then [((a : Int), (a : Int) + 1 + n)] else []
def leftL (P : Int → Int → Bool) (v : Nat) : Nat → List (Int × Int)
  | 0 => []
  | a + 1 => leftL P v a ++ rowL P a (v - 1 - a)
theorem rowL_len (P : Int → Int → Bool) (a n : Nat) : (rowL P a n).length ≤ n := by
  induction n with
  | zero => simp [rowL]
  | succ n ih =>
    unfold rowL
    rw [List.length_append]
    split <;> simp <;> omega
theorem leftL_len (P : Int → Int → Bool) (v a : Nat) : (leftL P v a).length ≤ a * v := by
  induction a with
  | zero => simp [leftL]
  | succ a ih =>
    unfold leftL
    rw [List.length_append, Nat.succ_mul]
    have := rowL_len P a (v - 1 - a)
    omega
theorem rowL_congr {P Q : Int → Int → Bool} {a : Nat} : ∀ n : Nat, (∀ b : Int, (a : Int) < b → b ≤ a + n → P a b = Q a b) → rowL P a n = rowL Q a n
  | 0, _ => rfl
  | n + 1, h => by
    unfold rowL
    rw [rowL_congr n (fun b h1 h2 => h b h1 (by omega)), h ((a : Int) + 1 + n) (by omega) (by omega)]
theorem leftL_congr {P Q : Int → Int → Bool} {v : Nat} : ∀ a : Nat, a ≤ v → (∀ a' b : Int, 0 ≤ a' → a' < b → b < v → P a' b = Q a' b) → leftL P v a = leftL Q v a
  | 0, _, _ => rfl
  | a + 1, ha, h => by
    unfold leftL
    rw [leftL_congr a (by omega) h, rowL_congr _ (fun b h1 h2 => h a b (by omega) h1 (by omega))]
def fnL (L : List (Int × Int)) (k : Nat) : List Int := let p := L[k]?.getD (0, 0); [p.1, p.2]
theorem fnL_len (L : List (Int × Int)) (k : Nat) : (fnL L k).length = 2 := rfl
theorem fnL_lt {L L' : List (Int × Int)} {k : Nat} (h : k < L.length) : fnL L k = fnL (L ++ L') k := by
  unfold fnL
  rw [List.getElem?_append_left h]
theorem fnL_at (L : List (Int × Int)) (p : Int × Int) : fnL (L ++ [p]) L.length = [p.1, p.2] := by simp [fnL]
theorem AccS.congr {w : World} {base : Nat} {u : Value} {n : Nat} {gs caps : Nat → Nat} {F F' : Nat → List Int} (h : AccS w base u n gs caps F) (e : ∀ k, k < n → F k = F' k) : AccS w base u n gs caps F' := by
  refine ⟨?_, fun k hk => by rw [← e k hk]; exact h.row k hk, h.ne, h.inc, h.low⟩
  have he : (List.range n).map (rowV gs caps F') = (List.range n).map (rowV gs caps F) := map_congr' fun k hk => by
    have := e k (List.mem_range.1 hk)
    simp [rowV, this]
  rw [he]
  exact h.own
theorem AccS.base {w : World} {base base' : Nat} {u : Value} {n : Nat} {gs caps : Nat → Nat} {F : Nat → List Int} (h : AccS w base u n gs caps F) (hb : base' ≤ base) : AccS w base' u n gs caps F :=
  ⟨ownsRow_base h.own hb, h.row, h.ne, h.inc, fun k hk => Nat.le_trans hb (h.low k hk)⟩
theorem wf_pl {n : Int} (h0 : 0 ≤ n) (h1 : n ≤ 1000) : WF n := by
  have : n = wrap64 n := by unfold wrap64; omega
  unfold WF
  rw [this]
  exact wrap64_wf _
def notIn (seen : List (Int × Int)) (a b : Int) : Bool := !decide ((a, b) ∈ seen)
theorem two_own (w : World) (x y : Int) (T : TypeId) : OwnAtI (w.alloc (.cells #[.int .i64 x, .int .i64 y] T)) w.heap.size [x, y] := by
  refine ⟨by simp, fun k hk => ?_, fun o => by simp⟩
  rw [World.cell?_alloc_at _ _ _ _ rfl]
  match k, hk with
  | 0, _ => rfl
  | 1, _ => rfl
end Go.Proofs.Ytlkjacgpjolbdaa


/- Lists of systems: a test of all of them. A law's argument that is a list of systems: how it is read, and its size. A law's argument that is a list of systems: its size, its copies, and whether two copies are equal. Worlds that grow behind a draw. A law's copy of a list of systems. Are systems of a list apart? Have they as many points? Tests in a list: passes and code of lists of systems. -/
import Derived.Test.YtehdpgjbmnkkiaaJ7
import Derived.Deep.RegionWith
namespace Go.Proofs.Ytehdpgjbmnkkiaa
open Go.RowKit Go.Maps
structure Sy where
  v : Int
  s : Value
  bs : List Blk
instance : Inhabited Sy := ⟨⟨0, .int .i64 0, []⟩⟩
/-- The value is a slice of these systems. -/
def SysL (W : World) (u : Value) (T : List Sy) : Prop := T.length ≤ 1100000 ∧ ((∃ a c, u = .slice a 0 c ∧ T = []) ∨ ∃ b off cap, u = .slice (some ⟨b, off, none⟩) T.length cap ∧ b < W.heap.size ∧ T.length ≤ cap ∧ ∀ k t, T[k]? = some t → W.cell? ⟨b, off + k * 2, none⟩ = some (.int .i64 t.v) ∧ W.cell? ⟨b, off + k * 2 + 1, none⟩ = some t.s ∧ SB W t.s t.bs)
theorem SysL.below {W W' : World} {u : Value} {T : List Sy} (h : SysL W u T) {B : Nat} (hb : Below B W W') (hB : W.heap.size ≤ B) : SysL W' u T := by
  obtain ⟨hl, h | ⟨b, off, cap, rfl, hlt, hcp, hc⟩⟩ := h
  · exact ⟨hl, .inl h⟩
  · refine ⟨hl, .inr ⟨b, off, cap, rfl, Nat.lt_of_lt_of_le hlt hb.size, hcp, fun k t hk => ?_⟩⟩
    obtain ⟨h0, h1, h2⟩ := hc k t hk
    exact ⟨(hb.cell (p := ⟨b, off + k * 2, none⟩) (by simp; omega)).trans h0, (hb.cell (p := ⟨b, off + k * 2 + 1, none⟩) (by simp; omega)).trans h1, h2.below hb hB⟩
theorem SysL.slice {W : World} {u : Value} {T : List Sy} (h : SysL W u T) : ∃ a c, u = .slice a T.length c := by
  obtain ⟨_, ⟨a, c, rfl, rfl⟩ | ⟨b, off, cap, rfl, _⟩⟩ := h
  · exact ⟨a, c, rfl⟩
  · exact ⟨_, _, rfl⟩
theorem all_drop {α} {T : List α} {P : α → Bool} {k : Nat} {t : α} (h : T[k]? = some t) : (T.drop k).all P = (P t && (T.drop (k + 1)).all P) := by
  obtain ⟨hk, e⟩ := List.getElem?_eq_some_iff.1 h
  rw [List.drop_eq_getElem_cons hk, e, List.all_cons]
theorem mem_of_get {α} {T : List α} {k : Nat} {t : α} (h : T[k]? = some t) : t ∈ T := by
  obtain ⟨hk, e⟩ := List.getElem?_eq_some_iff.1 h
  exact e ▸ List.getElem_mem hk
set_option maxRecDepth 100000 in
theorem allS_is (u : Value) (T : List Sy) (P : Sy → Bool) (w : World) (h : SysL w u T)
    (hc : ∀ t ∈ T, ∀ W, Below w.heap.size w W → SB W t.s t.bs → Calls Try.prog 45 #[.agg #[.int .i64 t.v, t.s]] W (RV (.bool (P t)) W)) :
    Calls Try.prog 102 #[u, .func (.func 45) #[] #[]] w (RV (.bool (T.all P)) w) := by
  have HI := Lib.hid hc
  have hl := h.1
  have HS := Lib.hid h
  obtain ⟨a, c, rfl⟩ := h.slice
  clear h hc
  go_enter Try.func102, Try.ntmps102
  go_wp2
  go_loopw [9] (fun i wr => ∃ k : Nat, k ≤ T.length ∧ i = .int .i64 k ∧ Below w.heap.size w wr ∧ Hid (T.all P = (T.drop k).all P)) (fun i _ => T.length - (intOf i).toNat)
  case atStart => exact ⟨0, Nat.zero_le _, rfl, Below.refl _ _, Lib.hid rfl⟩
  case round =>
    obtain ⟨k, hk, rfl, hB, HE⟩ := hrel
    have hz := hB.size
    by_cases hkl : k < T.length
    · rcases HS.out.2 with ⟨_, _, _, hnil⟩ | ⟨b, off, cap, hval, hblt, _, hbl⟩
      · rw [hnil] at hkl; simp at hkl
      · simp at hval
        obtain ⟨rfl, rfl⟩ := hval
        obtain ⟨t, ht⟩ : ∃ t, T[k]? = some t := ⟨_, List.getElem?_eq_getElem hkl⟩
        obtain ⟨z0, z1, z2⟩ := hbl k t ht
        have z0 := (hB.cell (p := ⟨b, off + k * 2, none⟩) hblt).trans z0
        have z1 := (hB.cell (p := ⟨b, off + k * 2 + 1, none⟩) hblt).trans z1
        have he := HE.out
        rw [all_drop ht] at he
        obtain ⟨β, hβ⟩ : ∃ β, β = P t := ⟨_, rfl⟩
        have HC := Lib.hid fun W (hb : Below w.heap.size w W) => HI.out t (mem_of_get ht) W hb (z2.below hb (Nat.le_refl _))
        simp only [← hβ] at HC he
        have HE2 := Lib.hid he
        obtain ⟨tv, ts, tbs⟩ := t
        dsimp only at HC z0 z1
        obtain ⟨a2, c2, hts⟩ := z2.slice
        dsimp only at hts
        subst hts
        have g0 : (0 : Int) ≤ (k : Int) := by omega
        have g1 : (k : Int) < (T.length : Int) := by omega
        clear he hβ ht hbl HE z2
        cases β with
        | false =>
          go_wp2_with fail
          refine (HC.out _ (hB.alloc hz _)).mono ?_
          rintro e w1 ⟨rfl, hb1⟩
          have hb2 := hB.trans ((below_new hb1).mono hz)
          go_wp2
          go_ret
          exact RV_of (by rw [HE2.out]; rfl) hb2
        | true =>
          go_wp2_with fail
          refine (HC.out _ (hB.alloc hz _)).mono ?_
          rintro e w1 ⟨rfl, hb1⟩
          have hb2 := hB.trans ((below_new hb1).mono hz)
          go_wp2
          go_roundw
          case rel => exact ⟨k + 1, by omega, by go_num, hb2, Lib.hid (by rw [HE2.out]; rfl)⟩
          case measure => simp [intOf]; omega
    · have e : k = T.length := by omega
      subst e
      have he := HE.out
      rw [List.drop_length] at he
      have HE2 := Lib.hid he
      clear he HE
      go_wp2
      go_ret
      exact RV_of (by rw [HE2.out]; rfl) hB
set_option maxRecDepth 100000 in
theorem allS_same (p : Nat) (u : Value) (T : List Sy) (P : Sy → Bool) (w : World) (h : SysL w u T)
    (hc : ∀ t ∈ T, ∀ W, Below w.heap.size w W → SB W t.s t.bs → Calls Try.prog 103 #[.agg #[.int .i64 t.v, t.s], .pointer (some ⟨p, 0, none⟩)] W (RV (.bool (P t)) W)) :
    Calls Try.prog 102 #[u, .func (.func 103) #[] #[.pointer (some ⟨p, 0, none⟩)]] w (RV (.bool (T.all P)) w) := by
  have HI := Lib.hid hc
  have hl := h.1
  have HS := Lib.hid h
  obtain ⟨a, c, rfl⟩ := h.slice
  clear h hc
  go_enter Try.func102, Try.ntmps102
  go_wp2
  go_loopw [9] (fun i wr => ∃ k : Nat, k ≤ T.length ∧ i = .int .i64 k ∧ Below w.heap.size w wr ∧ Hid (T.all P = (T.drop k).all P)) (fun i _ => T.length - (intOf i).toNat)
  case atStart => exact ⟨0, Nat.zero_le _, rfl, Below.refl _ _, Lib.hid rfl⟩
  case round =>
    obtain ⟨k, hk, rfl, hB, HE⟩ := hrel
    have hz := hB.size
    by_cases hkl : k < T.length
    · rcases HS.out.2 with ⟨_, _, _, hnil⟩ | ⟨b, off, cap, hval, hblt, _, hbl⟩
      · rw [hnil] at hkl; simp at hkl
      · simp at hval
        obtain ⟨rfl, rfl⟩ := hval
        obtain ⟨t, ht⟩ : ∃ t, T[k]? = some t := ⟨_, List.getElem?_eq_getElem hkl⟩
        obtain ⟨z0, z1, z2⟩ := hbl k t ht
        have z0 := (hB.cell (p := ⟨b, off + k * 2, none⟩) hblt).trans z0
        have z1 := (hB.cell (p := ⟨b, off + k * 2 + 1, none⟩) hblt).trans z1
        have he := HE.out
        rw [all_drop ht] at he
        obtain ⟨β, hβ⟩ : ∃ β, β = P t := ⟨_, rfl⟩
        have HC := Lib.hid fun W (hb : Below w.heap.size w W) => HI.out t (mem_of_get ht) W hb (z2.below hb (Nat.le_refl _))
        simp only [← hβ] at HC he
        have HE2 := Lib.hid he
        obtain ⟨tv, ts, tbs⟩ := t
        dsimp only at HC z0 z1
        obtain ⟨a2, c2, hts⟩ := z2.slice
        dsimp only at hts
        subst hts
        have g0 : (0 : Int) ≤ (k : Int) := by omega
        have g1 : (k : Int) < (T.length : Int) := by omega
        clear he hβ ht hbl HE z2
        cases β with
        | false =>
          go_wp2_with fail
          refine (HC.out _ (hB.alloc hz _)).mono ?_
          rintro e w1 ⟨rfl, hb1⟩
          have hb2 := hB.trans ((below_new hb1).mono hz)
          go_wp2
          go_ret
          exact RV_of (by rw [HE2.out]; rfl) hb2
        | true =>
          go_wp2_with fail
          refine (HC.out _ (hB.alloc hz _)).mono ?_
          rintro e w1 ⟨rfl, hb1⟩
          have hb2 := hB.trans ((below_new hb1).mono hz)
          go_wp2
          go_roundw
          case rel => exact ⟨k + 1, by omega, by go_num, hb2, Lib.hid (by rw [HE2.out]; rfl)⟩
          case measure => simp [intOf]; omega
    · have e : k = T.length := by omega
      subst e
      have he := HE.out
      rw [List.drop_length] at he
      have HE2 := Lib.hid he
      clear he HE
      go_wp2
      go_ret
      exact RV_of (by rw [HE2.out]; rfl) hB
set_option maxRecDepth 100000 in
theorem allS_apart (p : Nat) (u : Value) (T : List Sy) (P : Sy → Bool) (w : World) (h : SysL w u T)
    (hc : ∀ t ∈ T, ∀ W, Below w.heap.size w W → SB W t.s t.bs → Calls Try.prog 104 #[.agg #[.int .i64 t.v, t.s], .pointer (some ⟨p, 0, none⟩)] W (RV (.bool (P t)) W)) :
    Calls Try.prog 102 #[u, .func (.func 104) #[] #[.pointer (some ⟨p, 0, none⟩)]] w (RV (.bool (T.all P)) w) := by
  have HI := Lib.hid hc
  have hl := h.1
  have HS := Lib.hid h
  obtain ⟨a, c, rfl⟩ := h.slice
  clear h hc
  go_enter Try.func102, Try.ntmps102
  go_wp2
  go_loopw [9] (fun i wr => ∃ k : Nat, k ≤ T.length ∧ i = .int .i64 k ∧ Below w.heap.size w wr ∧ Hid (T.all P = (T.drop k).all P)) (fun i _ => T.length - (intOf i).toNat)
  case atStart => exact ⟨0, Nat.zero_le _, rfl, Below.refl _ _, Lib.hid rfl⟩
  case round =>
    obtain ⟨k, hk, rfl, hB, HE⟩ := hrel
    have hz := hB.size
    by_cases hkl : k < T.length
    · rcases HS.out.2 with ⟨_, _, _, hnil⟩ | ⟨b, off, cap, hval, hblt, _, hbl⟩
      · rw [hnil] at hkl; simp at hkl
      · simp at hval
        obtain ⟨rfl, rfl⟩ := hval
        obtain ⟨t, ht⟩ : ∃ t, T[k]? = some t := ⟨_, List.getElem?_eq_getElem hkl⟩
        obtain ⟨z0, z1, z2⟩ := hbl k t ht
        have z0 := (hB.cell (p := ⟨b, off + k * 2, none⟩) hblt).trans z0
        have z1 := (hB.cell (p := ⟨b, off + k * 2 + 1, none⟩) hblt).trans z1
        have he := HE.out
        rw [all_drop ht] at he
        obtain ⟨β, hβ⟩ : ∃ β, β = P t := ⟨_, rfl⟩
        have HC := Lib.hid fun W (hb : Below w.heap.size w W) => HI.out t (mem_of_get ht) W hb (z2.below hb (Nat.le_refl _))
        simp only [← hβ] at HC he
        have HE2 := Lib.hid he
        obtain ⟨tv, ts, tbs⟩ := t
        dsimp only at HC z0 z1
        obtain ⟨a2, c2, hts⟩ := z2.slice
        dsimp only at hts
        subst hts
        have g0 : (0 : Int) ≤ (k : Int) := by omega
        have g1 : (k : Int) < (T.length : Int) := by omega
        clear he hβ ht hbl HE z2
        cases β with
        | false =>
          go_wp2_with fail
          refine (HC.out _ (hB.alloc hz _)).mono ?_
          rintro e w1 ⟨rfl, hb1⟩
          have hb2 := hB.trans ((below_new hb1).mono hz)
          go_wp2
          go_ret
          exact RV_of (by rw [HE2.out]; rfl) hb2
        | true =>
          go_wp2_with fail
          refine (HC.out _ (hB.alloc hz _)).mono ?_
          rintro e w1 ⟨rfl, hb1⟩
          have hb2 := hB.trans ((below_new hb1).mono hz)
          go_wp2
          go_roundw
          case rel => exact ⟨k + 1, by omega, by go_num, hb2, Lib.hid (by rw [HE2.out]; rfl)⟩
          case measure => simp [intOf]; omega
    · have e : k = T.length := by omega
      subst e
      have he := HE.out
      rw [List.drop_length] at he
      have HE2 := Lib.hid he
      clear he HE
      go_wp2
      go_ret
      exact RV_of (by rw [HE2.out]; rfl) hB
set_option maxRecDepth 100000 in
theorem allS_nine (u : Value) (T : List Sy) (P : Sy → Bool) (w : World) (h : SysL w u T)
    (hc : ∀ t ∈ T, ∀ W, Below w.heap.size w W → SB W t.s t.bs → Calls Try.prog 143 #[.agg #[.int .i64 t.v, t.s]] W (RV (.bool (P t)) W)) :
    Calls Try.prog 102 #[u, .func (.func 143) #[] #[]] w (RV (.bool (T.all P)) w) := by
  have HI := Lib.hid hc
  have hl := h.1
  have HS := Lib.hid h
  obtain ⟨a, c, rfl⟩ := h.slice
  clear h hc
  go_enter Try.func102, Try.ntmps102
  go_wp2
  go_loopw [9] (fun i wr => ∃ k : Nat, k ≤ T.length ∧ i = .int .i64 k ∧ Below w.heap.size w wr ∧ Hid (T.all P = (T.drop k).all P)) (fun i _ => T.length - (intOf i).toNat)
  case atStart => exact ⟨0, Nat.zero_le _, rfl, Below.refl _ _, Lib.hid rfl⟩
  case round =>
    obtain ⟨k, hk, rfl, hB, HE⟩ := hrel
    have hz := hB.size
    by_cases hkl : k < T.length
    · rcases HS.out.2 with ⟨_, _, _, hnil⟩ | ⟨b, off, cap, hval, hblt, _, hbl⟩
      · rw [hnil] at hkl; simp at hkl
      · simp at hval
        obtain ⟨rfl, rfl⟩ := hval
        obtain ⟨t, ht⟩ : ∃ t, T[k]? = some t := ⟨_, List.getElem?_eq_getElem hkl⟩
        obtain ⟨z0, z1, z2⟩ := hbl k t ht
        have z0 := (hB.cell (p := ⟨b, off + k * 2, none⟩) hblt).trans z0
        have z1 := (hB.cell (p := ⟨b, off + k * 2 + 1, none⟩) hblt).trans z1
        have he := HE.out
        rw [all_drop ht] at he
        obtain ⟨β, hβ⟩ : ∃ β, β = P t := ⟨_, rfl⟩
        have HC := Lib.hid fun W (hb : Below w.heap.size w W) => HI.out t (mem_of_get ht) W hb (z2.below hb (Nat.le_refl _))
        simp only [← hβ] at HC he
        have HE2 := Lib.hid he
        obtain ⟨tv, ts, tbs⟩ := t
        dsimp only at HC z0 z1
        obtain ⟨a2, c2, hts⟩ := z2.slice
        dsimp only at hts
        subst hts
        have g0 : (0 : Int) ≤ (k : Int) := by omega
        have g1 : (k : Int) < (T.length : Int) := by omega
        clear he hβ ht hbl HE z2
        cases β with
        | false =>
          go_wp2_with fail
          refine (HC.out _ (hB.alloc hz _)).mono ?_
          rintro e w1 ⟨rfl, hb1⟩
          have hb2 := hB.trans ((below_new hb1).mono hz)
          go_wp2
          go_ret
          exact RV_of (by rw [HE2.out]; rfl) hb2
        | true =>
          go_wp2_with fail
          refine (HC.out _ (hB.alloc hz _)).mono ?_
          rintro e w1 ⟨rfl, hb1⟩
          have hb2 := hB.trans ((below_new hb1).mono hz)
          go_wp2
          go_roundw
          case rel => exact ⟨k + 1, by omega, by go_num, hb2, Lib.hid (by rw [HE2.out]; rfl)⟩
          case measure => simp [intOf]; omega
    · have e : k = T.length := by omega
      subst e
      have he := HE.out
      rw [List.drop_length] at he
      have HE2 := Lib.hid he
      clear he HE
      go_wp2
      go_ret
      exact RV_of (by rw [HE2.out]; rfl) hB
end Go.Proofs.Ytehdpgjbmnkkiaa

namespace Go.Proofs.Ytehdpgjbmnkkiaa
open Go.ChangeShapes Go.WideShapes Go.ChangeAt Go.RowKit Go.Deep Go.Joins
/-- The value is a slice of just these systems, however long. -/
def InSL (w : World) (s : Value) (T : List Sy) : Prop :=
  T.length ≤ 9223372036854775807 ∧ ((∃ a c, s = .slice a 0 c ∧ T = []) ∨ ∃ b off cap, s = .slice (some ⟨b, off, none⟩) T.length cap ∧ b < w.heap.size ∧ T.length ≤ cap ∧ ∀ k t, T[k]? = some t → w.cell? ⟨b, off + k * 2, none⟩ = some (.int .i64 t.v) ∧ w.cell? ⟨b, off + k * 2 + 1, none⟩ = some t.s ∧ InB w t.s t.bs)
theorem InSL.slice {w : World} {s : Value} {T : List Sy} (h : InSL w s T) : ∃ a c, s = .slice a T.length c := by
  rcases h.2 with ⟨a, c, rfl, rfl⟩ | ⟨b, off, cap, rfl, _⟩ <;> exact ⟨_, _, rfl⟩
/-- How many places a list of systems takes. -/
def totS : List Sy → Nat
  | [] => 0
  | t :: r => t.bs.length + totS r
theorem totS_le {T : List Sy} {t : Sy} (h : t ∈ T) : t.bs.length ≤ totS T := by
  induction T with
  | nil => cases h
  | cons y r ih =>
    rcases List.mem_cons.1 h with rfl | h
    · unfold totS; omega
    · have := ih h
      unfold totS; omega
theorem totS_take {T : List Sy} {k : Nat} {t : Sy} (h : T[k]? = some t) : totS (T.take (k + 1)) = totS (T.take k) + t.bs.length := by
  induction T generalizing k with
  | nil => simp at h
  | cons y r ih =>
    cases k with
    | zero => simp at h; subst h; simp [totS]
    | succ k =>
      simp at h
      simp only [List.take_succ_cons, totS, ih h]
      omega
theorem totS_take_le (T : List Sy) (k : Nat) : totS (T.take k) ≤ totS T := by
  induction T generalizing k with
  | nil => simp
  | cons y r ih =>
    cases k with
    | zero => simp [totS]
    | succ k => simp only [List.take_succ_cons, totS]; have := ih k; omega
theorem InSL.sl {w : World} {s : Value} {T : List Sy} (h : InSL w s T) (hl : T.length + totS T ≤ 1048576) : SysL w s T ∧ ∀ t ∈ T, SB w t.s t.bs := by
  have hall : ∀ k t, T[k]? = some t → ∀ b off, (w.cell? ⟨b, off + k * 2, none⟩ = some (.int .i64 t.v) ∧ w.cell? ⟨b, off + k * 2 + 1, none⟩ = some t.s ∧ InB w t.s t.bs) → w.cell? ⟨b, off + k * 2, none⟩ = some (.int .i64 t.v) ∧ w.cell? ⟨b, off + k * 2 + 1, none⟩ = some t.s ∧ SB w t.s t.bs := fun k t hk b off ⟨h0, h1, h2⟩ => by
    have := totS_le (mem_of_get hk)
    exact ⟨h0, h1, h2.sb (by omega)⟩
  rcases h.2 with ⟨a, c, rfl, rfl⟩ | ⟨b, off, cap, rfl, hlt, hcp, hc⟩
  · exact ⟨⟨by simp, .inl ⟨_, _, rfl, rfl⟩⟩, fun t ht => by cases ht⟩
  · refine ⟨⟨by omega, .inr ⟨b, off, cap, rfl, hlt, hcp, fun k t hk => hall k t hk b off (hc k t hk)⟩⟩, fun t ht => ?_⟩
    obtain ⟨k, hk, rfl⟩ := List.mem_iff_getElem.1 ht
    exact (hall k _ (List.getElem?_eq_getElem hk) b off (hc k _ (List.getElem?_eq_getElem hk))).2.2
section
variable {H : Type} {enc : TypeId × Value → H} {W : World} {base : Nat} {held : Bool}
set_option maxRecDepth 100000 in
theorem open_sys2 {fuel : Nat} {cs : List Value} {x : DataW H × List MemPlace} (h : DataW.trod enc Try.prog W base (fun _ => true) held fuel 24 cs = some x) :
    ∃ (n : Int) (s : Value) (bs : List Blk), cs = [.int .i64 n, s] ∧ WF n ∧ InB W s bs := by
  obtain ⟨f0, f1, hu, e0, e1, hone⟩ := isSys
  obtain ⟨y0, y1, n, _, hl, h0, h1⟩ := trod_struct2 hu h
  rw [sysCells] at hl
  obtain ⟨o0, k0⟩ := hone_of hone 0 f0 rfl
  obtain ⟨o1, k1⟩ := hone_of hone 1 f1 rfl
  match cs, hl with
  | [c0, c1], _ =>
    rw [o0, k0, e0] at h0
    rw [o1, k1, e1] at h1
    simp at h0 h1
    obtain ⟨k, hk, _, wk⟩ := DataW.trod_int Try.underlying2 h0
    simp at hk
    subst hk
    obtain ⟨bs, hbs⟩ := open_arrs h1
    exact ⟨k, c1, bs, rfl, wk, hbs⟩
set_option maxRecDepth 100000 in
theorem open_systems {r : Reach} {b0 : Nat} {v : Value} {d : DataW H} {p : List MemPlace} (hv : Value.okWide Try.prog W r b0 53 v) (h : DataW.Trod enc Try.prog W base (fun _ => true) held 53 v d p) : ∃ T, InSL W v T := by
  obtain ⟨A0, L0, C0, rfl⟩ := okWide_slice Try.underlying53 hv
  obtain ⟨fuel, hf⟩ := h
  have hf' : DataW.trod enc Try.prog W base (fun _ => true) held fuel 53 [.slice A0 L0 C0] = some (d, p) := hf
  rcases open_slice Try.underlying53 hf' with ⟨hcs, _⟩ | ⟨a, len, cap, m, n, D, Pl, hcs, hb, hl, hm, hmm, hx, hi⟩
  · simp at hcs
    obtain ⟨rfl, rfl, rfl⟩ := hcs
    exact ⟨[], by simp, .inl ⟨_, _, rfl, rfl⟩⟩
  · simp at hcs
    obtain ⟨e1, e2, e3⟩ := hcs
    subst e1
    subst e2
    subst e3
    simp at hmm
    subst hmm
    have hm' : m ≤ 9223372036854775807 := by unfold maxLen at hm; exact hm
    by_cases h0 : L0 = 0
    · subst h0
      exact ⟨[], by simp, .inl ⟨_, _, rfl, rfl⟩⟩
    · have cell : ∀ i, i < m → ∃ y : Sy, W.cell? (a.add (i * 2)) = some (.int .i64 y.v) ∧ W.cell? (a.add (i * 2 + 1)) = some y.s ∧ InB W y.s y.bs := fun i him => by
        obtain ⟨cs', hc, ht⟩ := hi i him
        obtain ⟨q, s, bs, rfl, _, hin⟩ := open_sys2 ht
        rw [sysCells] at hc
        obtain ⟨_, _, hat⟩ := World.cells?_some hc
        have c0 := hat 0 (by omega)
        have c1 := hat 1 (by omega)
        rw [Go.Deep.add_add] at c0 c1
        exact ⟨⟨q, s, bs⟩, c0, c1, hin⟩
      obtain ⟨F, hF⟩ := choose_lt (α := Sy) cell
      obtain ⟨b, off, spot⟩ := a
      have hc0 := (hF 0 (by omega)).1
      have hspot : spot = none := by simpa [Addr.add] using World.cell?_spot hc0
      subst hspot
      refine ⟨(List.range L0).map F, by simp; omega, .inr ⟨b, off, m, by simp, block_lt_of_cell hc0, by simpa using hl, fun k t hk => ?_⟩⟩
      rw [List.getElem?_map] at hk
      have hkl : k < L0 := by
        rcases Nat.lt_or_ge k L0 with h | h
        · exact h
        · rw [List.getElem?_eq_none (by simpa using h)] at hk; simp at hk
      rw [List.getElem?_range hkl] at hk
      simp at hk
      subst hk
      obtain ⟨g0, g1, g2⟩ := hF k (by omega)
      rw [add_at] at g0 g1
      exact ⟨g0, by rw [Nat.add_assoc]; exact g1, g2⟩
end
end Go.Proofs.Ytehdpgjbmnkkiaa

namespace Go.Proofs.Ytehdpgjbmnkkiaa
open Go.RowKit Go.Maps
set_option maxRecDepth 100000 in
theorem szSystems_any (s : Value) (T : List Sy) (w : World) (h : InSL w s T) (left : Int) (h0 : 0 ≤ left) (h1 : left ≤ 1048576) :
    Calls Try.prog 36 #[s, .int .i64 left] w (RV (.int .i64 (if left - ((T.length + totS T : Nat) : Int) < 0 then -1 else left - ((T.length + totS T : Nat) : Int))) w) := by
  have HS := Lib.hid h.2
  have hln := h.1
  obtain ⟨a, c, rfl⟩ := h.slice
  obtain ⟨V, hV⟩ : ∃ V, V = (if left - ((T.length + totS T : Nat) : Int) < 0 then -1 else left - ((T.length + totS T : Nat) : Int)) := ⟨_, rfl⟩
  have HV := Lib.hid hV
  rw [← hV]
  clear h hV
  by_cases hs : left - (T.length : Int) < 0
  · have HR := Lib.hid (show V = -1 by rw [HV.out, if_pos (by omega)])
    go_enter Try.func36, Try.ntmps36
    go_wp2
    go_ret
    exact RV_of (by rw [HR.out]; rfl) (Below.refl _ _)
  · go_enter Try.func36, Try.ntmps36
    go_wp2
    go_loopw [1, 5] (fun l i wr => ∃ k : Nat, k ≤ T.length ∧ i = .int .i64 k ∧ Below w.heap.size w wr ∧ l = .int .i64 (left - (T.length : Int) - (totS (T.take k) : Int)) ∧ 0 ≤ left - (T.length : Int) - (totS (T.take k) : Int)) (fun _ i _ => T.length - (intOf i).toNat)
    case atStart => exact ⟨0, Nat.zero_le _, rfl, Below.refl _ _, by simp [totS], by simp [totS]; omega⟩
    case round =>
      obtain ⟨k, hk, rfl, hB, rfl, hp⟩ := hrel
      have hz := hB.size
      by_cases hkl : k < T.length
      · rcases HS.out with ⟨_, _, _, hnil⟩ | ⟨b, off, cap, hval, hblt, _, hbl⟩
        · rw [hnil] at hkl; simp at hkl
        · simp at hval
          obtain ⟨rfl, rfl⟩ := hval
          obtain ⟨t, ht⟩ : ∃ t, T[k]? = some t := ⟨_, List.getElem?_eq_getElem hkl⟩
          obtain ⟨z0, z1, z2⟩ := hbl k t ht
          have z0 := (hB.cell (p := ⟨b, off + k * 2, none⟩) hblt).trans z0
          have z1 := (hB.cell (p := ⟨b, off + k * 2 + 1, none⟩) hblt).trans z1
          have hsu := totS_take ht
          have hle := totS_take_le T (k + 1)
          have hlb := z2.2.1
          obtain ⟨l, hl⟩ : ∃ l, l = left - (T.length : Int) - (totS (T.take k) : Int) := ⟨_, rfl⟩
          rw [← hl] at hp ⊢
          have hsz := szSystem_any t.v t.s t.bs.length z2.slice (by omega) l hp (by omega) wr
          have HSZ := Lib.hid hsz
          have HL := Lib.hid hl
          obtain ⟨a2, c2, hts⟩ := z2.slice
          obtain ⟨tv, ts, tbs⟩ := t
          dsimp only at z0 z1 HSZ hts hsu hlb
          subst hts
          have g0 : (0 : Int) ≤ (k : Int) := by omega
          have g1 : (k : Int) < (T.length : Int) := by omega
          clear hbl z2 hsz ht
          by_cases hneg : l - (tbs.length : Int) < 0
          · have HR := Lib.hid (show V = -1 by rw [HV.out, if_pos (by omega)])
            rw [if_pos hneg] at HSZ
            clear hl hle hsu
            go_wp2_with fail
            refine HSZ.out.mono ?_
            rintro e w1 ⟨rfl, hb1⟩
            have hb2 := hB.trans (hb1.mono hz)
            go_wp2
            go_ret
            exact RV_of (by rw [HR.out]; rfl) hb2
          · rw [if_neg hneg] at HSZ
            have hn2 : 0 ≤ left - (T.length : Int) - (totS (T.take (k + 1)) : Int) := by omega
            have HE := Lib.hid (show l - (tbs.length : Int) = left - (T.length : Int) - (totS (T.take (k + 1)) : Int) by omega)
            clear hl hle hsu
            go_wp2_with fail
            refine HSZ.out.mono ?_
            rintro e w1 ⟨rfl, hb1⟩
            have hb2 := hB.trans (hb1.mono hz)
            rw [HE.out]
            obtain ⟨l2, hl2⟩ : ∃ l2, l2 = left - (T.length : Int) - (totS (T.take (k + 1)) : Int) := ⟨_, rfl⟩
            have HL2 := Lib.hid hl2
            rw [← hl2] at hn2 ⊢
            clear hl2
            go_wp2
            go_roundw
            case rel => exact ⟨k + 1, by omega, by go_num, hb2, by rw [HL2.out], by rw [← HL2.out]; exact hn2⟩
            case measure => simp [intOf]; omega
      · have e : k = T.length := by omega
        subst e
        rw [List.take_length] at hp ⊢
        have HR := Lib.hid (show V = left - (T.length : Int) - (totS T : Int) by rw [HV.out, if_neg (by omega)]; omega)
        rw [← HR.out]
        go_wp2
        go_ret
        exact RV_of rfl hB
/-- What of a list of systems counts: points and blocks. -/
def keyS (T : List Sy) : List (Int × List Blk) := T.map fun t => (t.v, t.bs)
theorem keyS_len (T : List Sy) : (keyS T).length = T.length := by simp [keyS]
theorem keyS_get {T T' : List Sy} (h : keyS T = keyS T') {k : Nat} {t t' : Sy} (h1 : T[k]? = some t) (h2 : T'[k]? = some t') : t.v = t'.v ∧ t.bs = t'.bs := by
  have e := congrArg (fun l => l[k]?) h
  unfold keyS at e
  simp only [List.getElem?_map, h1, h2, Option.map_some, Option.some.injEq, Prod.mk.injEq] at e
  exact e
set_option maxRecDepth 100000 in
theorem eqSystems_same (s s' : Value) (T T' : List Sy) (w : World) (h : SysL w s T) (h' : SysL w s' T') (hk : keyS T = keyS T') :
    Calls Try.prog 40 #[s, s'] w (RV (.bool true) w) := by
  have HS := Lib.hid h
  have HS' := Lib.hid h'
  have HK := Lib.hid hk
  have hlen : T'.length = T.length := by have := congrArg List.length hk; rw [keyS_len, keyS_len] at this; exact this.symm
  have hln := h.1
  obtain ⟨a, c, rfl⟩ := h.slice
  obtain ⟨a', c', rfl⟩ := h'.slice
  rw [hlen] at HS' ⊢
  have HLEN := Lib.hid hlen
  clear h h' hk hlen
  go_enter Try.func40, Try.ntmps40
  go_wp2
  go_loopw [5] (fun i wr => ∃ k : Nat, k ≤ T.length ∧ i = .int .i64 k ∧ Below w.heap.size w wr) (fun i _ => T.length - (intOf i).toNat)
  case atStart => exact ⟨0, Nat.zero_le _, rfl, Below.refl _ _⟩
  case round =>
    obtain ⟨k, hk, rfl, hB⟩ := hrel
    have hz := hB.size
    by_cases hkl : k < T.length
    · have hW := HS.out.below hB (Nat.le_refl _)
      have hW' := HS'.out.below hB (Nat.le_refl _)
      rcases hW.2 with ⟨_, _, _, hnil⟩ | ⟨b, off, cap, hval, hblt, _, hbl⟩
      · rw [hnil] at hkl; simp at hkl
      rcases hW'.2 with ⟨_, _, _, hnil⟩ | ⟨b', off', cap', hval', hblt', _, hbl'⟩
      · have hlen := HLEN.out; rw [hnil] at hlen; simp at hlen; omega
      simp at hval hval'
      obtain ⟨rfl, rfl⟩ := hval
      obtain ⟨rfl, hq, rfl⟩ := hval'
      clear hq
      obtain ⟨t, ht⟩ : ∃ t, T[k]? = some t := ⟨_, List.getElem?_eq_getElem hkl⟩
      obtain ⟨t', ht'⟩ : ∃ t, T'[k]? = some t := ⟨_, List.getElem?_eq_getElem (by rw [HLEN.out]; exact hkl)⟩
      obtain ⟨z0, z1, z2⟩ := hbl k t ht
      obtain ⟨y0, y1, y2⟩ := hbl' k t' ht'
      obtain ⟨e1, e2⟩ := keyS_get HK.out ht ht'
      have HEQ := Lib.hid fun W (hb : Below wr.heap.size wr W) => eqSystem_same t.v t.s t'.s t.bs W (z2.below hb (Nat.le_refl _)) ((e2 ▸ y2).below hb (Nat.le_refl _))
      rw [← e1] at y0
      obtain ⟨a2, c2, hts⟩ := z2.slice
      obtain ⟨a3, c3, hts'⟩ := y2.slice
      obtain ⟨tv, ts, tbs⟩ := t
      obtain ⟨tv', ts', tbs'⟩ := t'
      dsimp only at z0 z1 y0 y1 HEQ hts hts'
      subst hts hts'
      have g0 : (0 : Int) ≤ (k : Int) := by omega
      have g1 : (k : Int) < (T.length : Int) := by omega
      clear hbl hbl' z2 y2 e1 e2 ht ht' hW hW'
      go_wp2
      go_region_with (first | (go_at_call 16; refine (HEQ.out _ (by first | exact Below.refl _ _ | exact (Below.refl _ _).drew)).mono ?_; rintro e w1 ⟨rfl, hb1⟩))
      all_goals
        have hb2 : Below wr.heap.size wr w1 := by first | exact ((Below.refl _ _).drew).trans (hb1.mono (by simp)) | exact hb1
        have hb3 := hB.trans (hb2.mono hz)
        go_wp2
        go_roundw
        case rel => exact ⟨k + 1, by omega, by go_num, hb3⟩
        case measure => simp [intOf]; omega
    · go_wp2
      go_ret
      exact RV_of rfl hB
end Go.Proofs.Ytehdpgjbmnkkiaa

namespace Go.Proofs.Ytehdpgjbmnkkiaa
theorem gb_drewL {w w' : World} {row : Option Nat} (h : w.drew.grownBy w' row) : w.grownBy w' row := ⟨h.os, h.tape, h.output, h.size, h.block⟩
end Go.Proofs.Ytehdpgjbmnkkiaa

namespace Go.Proofs.Ytehdpgjbmnkkiaa
open Go.RowKit Go.Maps
theorem infoSys : (Try.prog.info? 31).map (fun i => (i.zero, i.size, i.bytes)) = some (some (.agg #[.int .i64 0, .slice none 0 0]), 2, 32) := by kernel_rfl
/-- The first k systems of a copy lie there, the others are zero. -/
def CpyS (W : World) (G n : Nat) (T : List Sy) (k : Nat) : Prop := ∃ T' : List Sy, T'.length = k ∧ keyS T' = keyS (T.take k) ∧ (∀ j t, T'[j]? = some t → W.cell? ⟨G, j * 2, none⟩ = some (.int .i64 t.v) ∧ W.cell? ⟨G, j * 2 + 1, none⟩ = some t.s ∧ ResR W (G + 1) W.heap.size t.s t.bs) ∧
  (∀ j, k ≤ j → j < n → W.cell? ⟨G, j * 2, none⟩ = some (.int .i64 0) ∧ W.cell? ⟨G, j * 2 + 1, none⟩ = some (.slice none 0 0)) ∧ ∀ o, W.frozen? ⟨G, o, none⟩ = false
theorem CpyS.next {W W1 : World} {G n : Nat} {T : List Sy} {k : Nat} (h : CpyS W G n T k) (hG : G < W.heap.size) (hb : Below W.heap.size W W1) {t : Sy} (ht : T[k]? = some t) (hk : k < n) {s' : Value} (ho : ResR W1 W.heap.size W1.heap.size s' t.bs) :
    CpyS ((W1.setCell ⟨G, k * 2, none⟩ (.int .i64 t.v)).setCell ⟨G, k * 2 + 1, none⟩ s') G n T (k + 1) := by
  obtain ⟨T', hl, hkey, hc, hz, hf⟩ := h
  have hs := hb.size
  obtain ⟨z0, z1⟩ := hz k (Nat.le_refl _) hk
  have z0 := (hb.cell (p := ⟨G, k * 2, none⟩) hG).trans z0
  have z1 := (hb.cell (p := ⟨G, k * 2 + 1, none⟩) hG).trans z1
  have hg2 : W1.grownBy ((W1.setCell ⟨G, k * 2, none⟩ (.int .i64 t.v)).setCell ⟨G, k * 2 + 1, none⟩ s') (some G) := only_setCell (only_setCell (only_refl W1 (some G)) rfl _) rfl _
  have hsz : ((W1.setCell ⟨G, k * 2, none⟩ (.int .i64 t.v)).setCell ⟨G, k * 2 + 1, none⟩ s').heap.size = W1.heap.size := by simp [World.setCell]
  refine ⟨T' ++ [⟨t.v, s', t.bs⟩], by simp [hl], ?_, fun j u hu => ?_, fun j hj1 hj2 => ?_, fun o => ?_⟩
  · obtain ⟨hkl, e⟩ := List.getElem?_eq_some_iff.1 ht
    rw [List.take_succ_eq_append_getElem hkl, e]
    unfold keyS at hkey ⊢
    rw [List.map_append, List.map_append, hkey]
    rfl
  · rw [hsz]
    by_cases hj : j < T'.length
    · rw [List.getElem?_append_left hj] at hu
      obtain ⟨c0, c1, c2⟩ := hc j u hu
      refine ⟨?_, ?_, ((c2.below hb (Nat.le_refl _)).wide (Nat.le_refl _) hs).kept hg2 (fun r e => by cases e; exact .inl (by omega))⟩
      · refine (World.cell?_setCell_other _ _ _ _ (by simp <;> omega)).trans ((World.cell?_setCell_other _ _ _ _ (by simp <;> omega)).trans ((hb.cell (p := ⟨G, j * 2, none⟩) hG).trans c0))
      · refine (World.cell?_setCell_other _ _ _ _ (by simp <;> omega)).trans ((World.cell?_setCell_other _ _ _ _ (by simp <;> omega)).trans ((hb.cell (p := ⟨G, j * 2 + 1, none⟩) hG).trans c1))
    · have hjk : j = k := by
        have := (List.getElem?_eq_some_iff.1 hu).1
        simp at this
        omega
      subst hjk
      rw [← hl, List.getElem?_append_right (Nat.le_refl _), Nat.sub_self] at hu
      simp at hu
      subst hu
      refine ⟨?_, ?_, (ho.wide (by omega) (Nat.le_refl _)).kept hg2 (fun r e => by cases e; exact .inl (by omega))⟩
      · refine (World.cell?_setCell_other _ _ _ _ (by simp)).trans (World.cell?_setCell_same _ _ _ z0)
      · exact World.cell?_setCell_same _ _ _ ((World.cell?_setCell_other _ _ _ _ (by simp)).trans z1)
  · obtain ⟨y0, y1⟩ := hz j (by omega) hj2
    refine ⟨?_, ?_⟩
    · refine (World.cell?_setCell_other _ _ _ _ (by simp <;> omega)).trans ((World.cell?_setCell_other _ _ _ _ (by simp <;> omega)).trans ((hb.cell (p := ⟨G, j * 2, none⟩) hG).trans y0))
    · refine (World.cell?_setCell_other _ _ _ _ (by simp <;> omega)).trans ((World.cell?_setCell_other _ _ _ _ (by simp <;> omega)).trans ((hb.cell (p := ⟨G, j * 2 + 1, none⟩) hG).trans y1))
  · have := (hb.frozen (p := ⟨G, o, none⟩) hG).trans (hf o)
    simpa [World.frozen?_setCell] using this
theorem CpyS.done {W : World} {G : Nat} {T : List Sy} (h : CpyS W G T.length T T.length) (hG : G < W.heap.size) (hl : T.length ≤ 1100000) (hsb : ∀ t ∈ T, (∀ x ∈ t.bs, WFB x) ∧ t.bs.length ≤ 1100000) : ∃ T', SysL W (.slice (some ⟨G, 0, none⟩) T.length T.length) T' ∧ keyS T' = keyS T := by
  obtain ⟨T', hl', hkey, hc, _, _⟩ := h
  rw [List.take_length] at hkey
  refine ⟨T', ⟨by omega, .inr ⟨G, 0, T.length, by rw [hl'], hG, by omega, fun k t hk => ?_⟩⟩, hkey⟩
  obtain ⟨c0, c1, c2⟩ := hc k t hk
  have hkl : k < T.length := by have := (List.getElem?_eq_some_iff.1 hk).1; omega
  obtain ⟨e1, e2⟩ := keyS_get hkey hk (List.getElem?_eq_getElem hkl)
  obtain ⟨w1, w2⟩ := hsb _ (List.getElem_mem hkl)
  refine ⟨by rw [Nat.zero_add]; exact c0, by rw [Nat.zero_add]; exact c1, c2.sb (by rw [e2]; exact w1) (by rw [e2]; exact w2)⟩
set_option maxRecDepth 100000 in
theorem toSystems_any (s : Value) (T : List Sy) (w : World) (h : SysL w s T) :
    Calls Try.prog 38 #[s] w (fun e w' => ∃ g T', e = .returned (.slice (some ⟨g, 0, none⟩) T.length T.length) ∧ SysL w' (.slice (some ⟨g, 0, none⟩) T.length T.length) T' ∧ keyS T' = keyS T ∧ Below w.heap.size w w') := by
  obtain ⟨i0, hi, hz0, hz1, hz2⟩ := info_parts infoSys
  have hmk : ∀ (n : Nat), n ≤ 1100000 → ∀ W : World, (Instr.makeSlice 56 (.int .i64 (n : Int)) (.int .i64 (n : Int))).run Try.prog W = .ok (.slice (some ⟨W.heap.size, 0, none⟩) n n) (W.alloc (.cells (madeCells #[.int .i64 0, .slice none 0 0] (n * 2)) 31)) := fun n hn W => by
    have hr := run_make (P := Try.prog) W 56 31 i0 (.agg #[.int .i64 0, .slice none 0 0]) Try.underlying56 hi hz0 .i64 .i64 n n (by omega) (by omega) (by rw [hz2]; omega) (by omega)
    simp only [Int.toNat_natCast, hz1] at hr
    exact hr
  have hm := hmk T.length h.1
  have hWF := Lib.hid (show ∀ t ∈ T, (∀ x ∈ t.bs, WFB x) ∧ t.bs.length ≤ 1100000 from fun t ht => by
    obtain ⟨k, hk, rfl⟩ := List.mem_iff_getElem.1 ht
    rcases h.2 with ⟨_, _, _, hnil⟩ | ⟨b, off, cap, _, _, _, hbl⟩
    · rw [hnil] at hk; simp at hk
    · have := (hbl k _ (List.getElem?_eq_getElem hk)).2.2
      exact ⟨this.1, this.2.1⟩)
  clear hi hz0 hz1 hz2 hmk
  have HS := Lib.hid h
  have hln := h.1
  obtain ⟨a, c, rfl⟩ := h.slice
  clear h
  go_enter Try.func38, Try.ntmps38
  go_wp2
  go_loopw [4] (fun i wr => ∃ k : Nat, k ≤ T.length ∧ i = .int .i64 k ∧ Below w.heap.size w wr ∧ w.heap.size < wr.heap.size ∧ Hid (CpyS wr w.heap.size T.length T k)) (fun i _ => T.length - (intOf i).toNat)
  case atStart =>
    refine ⟨0, Nat.zero_le _, rfl, (Below.refl _ _).alloc (Nat.le_refl _) _, by simp, Lib.hid ⟨[], rfl, by simp [keyS], fun j t hj => by simp at hj, fun j _ hj => ?_, fun o => by simp⟩⟩
    have a0 : j * 2 % 2 = 0 := by omega
    have a1 : (j * 2 + 1) % 2 = 1 := by omega
    have b0 : j * 2 < T.length * 2 := by omega
    have b1 : j * 2 + 1 < T.length * 2 := by omega
    constructor
    · rw [World.cell?_alloc_at _ _ _ _ rfl]
      simp only [madeCells]
      simp [b0, a0]
    · rw [World.cell?_alloc_at _ _ _ _ rfl]
      simp only [madeCells]
      simp [b1, a1]
  case round =>
    obtain ⟨k, hk, rfl, hB, hlt, HC⟩ := hrel
    have hz := hB.size
    by_cases hkl : k < T.length
    · have hW := HS.out.below hB (Nat.le_refl _)
      rcases hW.2 with ⟨_, _, _, hnil⟩ | ⟨b, off, cap, hval, hblt, _, hbl⟩
      · rw [hnil] at hkl; simp at hkl
      simp at hval
      obtain ⟨rfl, rfl⟩ := hval
      obtain ⟨t, ht⟩ : ∃ t, T[k]? = some t := ⟨_, List.getElem?_eq_getElem hkl⟩
      obtain ⟨z0, z1, z2⟩ := hbl k t ht
      have HTO := Lib.hid (toSystem_any t.v t.s t.bs wr z2)
      have HNX := Lib.hid fun W1 s' (hb : Below wr.heap.size wr W1) (ho : ResR W1 wr.heap.size W1.heap.size s' t.bs) => HC.out.next hlt hb ht hkl ho
      obtain ⟨T', _, _, _, hzz, hff⟩ := HC.out
      obtain ⟨y0, y1⟩ := hzz k (Nat.le_refl _) hkl
      have f0 := hff (k * 2)
      have f1 := hff (k * 2 + 1)
      obtain ⟨a2, c2, hts⟩ := z2.slice
      obtain ⟨tv, ts, tbs⟩ := t
      dsimp only at z0 z1 HTO HNX hts
      subst hts
      have g0 : (0 : Int) ≤ (k : Int) := by omega
      have g1 : (k : Int) < (T.length : Int) := by omega
      clear hbl z2 ht hW hzz hff
      go_wp2_with fail
      refine HTO.out.mono ?_
      rintro e w1 ⟨s', rfl, how, hb1⟩
      have x0 := (hb1.cell (p := ⟨w.heap.size, k * 2, none⟩) hlt).trans y0
      have x1 := (hb1.cell (p := ⟨w.heap.size, k * 2 + 1, none⟩) hlt).trans y1
      have v0 := (hb1.frozen (p := ⟨w.heap.size, k * 2, none⟩) hlt).trans f0
      have v1 := (hb1.frozen (p := ⟨w.heap.size, k * 2 + 1, none⟩) hlt).trans f1
      have HN := HNX.out w1 s' hb1 how.res
      have hb2 : Below w.heap.size w ((w1.setCell ⟨w.heap.size, k * 2, none⟩ (.int .i64 tv)).setCell ⟨w.heap.size, k * 2 + 1, none⟩ s') := ((hB.trans (hb1.mono hz)).setCell (p := ⟨w.heap.size, k * 2, none⟩) (Nat.le_refl _) _).setCell (p := ⟨w.heap.size, k * 2 + 1, none⟩) (Nat.le_refl _) _
      have HN2 := Lib.hid HN
      have hz1 := hb1.size
      obtain ⟨gw, capw, hsw, _⟩ := id how
      subst hsw
      clear HN y0 y1 f0 f1 how hb1 HTO HNX z0 z1
      go_wp2
      go_roundw
      case rel => exact ⟨k + 1, by omega, by go_num, hb2, by simp [World.setCell]; omega, HN2⟩
      case measure => simp [intOf]; omega
    · have e : k = T.length := by omega
      rw [e] at HC
      obtain ⟨T', h1, h2⟩ := HC.out.done hlt hln hWF.out
      have H1 := Lib.hid h1
      clear h1
      go_wp2
      go_ret
      exact ⟨_, T', rfl, H1.out, h2, hB⟩
end Go.Proofs.Ytehdpgjbmnkkiaa

namespace Go.Proofs.Ytehdpgjbmnkkiaa
open Go.RowKit Go.Maps
set_option maxRecDepth 100000 in
theorem same1_any (p b off cap n : Nat) (v v0 : Int) (s : Value) (w : World) (hn : 0 < n) (c0 : w.cell? ⟨p, 0, none⟩ = some (.slice (some ⟨b, off, none⟩) n cap)) (c1 : w.cell? ⟨b, off, none⟩ = some (.int .i64 v0)) (hp : p < w.heap.size) (hb : b < w.heap.size) :
    Calls Try.prog 103 #[.agg #[.int .i64 v, s], .pointer (some ⟨p, 0, none⟩)] w (RV (.bool (decide (v = v0))) w) := by
  have g1 : (0 : Int) < (n : Int) := by omega
  have hB0 : Below w.heap.size w (w.alloc (.cells #[.int .i64 v, s] 31)) := (Below.refl _ _).alloc (Nat.le_refl _) _
  have HB0 := Lib.hid hB0
  have d0 := (hB0.cell (p := ⟨p, 0, none⟩) hp).trans c0
  have d1 := (hB0.cell (p := ⟨b, off, none⟩) hb).trans c1
  have d2 : (w.alloc (.cells #[.int .i64 v, s] 31)).cell? ⟨w.heap.size, 0, none⟩ = some (.int .i64 v) := by simp [go_sem]
  clear hB0 c0 c1
  go_enter Try.func103, Try.ntmps103
  go_wp2
  obtain ⟨W, hW⟩ : ∃ W, W = w.alloc (.cells #[.int .i64 v, s] 31) := ⟨_, rfl⟩
  rw [← hW] at HB0 d0 d1 d2 ⊢
  clear hW
  go_quiet (fail)
  go_wp2
  go_ret
  exact RV_of (bool_eq (by rw [Bool.eq_iff_iff]; simp)) (below_drewN HB0.out _)
set_option maxRecDepth 100000 in
theorem apart1_any (p : Nat) (v0 : Int) (s0 : Value) (xs : List Blk) (v : Int) (s : Value) (ys : List Blk) (w : World) (hp : p < w.heap.size) (c0 : w.cell? ⟨p, 0, none⟩ = some (.int .i64 v0)) (c1 : w.cell? ⟨p, 1, none⟩ = some s0) (h0 : SB w s0 xs) (h : SB w s ys) :
    Calls Try.prog 104 #[.agg #[.int .i64 v, s], .pointer (some ⟨p, 0, none⟩)] w (RV (.bool (apartB xs ys)) w) := by
  have hB0 : Below w.heap.size w (w.alloc (.cells #[.int .i64 v, s] 31)) := (Below.refl _ _).alloc (Nat.le_refl _) _
  have HC := Lib.hid (areApart_any v0 s0 xs v s ys _ (h0.below hB0 (Nat.le_refl _)) (h.below hB0 (Nat.le_refl _)))
  obtain ⟨a0, k0, rfl⟩ := h0.slice
  obtain ⟨a1, k1, rfl⟩ := h.slice
  have d0 := (hB0.cell (p := ⟨p, 0, none⟩) hp).trans c0
  have d1 := (hB0.cell (p := ⟨p, 1, none⟩) hp).trans c1
  obtain ⟨β, hβ⟩ : ∃ β, β = apartB xs ys := ⟨_, rfl⟩
  rw [← hβ] at HC ⊢
  clear hB0 c0 c1 hβ h0 h
  go_enter Try.func104, Try.ntmps104
  go_wp2_with fail
  refine HC.out.mono ?_
  rintro e w1 ⟨rfl, hb1⟩
  have hb2 := below_new hb1
  go_wp2
  go_ret
  exact RV_of rfl hb2
theorem run_slice_sys (b off n cap j : Nat) (h1 : j ≤ n) (h2 : n ≤ cap) : ∃ x, (∀ W : World, (Instr.slice 75 (.slice (some ⟨b, off, none⟩) n cap) (some (.int .i64 (j : Int))) none none).run Try.prog W = .ok x W) ∧ ∀ (W : World) (T : List Sy), T.length = n → SysL W (.slice (some ⟨b, off, none⟩) n cap) T → SysL W x (T.drop j) := by
  have hj0 : (0 : Int) ≤ (j : Int) := by omega
  have hj1 : (j : Int) ≤ (n : Int) := by omega
  by_cases hc : j = cap
  · refine ⟨.slice (some ⟨b, off, none⟩) 0 0, fun W => ?_, fun W T e h => ⟨by have := h.1; simp; omega, .inl ⟨_, _, rfl, List.drop_eq_nil_of_le (by omega)⟩⟩⟩
    have e1 : n = j := by omega
    subst e1
    subst hc
    simp [Instr.slice, Instr.sliceBounds, Instr.sliceBound, run_underlying Try.underlying75, go_sem, hj0]
  · refine ⟨.slice (some ⟨b, off + j * 2, none⟩) (n - j) (cap - j), fun W => ?_, fun W T e h => ⟨by have := h.1; simp; omega, ?_⟩⟩
    · have hc' : ¬ cap = j := fun e => hc e.symm
      simp [Instr.slice, Instr.sliceBounds, Instr.sliceBound, run_underlying Try.underlying75, go_sem, hj0, h1, hc', addr_at]
    · obtain ⟨_, ⟨a, c, hv, hT⟩ | ⟨b', off', cap', hv, hlt, hcp, hcl⟩⟩ := h
      · simp at hv
        exact .inl ⟨_, _, by rw [show n - j = 0 by omega], by rw [hT]; simp⟩
      · simp at hv
        obtain ⟨⟨rfl, rfl⟩, _, rfl⟩ := hv
        refine .inr ⟨b, off + j * 2, cap - j, by rw [List.length_drop, e], hlt, by rw [List.length_drop]; omega, fun k t hk => ?_⟩
        rw [List.getElem?_drop] at hk
        obtain ⟨q0, q1, q2⟩ := hcl _ _ hk
        rw [show off + j * 2 + k * 2 = off + (j + k) * 2 by omega]
        exact ⟨q0, q1, q2⟩
/-- Are any two systems of a list apart? -/
def apartL : List Sy → Bool
  | [] => true
  | t :: r => r.all (fun u => apartB t.bs u.bs) && apartL r
theorem apartL_drop {T : List Sy} {k : Nat} {t : Sy} (h : T[k]? = some t) : apartL (T.drop k) = ((T.drop (k + 1)).all (fun u => apartB t.bs u.bs) && apartL (T.drop (k + 1))) := by
  obtain ⟨hk, e⟩ := List.getElem?_eq_some_iff.1 h
  rw [List.drop_eq_getElem_cons hk, e]
  rfl
set_option maxRecDepth 100000 in
theorem listApart_any (u : Value) (T : List Sy) (w : World) (h : SysL w u T) :
    Calls Try.prog 61 #[u] w (RV (.bool (apartL T)) w) := by
  have hl := h.1
  have HS := Lib.hid h
  have hmf : ∀ (fn : Fn) (first cap : Array Value) (w : World), (Instr.makeFunc fn first cap).run Try.prog w = .ok (.func fn first cap) w := fun _ _ _ _ => rfl
  obtain ⟨a, c, rfl⟩ := h.slice
  clear h
  go_enter Try.func61, Try.ntmps61
  go_wp2
  go_loopw [7] (fun i wr => ∃ k : Nat, k ≤ T.length ∧ i = .int .i64 k ∧ Below w.heap.size w wr ∧ Hid (apartL T = apartL (T.drop k))) (fun i _ => T.length - (intOf i).toNat)
  case atStart => exact ⟨0, Nat.zero_le _, rfl, Below.refl _ _, Lib.hid rfl⟩
  case round =>
    obtain ⟨k, hk, rfl, hB, HE⟩ := hrel
    have hz := hB.size
    by_cases hkl : k < T.length
    · have HW := HS.out.below hB (Nat.le_refl _)
      have HW2 := Lib.hid HW
      rcases HW.2 with ⟨_, _, _, hnil⟩ | ⟨b, off, cap, hval, hblt, hcap, hbl⟩
      · rw [hnil] at hkl; simp at hkl
      · simp at hval
        obtain ⟨rfl, rfl⟩ := hval
        obtain ⟨t, ht⟩ : ∃ t, T[k]? = some t := ⟨_, List.getElem?_eq_getElem hkl⟩
        obtain ⟨z0, z1, z2⟩ := hbl k t ht
        obtain ⟨x, hx1, hx2⟩ := run_slice_sys b off T.length c (k + 1) hkl hcap
        rw [show ((k + 1 : Nat) : Int) = (k : Int) + 1 by omega] at hx1
        have HX2 := Lib.hid hx2
        have hwr : IntKind.i64.wrap ((k : Int) + 1) = (k : Int) + 1 := IntWalk.i64_in _ (by omega)
        have he := HE.out
        rw [apartL_drop ht] at he
        obtain ⟨β, hβ⟩ : ∃ β, β = (T.drop (k + 1)).all (fun u => apartB t.bs u.bs) := ⟨_, rfl⟩
        have HZ2 := Lib.hid z2
        have HC := Lib.hid fun p W (hb : Below wr.heap.size wr W) (hp : p < W.heap.size) (c0 : W.cell? ⟨p, 0, none⟩ = some (.int .i64 t.v)) (c1 : W.cell? ⟨p, 1, none⟩ = some t.s) => allS_apart p x (T.drop (k + 1)) (fun u => apartB t.bs u.bs) W (hx2 W T rfl (HW.below hb (Nat.le_refl _)))
          fun u hu W' hb' hsu => apart1_any p t.v t.s t.bs u.v u.s u.bs W' (Nat.lt_of_lt_of_le hp hb'.size) ((hb'.cell hp).trans c0) ((hb'.cell hp).trans c1) ((z2.below hb (Nat.le_refl _)).below hb' (Nat.le_refl _)) hsu
        simp only [← hβ] at HC he
        have HE2 := Lib.hid he
        obtain ⟨tv, ts, tbs⟩ := t
        dsimp only at HC z0 z1
        obtain ⟨a2, c2, hts⟩ := z2.slice
        dsimp only at hts
        subst hts
        have g0 : (0 : Int) ≤ (k : Int) := by omega
        have g1 : (k : Int) < (T.length : Int) := by omega
        clear he hβ ht hbl HE z2 HW
        cases β with
        | false =>
          go_wp2_with fail
          refine (HC.out _ _ ((Below.refl _ _).alloc (Nat.le_refl _) _) (by simp) (by simp [go_sem]) (by simp [go_sem])).mono ?_
          rintro e w1 ⟨rfl, hb1⟩
          have hb2 := hB.trans ((below_new hb1).mono hz)
          go_wp2
          go_ret
          exact RV_of (by rw [HE2.out]; rfl) hb2
        | true =>
          go_wp2_with fail
          refine (HC.out _ _ ((Below.refl _ _).alloc (Nat.le_refl _) _) (by simp) (by simp [go_sem]) (by simp [go_sem])).mono ?_
          rintro e w1 ⟨rfl, hb1⟩
          have hb2 := hB.trans ((below_new hb1).mono hz)
          go_wp2
          go_roundw
          case rel => exact ⟨k + 1, by omega, by go_num, hb2, Lib.hid (by rw [HE2.out]; rfl)⟩
          case measure => simp [intOf]; omega
    · have e : k = T.length := by omega
      subst e
      have he := HE.out
      rw [List.drop_length] at he
      have HE2 := Lib.hid he
      clear he HE
      go_wp2
      go_ret
      exact RV_of (by rw [HE2.out]; rfl) hB
set_option maxRecDepth 100000 in
theorem areSystems_any (u : Value) (T : List Sy) (w : World) (h : SysL w u T) :
    Calls Try.prog 72 #[u] w (RV (.bool (T.all fun t => isSysImpl t.v t.bs)) w) := by
  have HC := Lib.hid (allS_is u T (fun t => isSysImpl t.v t.bs) w h fun t _ W _ hs => IsSystem_any t.v t.s t.bs W hs)
  obtain ⟨β, hβ⟩ : ∃ β, β = T.all fun t => isSysImpl t.v t.bs := ⟨_, rfl⟩
  rw [← hβ] at HC ⊢
  obtain ⟨a, c, rfl⟩ := h.slice
  clear h hβ
  go_enter Try.func72, Try.ntmps72
  go_wp2_with fail
  refine HC.out.mono ?_
  rintro e w1 ⟨rfl, hb1⟩
  go_wp2
  go_ret
  exact RV_of rfl hb1
set_option maxRecDepth 100000 in
theorem samePoints_any (u : Value) (T : List Sy) (t0 : Sy) (w : World) (h : SysL w u T) (h0 : T[0]? = some t0) :
    Calls Try.prog 60 #[u] w (RV (.bool (T.all fun t => decide (t.v = t0.v))) w) := by
  have hmf : ∀ (fn : Fn) (first cap : Array Value) (w : World), (Instr.makeFunc fn first cap).run Try.prog w = .ok (.func fn first cap) w := fun _ _ _ _ => rfl
  have HC := Lib.hid fun p W (hb : Below w.heap.size w W) (hp : p < W.heap.size) (c0 : W.cell? ⟨p, 0, none⟩ = some u) => allS_same p u T (fun t => decide (t.v = t0.v)) W (h.below hb (Nat.le_refl _)) fun t _ W' hb' _ => by
    have h1 := (h.below hb (Nat.le_refl _)).below hb' (Nat.le_refl _)
    have d0 := (hb'.cell (p := ⟨p, 0, none⟩) hp).trans c0
    rcases h1.2 with ⟨_, _, _, hnil⟩ | ⟨b, off, cap, hval, hblt, _, hbl⟩
    · rw [hnil] at h0; simp at h0
    · rw [hval] at d0
      obtain ⟨z0, _, _⟩ := hbl 0 t0 h0
      exact same1_any p b off cap T.length t.v t0.v t.s W' (by cases T with | nil => simp at h0 | cons _ _ => simp) d0 (by simpa using z0) (Nat.lt_of_lt_of_le hp hb'.size) hblt
  obtain ⟨β, hβ⟩ : ∃ β, β = T.all fun t => decide (t.v = t0.v) := ⟨_, rfl⟩
  simp only [← hβ] at HC
  rw [← hβ]
  obtain ⟨a, c, rfl⟩ := h.slice
  clear h hβ h0
  go_enter Try.func60, Try.ntmps60
  go_wp2_with fail
  refine (HC.out _ _ ((Below.refl _ _).alloc (Nat.le_refl _) _) (by simp) (by simp [go_sem])).mono ?_
  rintro e w1 ⟨rfl, hb1⟩
  have hb2 := below_new hb1
  go_wp2
  go_ret
  exact RV_of rfl hb2
end Go.Proofs.Ytehdpgjbmnkkiaa

namespace Go.Proofs.Ytehdpgjbmnkkiaa
open Go.RowKit Go.Maps
set_option maxRecDepth 100000 in
theorem test_same (p : Nat) (u : Value) (β : Bool) (w : World) (c0 : w.cell? ⟨p, 0, none⟩ = some u) (hu : ∃ a n c, u = .slice a n c) (h : ∀ W, Below w.heap.size w W → Calls Try.prog 60 #[u] W (RV (.bool β) W)) :
    Calls Try.prog 112 #[.func (.func 60) #[] #[], .pointer (some ⟨p, 0, none⟩)] w (RV (.bool β) w) := by
  have HC := Lib.hid h
  obtain ⟨a, n, c, rfl⟩ := hu
  clear h
  go_enter Try.func112, Try.ntmps112
  go_wp2_with fail
  refine (HC.out _ (Below.refl _ _)).mono ?_
  rintro e w1 ⟨rfl, hb1⟩
  go_wp2
  go_ret
  exact RV_of rfl hb1
set_option maxRecDepth 100000 in
theorem test_nine (p : Nat) (u : Value) (β : Bool) (w : World) (c0 : w.cell? ⟨p, 0, none⟩ = some u) (hu : ∃ a n c, u = .slice a n c) (h : ∀ W, Below w.heap.size w W → Calls Try.prog 113 #[u] W (RV (.bool β) W)) :
    Calls Try.prog 112 #[.func (.func 113) #[] #[], .pointer (some ⟨p, 0, none⟩)] w (RV (.bool β) w) := by
  have HC := Lib.hid h
  obtain ⟨a, n, c, rfl⟩ := hu
  clear h
  go_enter Try.func112, Try.ntmps112
  go_wp2_with fail
  refine (HC.out _ (Below.refl _ _)).mono ?_
  rintro e w1 ⟨rfl, hb1⟩
  go_wp2
  go_ret
  exact RV_of rfl hb1
set_option maxRecDepth 100000 in
theorem test_full (p : Nat) (u : Value) (β : Bool) (w : World) (c0 : w.cell? ⟨p, 0, none⟩ = some u) (hu : ∃ a n c, u = .slice a n c) (h : ∀ W, Below w.heap.size w W → Calls Try.prog 114 #[u] W (RV (.bool β) W)) :
    Calls Try.prog 112 #[.func (.func 114) #[] #[], .pointer (some ⟨p, 0, none⟩)] w (RV (.bool β) w) := by
  have HC := Lib.hid h
  obtain ⟨a, n, c, rfl⟩ := hu
  clear h
  go_enter Try.func112, Try.ntmps112
  go_wp2_with fail
  refine (HC.out _ (Below.refl _ _)).mono ?_
  rintro e w1 ⟨rfl, hb1⟩
  go_wp2
  go_ret
  exact RV_of rfl hb1
set_option maxRecDepth 100000 in
theorem test_apart (p : Nat) (u : Value) (β : Bool) (w : World) (c0 : w.cell? ⟨p, 0, none⟩ = some u) (hu : ∃ a n c, u = .slice a n c) (h : ∀ W, Below w.heap.size w W → Calls Try.prog 61 #[u] W (RV (.bool β) W)) :
    Calls Try.prog 112 #[.func (.func 61) #[] #[], .pointer (some ⟨p, 0, none⟩)] w (RV (.bool β) w) := by
  have HC := Lib.hid h
  obtain ⟨a, n, c, rfl⟩ := hu
  clear h
  go_enter Try.func112, Try.ntmps112
  go_wp2_with fail
  refine (HC.out _ (Below.refl _ _)).mono ?_
  rintro e w1 ⟨rfl, hb1⟩
  go_wp2
  go_ret
  exact RV_of rfl hb1
set_option maxRecDepth 100000 in
theorem allT_s (b p : Nat) (u : Value) (β0 : Bool) (w : World) (hp : p < w.heap.size) (c0 : w.cell? ⟨p, 0, none⟩ = some u) (hu : ∃ a n c, u = .slice a n c) (d0 : w.cell? ⟨b, 0, none⟩ = some (.func (.func 60) #[] #[])) (h0 : ∀ W, Below w.heap.size w W → Calls Try.prog 60 #[u] W (RV (.bool β0) W)) :
    Calls Try.prog 111 #[.slice (some ⟨b, 0, none⟩) 1 1, .func (.func 112) #[] #[.pointer (some ⟨p, 0, none⟩)]] w (RV (.bool (β0)) w) := by
  have HT0 := Lib.hid fun W (hB : Below w.heap.size w W) => test_same p u β0 W ((hB.cell hp).trans c0) hu fun W' hB' => h0 W' (hB.trans (hB'.mono hB.size))
  clear c0 hu hp h0
  go_enter Try.func111, Try.ntmps111
  go_wp2
  refine wp_loop_rounds 2 ?_
  rw [rounds_succ]
  cases β0 with
  | false =>
    go_wp2_with fail
    refine (HT0.out _ (Below.refl _ _)).mono ?_
    rintro e w1 ⟨rfl, hb1⟩
    have hB1 : Below w.heap.size w w1 := hb1
    go_wp2
    go_ret
    exact RV_of (by simp) hB1
  | true =>
    go_wp2_with fail
    refine (HT0.out _ (Below.refl _ _)).mono ?_
    rintro e w1 ⟨rfl, hb1⟩
    have hB1 : Below w.heap.size w w1 := hb1
    go_wp2
    rw [rounds_succ]
    go_wp2
    go_ret
    exact RV_of (by simp) hB1
set_option maxRecDepth 100000 in
theorem passes_s (b : Nat) (u : Value) (β0 : Bool) (w : World) (hb : b < w.heap.size) (hu : ∃ a n c, u = .slice a n c) (d0 : w.cell? ⟨b, 0, none⟩ = some (.func (.func 60) #[] #[])) (h0 : ∀ W, Below w.heap.size w W → Calls Try.prog 60 #[u] W (RV (.bool β0) W)) :
    Calls Try.prog 73 #[u, .slice (some ⟨b, 0, none⟩) 1 1] w (RV (.bool (β0)) w) := by
  have hmf : ∀ (fn : Fn) (first cap : Array Value) (w : World), (Instr.makeFunc fn first cap).run Try.prog w = .ok (.func fn first cap) w := fun _ _ _ _ => rfl
  have HC := Lib.hid fun p W (hB : Below w.heap.size w W) (hp : p < W.heap.size) (c0 : W.cell? ⟨p, 0, none⟩ = some u) => allT_s b p u β0 W hp c0 hu ((hB.cell (p := ⟨b, 0, none⟩) hb).trans d0) (fun W' hB' => h0 W' (hB.trans (hB'.mono hB.size)))
  obtain ⟨β, hβ⟩ : ∃ β, β = (β0) := ⟨_, rfl⟩
  simp only [← hβ] at HC
  rw [← hβ]
  obtain ⟨a, n, c, rfl⟩ := hu
  clear hβ d0 h0
  go_enter Try.func73, Try.ntmps73
  go_wp2_with fail
  refine (HC.out _ _ ((Below.refl _ _).alloc (Nat.le_refl _) _) (by simp) (by simp [go_sem])).mono ?_
  rintro e w1 ⟨rfl, hb1⟩
  have hb2 := below_new hb1
  go_wp2
  go_ret
  exact RV_of rfl hb2
/-- The code of a list of systems. -/
def codeL_s (σ β0 : Bool) : Int := if σ then (if (β0) then 0 else 5) else 1
set_option maxRecDepth 100000 in
theorem code_s (b : Nat) (u : Value) (T : List Sy) (β0 : Bool) (w : World) (hS : SysL w u T) (h : (T.all fun t => isSysImpl t.v t.bs) = true → ∀ W, Below w.heap.size w W → Calls Try.prog 73 #[u, .slice (some ⟨b, 0, none⟩) 1 1] W (RV (.bool (β0)) W)) :
    Calls Try.prog 59 #[u, .slice (some ⟨b, 0, none⟩) 1 1] w (RV (.int .i64 (codeL_s (T.all fun t => isSysImpl t.v t.bs) β0)) w) := by
  have HA := Lib.hid (areSystems_any u T w hS)
  obtain ⟨β, hβ⟩ : ∃ β, β = (β0) := ⟨_, rfl⟩
  have HV := Lib.hid (show ∀ σ, codeL_s σ β0 = if σ then (if β then 0 else 5) else 1 by intro σ; rw [hβ]; rfl)
  simp only [← hβ] at h
  obtain ⟨σ, hσ⟩ : ∃ σ, σ = T.all fun t => isSysImpl t.v t.bs := ⟨_, rfl⟩
  rw [← hσ] at HA h ⊢
  obtain ⟨a, c, rfl⟩ := hS.slice
  clear hβ hσ hS
  cases σ with
  | false =>
    clear h
    go_enter Try.func59, Try.ntmps59
    go_wp2_with fail
    refine HA.out.mono ?_
    rintro e w1 ⟨rfl, hb1⟩
    go_wp2
    go_ret
    exact RV_of (by rw [HV.out]; rfl) hb1
  | true =>
    have HP := Lib.hid (h rfl)
    clear h
    cases β with
    | false =>
      go_enter Try.func59, Try.ntmps59
      go_wp2_with fail
      refine HA.out.mono ?_
      rintro e w1 ⟨rfl, hb1⟩
      go_wp2_with fail
      refine (HP.out _ hb1).mono ?_
      rintro e w2 ⟨rfl, hb2⟩
      have hb3 := hb1.trans (hb2.mono hb1.size)
      go_wp2
      go_ret
      exact RV_of (by rw [HV.out]; rfl) hb3
    | true =>
      go_enter Try.func59, Try.ntmps59
      go_wp2_with fail
      refine HA.out.mono ?_
      rintro e w1 ⟨rfl, hb1⟩
      go_wp2_with fail
      refine (HP.out _ hb1).mono ?_
      rintro e w2 ⟨rfl, hb2⟩
      have hb3 := hb1.trans (hb2.mono hb1.size)
      go_wp2
      go_ret
      exact RV_of (by rw [HV.out]; rfl) hb3
set_option maxRecDepth 100000 in
theorem allT_f (b p : Nat) (u : Value) (β0 β1 β2 : Bool) (w : World) (hb : b < w.heap.size) (hp : p < w.heap.size) (c0 : w.cell? ⟨p, 0, none⟩ = some u) (hu : ∃ a n c, u = .slice a n c) (d0 : w.cell? ⟨b, 0, none⟩ = some (.func (.func 113) #[] #[])) (d1 : w.cell? ⟨b, 1, none⟩ = some (.func (.func 114) #[] #[])) (d2 : w.cell? ⟨b, 2, none⟩ = some (.func (.func 61) #[] #[])) (h0 : ∀ W, Below w.heap.size w W → Calls Try.prog 113 #[u] W (RV (.bool β0) W)) (h1 : ∀ W, Below w.heap.size w W → Calls Try.prog 114 #[u] W (RV (.bool β1) W)) (h2 : ∀ W, Below w.heap.size w W → Calls Try.prog 61 #[u] W (RV (.bool β2) W)) :
    Calls Try.prog 111 #[.slice (some ⟨b, 0, none⟩) 3 3, .func (.func 112) #[] #[.pointer (some ⟨p, 0, none⟩)]] w (RV (.bool (β0 && β1 && β2)) w) := by
  have HT0 := Lib.hid fun W (hB : Below w.heap.size w W) => test_nine p u β0 W ((hB.cell hp).trans c0) hu fun W' hB' => h0 W' (hB.trans (hB'.mono hB.size))
  have HT1 := Lib.hid fun W (hB : Below w.heap.size w W) => test_full p u β1 W ((hB.cell hp).trans c0) hu fun W' hB' => h1 W' (hB.trans (hB'.mono hB.size))
  have HT2 := Lib.hid fun W (hB : Below w.heap.size w W) => test_apart p u β2 W ((hB.cell hp).trans c0) hu fun W' hB' => h2 W' (hB.trans (hB'.mono hB.size))
  clear c0 hu hp h0 h1 h2
  go_enter Try.func111, Try.ntmps111
  go_wp2
  refine wp_loop_rounds 4 ?_
  rw [rounds_succ]
  cases β0 with
  | false =>
    go_wp2_with fail
    refine (HT0.out _ (Below.refl _ _)).mono ?_
    rintro e w1 ⟨rfl, hb1⟩
    have hB1 : Below w.heap.size w w1 := hb1
    go_wp2
    go_ret
    exact RV_of (by simp) hB1
  | true =>
    go_wp2_with fail
    refine (HT0.out _ (Below.refl _ _)).mono ?_
    rintro e w1 ⟨rfl, hb1⟩
    have hB1 : Below w.heap.size w w1 := hb1
    go_wp2
    rw [rounds_succ]
    cases β1 with
    | false =>
      have e1_1 := (hB1.cell (p := ⟨b, 1, none⟩) hb).trans d1
      have e1_2 := (hB1.cell (p := ⟨b, 2, none⟩) hb).trans d2
      go_wp2_with fail
      refine (HT1.out _ hB1).mono ?_
      rintro e w2 ⟨rfl, hb2⟩
      have hB2 : Below w.heap.size w w2 := hB1.trans (hb2.mono hB1.size)
      go_wp2
      go_ret
      exact RV_of (by simp) hB2
    | true =>
      have e1_1 := (hB1.cell (p := ⟨b, 1, none⟩) hb).trans d1
      have e1_2 := (hB1.cell (p := ⟨b, 2, none⟩) hb).trans d2
      go_wp2_with fail
      refine (HT1.out _ hB1).mono ?_
      rintro e w2 ⟨rfl, hb2⟩
      have hB2 : Below w.heap.size w w2 := hB1.trans (hb2.mono hB1.size)
      go_wp2
      rw [rounds_succ]
      cases β2 with
      | false =>
        have e2_2 := (hB2.cell (p := ⟨b, 2, none⟩) hb).trans d2
        go_wp2_with fail
        refine (HT2.out _ hB2).mono ?_
        rintro e w3 ⟨rfl, hb3⟩
        have hB3 : Below w.heap.size w w3 := hB2.trans (hb3.mono hB2.size)
        go_wp2
        go_ret
        exact RV_of (by simp) hB3
      | true =>
        have e2_2 := (hB2.cell (p := ⟨b, 2, none⟩) hb).trans d2
        go_wp2_with fail
        refine (HT2.out _ hB2).mono ?_
        rintro e w3 ⟨rfl, hb3⟩
        have hB3 : Below w.heap.size w w3 := hB2.trans (hb3.mono hB2.size)
        go_wp2
        rw [rounds_succ]
        go_wp2
        go_ret
        exact RV_of (by simp) hB3
set_option maxRecDepth 100000 in
theorem passes_f (b : Nat) (u : Value) (β0 β1 β2 : Bool) (w : World) (hb : b < w.heap.size) (hu : ∃ a n c, u = .slice a n c) (d0 : w.cell? ⟨b, 0, none⟩ = some (.func (.func 113) #[] #[])) (d1 : w.cell? ⟨b, 1, none⟩ = some (.func (.func 114) #[] #[])) (d2 : w.cell? ⟨b, 2, none⟩ = some (.func (.func 61) #[] #[])) (h0 : ∀ W, Below w.heap.size w W → Calls Try.prog 113 #[u] W (RV (.bool β0) W)) (h1 : ∀ W, Below w.heap.size w W → Calls Try.prog 114 #[u] W (RV (.bool β1) W)) (h2 : ∀ W, Below w.heap.size w W → Calls Try.prog 61 #[u] W (RV (.bool β2) W)) :
    Calls Try.prog 73 #[u, .slice (some ⟨b, 0, none⟩) 3 3] w (RV (.bool (β0 && β1 && β2)) w) := by
  have hmf : ∀ (fn : Fn) (first cap : Array Value) (w : World), (Instr.makeFunc fn first cap).run Try.prog w = .ok (.func fn first cap) w := fun _ _ _ _ => rfl
  have HC := Lib.hid fun p W (hB : Below w.heap.size w W) (hp : p < W.heap.size) (c0 : W.cell? ⟨p, 0, none⟩ = some u) => allT_f b p u β0 β1 β2 W (Nat.lt_of_lt_of_le hb hB.size) hp c0 hu ((hB.cell (p := ⟨b, 0, none⟩) hb).trans d0) ((hB.cell (p := ⟨b, 1, none⟩) hb).trans d1) ((hB.cell (p := ⟨b, 2, none⟩) hb).trans d2) (fun W' hB' => h0 W' (hB.trans (hB'.mono hB.size))) (fun W' hB' => h1 W' (hB.trans (hB'.mono hB.size))) (fun W' hB' => h2 W' (hB.trans (hB'.mono hB.size)))
  obtain ⟨β, hβ⟩ : ∃ β, β = (β0 && β1 && β2) := ⟨_, rfl⟩
  simp only [← hβ] at HC
  rw [← hβ]
  obtain ⟨a, n, c, rfl⟩ := hu
  clear hβ d0 d1 d2 h0 h1 h2
  go_enter Try.func73, Try.ntmps73
  go_wp2_with fail
  refine (HC.out _ _ ((Below.refl _ _).alloc (Nat.le_refl _) _) (by simp) (by simp [go_sem])).mono ?_
  rintro e w1 ⟨rfl, hb1⟩
  have hb2 := below_new hb1
  go_wp2
  go_ret
  exact RV_of rfl hb2
/-- The code of a list of systems. -/
def codeL_f (σ β0 β1 β2 : Bool) : Int := if σ then (if (β0 && β1 && β2) then 0 else 5) else 1
set_option maxRecDepth 100000 in
theorem code_f (b : Nat) (u : Value) (T : List Sy) (β0 β1 β2 : Bool) (w : World) (hS : SysL w u T) (h : (T.all fun t => isSysImpl t.v t.bs) = true → ∀ W, Below w.heap.size w W → Calls Try.prog 73 #[u, .slice (some ⟨b, 0, none⟩) 3 3] W (RV (.bool (β0 && β1 && β2)) W)) :
    Calls Try.prog 59 #[u, .slice (some ⟨b, 0, none⟩) 3 3] w (RV (.int .i64 (codeL_f (T.all fun t => isSysImpl t.v t.bs) β0 β1 β2)) w) := by
  have HA := Lib.hid (areSystems_any u T w hS)
  obtain ⟨β, hβ⟩ : ∃ β, β = (β0 && β1 && β2) := ⟨_, rfl⟩
  have HV := Lib.hid (show ∀ σ, codeL_f σ β0 β1 β2 = if σ then (if β then 0 else 5) else 1 by intro σ; rw [hβ]; rfl)
  simp only [← hβ] at h
  obtain ⟨σ, hσ⟩ : ∃ σ, σ = T.all fun t => isSysImpl t.v t.bs := ⟨_, rfl⟩
  rw [← hσ] at HA h ⊢
  obtain ⟨a, c, rfl⟩ := hS.slice
  clear hβ hσ hS
  cases σ with
  | false =>
    clear h
    go_enter Try.func59, Try.ntmps59
    go_wp2_with fail
    refine HA.out.mono ?_
    rintro e w1 ⟨rfl, hb1⟩
    go_wp2
    go_ret
    exact RV_of (by rw [HV.out]; rfl) hb1
  | true =>
    have HP := Lib.hid (h rfl)
    clear h
    cases β with
    | false =>
      go_enter Try.func59, Try.ntmps59
      go_wp2_with fail
      refine HA.out.mono ?_
      rintro e w1 ⟨rfl, hb1⟩
      go_wp2_with fail
      refine (HP.out _ hb1).mono ?_
      rintro e w2 ⟨rfl, hb2⟩
      have hb3 := hb1.trans (hb2.mono hb1.size)
      go_wp2
      go_ret
      exact RV_of (by rw [HV.out]; rfl) hb3
    | true =>
      go_enter Try.func59, Try.ntmps59
      go_wp2_with fail
      refine HA.out.mono ?_
      rintro e w1 ⟨rfl, hb1⟩
      go_wp2_with fail
      refine (HP.out _ hb1).mono ?_
      rintro e w2 ⟨rfl, hb2⟩
      have hb3 := hb1.trans (hb2.mono hb1.size)
      go_wp2
      go_ret
      exact RV_of (by rw [HV.out]; rfl) hb3
end Go.Proofs.Ytehdpgjbmnkkiaa

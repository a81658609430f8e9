/- BlocksAt: the program and the model answer alike. -/
import Derived.Test.YtomcjifklggcnaaInts2
import Derived.Test.YtomcjifklggcnaaSpecThird2
namespace Go.Proofs.Ytomcjifklggcnaa
open Go.RowKit Go.Maps
/-- The indices of the blocks through p, and the code. -/
def atF (v : Int) (bs : List Blk) (p : Int) : List Int × Int := if isSysImpl v bs then (if inP v p then (idxI p bs bs.length, 0) else ([], 2)) else ([], 1)
def RJ (r : List Int × Int) (w : World) (e : Ending) (w' : World) : Prop := ∃ u, e = .returned (.tuple #[u, .int .i64 r.2]) ∧ OwnJ w' w.heap.size u r.1 ∧ Below w.heap.size w w'
theorem OwnJ.nil (w : World) (base : Nat) : OwnJ w base (.slice none 0 0) [] := ⟨rfl, .inl ⟨rfl, rfl⟩⟩
theorem idxs_eq (p : Int) (bs : List Blk) : idxs (upTo p bs bs.length) = (idxI p bs bs.length).map (Value.int .i64) := by
  unfold idxs idxI
  rw [List.map_map]
  rfl
set_option maxRecDepth 100000 in
theorem BlocksAt_any (v : Int) (s : Value) (bs : List Blk) (p : Int) (w : World) (h : SB w s bs) :
    Calls Try.prog 35 #[.agg #[.int .i64 v, s], .int .i64 p] w (RJ (atF v bs p) w) := by
  cases hi : isSysImpl v bs with
  | false =>
    have hval : atF v bs p = ([], 1) := by simp [atF, hi]
    rw [hval]
    have hs := h.slice
    have HI := Lib.hid fun W (hb : Below w.heap.size w W) => IsSystem_any v s bs W (h.below hb (Nat.le_refl _))
    rw [hi] at HI
    clear h hval hi
    obtain ⟨a0, c0, rfl⟩ := hs
    go_enter Try.func35, Try.ntmps35
    go_wp2_with (go_at_call 20; refine (HI.out _ ((Below.refl _ _).alloc (Nat.le_refl _) _)).mono ?_; rintro e w1 ⟨rfl, hb1⟩)
    go_ret2
    exact ⟨_, rfl, OwnJ.nil _ _, below_new hb1⟩
  | true =>
    cases ha : inP v p with
    | true =>
      have hval : atF v bs p = (idxI p bs bs.length, 0) := by simp [atF, hi, ha]
      rw [hval]
      refine (BlocksAt_main v s bs p w h hi ha).mono ?_
      rintro e w' ⟨u, rfl, ho, hb⟩
      have h1 := ho.1
      rw [idxs_eq, List.length_map] at h1
      exact ⟨u, rfl, h1, hb⟩
    | false =>
      have hval : atF v bs p = ([], 2) := by simp [atF, hi, ha]
      rw [hval]
      have hs := h.slice
      have HI := Lib.hid fun W (hb : Below w.heap.size w W) => IsSystem_any v s bs W (h.below hb (Nat.le_refl _))
      rw [hi] at HI
      have HPA := Lib.hid fun W => isPointI_any v p W
      rw [ha] at HPA
      clear h hval hi ha
      obtain ⟨a0, c0, rfl⟩ := hs
      go_enter Try.func35, Try.ntmps35
      go_wp2_with (first | (go_at_call 20; refine (HI.out _ ((Below.refl _ _).alloc (Nat.le_refl _) _)).mono ?_; rintro e w1 ⟨rfl, hb1⟩; have q0 := cell_new hb1 0 rfl) | (go_at_call 78; refine (HPA.out _).mono ?_; rintro e w2 ⟨rfl, rfl⟩))
      go_ret2
      exact ⟨_, rfl, OwnJ.nil _ _, below_new hb1⟩
theorem ints1 {w : World} {b : Nat} {x : Int} (h0 : w.cell? ⟨b, 0, none⟩ = some (.int .i64 x)) : Ints w b 0 [x] := by
  intro k hk
  match k, hk with
  | 0, _ => simpa using h0
set_option maxRecDepth 100000 in
theorem specBlocksAt_any (v : Int) (s : Value) (bs : List Blk) (p : Int) (w : World) (h : SB w s bs) :
    Calls Try.prog 34 #[.agg #[.int .i64 v, s], .int .i64 p] w (RJ (atF v bs p) w) := by
  have hs := h.slice
  have HPT := Lib.hid fun W b0 c (hb : Below w.heap.size w W) (hI : Ints W b0 0 [p]) (hl : b0 < W.heap.size) => l01Points_any v s bs b0 0 c [p] W (h.below hb (Nat.le_refl _)) hI hl (by simp)
  have hcode : pointsCode v bs [p] = if isSysImpl v bs then (if inP v p then 0 else 2) else 1 := by simp [pointsCode]
  have HAT := Lib.hid fun W (hb : Below w.heap.size w W) => l01At_any v s bs p W (h.below hb (Nat.le_refl _))
  clear h
  obtain ⟨a0, c0, rfl⟩ := hs
  cases hi : isSysImpl v bs with
  | false =>
    have hval : atF v bs p = ([], 1) := by simp [atF, hi]
    rw [hval]
    rw [hi, if_neg (by decide)] at hcode
    rw [hcode] at HPT
    clear hcode hval hi
    go_enter Try.func34, Try.ntmps34
    go_wp2_with (go_at_call 76; refine (HPT.out _ _ _ (((Below.refl _ _).alloc (Nat.le_refl _) _).alloc (by simp) _) (ints1 (by simp)) (by simp)).mono ?_; rintro e w1 ⟨rfl, hb1⟩)
    go_ret2
    exact ⟨_, rfl, OwnJ.nil _ _, (((Below.refl _ _).alloc (Nat.le_refl _) _).alloc (by simp) _).trans (hb1.mono (by simp; omega))⟩
  | true =>
    cases ha : inP v p with
    | false =>
      have hval : atF v bs p = ([], 2) := by simp [atF, hi, ha]
      rw [hval]
      rw [hi, if_pos rfl, ha, if_neg (by decide)] at hcode
      rw [hcode] at HPT
      clear hcode hval hi ha
      go_enter Try.func34, Try.ntmps34
      go_wp2_with (go_at_call 76; refine (HPT.out _ _ _ (((Below.refl _ _).alloc (Nat.le_refl _) _).alloc (by simp) _) (ints1 (by simp)) (by simp)).mono ?_; rintro e w1 ⟨rfl, hb1⟩)
      go_ret2
      exact ⟨_, rfl, OwnJ.nil _ _, (((Below.refl _ _).alloc (Nat.le_refl _) _).alloc (by simp) _).trans (hb1.mono (by simp; omega))⟩
    | true =>
      have hval : atF v bs p = (idxI p bs bs.length, 0) := by simp [atF, hi, ha]
      rw [hval]
      rw [hi, if_pos rfl, ha, if_pos rfl] at hcode
      rw [hcode] at HPT
      clear hcode hval hi ha
      go_enter Try.func34, Try.ntmps34
      go_wp2_with fail
      refine (HPT.out _ _ _ (((Below.refl _ _).alloc (Nat.le_refl _) _).alloc (by simp) _) (ints1 (by simp)) (by simp)).mono ?_
      rintro e w1 ⟨rfl, hb1⟩
      have hbw : Below w.heap.size w w1 := (((Below.refl _ _).alloc (Nat.le_refl _) _).alloc (by simp) _).trans (hb1.mono (by simp; omega))
      have q0 := (hb1.cell (p := ⟨w.heap.size, 0, none⟩) (by simp; omega)).trans (cell_past (new_at 0 rfl) (by simp))
      have q1 := (hb1.cell (p := ⟨w.heap.size, 1, none⟩) (by simp; omega)).trans (cell_past (new_at 1 rfl) (by simp))
      clear hb1
      go_wp2_with fail
      refine (HAT.out _ hbw).mono ?_
      rintro e w2 ⟨u, rfl, ho, hb2⟩
      go_wp2
      go_ret2
      exact ⟨_, rfl, ownsRow_base ho hbw.size, hbw.trans (hb2.mono hbw.size)⟩
end Go.Proofs.Ytomcjifklggcnaa

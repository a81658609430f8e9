/- FreeBlocks: the program and the model answer alike. -/
import Derived.Test.YtomcjifklggcnaaFree2
import Derived.Test.YtomcjifklggcnaaFree4
import Derived.Test.YtomcjifklggcnaaSpecIs
namespace Go.Proofs.Ytomcjifklggcnaa
open Go.RowKit Go.Maps
theorem rowA_good {v : Nat} {x : Blk} (h : x ∈ rowA v v) : goodB (v : Int) x = true := by
  unfold rowA at h
  obtain ⟨t, ht, h⟩ := List.mem_flatMap.1 h
  unfold rowB at h
  obtain ⟨t', ht', h⟩ := List.mem_flatMap.1 h
  unfold rowC at h
  obtain ⟨t'', ht'', rfl⟩ := List.mem_map.1 h
  rw [List.mem_range] at ht ht' ht''
  rw [goodB_iff]
  dsimp only
  omega
theorem free_rest {v : Nat} {bs : List Blk} (hb : ∀ y ∈ bs, goodB (v : Int) y = true) : (rowA v v).filter (freeB (bs.flatMap pairsL)) = restA bs v v :=
  List.filter_congr fun _ hx => okB_free hb (rowA_good hx)
def freeF (v : Int) (bs : List Blk) : List Blk × Int := if isSysImpl v bs then (restA bs v.toNat v.toNat, 0) else ([], 1)
def RK (r : List Blk × Int) (w : World) (e : Ending) (w' : World) : Prop := ∃ u, e = .returned (.tuple #[u, .int .i64 r.2]) ∧ OwnR w' w.heap.size u r.1 ∧ Below w.heap.size w w'
set_option maxRecDepth 100000 in
theorem FreeBlocks_any (v : Int) (s : Value) (bs : List Blk) (w : World) (h : SB w s bs) :
    Calls Try.prog 60 #[.agg #[.int .i64 v, s]] w (RK (freeF v bs) w) := by
  cases hi : isSysImpl v bs with
  | false =>
    have hval : freeF v bs = ([], 1) := by simp [freeF, hi]
    rw [hval]
    have hs := h.slice
    have HI := Lib.hid fun W (hb : Below w.heap.size w W) => IsSystem_any v s bs W (h.below hb (Nat.le_refl _))
    rw [hi] at HI
    clear h hval hi
    obtain ⟨a0, c0, rfl⟩ := hs
    go_enter Try.func60, Try.ntmps60
    go_wp2_with (go_at_call 20; refine (HI.out _ ((Below.refl _ _).alloc (Nat.le_refl _) _)).mono ?_; rintro e w1 ⟨rfl, hb1⟩)
    go_ret2
    exact ⟨_, rfl, OwnR.nil _ _, below_new hb1⟩
  | true =>
    have hval : freeF v bs = (restA bs v.toNat v.toNat, 0) := by simp [freeF, hi]
    rw [hval]
    have hv := sys_size hi
    have hg : ∀ y ∈ bs, goodB ((v.toNat : Nat) : Int) y = true := fun y hy => by
      rw [show ((v.toNat : Nat) : Int) = v by omega]
      exact sys_good hi y hy
    refine (FreeBlocks_main v s bs w h hi).mono ?_
    rintro e w' ⟨u, rfl, ho, hb⟩
    rw [free_rest hg] at ho
    exact ⟨u, rfl, ho, hb⟩
set_option maxRecDepth 100000 in
theorem specFreeBlocks_any (v : Int) (s : Value) (bs : List Blk) (w : World) (h : SB w s bs) :
    Calls Try.prog 59 #[.agg #[.int .i64 v, s]] w (RK (freeF v bs) w) := by
  have hs := h.slice
  have hc := l01Is_any v s bs (w.alloc (.cells #[.int .i64 v, s] 29)) (h.below ((Below.refl _ _).alloc (Nat.le_refl _) _) (Nat.le_refl _))
  cases hi : isSysImpl v bs with
  | false =>
    have hval : freeF v bs = ([], 1) := by simp [freeF, hi]
    rw [hval]
    rw [hi] at hc
    clear h
    obtain ⟨a0, c0, rfl⟩ := hs
    have HC := Lib.hid hc
    clear hc hval hi
    go_enter Try.func59, Try.ntmps59
    go_wp2_with (go_at_call 63; refine HC.out.mono ?_; rintro e w1 ⟨rfl, hb1⟩)
    go_ret2
    exact ⟨_, rfl, OwnR.nil _ _, below_new hb1⟩
  | true =>
    have hval : freeF v bs = (restA bs v.toNat v.toNat, 0) := by simp [freeF, hi]
    rw [hval]
    rw [hi] at hc
    have hv := sys_size hi
    obtain ⟨vn, hvn⟩ : ∃ vn : Nat, v = (vn : Int) := ⟨v.toNat, by omega⟩
    subst hvn
    rw [show ((vn : Int)).toNat = vn by omega]
    have HR := Lib.hid fun W (hb : Below w.heap.size w W) => l01Rest_any vn (by omega) s bs W (h.below hb (Nat.le_refl _))
    clear h
    obtain ⟨a0, c0, rfl⟩ := hs
    have HC := Lib.hid hc
    clear hc hval hi hv
    go_enter Try.func59, Try.ntmps59
    go_wp2_with fail
    refine HC.out.mono ?_
    rintro e w1 ⟨rfl, hb1⟩
    have q0 := cell_new hb1 0 rfl
    have q1 := cell_new hb1 1 rfl
    have hbw := below_new hb1
    clear hb1
    go_wp2_with fail
    refine (HR.out _ hbw).mono ?_
    rintro e w2 ⟨u, rfl, ho, hb2⟩
    go_wp2
    go_ret2
    exact ⟨_, rfl, ownsRow_base ho hbw.size, hbw.trans (hb2.mono hbw.size)⟩
end Go.Proofs.Ytomcjifklggcnaa
